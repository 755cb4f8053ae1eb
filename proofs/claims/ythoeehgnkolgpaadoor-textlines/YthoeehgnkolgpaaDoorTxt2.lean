/- Digits: what allDigits, isPart and number answer of any text. -/
import Derived.Test.YthoeehgnkolgpaaDoorTxt1
import Derived.Lib.OthersKept
namespace Go.Proofs.YthoeehgnkolgpaaDoor
open Go.RowKit

theorem list_size (s : ByteArray) : s.data.toList.length = s.size := Array.length_toList
theorem drop_at (s : ByteArray) (pos : Nat) (h : pos < s.size) : s.data.toList.drop pos = s[pos]'h :: s.data.toList.drop (pos + 1) := by
  rw [List.drop_eq_getElem_cons (by rw [list_size]; exact h)]; rfl
theorem drop_end (s : ByteArray) (pos : Nat) (h : ¬ pos < s.size) : s.data.toList.drop pos = [] := List.drop_eq_nil_of_le (by rw [list_size]; omega)

theorem wr_u64 {n : Int} (h0 : 0 ≤ n) (h1 : n < 18446744073709551616) : IntKind.u64.wrap n = n := by simp [IntKind.wrap, IntKind.bits, IntKind.signed]; omega
theorem wr_i32 {n : Int} (h0 : -2147483648 ≤ n) (h1 : n < 2147483648) : IntKind.i32.wrap n = n := by rw [IntKind.wrap_i32]; omega
theorem wr_i64 {n : Int} (h0 : -9223372036854775808 ≤ n) (h1 : n < 9223372036854775808) : IntKind.i64.wrap n = n := by rw [IntKind.wrap_i64]; omega
theorem wr_u8 {n : Int} (h0 : 0 ≤ n) (h1 : n < 256) : IntKind.u8.wrap n = n := by rw [IntKind.wrap_u8']; omega

def allD (l : List UInt8) : Bool := l.all fun b => digitR b.toNat
theorem allD_cons (b : UInt8) (t : List UInt8) : allD (b :: t) = (digitR b.toNat && allD t) := rfl
theorem digit_hi {r : Nat} (h : 128 ≤ r) : digitR r = false := by simp [digitR]; omega

set_option maxHeartbeats 1600000 in
set_option maxRecDepth 100000 in
theorem allDigits_any (s : ByteArray) (w : World) :
    Calls Tryd.prog 52 #[.string s] w fun e w' => e = .returned (.bool (allD s.data.toList)) ∧ Below w.heap.size w w' := by
  go_enter Tryd.func52, Tryd.ntmps52
  go_wp2
  go_loopw [] (fun wr => ∃ pos : Nat, wr.heap[w.heap.size]? = some (.stringIter s pos) ∧ Below w.heap.size w wr ∧ Hid (allD s.data.toList = allD (s.data.toList.drop pos))) (fun wr => s.size - wr.iterPos w.heap.size)
  case atStart =>
    exact ⟨0, World.iter_heap w s 0, (Below.refl _ w).alloc (Nat.le_refl _) _, hide rfl⟩
  case round =>
    obtain ⟨pos, hit, hbw, hr⟩ := hrel
    by_cases hp : pos < s.size
    · have hnx : ∀ ty, (Instr.next (.pointer (some ⟨w.heap.size, 0, none⟩)) true ty).run Tryd.prog wr = _ := fun ty => Lib.run_next_any_at wr w.heap.size s pos ty hit hp
      have hbw2 := Lib.below_iterAt hbw (k := w.heap.size) (Nat.le_refl _) s (pos + (Utf8.decode s pos).2)
      have hit2 := Lib.iterAt_heap wr w.heap.size s pos (pos + (Utf8.decode s pos).2) hit
      have hdr := hide (drop_at s pos hp)
      have hdc := hide (decode_ascii s pos hp)
      have hdh := hide (decode_high s pos hp)
      have hwd : 1 ≤ (Utf8.decode s pos).2 := by
        by_cases ha : (s[pos]'hp).toNat < 128
        · rw [decode_ascii s pos hp ha]; exact Nat.le_refl _
        · exact (decode_high s pos hp (by omega)).2
      have key : Hid (digitR (Utf8.decode s pos).1 = digitR (s[pos]'hp).toNat ∧ (digitR (Utf8.decode s pos).1 = true → (Utf8.decode s pos).2 = 1)) := by
        show _ ∧ _
        by_cases ha : (s[pos]'hp).toNat < 128
        · rw [decode_ascii s pos hp ha]; exact ⟨rfl, fun _ => rfl⟩
        · rw [digit_hi (decode_high s pos hp (by omega)).1, digit_hi (by omega)]; exact ⟨rfl, fun h => by cases h⟩
      have hdig := isDigit_any (Utf8.decode s pos).1
      have hfin : Hid (allD (s.data.toList.drop pos) = (digitR (Utf8.decode s pos).1 && allD (s.data.toList.drop (pos + (Utf8.decode s pos).2)))) := by
        show _ = _
        rw [drop_at s pos hp, allD_cons, ← key.out.1]
        cases hR : digitR (Utf8.decode s pos).1
        · rfl
        · rw [key.out.2 hR]
      clear key hdr hdc hdh
      generalize (Utf8.decode s pos).1 = R at *
      generalize (Utf8.decode s pos).2 = M at *
      cases hd : digitR R
      · rw [hd] at hdig hfin
        go_wp2_with (go_at_call 56; refine (hdig _).mono ?_; rintro e w' ⟨rfl, rfl⟩)
        go_ret
        exact ⟨ret_bool (by rw [hr.out, hfin.out]; rfl), hbw2⟩
      · rw [hd] at hdig hfin
        go_wp2_with (go_at_call 56; refine (hdig _).mono ?_; rintro e w' ⟨rfl, rfl⟩)
        go_roundw
        case rel => exact ⟨pos + M, hit2, hbw2, hide (by rw [hr.out, hfin.out]; rfl)⟩
        case measure => simp only [World.iterPos, hit2, hit]; omega
    · have hnx : ∀ ty, (Instr.next (.pointer (some ⟨w.heap.size, 0, none⟩)) true ty).run Tryd.prog wr = _ := fun ty => Lib.run_next_end_at wr w.heap.size s pos ty hit hp
      go_wp2
      go_ret
      exact ⟨ret_bool (by rw [hr.out, drop_end s pos hp]; rfl), hbw⟩

/-- The number that digits say, marks passed by. -/
def valFrom (n : Nat) : List UInt8 → Nat
  | [] => n
  | b :: t => if b.toNat = 39 then valFrom n t else valFrom (n * 10 + (b.toNat - 48)) t
theorem valFrom_ge : ∀ (l : List UInt8) (n : Nat), n ≤ valFrom n l
  | [], n => Nat.le_refl _
  | b :: t, n => by
    unfold valFrom; split
    · exact valFrom_ge t n
    · exact Nat.le_trans (by omega) (valFrom_ge t _)
/-- Digits and marks alone. -/
def figures (l : List UInt8) : Prop := ∀ b ∈ l, b.toNat = 39 ∨ (48 ≤ b.toNat ∧ b.toNat ≤ 57)
def numberV (l : List UInt8) : Value := if valFrom 0 l ≤ 9007199254740992 then .tuple #[.int .u64 (valFrom 0 l : Nat), .bool true] else .tuple #[.int .u64 0, .bool false]

set_option maxHeartbeats 1600000 in
set_option maxRecDepth 100000 in
theorem number_any (s : ByteArray) (w : World) (hf : figures s.data.toList) :
    Calls Tryd.prog 35 #[.string s] w fun e w' => e = .returned (numberV s.data.toList) ∧ Below w.heap.size w w' := by
  have Hf := hide hf
  clear hf
  obtain ⟨V, hV⟩ : ∃ V, V = valFrom 0 s.data.toList := ⟨_, rfl⟩
  have HV := hide hV
  clear hV
  go_enter Tryd.func35, Tryd.ntmps35
  go_wp2
  go_loopw [4] (fun s4 wr => ∃ pos n : Nat, s4 = .int .u64 n ∧ n ≤ 9007199254740992 ∧ wr.heap[w.heap.size]? = some (.stringIter s pos) ∧ Below w.heap.size w wr ∧ Hid (V = valFrom n (s.data.toList.drop pos))) (fun _ wr => s.size - wr.iterPos w.heap.size)
  case atStart =>
    exact ⟨0, 0, rfl, by omega, World.iter_heap w s 0, (Below.refl _ w).alloc (Nat.le_refl _) _, hide (by rw [HV.out]; rfl)⟩
  case round =>
    obtain ⟨pos, n, rfl, hn, hit, hbw, hr⟩ := hrel
    by_cases hp : pos < s.size
    · have hnx : ∀ ty, (Instr.next (.pointer (some ⟨w.heap.size, 0, none⟩)) true ty).run Tryd.prog wr = _ := fun ty => Lib.run_next_any_at wr w.heap.size s pos ty hit hp
      have hb := Hf.out (s[pos]'hp) (by rw [← List.take_append_drop pos s.data.toList, drop_at s pos hp]; simp)
      have hdr : Hid (s.data.toList.drop pos = s[pos]'hp :: s.data.toList.drop (pos + 1)) := drop_at s pos hp
      rw [decode_ascii s pos hp (by omega)] at hnx
      have hbw2 := Lib.below_iterAt hbw (k := w.heap.size) (Nat.le_refl _) s (pos + 1)
      have hit2 := Lib.iterAt_heap wr w.heap.size s pos (pos + 1) hit
      have hst : Hid (V = if (s[pos]'hp).toNat = 39 then valFrom n (s.data.toList.drop (pos + 1)) else valFrom (n * 10 + ((s[pos]'hp).toNat - 48)) (s.data.toList.drop (pos + 1))) := by
        show _ = _
        rw [hr.out, hdr.out]; rfl
      clear hdr
      generalize (s[pos]'hp).toNat = B at *
      simp only at hnx
      by_cases h39 : B = 39
      · have e1 : ((B : Int) == 39) = true := beq_iff_eq.2 (by omega)
        have hst2 : Hid (V = valFrom n (s.data.toList.drop (pos + 1))) := hide (by rw [hst.out, if_pos h39])
        clear h39 hb hst
        go_wp2
        go_roundw
        case rel => exact ⟨pos + 1, n, rfl, hn, hit2, hbw2, hst2⟩
        case measure => simp only [World.iterPos, hit2, hit]; omega
      · have e1 : ((B : Int) == 39) = false := beq_eq_false_iff_ne.2 (by omega)
        have hb1 : 48 ≤ B ∧ B ≤ 57 := by omega
        obtain ⟨D, hD⟩ : ∃ D, B = 48 + D := ⟨B - 48, by omega⟩
        have hst2 : Hid (V = valFrom (n * 10 + D) (s.data.toList.drop (pos + 1))) := hide (by rw [hst.out, if_neg h39, show B - 48 = D by omega])
        clear hst h39 hb
        have hD9 : D ≤ 9 := by omega
        subst hD
        have w1 : IntKind.i32.wrap ((48 : Int) + (D : Int) - 48) = (D : Int) := by rw [show (48 : Int) + (D : Int) - 48 = D by omega]; exact wr_i32 (by omega) (by omega)
        have w2 : IntKind.u64.wrap ((n : Int) * 10) = (n : Int) * 10 := wr_u64 (by omega) (by omega)
        have w3 : IntKind.u64.wrap ((D : Int)) = (D : Int) := wr_u64 (by omega) (by omega)
        have w4 : IntKind.u64.wrap ((n : Int) * 10 + (D : Int)) = (n : Int) * 10 + (D : Int) := wr_u64 (by omega) (by omega)
        by_cases hov : 9007199254740992 < n * 10 + D
        · have hz : (9007199254740992 : Int) < (n : Int) * 10 + (D : Int) := by omega
          go_wp2
          go_ret2
          have := valFrom_ge (s.data.toList.drop (pos + 1)) (n * 10 + D)
          exact ⟨by rw [numberV, ← HV.out, if_neg (by rw [hst2.out]; omega)]; rfl, hbw2⟩
        · have hz : ¬ (9007199254740992 : Int) < (n : Int) * 10 + (D : Int) := by omega
          go_wp2
          go_roundw
          case rel => exact ⟨pos + 1, n * 10 + D, by congr 1, by omega, hit2, hbw2, hst2⟩
          case measure => simp only [World.iterPos, hit2, hit]; omega
    · have hnx : ∀ ty, (Instr.next (.pointer (some ⟨w.heap.size, 0, none⟩)) true ty).run Tryd.prog wr = _ := fun ty => Lib.run_next_end_at wr w.heap.size s pos ty hit hp
      have e : V = n := by rw [hr.out, drop_end s pos hp]; rfl
      have He := hide e
      clear e
      go_wp2
      go_ret2
      exact ⟨by rw [numberV, ← HV.out, if_pos (by rw [He.out]; exact hn), He.out]; rfl, hbw⟩
end Go.Proofs.YthoeehgnkolgpaaDoor
