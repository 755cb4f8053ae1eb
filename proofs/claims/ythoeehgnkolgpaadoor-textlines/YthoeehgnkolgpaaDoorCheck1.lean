/- What Check answers of any name. -/
import Derived.Test.YthoeehgnkolgpaaDoorWords5
namespace Go.Proofs.YthoeehgnkolgpaaDoor
open Go.RowKit

theorem decodeN_cont (n b0 b1 b2 b3 : Nat) : (Lib.decodeN n b0 b1 b2 b3).2 ≤ 4 ∧ (1 < (Lib.decodeN n b0 b1 b2 b3).2 → 128 ≤ b1) ∧ (2 < (Lib.decodeN n b0 b1 b2 b3).2 → 128 ≤ b2) ∧ (3 < (Lib.decodeN n b0 b1 b2 b3).2 → 128 ≤ b3) := by
  unfold Lib.decodeN
  repeat' split
  all_goals (simp only; omega)
theorem get_list (s : ByteArray) (i : Nat) (h : i < s.size) : s.get! i = s.data.toList[i]'(by rw [list_size]; exact h) := by
  simp [ByteArray.get!, getElem!_pos, h]
/-- What begins with a byte from 128 on has no byte below. -/
theorem hi_bytes (s : ByteArray) (pos : Nat) (h : pos < s.size) (hb : 128 ≤ (s[pos]'h).toNat) : ∀ b ∈ (s.data.toList.drop pos).take (Utf8.decode s pos).2, 128 ≤ b.toNat := by
  have hw := decode_within s pos h
  have hc := decodeN_cont (s.size - pos) (s.get! pos).toNat (s.get! (pos + 1)).toNat (s.get! (pos + 2)).toNat (s.get! (pos + 3)).toNat
  rw [← Lib.decode_at] at hc
  intro b hm
  obtain ⟨j, hj, rfl⟩ := List.mem_iff_getElem.1 hm
  have hj1 : j < (Utf8.decode s pos).2 := by rw [List.length_take] at hj; omega
  have hj2 : pos + j < s.size := by omega
  have e : ((s.data.toList.drop pos).take (Utf8.decode s pos).2)[j] = s.get! (pos + j) := by
    rw [get_list s (pos + j) hj2]; simp
  rw [e]
  have h4 : j = 0 ∨ j = 1 ∨ j = 2 ∨ j = 3 := by omega
  rcases h4 with rfl | rfl | rfl | rfl
  · rw [Nat.add_zero, get_list s pos h]; exact hb
  · exact hc.2.1 hj1
  · exact hc.2.2.1 hj1
  · exact hc.2.2.2 hj1
theorem all_skip {p : UInt8 → Bool} (l : List UInt8) (k : Nat) (h : ∀ b ∈ l.take k, p b = true) : l.all p = (l.drop k).all p := by
  rw [← List.take_append_drop k l, List.all_append, List.all_eq_true.2 h, Bool.true_and, List.take_append_drop]

def nameB (b : UInt8) : Bool := mayNameR b.toNat
theorem nameB_hi {b : UInt8} (h : 128 ≤ b.toNat) : nameB b = true := by simp [nameB, mayNameR]; omega
/-- What Check answers. -/
def checkM (l : List UInt8) : Nat := if 1 ≤ l.length ∧ l.length ≤ 64 ∧ Lib.validD l = true ∧ l.all nameB = true then 0 else 20

set_option maxHeartbeats 3200000 in
set_option maxRecDepth 100000 in
theorem check_any (s : ByteArray) (w : World) (hmax : s.size ≤ 9223372036854775807) (hT : Lib.Utf8Tabs 2 3 w) :
    Calls Tryd.prog 16 #[.string s] w fun e w' => e = .returned (.int .i64 (checkM s.data.toList : Nat)) ∧ Below w.heap.size w w' := by
  have hv := Tryd.utf8_ValidString s w hmax hT
  unfold checkM
  rw [list_size]
  by_cases h0 : s.data.toList = []
  · have e0 : (s.toList == []) = true := by rw [Lib.toList_data]; exact beq_iff_eq.2 h0
    have : s.size = 0 := by rw [← list_size, h0]; rfl
    rw [if_neg (by omega)]
    clear h0 this
    go_enter Tryd.func16, Tryd.ntmps16
    go_wp2
    go_ret
    exact ⟨rfl, Below.refl _ _⟩
  have e0 : (s.toList == []) = false := by rw [Lib.toList_data]; exact beq_eq_false_iff_ne.2 h0
  have hp0 : 1 ≤ s.size := by
    have : 0 < s.data.toList.length := List.length_pos_iff.2 h0
    rw [list_size] at this; omega
  clear h0
  by_cases hl : s.size ≤ 64
  · have hlz : ¬ (64 : Int) < (s.size : Int) := by omega
    cases hV : Lib.validD s.data.toList with
    | false =>
      rw [hV] at hv
      rw [if_neg (fun h => by cases h.2.2.1)]
      clear hV
      go_enter Tryd.func16, Tryd.ntmps16
      go_wp2_with (first
        | (go_at_call 39; refine hv.mono ?_; rintro e w1 ⟨rfl, hb⟩))
      go_ret
      exact ⟨rfl, hb⟩
    | true =>
      rw [hV] at hv
      clear hV
      obtain ⟨ANS, hANS⟩ : ∃ A, A = (if 1 ≤ s.size ∧ s.size ≤ 64 ∧ true = true ∧ s.data.toList.all nameB = true then 0 else 20) := ⟨_, rfl⟩
      rw [← hANS]
      have HANS : Hid (ANS = if s.data.toList.all nameB = true then 0 else 20) := hide (by rw [hANS]; simp [hp0, hl])
      clear hANS
      go_enter Tryd.func16, Tryd.ntmps16
      go_wp2_with (first
        | (go_at_call 39; refine hv.mono ?_; rintro e w1 ⟨rfl, hb1⟩))
      clear hv hT
      go_loopw [] (fun wr => ∃ (pos : Nat), wr.heap[w1.heap.size]? = some (.stringIter s pos) ∧ Below w1.heap.size w1 wr ∧ Hid (ANS = if (s.data.toList.drop pos).all nameB = true then 0 else 20)) (fun wr => s.size - wr.iterPos w1.heap.size)
      case atStart => exact ⟨0, World.iter_heap w1 s 0, (Below.refl _ w1).alloc (Nat.le_refl _) _, HANS⟩
      case round =>
        obtain ⟨pos, hit, hbw, hr⟩ := hrel
        by_cases hp : pos < s.size
        · have hnx : ∀ ty, (Instr.next (.pointer (some ⟨w1.heap.size, 0, none⟩)) true ty).run Tryd.prog wr = _ := fun ty => Lib.run_next_any_at wr w1.heap.size s pos ty hit hp
          have hbw2 := Lib.below_iterAt hbw (k := w1.heap.size) (Nat.le_refl _) s (pos + (Utf8.decode s pos).2)
          have hit2 := Lib.iterAt_heap wr w1.heap.size s pos (pos + (Utf8.decode s pos).2) hit
          have hwd : 1 ≤ (Utf8.decode s pos).2 := Lib.width_pos s pos
          have hmn := mayName_any (Utf8.decode s pos).1
          have key : Hid ((s.data.toList.drop pos).all nameB = (mayNameR (Utf8.decode s pos).1 && (s.data.toList.drop (pos + (Utf8.decode s pos).2)).all nameB)) := hide (by
            by_cases ha : (s[pos]'hp).toNat < 128
            · rw [decode_ascii s pos hp ha, drop_at s pos hp]; rfl
            · have hh := decode_high s pos hp (by omega)
              rw [all_skip _ (Utf8.decode s pos).2 (fun b hb => nameB_hi (hi_bytes s pos hp (by omega) b hb)), List.drop_drop]
              rw [show mayNameR (Utf8.decode s pos).1 = true by simp [mayNameR]; omega, Bool.true_and])
          generalize (Utf8.decode s pos).1 = R at *
          generalize (Utf8.decode s pos).2 = M at *
          cases hd : mayNameR R with
          | false =>
            rw [hd] at hmn key
            clear hd
            go_wp2_with (first
              | (go_at_call 40; refine (hmn _).mono ?_; rintro e w2 ⟨rfl, rfl⟩))
            go_ret
            exact ⟨by rw [hr.out, key.out]; rfl, hb1.trans (hbw2.mono hb1.size)⟩
          | true =>
            rw [hd] at hmn key
            clear hd
            go_wp2_with (first
              | (go_at_call 40; refine (hmn _).mono ?_; rintro e w2 ⟨rfl, rfl⟩))
            go_roundw
            case rel => exact ⟨pos + M, hit2, hbw2, hide (by rw [hr.out, key.out, Bool.true_and])⟩
            case measure => simp only [World.iterPos, hit2, hit]; omega
        · have hnx : ∀ ty, (Instr.next (.pointer (some ⟨w1.heap.size, 0, none⟩)) true ty).run Tryd.prog wr = _ := fun ty => Lib.run_next_end_at wr w1.heap.size s pos ty hit hp
          go_wp2
          go_ret
          exact ⟨by rw [hr.out, drop_end s pos hp]; rfl, hb1.trans (hbw.mono hb1.size)⟩
  · have hlz : (64 : Int) < (s.size : Int) := by omega
    rw [if_neg (fun h => hl h.2.1)]
    clear hv
    go_enter Tryd.func16, Tryd.ntmps16
    go_wp2
    go_ret
    exact ⟨rfl, Below.refl _ _⟩
end Go.Proofs.YthoeehgnkolgpaaDoor
