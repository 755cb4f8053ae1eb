/- What Money answers of any number. -/
import Derived.Test.YthoeehgnkolgpaaDoorMoney1
import Derived.Test.YthoeehgnkolgpaaDoorTxt3
namespace Go.Proofs.YthoeehgnkolgpaaDoor
open Go.RowKit

/-- Digits with a mark ahead of each three from the end on. -/
def marked (first : Bool) : List UInt8 → List UInt8
  | [] => []
  | b :: t => (if first = false ∧ (t.length + 1) % 3 = 0 then [39, b] else [b]) ++ marked false t
def moneyM (n : Nat) : List UInt8 := marked true (Lib.decDigits (n / 100)) ++ [46, UInt8.ofNat (48 + n % 100 / 10), UInt8.ofNat (48 + n % 10)]

theorem decDigits_digit (u : Nat) : ∀ b ∈ Lib.decDigits u, 48 ≤ b.toNat ∧ b.toNat ≤ 57 := by
  induction u using Nat.strongRecOn with
  | _ u ih =>
    rw [Lib.decDigits]
    split
    · intro b hb; simp at hb; subst hb; simp; omega
    · intro b hb
      rcases List.mem_append.1 hb with h | h
      · exact ih (u / 10) (by omega) b h
      · simp at h; subst h; simp; omega
theorem runeCells_ascii {r : Int} (h0 : 0 ≤ r) (h1 : r ≤ 127) : Lib.runeCells r = Lib.byteCells [UInt8.ofNat r.toNat] := by
  rw [← Lib.byteCells_encodeRune]
  congr 1
  simp [Lib.encodeRune, Lib.encodeRuneZ_one h0 h1]
theorem marked_le : ∀ (l : List UInt8) (f : Bool), (marked f l).length ≤ 2 * l.length
  | [], _ => by simp [marked]
  | b :: t, f => by
    have := marked_le t false
    unfold marked; split <;> simp <;> omega

set_option maxHeartbeats 6400000 in
set_option maxRecDepth 100000 in
theorem money_any (n : Nat) (hn : n < 18446744073709551616) (w : World) (htab : Lib.TabIs Tryd.prog w "internal/strconv.uint64pow10" .u64 Lib.pow10Tab) :
    Calls Tryd.prog 10 #[.int .u64 n] w fun e w' => e = .returned (.string ⟨(moneyM n).toArray⟩) ∧ Below w.heap.size w w' := by
  have hfu := formatUint_any (n / 100) (by omega) w htab
  have hdig := decDigits_digit (n / 100)
  have hlen : (Lib.decDigits (n / 100)).length ≤ 20 := by rw [Lib.decDigits_length]; exact Lib.nDigits_le20 _ (by omega)
  unfold moneyM
  obtain ⟨d1, hd1⟩ : ∃ d, d = n % 100 / 10 := ⟨_, rfl⟩
  obtain ⟨d2, hd2⟩ : ∃ d, d = n % 10 := ⟨_, rfl⟩
  have hd19 : d1 ≤ 9 := by omega
  have hd29 : d2 ≤ 9 := by omega
  have q1 : ((n : Int) % 100 / 10) = (d1 : Int) := by omega
  have q2 : ((n : Int) % 10) = (d2 : Int) := by omega
  rw [← hd1, ← hd2]
  clear hd1 hd2
  generalize Lib.decDigits (n / 100) = D at *
  have Hdig := hide hdig
  clear hdig htab
  obtain ⟨s, hs⟩ : ∃ s : ByteArray, s = ⟨D.toArray⟩ := ⟨_, rfl⟩
  have hsz : s.size = D.length := by rw [hs]; exact back_size D
  have hsd : s.data.toList = D := by rw [hs]
  rw [← hs] at hfu
  have Hsd := hide hsd
  clear hs hsd
  rw [show ((n / 100 : Nat) : Int) = (n : Int) / 100 by omega] at hfu
  go_enter Tryd.func10, Tryd.ntmps10
  go_wp2_with (go_at_call 29; refine hfu.mono ?_; rintro e w1 ⟨rfl, hb1⟩)
  have hsz20 : s.size ≤ 20 := by omega
  have Hsz := hide hsz
  clear hsz hlen
  go_loopw [] (fun wr => ∃ (pos : Nat) (acc : List UInt8), Lib.IsBuilderF 62 5 w1.heap.size w1.heap.size (Lib.byteCells acc) wr ∧ wr.heap[w1.heap.size + 1]? = some (.stringIter s pos) ∧ Below w1.heap.size w1 wr ∧ Hid (acc ++ marked (decide (pos = 0)) (D.drop pos) = marked true D) ∧ acc.length ≤ 2 * pos ∧ pos ≤ s.size) (fun wr => s.size - wr.iterPos (w1.heap.size + 1))
  case atStart =>
    refine ⟨0, [], (Lib.IsBuilderF.of (Lib.fresh_isBuilder 62 5 w1)).alloc _, ?_, ((Below.refl _ w1).alloc (Nat.le_refl _) _).alloc (by simp) _, hide rfl, by simp, by omega⟩
    have := World.iter_heap (w1.alloc (.cells #[.pointer none, .slice none 0 0] 62)) s 0
    simpa using this
  case round =>
    obtain ⟨pos, acc, hI, hit, hbw, hacc, hal, hps⟩ := hrel
    have hwz : w1.heap.size + 1 < wr.heap.size := (Array.getElem?_eq_some_iff.1 hit).1
    by_cases hp : pos < s.size
    · have hnx : ∀ ty, (Instr.next (.pointer (some ⟨w1.heap.size + 1, 0, none⟩)) true ty).run Tryd.prog wr = _ := fun ty => Lib.run_next_any_at wr (w1.heap.size + 1) s pos ty hit hp
      have hbd := Hdig.out (s[pos]'hp) (by rw [← Hsd.out]; exact List.getElem_mem (h := by rw [list_size]; exact hp))
      rw [decode_ascii s pos hp (by omega)] at hnx
      have hdr : Hid (D.drop pos = s[pos]'hp :: D.drop (pos + 1)) := hide (by rw [← Hsd.out]; exact drop_at s pos hp)
      have hI2 := hI.iterAt hit (pos + 1)
      have hit2 := Lib.iterAt_heap wr (w1.heap.size + 1) s pos (pos + 1) hit
      have hbw2 := Lib.below_iterAt hbw (k := w1.heap.size + 1) (by omega) s (pos + 1)
      have hsz2 : w1.heap.size ≤ (wr.iterAt (w1.heap.size + 1) s (pos + 1)).heap.size := by rw [Lib.iterAt_size]; omega
      have hbB : Hid (UInt8.ofNat (s[pos]'hp).toNat = s[pos]'hp) := hide (by simp)
      generalize s[pos]'hp = B at *
      simp only at hnx
      have hRB : Lib.runeCells (B.toNat : Int) = Lib.byteCells [B] := by rw [runeCells_ascii (by omega) (by omega)]; simp
      have hR39 : Lib.runeCells 39 = Lib.byteCells [39] := runeCells_ascii (by decide) (by decide)
      have HRB := hide hRB
      have HR39 := hide hR39
      clear hRB hR39
      have hBn : (0 : Int) ≤ (B.toNat : Int) ∧ (B.toNat : Int) ≤ 127 := by omega
      have hdl : Hid ((D.drop (pos + 1)).length + 1 = s.size - pos) := hide (by rw [← Hsd.out, List.length_drop, list_size]; omega)
      generalize wr.iterAt (w1.heap.size + 1) s (pos + 1) = wi at *
      have wrune := fun (bs : List Value) (r : Int) (h0 : -2147483648 ≤ r) (h1 : r ≤ 2147483647) (W : World) (h : Lib.IsBuilderF 62 5 w1.heap.size w1.heap.size bs W) (hl : bs.length + 4 ≤ 140737488355328) (hB : w1.heap.size ≤ W.heap.size) => Tryd.Builder_WriteRune_k w1.heap.size w1.heap.size bs r h0 h1 W h hl hB
      have Wr := hide wrune
      clear wrune
      have hcl : (Lib.byteCells acc).length = acc.length := Lib.byteCells_length _
      by_cases h0 : 0 < pos
      · have h0z : (0 : Int) < (pos : Int) := by omega
        by_cases h3 : (s.size - pos) % 3 = 0
        · have e3 : (((s.size : Int) - (pos : Int)) % 3 == 0) = true := beq_iff_eq.2 (by omega)
          go_wp2_with fail
          refine (Wr.out (Lib.byteCells acc) 39 (by decide) (by decide) _ hI2 (by rw [hcl]; omega) hsz2).mono ?_
          rintro e W1 ⟨rfl, g1, b1, k1⟩
          rw [HR39.out, ← Lib.byteCells_append] at g1
          go_wp2_with fail
          refine (Wr.out (Lib.byteCells (acc ++ [39])) (B.toNat : Int) (by omega) (by omega) _ (Or.inr g1) (by rw [Lib.byteCells_length]; simp; omega) (Nat.le_trans hsz2 b1.size)).mono ?_
          rintro e W2 ⟨rfl, g2, b2, k2⟩
          rw [HRB.out, ← Lib.byteCells_append] at g2
          go_wp2
          go_roundw
          case rel =>
            refine ⟨pos + 1, acc ++ [39] ++ [B], Or.inr g2, k2.iter (k1.iter hit2 (by omega)) (by omega), (hbw2.trans b1).trans b2, hide ?_, by simp; omega, by omega⟩
            rw [← hacc.out, hdr.out]
            show _ = acc ++ ((if decide (pos = 0) = false ∧ _ then _ else _) ++ _)
            rw [if_pos ⟨decide_eq_false (by omega), by rw [hdl.out]; exact h3⟩, decide_eq_false (p := pos + 1 = 0) (by omega)]
            simp
          case measure =>
            simp only [World.iterPos, k2.iter (k1.iter hit2 (by omega)) (by omega), hit]
            omega
        · have e3 : (((s.size : Int) - (pos : Int)) % 3 == 0) = false := beq_eq_false_iff_ne.2 (by omega)
          go_wp2_with fail
          refine (Wr.out (Lib.byteCells acc) (B.toNat : Int) (by omega) (by omega) _ hI2 (by rw [hcl]; omega) hsz2).mono ?_
          rintro e W2 ⟨rfl, g2, b2, k2⟩
          rw [HRB.out, ← Lib.byteCells_append] at g2
          go_wp2
          go_roundw
          case rel =>
            refine ⟨pos + 1, acc ++ [B], Or.inr g2, k2.iter hit2 (by omega), hbw2.trans b2, hide ?_, by simp; omega, by omega⟩
            rw [← hacc.out, hdr.out]
            show _ = acc ++ ((if decide (pos = 0) = false ∧ _ then _ else _) ++ _)
            rw [if_neg (fun h => h3 (by rw [hdl.out] at h; exact h.2)), decide_eq_false (p := pos + 1 = 0) (by omega)]
            simp
          case measure =>
            simp only [World.iterPos, k2.iter hit2 (by omega), hit]
            omega
      · have h0z : ¬ (0 : Int) < (pos : Int) := by omega
        go_wp2_with fail
        refine (Wr.out (Lib.byteCells acc) (B.toNat : Int) (by omega) (by omega) _ hI2 (by rw [hcl]; omega) hsz2).mono ?_
        rintro e W2 ⟨rfl, g2, b2, k2⟩
        rw [HRB.out, ← Lib.byteCells_append] at g2
        go_wp2
        go_roundw
        case rel =>
          refine ⟨pos + 1, acc ++ [B], Or.inr g2, k2.iter hit2 (by omega), hbw2.trans b2, hide ?_, by simp; omega, by omega⟩
          rw [← hacc.out, hdr.out]
          show _ = acc ++ ((if decide (pos = 0) = false ∧ _ then _ else _) ++ _)
          rw [if_neg (fun h => by have := of_decide_eq_false h.1; omega), decide_eq_false (p := pos + 1 = 0) (by omega)]
          simp
        case measure =>
          simp only [World.iterPos, k2.iter hit2 (by omega), hit]
          omega
    · have hnx : ∀ ty, (Instr.next (.pointer (some ⟨w1.heap.size + 1, 0, none⟩)) true ty).run Tryd.prog wr = _ := fun ty => Lib.run_next_end_at wr (w1.heap.size + 1) s pos ty hit hp
      have hfin : Hid (acc = marked true D) := hide (by
        have := hacc.out
        rw [show D.drop pos = [] from by rw [← Hsd.out]; exact drop_end s pos hp] at this
        simpa [marked] using this)
      have hcl : (Lib.byteCells acc).length = acc.length := Lib.byteCells_length _
      have hR1 : Lib.runeCells (48 + (d1 : Int)) = Lib.byteCells [UInt8.ofNat (48 + d1)] := by rw [runeCells_ascii (by omega) (by omega)]; congr 2
      have hR2 : Lib.runeCells (48 + (d2 : Int)) = Lib.byteCells [UInt8.ofNat (48 + d2)] := by rw [runeCells_ascii (by omega) (by omega)]; congr 2
      have hR46 : Lib.runeCells 46 = Lib.byteCells [46] := runeCells_ascii (by decide) (by decide)
      have HR1 := hide hR1
      have HR2 := hide hR2
      have HR46 := hide hR46
      clear hR1 hR2 hR46
      have hB0 : w1.heap.size ≤ wr.heap.size := by omega
      go_wp2_with fail
      refine (Tryd.Builder_WriteRune_k w1.heap.size w1.heap.size (Lib.byteCells acc) 46 (by decide) (by decide) _ hI (by rw [hcl]; omega) hB0).mono ?_
      rintro e W1 ⟨rfl, g1, b1, k1⟩
      rw [HR46.out, ← Lib.byteCells_append] at g1
      go_wp2_with fail
      refine (Tryd.Builder_WriteRune_k w1.heap.size w1.heap.size (Lib.byteCells (acc ++ [46])) (48 + (d1 : Int)) (by omega) (by omega) _ (Or.inr g1) (by rw [Lib.byteCells_length]; simp; omega) (Nat.le_trans hB0 b1.size)).mono ?_
      rintro e W2 ⟨rfl, g2, b2, k2⟩
      rw [HR1.out, ← Lib.byteCells_append] at g2
      go_wp2_with fail
      refine (Tryd.Builder_WriteRune_k w1.heap.size w1.heap.size (Lib.byteCells (acc ++ [46] ++ [UInt8.ofNat (48 + d1)])) (48 + (d2 : Int)) (by omega) (by omega) _ (Or.inr g2) (by rw [Lib.byteCells_length]; simp; omega) (Nat.le_trans hB0 (Nat.le_trans b1.size b2.size))).mono ?_
      rintro e W3 ⟨rfl, g3, b3, k3⟩
      rw [HR2.out, ← Lib.byteCells_append] at g3
      go_wp2_with fail
      refine (Tryd.Builder_String_any_k w1.heap.size w1.heap.size _ _ (Or.inr g3) (Nat.le_trans hB0 (Nat.le_trans b1.size (Nat.le_trans b2.size b3.size)))).mono ?_
      rintro e W4 ⟨rfl, _, b4, _⟩
      go_wp2
      go_ret
      refine ⟨?_, hb1.trans ((((hbw.trans b1).trans (b2)).trans (b3)).trans b4 |>.mono hb1.size)⟩
      rw [← hfin.out]
      simp
end Go.Proofs.YthoeehgnkolgpaaDoor
