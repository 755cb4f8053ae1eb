/- quote and within of the statements: what they answer. -/
import Derived.Test.YthoeehgnkolgpaaDoorQuoteWalk
namespace Go.Proofs.YthoeehgnkolgpaaDoor
open Go.RowKit

set_option maxHeartbeats 3200000 in
set_option maxRecDepth 100000 in
theorem quote_any (s : ByteArray) (w : World) (hmax : s.size ≤ 1048576) :
    Calls Tryd.prog 21 #[.string s] w fun e w' => e = .returned (.string ⟨(quoteM s.data.toList).toArray⟩) ∧ Below w.heap.size w w' := by
  obtain ⟨ANS, hANS⟩ : ∃ A, A = quoteM s.data.toList := ⟨_, rfl⟩
  rw [← hANS]
  have HANS := hide hANS
  clear hANS
  have hO0 : Hid ((w.alloc (.cells #[.int .u8 34] 5)).ownsRow w.heap.size 5 1 (.slice (some ⟨w.heap.size, 0, none⟩) 1 1) 1 (Lib.byteCells [34])) := hide ⟨rfl, Or.inr ⟨w.heap.size, 1, #[.int .u8 34], rfl, Nat.le_refl _, heap_alloc_new w _, Nat.le_refl _, by decide, rfl, rfl⟩⟩
  go_enter Tryd.func21, Tryd.ntmps21
  go_wp2_with fail
  go_loopg [3, 4] s.size (fun q s3 s4 wx => ∃ (i : Nat) (acc : List UInt8) (a : Option Addr) (c : Nat), i ≤ s.size ∧ q = s.size - i ∧ s3 = .slice a acc.length c ∧ s4 = .int .i64 i ∧ Hid (wx.ownsRow w.heap.size 5 1 (.slice a acc.length c) acc.length (Lib.byteCells acc)) ∧ Below w.heap.size w wx ∧ acc.length ≤ 2 * i + 1 ∧ Hid (acc ++ ((s.data.toList.drop i).flatMap escB ++ [34]) = ANS))
  case atStart => exact ⟨0, [34], some ⟨w.heap.size, 0, none⟩, 1, Nat.zero_le _, rfl, rfl, rfl, hO0, (Below.refl _ w).alloc (Nat.le_refl _) _, by simp, hide (by rw [HANS.out]; rfl)⟩
  case round =>
    clear HANS hO0
    obtain ⟨i, acc, a, c, hi, rfl, rfl, rfl, hO, hbw, hal, hr⟩ := hrel
    by_cases hlt : i < s.size
    · have hz : (i : Int) < (s.size : Int) := by omega
      obtain ⟨b, hb⟩ : ∃ b, s[i]'hlt = b := ⟨_, rfl⟩
      have hst : Hid (acc ++ (escB b ++ ((s.data.toList.drop (i + 1)).flatMap escB ++ [34])) = ANS) := hide (by rw [← hr.out, drop_at s i hlt, hb, List.flatMap_cons, List.append_assoc])
      clear hr
      have h256 := b.toNat_lt
      by_cases he : b = 34 ∨ b = 92
      · obtain ⟨v1, w1, hrun1, hown1, hbel1⟩ := app_byte hO.out 92 (by omega) hbw.size 40
        have e92 : Lib.byteCells acc ++ [Value.int .u8 92] = Lib.byteCells (acc ++ [92]) := cells_one 92 acc
        rw [e92] at hown1
        obtain ⟨a1, c1, rfl⟩ := own_form hown1
        have B1 := hbw.trans hbel1
        obtain ⟨v2, w2, hrun2, hown2, hbel2⟩ := app_byte hown1 (b.toNat : Int) (by omega) B1.size 40
        rw [cells_one] at hown2
        obtain ⟨a2, c2, rfl⟩ := own_form hown2
        have B2 := B1.trans hbel2
        have hO2 : Hid (w2.ownsRow w.heap.size 5 1 (.slice a2 (acc ++ [92, b]).length c2) (acc ++ [92, b]).length (Lib.byteCells (acc ++ [92, b]))) := hide (by
          have e : acc ++ [92, b] = acc ++ [92] ++ [b] := by simp
          rw [e, List.length_append, List.length_append]; exact hown2)
        have hst2 : Hid ((acc ++ [92, b]) ++ ((s.data.toList.drop (i + 1)).flatMap escB ++ [34]) = ANS) := hide (by
          rw [← hst.out]
          unfold escB
          rw [if_pos he, List.append_assoc])
        have two : ((b.toNat : Int) == 34) = true ∨ (((b.toNat : Int) == 34) = false ∧ ((b.toNat : Int) == 92) = true) := by
          rcases he with rfl | rfl
          · left; rfl
          · right; exact ⟨rfl, rfl⟩
        have H1 := hide hrun1
        have H2 := hide hrun2
        clear hrun1 hrun2 hown1 hown2 hst hO he hbel1 hbel2 B1
        rcases two with t1 | ⟨t1, t2⟩
        all_goals
          go_wp2_with (first
            | (at_builtin; refine wpList_append_eq rfl _ _ 40 rfl _ _ _ (by rfl) (by rfl) (unhide H1) ?_)
            | (at_builtin; refine wpList_append_eq rfl _ _ 40 rfl _ _ _ (by rfl) (by rfl) (unhide H2) ?_))
          go_roundg (s.size - (i + 1))
          case measure => go_light; omega
          case rel => go_light; exact ⟨i + 1, acc ++ [92, b], a2, c2, by omega, rfl, by rw [List.length_append]; rfl, by simp, hO2, B2, by rw [List.length_append]; simp; omega, hst2⟩
      · obtain ⟨v2, w2, hrun2, hown2, hbel2⟩ := app_byte hO.out (b.toNat : Int) (by omega) hbw.size 40
        rw [cells_one] at hown2
        obtain ⟨a2, c2, rfl⟩ := own_form hown2
        have B2 := hbw.trans hbel2
        have hO2 : Hid (w2.ownsRow w.heap.size 5 1 (.slice a2 (acc ++ [b]).length c2) (acc ++ [b]).length (Lib.byteCells (acc ++ [b]))) := hide (by rw [List.length_append]; exact hown2)
        have hst2 : Hid ((acc ++ [b]) ++ ((s.data.toList.drop (i + 1)).flatMap escB ++ [34]) = ANS) := hide (by
          rw [← hst.out]
          unfold escB
          rw [if_neg he, List.append_assoc])
        have t1 : ((b.toNat : Int) == 34) = false := beq_eq_false_iff_ne.2 (fun e => he (Or.inl (UInt8.toNat_inj.1 (show b.toNat = 34 by omega))))
        have t2 : ((b.toNat : Int) == 92) = false := beq_eq_false_iff_ne.2 (fun e => he (Or.inr (UInt8.toNat_inj.1 (show b.toNat = 92 by omega))))
        have H2 := hide hrun2
        clear hrun2 hown2 hst hO he hbel2
        go_wp2_with (first
          | (at_builtin; refine wpList_append_eq rfl _ _ 40 rfl _ _ _ (by rfl) (by rfl) (unhide H2) ?_))
        go_roundg (s.size - (i + 1))
        case measure => go_light; omega
        case rel => go_light; exact ⟨i + 1, acc ++ [b], a2, c2, by omega, rfl, by rw [List.length_append]; rfl, by simp, hO2, B2, by rw [List.length_append]; simp; omega, hst2⟩
    · have hz : ¬ (i : Int) < (s.size : Int) := by omega
      have hfin : Hid (acc ++ [34] = ANS) := hide (by rw [← hr.out, drop_end s i hlt]; simp)
      obtain ⟨v1, w1, hrun1, hown1, hbel1⟩ := app_byte hO.out 34 (by omega) hbw.size 40
      have e34 : Lib.byteCells acc ++ [Value.int .u8 34] = Lib.byteCells (acc ++ [34]) := cells_one 34 acc
      rw [e34] at hown1
      obtain ⟨a1, c1, rfl⟩ := own_form hown1
      have B1 := hbw.trans hbel1
      have hown2 : w1.ownsRow w.heap.size 5 1 (.slice a1 (acc ++ [34]).length c1) (acc ++ [34]).length (Lib.byteCells (acc ++ [34])) := by rw [List.length_append]; exact hown1
      have hbk := back_own hown2 (W := w1) rfl
      rw [List.length_append, show acc.length + [(34 : UInt8)].length = acc.length + 1 from rfl] at hbk
      generalize hG : (⟨(acc ++ [34]).toArray⟩ : ByteArray) = G at *
      have HG := hide hG
      have H1 := hide hrun1
      clear hr hrun1 hown1 hown2 hO hbel1 hG
      go_wp2_with (at_builtin; refine wpList_append_eq rfl _ _ 40 rfl _ _ _ (by rfl) (by rfl) (unhide H1) ?_)
      go_ret
      exact ⟨by rw [← hfin.out, HG.out]; rfl, B1⟩
theorem within3 (g : Int) (w : World) : Calls Tryd.prog 20 #[.int .i64 g, .int .i64 3] w fun e w' => w' = w ∧ ∃ r : Nat, r ≤ 2 ∧ e = .returned (.int .i64 r) := by
  have h3 : g.tmod 3 = 0 ∨ g.tmod 3 = 1 ∨ g.tmod 3 = 2 ∨ g.tmod 3 = -1 ∨ g.tmod 3 = -2 := by
    have h1 := Int.tmod_lt_of_pos g (show (0 : Int) < 3 by decide)
    have h2 := Int.lt_tmod_of_pos g (show (0 : Int) < 3 by decide)
    omega
  go_enter Tryd.func20, Tryd.ntmps20
  rcases h3 with h | h | h | h | h
  · go_wp2_with fail
    go_ret
    exact ⟨rfl, 0, by decide, rfl⟩
  · go_wp2_with fail
    go_ret
    exact ⟨rfl, 1, by decide, rfl⟩
  · go_wp2_with fail
    go_ret
    exact ⟨rfl, 2, by decide, rfl⟩
  · go_wp2_with fail
    go_ret
    exact ⟨rfl, 2, by decide, rfl⟩
  · go_wp2_with fail
    go_ret
    exact ⟨rfl, 1, by decide, rfl⟩
end Go.Proofs.YthoeehgnkolgpaaDoor
