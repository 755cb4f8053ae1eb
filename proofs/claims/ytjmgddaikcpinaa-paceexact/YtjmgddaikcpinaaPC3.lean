/- Package pace: New; a pace's ticks. -/
import Derived.Test.YtjmgddaikcpinaaPC2
namespace Go.Proofs.Ytjmgddaikcpinaa
open Go.RowKit
set_option maxRecDepth 100000
set_option maxRecDepth 100000

theorem tick_any {w : World} {b l g m : Nat} (h : PcIs w b l g m) : Calls Try.prog 8 #[.pointer (some ⟨b, 0, none⟩)] w fun e w' => e = .returned (.bool (decide (l ≤ 1))) ∧ PcIs w' b (tkL l g) (tkG l g m) m ∧ Mv (fun k => k = b) w w' := by
  by_cases hl : 1 < l
  · have e1 : tkL l g = l - 1 := if_pos hl
    have e2 : tkG l g m = g := if_pos hl
    have e3 : decide (l ≤ 1) = false := by simp; omega
    rw [e1, e2, e3]
    exact tick_no h hl
  · have e1 : tkL l g = g := if_neg hl
    have e2 : tkG l g m = min (2 * g) m := if_neg hl
    have e3 : decide (l ≤ 1) = true := by simp; omega
    rw [e1, e2, e3]
    exact tick_yes h hl

theorem new_any (n : Nat) (h1 : 1 ≤ n) (h2 : n ≤ 64) (w : World) :
    Calls Try.prog 7 #[.int .i64 (n : Nat)] w fun e w' => e = .returned (.tuple #[.pointer (some ⟨w.heap.size, 0, none⟩), .int .i64 0]) ∧ PcIs w' w.heap.size 0 1 n ∧ Below w.heap.size w w' ∧ w.heap.size < w'.heap.size := by
  obtain ⟨W, HW⟩ : ∃ W, Hid (w.alloc (.cells #[.int .i64 0, .int .i64 0, .func (.func 16) #[.int .i64 (n : Nat)] #[]] 49) = W) := ⟨_, rfl⟩
  have hr : W.rowIs w.heap.size 49 3 (pcCell 0 0 n) := by
    rw [← HW.out]
    refine World.rowIs_alloc w _ _ _ (fun i hi => ?_)
    match i, hi with
    | 0, _ => rfl
    | 1, _ => rfl
    | 2, _ => rfl
  have hb : Below w.heap.size w W := by rw [← HW.out]; exact (Below.refl _ _).alloc (Nat.le_refl _) _
  have hlt := hr.lt
  have HR : Hid (Calls Try.prog 9 #[.pointer (some ⟨w.heap.size, 0, none⟩)] W fun e w' => e = .returned (.tuple #[]) ∧ Hid (PcIs w' w.heap.size 0 1 n ∧ Below w.heap.size w w' ∧ w.heap.size < w'.heap.size)) :=
    (reset_row hr h2 h1).mono fun e w' ⟨he, hp, hm⟩ => ⟨he, hp, hm.below hb (by omega) (fun k hk => by omega), by have := hm.size; omega⟩
  have hz1 : ¬ (n : Int) < 1 := by omega
  have hz2 : ¬ (n : Int) > 64 := by omega
  clear hr hb hlt
  go_enter Try.func7, Try.ntmps7
  go_upto_region 4 with fail
  rw [HW.out]
  go_wp2_with (go_at_call 9; refine HR.out.mono ?_; rintro e w2 ⟨rfl, HK⟩)
  go_ret2
  exact ⟨rfl, HK.out⟩
theorem new_not (n : Int) (h : n < 1 ∨ 64 < n) (w : World) :
    Calls Try.prog 7 #[.int .i64 n] w fun e w' => e = .returned (.tuple #[.pointer none, .int .i64 70]) ∧ w' = w := by
  by_cases hz1 : n < 1
  · go_enter Try.func7, Try.ntmps7
    go_wp2
    go_ret2
    exact ⟨rfl, rfl⟩
  · have hz2 : n > 64 := by omega
    go_enter Try.func7, Try.ntmps7
    go_wp2
    go_ret2
    exact ⟨rfl, rfl⟩
end Go.Proofs.Ytjmgddaikcpinaa
