/- Package pace: Tick, New. -/
import Derived.Test.YtjmgddaikcpinaaPC1
namespace Go.Proofs.Ytjmgddaikcpinaa
open Go.RowKit
set_option maxRecDepth 100000
set_option maxRecDepth 100000

def tkL (l g : Nat) : Nat := if 1 < l then l - 1 else g
def tkG (l g m : Nat) : Nat := if 1 < l then g else min (2 * g) m
theorem PcIs.late {w : World} {b l g m : Nat} (h : PcIs w b l g m) (l' g' : Nat) (h1 : 1 ≤ g') (hg : g' ≤ m) (hl : l' ≤ m) : PcIs ((w.setCell ⟨b, 0, none⟩ (.int .i64 (l' : Nat))).setCell ⟨b, 1, none⟩ (.int .i64 (g' : Nat))) b l' g' m ∧ Mv (fun k => k = b) w ((w.setCell ⟨b, 0, none⟩ (.int .i64 (l' : Nat))).setCell ⟨b, 1, none⟩ (.int .i64 (g' : Nat))) := by
  have r1 := h.row.set 0 (.int .i64 (l' : Nat))
  refine ⟨⟨?_, h.hm, h1, hg, hl⟩, (set_mv h.row _).trans (set_mv r1 _)⟩
  refine (r1.set 1 (.int .i64 (g' : Nat))).congr (fun i hi => ?_)
  match i, hi with
  | 0, _ => rfl
  | 1, _ => rfl
  | 2, _ => rfl
theorem PcIs.drew {w : World} {b l g m : Nat} (h : PcIs w b l g m) : PcIs w.drew b l g m := h.later rfl

theorem tick_no {w : World} {b l g m : Nat} (h : PcIs w b l g m) (hl : 1 < l) : Calls Try.prog 8 #[.pointer (some ⟨b, 0, none⟩)] w fun e w' => e = .returned (.bool false) ∧ PcIs w' b (l - 1) g m ∧ Mv (fun k => k = b) w w' := by
  have c0 := h.c0
  have f0 : w.frozen? ⟨b, 0, none⟩ = false := h.row.frozen 0
  have hl2 := h.hl
  have hm2 := h.hm
  obtain ⟨k, hk, hk2⟩ : ∃ k : Nat, (l : Int) - 1 = (k : Int) ∧ k = l - 1 := ⟨l - 1, by omega, rfl⟩
  have hw : IntKind.i64.wrap (k : Int) = (k : Int) := by rw [IntKind.wrap_i64]; omega
  rw [← hk2]
  obtain ⟨W, HW⟩ : ∃ W, Hid (w.setCell ⟨b, 0, none⟩ (.int .i64 (k : Nat)) = W) := ⟨_, rfl⟩
  have HK : Hid (PcIs W b k g m ∧ Mv (fun k => k = b) w W) := by
    rw [← HW.out]
    refine ⟨⟨(h.row.set 0 _).congr (fun i hi => ?_), h.hm, h.h1, h.hg, by omega⟩, set_mv h.row _⟩
    match i, hi with
    | 0, _ => rfl
    | 1, _ => rfl
    | 2, _ => rfl
  have hz : (l : Int) > 1 := by omega
  clear h hk2
  go_enter Try.func8, Try.ntmps8
  go_wp2
  rw [HW.out]
  go_ret
  exact ⟨rfl, HK.out⟩
set_option maxHeartbeats 4000000 in
theorem tick_yes {w : World} {b l g m : Nat} (h : PcIs w b l g m) (hl : ¬ 1 < l) : Calls Try.prog 8 #[.pointer (some ⟨b, 0, none⟩)] w fun e w' => e = .returned (.bool true) ∧ PcIs w' b g (min (2 * g) m) m ∧ Mv (fun k => k = b) w w' := by
  have HD : Hid (∀ W, Calls Try.prog 16 #[.int .i64 (m : Nat), .int .i64 (g : Nat)] W fun e w' => e = .returned (.int .i64 ((min (2 * g) m : Nat) : Int)) ∧ w' = W) := fun W => double_any m g (by have := h.hm; have := h.hg; omega) W
  have c0 := h.c0
  have c1 := h.c1
  have c2 := h.c2
  have hg1 : 1 ≤ min (2 * g) m := by have := h.h1; have := h.hg; omega
  have hg2 : min (2 * g) m ≤ m := by omega
  have HK : Hid (∀ q, PcIs (((w.drewN q).setCell ⟨b, 0, none⟩ (.int .i64 (g : Nat))).setCell ⟨b, 1, none⟩ (.int .i64 ((min (2 * g) m : Nat) : Int))) b g (min (2 * g) m) m ∧ Mv (fun k => k = b) w (((w.drewN q).setCell ⟨b, 0, none⟩ (.int .i64 (g : Nat))).setCell ⟨b, 1, none⟩ (.int .i64 ((min (2 * g) m : Nat) : Int)))) := fun q => by
    have hq : PcIs (w.drewN q) b l g m := h.later rfl
    obtain ⟨p1, p2⟩ := hq.late g (min (2 * g) m) hg1 hg2 h.hg
    exact ⟨p1, ⟨p2.os, p2.tape, p2.output, p2.size, p2.block⟩⟩
  have f0 : w.frozen? ⟨b, 0, none⟩ = false := h.row.frozen 0
  have f1 : w.frozen? ⟨b, 1, none⟩ = false := h.row.frozen 1
  have hz : ¬ (l : Int) > 1 := by omega
  generalize min (2 * g) m = d at *
  have c0d : w.drew.cell? ⟨b, 0, none⟩ = some (.int .i64 (l : Nat)) := c0
  have c1d : w.drew.cell? ⟨b, 1, none⟩ = some (.int .i64 (g : Nat)) := c1
  have c2d : w.drew.cell? ⟨b, 2, none⟩ = some (.func (.func 16) #[.int .i64 (m : Nat)] #[]) := c2
  have f0d : w.drew.frozen? ⟨b, 0, none⟩ = false := f0
  have f1d : w.drew.frozen? ⟨b, 1, none⟩ = false := f1
  clear h
  go_enter Try.func8, Try.ntmps8
  go_upto_region 4 with fail
  go_region_law (first
    | (go_simp; go_at_call 16; refine (HD.out _).mono ?_; rintro e w2 ⟨rfl, rfl⟩))
  all_goals
    go_wp2_with fail
    go_ret
    exact ⟨rfl, HK.out _⟩
end Go.Proofs.Ytjmgddaikcpinaa
