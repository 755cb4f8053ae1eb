/- The document's own pace in memory: New, Tick, Reset, Wait. A pace and the document's side by side. -/
import Derived.Test.YtjmgddaikcpinaaPC8
namespace Go.Proofs.Ytjmgddaikcpinaa
open Go.RowKit
set_option maxRecDepth 100000
set_option maxRecDepth 100000

def rpCell (m t : Nat) (i : Nat) : Value := if i = 0 then .int .i64 (m : Nat) else .int .i64 (t : Nat)
structure RpIs (w : World) (b m t : Nat) : Prop where
  row : w.rowIs b 55 2 (rpCell m t)
  h1 : 1 ≤ m
  hm : m ≤ 64
  ht : t ≤ 5000
theorem RpIs.later {w w' : World} {b m t : Nat} (h : RpIs w b m t) (hb : w'.heap[b]? = w.heap[b]?) : RpIs w' b m t := ⟨h.row.of_block hb, h.h1, h.hm, h.ht⟩
theorem RpIs.c0 {w : World} {b m t : Nat} (h : RpIs w b m t) : w.cell? ⟨b, 0, none⟩ = some (.int .i64 (m : Nat)) := h.row.cell (i := 0) (by decide)
theorem RpIs.c1 {w : World} {b m t : Nat} (h : RpIs w b m t) : w.cell? ⟨b, 1, none⟩ = some (.int .i64 (t : Nat)) := h.row.cell (i := 1) (by decide)
theorem RpIs.set {w : World} {b m t : Nat} (h : RpIs w b m t) (t' : Nat) (ht : t' ≤ 5000) : RpIs (w.setCell ⟨b, 1, none⟩ (.int .i64 (t' : Nat))) b m t' ∧ Mv (fun k => k = b) w (w.setCell ⟨b, 1, none⟩ (.int .i64 (t' : Nat))) := by
  refine ⟨⟨(h.row.set 1 _).congr (fun i hi => ?_), h.h1, h.hm, ht⟩, set_mv h.row _⟩
  match i, hi with
  | 0, _ => rfl
  | 1, _ => rfl

theorem rnew_any (n : Nat) (h1 : 1 ≤ n) (h2 : n ≤ 64) (w : World) :
    Calls Try.prog 17 #[.int .i64 (n : Nat)] w fun e w' => e = .returned (.tuple #[.pointer (some ⟨w.heap.size, 0, none⟩), .int .i64 0]) ∧ RpIs w' w.heap.size n 0 ∧ Below w.heap.size w w' := by
  have H : Hid (RpIs (w.alloc (.cells #[.int .i64 (n : Nat), .int .i64 0] 55)) w.heap.size n 0 ∧ Below w.heap.size w (w.alloc (.cells #[.int .i64 (n : Nat), .int .i64 0] 55))) := by
    refine ⟨⟨?_, h1, h2, Nat.zero_le _⟩, (Below.refl _ _).alloc (Nat.le_refl _) _⟩
    refine World.rowIs_alloc w _ _ _ (fun i hi => ?_)
    match i, hi with
    | 0, _ => rfl
    | 1, _ => rfl
  have hz1 : ¬ (n : Int) < 1 := by omega
  have hz2 : ¬ (n : Int) > 64 := by omega
  go_enter Try.func17, Try.ntmps17
  go_wp2
  go_ret2
  exact ⟨rfl, H.out⟩
theorem rnew_not (n : Int) (h : n < 1 ∨ 64 < n) (w : World) :
    Calls Try.prog 17 #[.int .i64 n] w fun e w' => e = .returned (.tuple #[.pointer none, .int .i64 70]) ∧ w = w' := by
  by_cases hz1 : n < 1
  · go_enter Try.func17, Try.ntmps17
    go_wp2
    go_ret2
    exact ⟨rfl, rfl⟩
  · have hz2 : n > 64 := by omega
    go_enter Try.func17, Try.ntmps17
    go_wp2
    go_ret2
    exact ⟨rfl, rfl⟩
theorem rreset_any {w : World} {b m t : Nat} (h : RpIs w b m t) : Calls Try.prog 14 #[.pointer (some ⟨b, 0, none⟩)] w fun e w' => e = .returned (.tuple #[]) ∧ RpIs w' b m 0 ∧ Mv (fun k => k = b) w w' := by
  have H : Hid (RpIs (w.setCell ⟨b, 1, none⟩ (.int .i64 0)) b m 0 ∧ Mv (fun k => k = b) w (w.setCell ⟨b, 1, none⟩ (.int .i64 0))) := h.set 0 (by decide)
  have c1 := h.c1
  have f1 : w.frozen? ⟨b, 1, none⟩ = false := h.row.frozen 1
  obtain ⟨W, HW⟩ : ∃ W, Hid (w.setCell ⟨b, 1, none⟩ (.int .i64 0) = W) := ⟨_, rfl⟩
  rw [HW.out] at H
  clear h
  go_enter Try.func14, Try.ntmps14
  go_wp2
  rw [HW.out]
  go_end0
  exact ⟨rfl, H.out⟩
theorem rwait_any {w : World} {b m t : Nat} (h : RpIs w b m t) : Calls Try.prog 15 #[.pointer (some ⟨b, 0, none⟩)] w fun e w' => e = .returned (.int .i64 ((if t = 0 then 0 else (tmS m t).2.1 - t : Nat) : Int)) ∧ ∃ q, w' = w.drewN q := by
  have c0 := h.c0
  have c1 := h.c1
  have hok := tm_ok h.h1 t
  by_cases h0 : t = 0
  · subst h0
    have e1 : (if (0 : Nat) = 0 then 0 else (tmS m 0).2.1 - 0 : Nat) = 0 := rfl
    rw [e1]
    clear h hok e1
    go_enter Try.func15, Try.ntmps15
    go_wp2
    go_ret
    exact ⟨rfl, 0, rfl⟩
  · have HT : Hid (∀ W, Calls Try.prog 18 #[.int .i64 (m : Nat), .int .i64 (t : Nat)] W fun e w' => e = .returned (.tuple #[.int .i64 ((tmS m t).1 : Nat), .int .i64 ((tmS m t).2.1 : Nat)]) ∧ w' = W) := fun W => (times_any m t h.h1 h.hm (by have := h.ht; omega) W).mono fun e w' ⟨h1, h2⟩ => ⟨h1, h2.symm⟩
    rw [if_neg h0]
    obtain ⟨h1, h2, _, _, h5⟩ := hok
    have hb := h.ht
    have hb2 := h.hm
    obtain ⟨d, hd, hd2⟩ : ∃ x : Nat, ((tmS m t).2.1 : Int) - (t : Int) = (x : Int) ∧ x = (tmS m t).2.1 - t := ⟨(tmS m t).2.1 - t, by omega, rfl⟩
    have wd : IntKind.i64.wrap (d : Int) = (d : Int) := wi (by omega)
    rw [← hd2]
    have z : ¬ (t : Int) = 0 := by omega
    have z2 : ((t : Int) == 0) = false := by simp; omega
    generalize (tmS m t).2.1 = A at *
    generalize (tmS m t).1 = K at *
    clear h h1 h2 h5 hd2 hb hb2 h0
    go_enter Try.func15, Try.ntmps15
    go_upto_region 3 with fail
    go_quiet (exact Calls.quiet_of_same (HT.out _))
    go_wp2_with fail
    go_ret
    exact ⟨rfl, _, rfl⟩
/-- The document's Tick. -/
theorem rtick_any {w : World} {b m t : Nat} (h : RpIs w b m t) (ht : t < 5000) : Calls Try.prog 13 #[.pointer (some ⟨b, 0, none⟩)] w fun e w' => e = .returned (.bool (decide (¬ t + 1 < (tmS m t).2.1))) ∧ RpIs w' b m (t + 1) ∧ Mv (fun k => k = b) w w' := by
  have c0 := h.c0
  have c1 := h.c1
  have f1 : w.frozen? ⟨b, 1, none⟩ = false := h.row.frozen 1
  have hs := tm_succ m t
  have HT : Hid (∀ W, Calls Try.prog 18 #[.int .i64 (m : Nat), .int .i64 (t : Nat)] W fun e w' => e = .returned (.tuple #[.int .i64 ((tmS m t).1 : Nat), .int .i64 ((tmS m t).2.1 : Nat)]) ∧ w' = W) := fun W => (times_any m t h.h1 h.hm (by omega) W).mono fun e w' ⟨h1, h2⟩ => ⟨h1, h2.symm⟩
  have HT2 : Hid (∀ W, Calls Try.prog 18 #[.int .i64 (m : Nat), .int .i64 ((t + 1 : Nat) : Int)] W fun e w' => e = .returned (.tuple #[.int .i64 ((tmS m (t + 1)).1 : Nat), .int .i64 ((tmS m (t + 1)).2.1 : Nat)]) ∧ w' = W) := fun W => (times_any m (t + 1) h.h1 h.hm (by omega) W).mono fun e w' ⟨h1, h2⟩ => ⟨h1, h2.symm⟩
  have hcmp : decide ((tmS m (t + 1)).1 > (tmS m t).1) = decide (¬ t + 1 < (tmS m t).2.1) := by
    rw [hs]
    split <;> simp_all
  rw [← hcmp]
  have HK : Hid (∀ q p, RpIs (((w.drewN q).setCell ⟨b, 1, none⟩ (.int .i64 ((t + 1 : Nat) : Int))).drewN p) b m (t + 1) ∧ Mv (fun k => k = b) w (((w.drewN q).setCell ⟨b, 1, none⟩ (.int .i64 ((t + 1 : Nat) : Int))).drewN p)) := fun q p => by
    have hq : RpIs (w.drewN q) b m t := h.later rfl
    obtain ⟨p1, p2⟩ := hq.set (t + 1) (by omega)
    exact ⟨p1.later rfl, ⟨p2.os, p2.tape, p2.output, p2.size, p2.block⟩⟩
  obtain ⟨t1, ht1, ht2⟩ : ∃ x : Nat, (t : Int) + 1 = (x : Int) ∧ x = t + 1 := ⟨t + 1, by omega, rfl⟩
  have wt : IntKind.i64.wrap (t1 : Int) = (t1 : Int) := wi (by omega)
  rw [← ht2] at HT2 HK ⊢
  have hr1 : ∀ q, ((w.drewN q).setCell ⟨b, 1, none⟩ (.int .i64 (t1 : Nat))).cell? ⟨b, 0, none⟩ = some (.int .i64 (m : Nat)) := fun q => by
    have := (HK.out q 0).1.c0
    exact this
  have hr2 : ∀ q, ((w.drewN q).setCell ⟨b, 1, none⟩ (.int .i64 (t1 : Nat))).cell? ⟨b, 1, none⟩ = some (.int .i64 (t1 : Nat)) := fun q => by
    have := (HK.out q 0).1.c1
    exact this
  generalize (tmS m t).2.1 = A at *
  generalize (tmS m t).1 = K at *
  generalize (tmS m t1).2.1 = A1 at *
  generalize (tmS m t1).1 = K1 at *
  have hz : decide ((K1 : Int) > (K : Int)) = decide (K1 > K) := by simp
  clear h hs hcmp ht2
  go_enter Try.func13, Try.ntmps13
  go_upto_region 1 with fail
  go_quiet (exact Calls.quiet_of_same (HT.out _))
  go_upto_region 3 with fail
  go_quiet (exact Calls.quiet_of_same (HT2.out _))
  by_cases hkk : K1 > K
  · have z1 : (K1 : Int) > (K : Int) := by omega
    have E1 : Hid (decide (K1 > K) = true) := by show _ = _; simp [hkk]
    clear hz hkk
    go_wp2_with fail
    go_ret
    exact ⟨by rw [E1.out]; rfl, HK.out _ _⟩
  · have z1 : ¬ (K1 : Int) > (K : Int) := by omega
    have E1 : Hid (decide (K1 > K) = false) := by show _ = _; simp; omega
    clear hz hkk
    go_wp2_with fail
    go_ret
    exact ⟨by rw [E1.out]; rfl, HK.out _ _⟩
end Go.Proofs.Ytjmgddaikcpinaa
