/- Own texts, joined: RefZ, RefQ0, RefQ1, RefQ2, RefQ3, RefQ4, RefQ5, RefQ6. -/
import Derived.Test.YtonpmabdjngdcaaGreatDoorM10
import Derived.Test.YtonpmabdjngdcaaGreatDoorM11
import Derived.Test.YtonpmabdjngdcaaGreatDoorM12
import Derived.Test.YtonpmabdjngdcaaGreatDoorM13
import Derived.Test.YtonpmabdjngdcaaGreatDoorM7

/- The document's Encode. -/
namespace Go.Proofs.YtonpmabdjngdcaaGreatDoor
open Go.RowKit
set_option maxRecDepth 100000

theorem only_len (m : Mg) (c : Nat) : (onlyG m).s c = m.s c ∨ (onlyG m).s c = [] := by
  rw [only_s]
  split
  · exact .inl rfl
  · exact .inr rfl
theorem only_wf {m : Mg} (hw : m.wf) : (onlyG m).wf := by
  refine ⟨fun c hc => ?_, fun c c1 c2 c3 => ?_⟩
  · rw [only_n, if_neg (fun h => by have := fdsK_num h; omega), if_neg (by omega)]
  · rcases only_len m c with e | e
    · rw [e]; exact hw.s c c1 c2 c3
    · exact e
theorem only_mga {w : World} {m : Mg} {va : Option Addr} {vc : Nat} (h : MgA w m va vc) (h10 : (onlyG m).s 10 = m.s 10) : MgA w (onlyG m) va vc := by
  refine ⟨by rw [h10]; exact h.val, by rw [h10]; exact h.nil, by rw [h10]; exact h.lt, fun c => ?_, fun c => ?_⟩
  · rcases only_len m c with e | e
    · rw [e]; exact h.len c
    · rw [e]; exact Nat.zero_le _
  · rcases only_len m c with e | e
    · rw [e]; exact h.byte c
    · rw [e]; exact fun v hv => absurd hv (List.not_mem_nil)
theorem only_mgn {w : World} {m : Mg} {va : Option Addr} {vc : Nat} (h : MgA w m va vc) (h10 : (onlyG m).s 10 = []) : MgA w (onlyG m) none 0 := by
  refine ⟨by rw [h10]; exact fun j hj => absurd hj (Nat.not_lt_zero _), fun _ => by rw [h10]; exact ⟨rfl, rfl⟩, fun q e _ => by simp at e, fun c => ?_, fun c => ?_⟩
  · rcases only_len m c with e | e
    · rw [e]; exact h.len c
    · rw [e]; exact Nat.zero_le _
  · rcases only_len m c with e | e
    · rw [e]; exact h.byte c
    · rw [e]; exact fun v hv => absurd hv (List.not_mem_nil)
theorem only_val : ∀ k : Fin 12, (k.val = 2 ∨ k.val = 4 → 10 ∈ txtC (fdsK k.val)) ∧ (k.val ≠ 2 → k.val ≠ 4 → 10 ∉ txtC (fdsK k.val)) := by decide +kernel
theorem kind_cases {m : Mg} (hk : kindB m = true) : m.n 0 = 1 ∨ m.n 0 = 2 ∨ m.n 0 = 3 ∨ m.n 0 = 4 ∨ m.n 0 = 5 ∨ m.n 0 = 6 ∨ m.n 0 = 7 ∨ m.n 0 = 8 ∨ m.n 0 = 9 ∨ m.n 0 = 10 ∨ m.n 0 = 11 := by
  have := of_decide_eq_true hk
  omega
theorem only_any (m : Mg) (va : Option Addr) (vc : Nat) (w : World) (hA : MgA w m va vc) (hk : kindB m = true) :
    Calls Tryz.prog 29 #[mgV m va vc] w fun e w' => ∃ va' vc', e = .returned (mgV (onlyG m) va' vc') ∧ MgA w' (onlyG m) va' vc' ∧ w.Since w.heap.size w' := by
  rcases kind_cases hk with h | h | h | h | h | h | h | h | h | h | h
  · refine (only1 m va vc w hA h).mono fun e w' ⟨he, hs⟩ => ⟨none, 0, he, (only_mgn hA ?_).since hs, hs⟩
    rw [only_s, h, if_neg]
    exact (only_val ⟨1, by decide⟩).2 (by decide) (by decide)
  · refine (only2 m va vc w hA h).mono fun e w' ⟨he, hs⟩ => ⟨va, vc, he, (only_mga hA ?_).since hs, hs⟩
    rw [only_s, h, if_pos]
    exact (only_val ⟨2, by decide⟩).1 (by decide)
  · refine (only3 m va vc w hA h).mono fun e w' ⟨he, hs⟩ => ⟨none, 0, he, (only_mgn hA ?_).since hs, hs⟩
    rw [only_s, h, if_neg]
    exact (only_val ⟨3, by decide⟩).2 (by decide) (by decide)
  · refine (only4 m va vc w hA h).mono fun e w' ⟨he, hs⟩ => ⟨va, vc, he, (only_mga hA ?_).since hs, hs⟩
    rw [only_s, h, if_pos]
    exact (only_val ⟨4, by decide⟩).1 (by decide)
  · refine (only5 m va vc w hA h).mono fun e w' ⟨he, hs⟩ => ⟨none, 0, he, (only_mgn hA ?_).since hs, hs⟩
    rw [only_s, h, if_neg]
    exact (only_val ⟨5, by decide⟩).2 (by decide) (by decide)
  · refine (only6 m va vc w hA h).mono fun e w' ⟨he, hs⟩ => ⟨none, 0, he, (only_mgn hA ?_).since hs, hs⟩
    rw [only_s, h, if_neg]
    exact (only_val ⟨6, by decide⟩).2 (by decide) (by decide)
  · refine (only7 m va vc w hA h).mono fun e w' ⟨he, hs⟩ => ⟨none, 0, he, (only_mgn hA ?_).since hs, hs⟩
    rw [only_s, h, if_neg]
    exact (only_val ⟨7, by decide⟩).2 (by decide) (by decide)
  · refine (only8 m va vc w hA h).mono fun e w' ⟨he, hs⟩ => ⟨none, 0, he, (only_mgn hA ?_).since hs, hs⟩
    rw [only_s, h, if_neg]
    exact (only_val ⟨8, by decide⟩).2 (by decide) (by decide)
  · refine (only9 m va vc w hA h).mono fun e w' ⟨he, hs⟩ => ⟨none, 0, he, (only_mgn hA ?_).since hs, hs⟩
    rw [only_s, h, if_neg]
    exact (only_val ⟨9, by decide⟩).2 (by decide) (by decide)
  · refine (only10 m va vc w hA h).mono fun e w' ⟨he, hs⟩ => ⟨none, 0, he, (only_mgn hA ?_).since hs, hs⟩
    rw [only_s, h, if_neg]
    exact (only_val ⟨10, by decide⟩).2 (by decide) (by decide)
  · refine (only11 m va vc w hA h).mono fun e w' ⟨he, hs⟩ => ⟨none, 0, he, (only_mgn hA ?_).since hs, hs⟩
    rw [only_s, h, if_neg]
    exact (only_val ⟨11, by decide⟩).2 (by decide) (by decide)
theorem body_any' (m : Mg) (va : Option Addr) (vc : Nat) (w : World) (hA : MgA w m va vc) (hk : kindB m = true) (hm : mayM m = true) :
    Calls Tryz.prog 31 #[mgV m va vc] w fun e w' => ∃ v, e = .returned v ∧ OwnL w' w.heap.size v (bodyG m) ∧ w.Since w.heap.size w' := by
  rcases kind_cases hk with h | h | h | h | h | h | h | h | h | h | h
  · exact body1 m va vc w hA h hm
  · exact body2 m va vc w hA h hm
  · exact body3 m va vc w hA h hm
  · exact body4 m va vc w hA h hm
  · exact body5 m va vc w hA h hm
  · exact body6 m va vc w hA h hm
  · exact body7 m va vc w hA h hm
  · exact body8 m va vc w hA h hm
  · exact body9 m va vc w hA h hm
  · exact body10 m va vc w hA h hm
  · exact body11 m va vc w hA h hm
theorem may_eq (m : Mg) (hN : ∀ c, isU c = true → 0 ≤ m.n c) : (headB m && mayA m 16) = (decide (0 ≤ m.n 1 ∧ m.n 1 < 9 ∧ 0 ≤ m.n 2 ∧ m.n 2 < 9) && (decide (0 ≤ m.n 3 ∧ m.n 3 < 8 ∧ 0 ≤ m.n 11 ∧ m.n 11 < 8) && (decide (m.n 4 ≤ 1099511627776 ∧ m.n 5 ≤ 1099511627776 ∧ m.n 6 ≤ 1099511627776 ∧ m.n 7 ≤ 1099511627776 ∧ m.n 9 ≤ 1099511627776 ∧ m.n 12 ≤ 1099511627776 ∧ m.n 16 ≤ 1099511627776 ∧ m.n 17 ≤ 1099511627776) && (decide (0 ≤ m.n 8 ∧ m.n 8 ≤ 1025) && (decide ((m.s 10).length ≤ 16384 ∧ (m.s 13).length ≤ 64 ∧ (m.s 14).length ≤ 64) && (decide (0 ≤ m.n 18 ∧ m.n 18 ≤ 3 ∧ 0 ≤ m.n 19 ∧ m.n 19 < 8 ∧ 0 ≤ m.n 20 ∧ m.n 20 ≤ 4) && (decide (m.n 21 = 0 ∨ 300 ≤ m.n 21 ∧ m.n 21 ≤ 307) && decide (m.n 15 ≤ 9007199254740992)))))))) := by
  have u4 := hN 4 rfl
  have u5 := hN 5 rfl
  have u6 := hN 6 rfl
  have u7 := hN 7 rfl
  have u9 := hN 9 rfl
  have u12 := hN 12 rfl
  have u15 := hN 15 rfl
  have u16 := hN 16 rfl
  have u17 := hN 17 rfl
  rw [Bool.eq_iff_iff]
  simp only [headB, mayA, fds, Fd.may, List.all_cons, List.all_nil, Bool.and_eq_true, decide_eq_true_iff, if_true, Bool.and_true, Bool.true_and, Nat.reduceEqDiff, eq_self, true_implies, false_implies, and_true]
  constructor
  · intro h
    refine ⟨by omega, by omega, by omega, by omega, by omega, by omega, by omega, by omega⟩
  · intro h
    refine ⟨by omega, ?_⟩
    omega
theorem may_any (m : Mg) (va : Option Addr) (vc : Nat) (w : World) (hA : MgA w m va vc) (hN : ∀ c, isU c = true → 0 ≤ m.n c) :
    Calls Tryz.prog 30 #[mgV m va vc] w fun e w' => e = .returned (.bool (headB m && mayA m 16)) ∧ w.Since w.heap.size w' := by
  rw [may_eq m hN]
  exact may_walk m va vc w hA _ _ _ _ _ _ _ _ rfl rfl rfl rfl rfl rfl rfl rfl
end Go.Proofs.YtonpmabdjngdcaaGreatDoor

/- The document's EqMsg, by the first cell that differs. -/
namespace Go.Proofs.YtonpmabdjngdcaaGreatDoor
open Go.RowKit
set_option maxRecDepth 100000

set_option maxHeartbeats 4000000 in
theorem eqm0 (a b : Mg) (va vb : Option Addr) (vc vd : Nat) (w : World) (hne : a.n 0 ≠ b.n 0) :
    Calls Tryz.prog 12 #[mgV a va vc, mgV b vb vd] w fun e w' => e = .returned (.bool false) ∧ w.Since w.heap.size w' := by
  obtain ⟨MA, HMA⟩ : ∃ x, Hid ((mgL a va vc).toArray = x) := ⟨_, rfl⟩
  obtain ⟨MB, HMB⟩ : ∃ x, Hid ((mgL b vb vd).toArray = x) := ⟨_, rfl⟩
  have sw : w.Since w.heap.size ((w.alloc (.cells MA 37)).alloc (.cells MB 37)) := ((World.Since.refl _ _).alloc (Nat.le_refl _) _).alloc (by simp) _
  have gA : ∀ i, i < 22 → MA[i]? = some (mgCell a va vc i) := fun i hi => by rw [← HMA.out]; exact mgL_get a va vc i hi
  have gB : ∀ i, i < 22 → MB[i]? = some (mgCell b vb vd i) := fun i hi => by rw [← HMB.out]; exact mgL_get b vb vd i hi
  have a0 : MA[0]? = some (.int .i64 (a.n 0)) := gA 0 (by decide)
  have b0 : MB[0]? = some (.int .i64 (b.n 0)) := gB 0 (by decide)
  have a1 : MA[1]? = some (.int .i64 (a.n 1)) := gA 1 (by decide)
  have b1 : MB[1]? = some (.int .i64 (b.n 1)) := gB 1 (by decide)
  have a2 : MA[2]? = some (.int .i64 (a.n 2)) := gA 2 (by decide)
  have b2 : MB[2]? = some (.int .i64 (b.n 2)) := gB 2 (by decide)
  have a3 : MA[3]? = some (.int .i64 (a.n 3)) := gA 3 (by decide)
  have b3 : MB[3]? = some (.int .i64 (b.n 3)) := gB 3 (by decide)
  generalize a.n 0 = x0 at *
  generalize b.n 0 = y0 at *
  generalize a.n 1 = x1 at *
  generalize b.n 1 = y1 at *
  generalize a.n 2 = x2 at *
  generalize b.n 2 = y2 at *
  generalize a.n 3 = x3 at *
  generalize b.n 3 = y3 at *
  have hne2 : (x0 == y0) = false := by rw [beq_eq_false_iff_ne]; exact hne
  have HS := hide sw
  clear sw gA gB
  unfold mgV
  rw [HMA.out, HMB.out]
  go_enter Tryz.func12, Tryz.ntmps12
  go_wp2_with fail
  go_ret
  exact ⟨rfl, HS.out⟩
end Go.Proofs.YtonpmabdjngdcaaGreatDoor

/- The document's EqMsg, by the first cell that differs. -/
namespace Go.Proofs.YtonpmabdjngdcaaGreatDoor
open Go.RowKit
set_option maxRecDepth 100000

set_option maxHeartbeats 4000000 in
theorem eqm1 (a b : Mg) (va vb : Option Addr) (vc vd : Nat) (w : World) (h0 : b.n 0 = a.n 0) (hne : a.n 1 ≠ b.n 1) :
    Calls Tryz.prog 12 #[mgV a va vc, mgV b vb vd] w fun e w' => e = .returned (.bool false) ∧ w.Since w.heap.size w' := by
  obtain ⟨MA, HMA⟩ : ∃ x, Hid ((mgL a va vc).toArray = x) := ⟨_, rfl⟩
  obtain ⟨MB, HMB⟩ : ∃ x, Hid ((mgL b vb vd).toArray = x) := ⟨_, rfl⟩
  have sw : w.Since w.heap.size ((w.alloc (.cells MA 37)).alloc (.cells MB 37)) := ((World.Since.refl _ _).alloc (Nat.le_refl _) _).alloc (by simp) _
  have gA : ∀ i, i < 22 → MA[i]? = some (mgCell a va vc i) := fun i hi => by rw [← HMA.out]; exact mgL_get a va vc i hi
  have gB : ∀ i, i < 22 → MB[i]? = some (mgCell b vb vd i) := fun i hi => by rw [← HMB.out]; exact mgL_get b vb vd i hi
  have a0 : MA[0]? = some (.int .i64 (a.n 0)) := gA 0 (by decide)
  have b0 : MB[0]? = some (.int .i64 (b.n 0)) := gB 0 (by decide)
  rw [h0] at b0
  have a1 : MA[1]? = some (.int .i64 (a.n 1)) := gA 1 (by decide)
  have b1 : MB[1]? = some (.int .i64 (b.n 1)) := gB 1 (by decide)
  have a2 : MA[2]? = some (.int .i64 (a.n 2)) := gA 2 (by decide)
  have b2 : MB[2]? = some (.int .i64 (b.n 2)) := gB 2 (by decide)
  have a3 : MA[3]? = some (.int .i64 (a.n 3)) := gA 3 (by decide)
  have b3 : MB[3]? = some (.int .i64 (b.n 3)) := gB 3 (by decide)
  clear h0
  generalize a.n 0 = x0 at *
  generalize a.n 1 = x1 at *
  generalize b.n 1 = y1 at *
  generalize a.n 2 = x2 at *
  generalize b.n 2 = y2 at *
  generalize a.n 3 = x3 at *
  generalize b.n 3 = y3 at *
  have hne2 : (x1 == y1) = false := by rw [beq_eq_false_iff_ne]; exact hne
  have HS := hide sw
  clear sw gA gB
  unfold mgV
  rw [HMA.out, HMB.out]
  go_enter Tryz.func12, Tryz.ntmps12
  go_wp2_with fail
  go_ret
  exact ⟨rfl, HS.out⟩
end Go.Proofs.YtonpmabdjngdcaaGreatDoor

/- The document's EqMsg, by the first cell that differs. -/
namespace Go.Proofs.YtonpmabdjngdcaaGreatDoor
open Go.RowKit
set_option maxRecDepth 100000

set_option maxHeartbeats 4000000 in
theorem eqm2 (a b : Mg) (va vb : Option Addr) (vc vd : Nat) (w : World) (h0 : b.n 0 = a.n 0) (h1 : b.n 1 = a.n 1) (hne : a.n 2 ≠ b.n 2) :
    Calls Tryz.prog 12 #[mgV a va vc, mgV b vb vd] w fun e w' => e = .returned (.bool false) ∧ w.Since w.heap.size w' := by
  obtain ⟨MA, HMA⟩ : ∃ x, Hid ((mgL a va vc).toArray = x) := ⟨_, rfl⟩
  obtain ⟨MB, HMB⟩ : ∃ x, Hid ((mgL b vb vd).toArray = x) := ⟨_, rfl⟩
  have sw : w.Since w.heap.size ((w.alloc (.cells MA 37)).alloc (.cells MB 37)) := ((World.Since.refl _ _).alloc (Nat.le_refl _) _).alloc (by simp) _
  have gA : ∀ i, i < 22 → MA[i]? = some (mgCell a va vc i) := fun i hi => by rw [← HMA.out]; exact mgL_get a va vc i hi
  have gB : ∀ i, i < 22 → MB[i]? = some (mgCell b vb vd i) := fun i hi => by rw [← HMB.out]; exact mgL_get b vb vd i hi
  have a0 : MA[0]? = some (.int .i64 (a.n 0)) := gA 0 (by decide)
  have b0 : MB[0]? = some (.int .i64 (b.n 0)) := gB 0 (by decide)
  rw [h0] at b0
  have a1 : MA[1]? = some (.int .i64 (a.n 1)) := gA 1 (by decide)
  have b1 : MB[1]? = some (.int .i64 (b.n 1)) := gB 1 (by decide)
  rw [h1] at b1
  have a2 : MA[2]? = some (.int .i64 (a.n 2)) := gA 2 (by decide)
  have b2 : MB[2]? = some (.int .i64 (b.n 2)) := gB 2 (by decide)
  have a3 : MA[3]? = some (.int .i64 (a.n 3)) := gA 3 (by decide)
  have b3 : MB[3]? = some (.int .i64 (b.n 3)) := gB 3 (by decide)
  clear h0 h1
  generalize a.n 0 = x0 at *
  generalize a.n 1 = x1 at *
  generalize a.n 2 = x2 at *
  generalize b.n 2 = y2 at *
  generalize a.n 3 = x3 at *
  generalize b.n 3 = y3 at *
  have hne2 : (x2 == y2) = false := by rw [beq_eq_false_iff_ne]; exact hne
  have HS := hide sw
  clear sw gA gB
  unfold mgV
  rw [HMA.out, HMB.out]
  go_enter Tryz.func12, Tryz.ntmps12
  go_wp2_with fail
  go_ret
  exact ⟨rfl, HS.out⟩
end Go.Proofs.YtonpmabdjngdcaaGreatDoor

/- The document's EqMsg, by the first cell that differs. -/
namespace Go.Proofs.YtonpmabdjngdcaaGreatDoor
open Go.RowKit
set_option maxRecDepth 100000

set_option maxHeartbeats 4000000 in
theorem eqm3 (a b : Mg) (va vb : Option Addr) (vc vd : Nat) (w : World) (h0 : b.n 0 = a.n 0) (h1 : b.n 1 = a.n 1) (h2 : b.n 2 = a.n 2) (hne : a.n 3 ≠ b.n 3) :
    Calls Tryz.prog 12 #[mgV a va vc, mgV b vb vd] w fun e w' => e = .returned (.bool false) ∧ w.Since w.heap.size w' := by
  obtain ⟨MA, HMA⟩ : ∃ x, Hid ((mgL a va vc).toArray = x) := ⟨_, rfl⟩
  obtain ⟨MB, HMB⟩ : ∃ x, Hid ((mgL b vb vd).toArray = x) := ⟨_, rfl⟩
  have sw : w.Since w.heap.size ((w.alloc (.cells MA 37)).alloc (.cells MB 37)) := ((World.Since.refl _ _).alloc (Nat.le_refl _) _).alloc (by simp) _
  have gA : ∀ i, i < 22 → MA[i]? = some (mgCell a va vc i) := fun i hi => by rw [← HMA.out]; exact mgL_get a va vc i hi
  have gB : ∀ i, i < 22 → MB[i]? = some (mgCell b vb vd i) := fun i hi => by rw [← HMB.out]; exact mgL_get b vb vd i hi
  have a0 : MA[0]? = some (.int .i64 (a.n 0)) := gA 0 (by decide)
  have b0 : MB[0]? = some (.int .i64 (b.n 0)) := gB 0 (by decide)
  rw [h0] at b0
  have a1 : MA[1]? = some (.int .i64 (a.n 1)) := gA 1 (by decide)
  have b1 : MB[1]? = some (.int .i64 (b.n 1)) := gB 1 (by decide)
  rw [h1] at b1
  have a2 : MA[2]? = some (.int .i64 (a.n 2)) := gA 2 (by decide)
  have b2 : MB[2]? = some (.int .i64 (b.n 2)) := gB 2 (by decide)
  rw [h2] at b2
  have a3 : MA[3]? = some (.int .i64 (a.n 3)) := gA 3 (by decide)
  have b3 : MB[3]? = some (.int .i64 (b.n 3)) := gB 3 (by decide)
  clear h0 h1 h2
  generalize a.n 0 = x0 at *
  generalize a.n 1 = x1 at *
  generalize a.n 2 = x2 at *
  generalize a.n 3 = x3 at *
  generalize b.n 3 = y3 at *
  have hne2 : (x3 == y3) = false := by rw [beq_eq_false_iff_ne]; exact hne
  have HS := hide sw
  clear sw gA gB
  unfold mgV
  rw [HMA.out, HMB.out]
  go_enter Tryz.func12, Tryz.ntmps12
  go_wp2_with fail
  go_ret
  exact ⟨rfl, HS.out⟩
end Go.Proofs.YtonpmabdjngdcaaGreatDoor

/- The document's EqMsg, by the first cell that differs. -/
namespace Go.Proofs.YtonpmabdjngdcaaGreatDoor
open Go.RowKit
set_option maxRecDepth 100000

set_option maxHeartbeats 4000000 in
theorem eqm4 (a b : Mg) (va vb : Option Addr) (vc vd : Nat) (w : World) (h0 : b.n 0 = a.n 0) (h1 : b.n 1 = a.n 1) (h2 : b.n 2 = a.n 2) (h3 : b.n 3 = a.n 3) (hne : a.n 4 ≠ b.n 4) :
    Calls Tryz.prog 12 #[mgV a va vc, mgV b vb vd] w fun e w' => e = .returned (.bool false) ∧ w.Since w.heap.size w' := by
  obtain ⟨MA, HMA⟩ : ∃ x, Hid ((mgL a va vc).toArray = x) := ⟨_, rfl⟩
  obtain ⟨MB, HMB⟩ : ∃ x, Hid ((mgL b vb vd).toArray = x) := ⟨_, rfl⟩
  have sw : w.Since w.heap.size ((w.alloc (.cells MA 37)).alloc (.cells MB 37)) := ((World.Since.refl _ _).alloc (Nat.le_refl _) _).alloc (by simp) _
  have gA : ∀ i, i < 22 → MA[i]? = some (mgCell a va vc i) := fun i hi => by rw [← HMA.out]; exact mgL_get a va vc i hi
  have gB : ∀ i, i < 22 → MB[i]? = some (mgCell b vb vd i) := fun i hi => by rw [← HMB.out]; exact mgL_get b vb vd i hi
  have a0 : MA[0]? = some (.int .i64 (a.n 0)) := gA 0 (by decide)
  have b0 : MB[0]? = some (.int .i64 (b.n 0)) := gB 0 (by decide)
  rw [h0] at b0
  have a1 : MA[1]? = some (.int .i64 (a.n 1)) := gA 1 (by decide)
  have b1 : MB[1]? = some (.int .i64 (b.n 1)) := gB 1 (by decide)
  rw [h1] at b1
  have a2 : MA[2]? = some (.int .i64 (a.n 2)) := gA 2 (by decide)
  have b2 : MB[2]? = some (.int .i64 (b.n 2)) := gB 2 (by decide)
  rw [h2] at b2
  have a3 : MA[3]? = some (.int .i64 (a.n 3)) := gA 3 (by decide)
  have b3 : MB[3]? = some (.int .i64 (b.n 3)) := gB 3 (by decide)
  rw [h3] at b3
  have a4 : MA[4]? = some (.int .u64 (a.n 4)) := gA 4 (by decide)
  have b4 : MB[4]? = some (.int .u64 (b.n 4)) := gB 4 (by decide)
  clear h0 h1 h2 h3
  generalize a.n 0 = x0 at *
  generalize a.n 1 = x1 at *
  generalize a.n 2 = x2 at *
  generalize a.n 3 = x3 at *
  generalize a.n 4 = x4 at *
  generalize b.n 4 = y4 at *
  have hne2 : (x4 == y4) = false := by rw [beq_eq_false_iff_ne]; exact hne
  have HS := hide sw
  clear sw gA gB
  unfold mgV
  rw [HMA.out, HMB.out]
  go_enter Tryz.func12, Tryz.ntmps12
  go_wp2_with fail
  go_ret
  exact ⟨rfl, HS.out⟩
end Go.Proofs.YtonpmabdjngdcaaGreatDoor

/- The document's EqMsg, by the first cell that differs. -/
namespace Go.Proofs.YtonpmabdjngdcaaGreatDoor
open Go.RowKit
set_option maxRecDepth 100000

set_option maxHeartbeats 4000000 in
theorem eqm5 (a b : Mg) (va vb : Option Addr) (vc vd : Nat) (w : World) (h0 : b.n 0 = a.n 0) (h1 : b.n 1 = a.n 1) (h2 : b.n 2 = a.n 2) (h3 : b.n 3 = a.n 3) (h4 : b.n 4 = a.n 4) (hne : a.n 5 ≠ b.n 5) :
    Calls Tryz.prog 12 #[mgV a va vc, mgV b vb vd] w fun e w' => e = .returned (.bool false) ∧ w.Since w.heap.size w' := by
  obtain ⟨MA, HMA⟩ : ∃ x, Hid ((mgL a va vc).toArray = x) := ⟨_, rfl⟩
  obtain ⟨MB, HMB⟩ : ∃ x, Hid ((mgL b vb vd).toArray = x) := ⟨_, rfl⟩
  have sw : w.Since w.heap.size ((w.alloc (.cells MA 37)).alloc (.cells MB 37)) := ((World.Since.refl _ _).alloc (Nat.le_refl _) _).alloc (by simp) _
  have gA : ∀ i, i < 22 → MA[i]? = some (mgCell a va vc i) := fun i hi => by rw [← HMA.out]; exact mgL_get a va vc i hi
  have gB : ∀ i, i < 22 → MB[i]? = some (mgCell b vb vd i) := fun i hi => by rw [← HMB.out]; exact mgL_get b vb vd i hi
  have a0 : MA[0]? = some (.int .i64 (a.n 0)) := gA 0 (by decide)
  have b0 : MB[0]? = some (.int .i64 (b.n 0)) := gB 0 (by decide)
  rw [h0] at b0
  have a1 : MA[1]? = some (.int .i64 (a.n 1)) := gA 1 (by decide)
  have b1 : MB[1]? = some (.int .i64 (b.n 1)) := gB 1 (by decide)
  rw [h1] at b1
  have a2 : MA[2]? = some (.int .i64 (a.n 2)) := gA 2 (by decide)
  have b2 : MB[2]? = some (.int .i64 (b.n 2)) := gB 2 (by decide)
  rw [h2] at b2
  have a3 : MA[3]? = some (.int .i64 (a.n 3)) := gA 3 (by decide)
  have b3 : MB[3]? = some (.int .i64 (b.n 3)) := gB 3 (by decide)
  rw [h3] at b3
  have a4 : MA[4]? = some (.int .u64 (a.n 4)) := gA 4 (by decide)
  have b4 : MB[4]? = some (.int .u64 (b.n 4)) := gB 4 (by decide)
  rw [h4] at b4
  have a5 : MA[5]? = some (.int .u64 (a.n 5)) := gA 5 (by decide)
  have b5 : MB[5]? = some (.int .u64 (b.n 5)) := gB 5 (by decide)
  have a6 : MA[6]? = some (.int .u64 (a.n 6)) := gA 6 (by decide)
  have b6 : MB[6]? = some (.int .u64 (b.n 6)) := gB 6 (by decide)
  clear h0 h1 h2 h3 h4
  generalize a.n 0 = x0 at *
  generalize a.n 1 = x1 at *
  generalize a.n 2 = x2 at *
  generalize a.n 3 = x3 at *
  generalize a.n 4 = x4 at *
  generalize a.n 5 = x5 at *
  generalize b.n 5 = y5 at *
  generalize a.n 6 = x6 at *
  generalize b.n 6 = y6 at *
  have hne2 : (x5 == y5) = false := by rw [beq_eq_false_iff_ne]; exact hne
  have HS := hide sw
  clear sw gA gB
  unfold mgV
  rw [HMA.out, HMB.out]
  go_enter Tryz.func12, Tryz.ntmps12
  go_wp2_with fail
  go_ret
  exact ⟨rfl, HS.out⟩
end Go.Proofs.YtonpmabdjngdcaaGreatDoor

/- The document's EqMsg, by the first cell that differs. -/
namespace Go.Proofs.YtonpmabdjngdcaaGreatDoor
open Go.RowKit
set_option maxRecDepth 100000

set_option maxHeartbeats 4000000 in
theorem eqm6 (a b : Mg) (va vb : Option Addr) (vc vd : Nat) (w : World) (h0 : b.n 0 = a.n 0) (h1 : b.n 1 = a.n 1) (h2 : b.n 2 = a.n 2) (h3 : b.n 3 = a.n 3) (h4 : b.n 4 = a.n 4) (h5 : b.n 5 = a.n 5) (hne : a.n 6 ≠ b.n 6) :
    Calls Tryz.prog 12 #[mgV a va vc, mgV b vb vd] w fun e w' => e = .returned (.bool false) ∧ w.Since w.heap.size w' := by
  obtain ⟨MA, HMA⟩ : ∃ x, Hid ((mgL a va vc).toArray = x) := ⟨_, rfl⟩
  obtain ⟨MB, HMB⟩ : ∃ x, Hid ((mgL b vb vd).toArray = x) := ⟨_, rfl⟩
  have sw : w.Since w.heap.size ((w.alloc (.cells MA 37)).alloc (.cells MB 37)) := ((World.Since.refl _ _).alloc (Nat.le_refl _) _).alloc (by simp) _
  have gA : ∀ i, i < 22 → MA[i]? = some (mgCell a va vc i) := fun i hi => by rw [← HMA.out]; exact mgL_get a va vc i hi
  have gB : ∀ i, i < 22 → MB[i]? = some (mgCell b vb vd i) := fun i hi => by rw [← HMB.out]; exact mgL_get b vb vd i hi
  have a0 : MA[0]? = some (.int .i64 (a.n 0)) := gA 0 (by decide)
  have b0 : MB[0]? = some (.int .i64 (b.n 0)) := gB 0 (by decide)
  rw [h0] at b0
  have a1 : MA[1]? = some (.int .i64 (a.n 1)) := gA 1 (by decide)
  have b1 : MB[1]? = some (.int .i64 (b.n 1)) := gB 1 (by decide)
  rw [h1] at b1
  have a2 : MA[2]? = some (.int .i64 (a.n 2)) := gA 2 (by decide)
  have b2 : MB[2]? = some (.int .i64 (b.n 2)) := gB 2 (by decide)
  rw [h2] at b2
  have a3 : MA[3]? = some (.int .i64 (a.n 3)) := gA 3 (by decide)
  have b3 : MB[3]? = some (.int .i64 (b.n 3)) := gB 3 (by decide)
  rw [h3] at b3
  have a4 : MA[4]? = some (.int .u64 (a.n 4)) := gA 4 (by decide)
  have b4 : MB[4]? = some (.int .u64 (b.n 4)) := gB 4 (by decide)
  rw [h4] at b4
  have a5 : MA[5]? = some (.int .u64 (a.n 5)) := gA 5 (by decide)
  have b5 : MB[5]? = some (.int .u64 (b.n 5)) := gB 5 (by decide)
  rw [h5] at b5
  have a6 : MA[6]? = some (.int .u64 (a.n 6)) := gA 6 (by decide)
  have b6 : MB[6]? = some (.int .u64 (b.n 6)) := gB 6 (by decide)
  clear h0 h1 h2 h3 h4 h5
  generalize a.n 0 = x0 at *
  generalize a.n 1 = x1 at *
  generalize a.n 2 = x2 at *
  generalize a.n 3 = x3 at *
  generalize a.n 4 = x4 at *
  generalize a.n 5 = x5 at *
  generalize a.n 6 = x6 at *
  generalize b.n 6 = y6 at *
  have hne2 : (x6 == y6) = false := by rw [beq_eq_false_iff_ne]; exact hne
  have HS := hide sw
  clear sw gA gB
  unfold mgV
  rw [HMA.out, HMB.out]
  go_enter Tryz.func12, Tryz.ntmps12
  go_wp2_with fail
  go_ret
  exact ⟨rfl, HS.out⟩
end Go.Proofs.YtonpmabdjngdcaaGreatDoor
