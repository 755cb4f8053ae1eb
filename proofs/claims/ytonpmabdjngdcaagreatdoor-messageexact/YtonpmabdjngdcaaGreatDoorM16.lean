/- Own texts, joined: RefQ15, RefQ16, RefQ17, RefQ18, RefQ19, RefQ20, RefQ21, RefQ22. -/
import Derived.Test.YtonpmabdjngdcaaGreatDoorM15
import Derived.Test.YtonpmabdjngdcaaGreatDoorM7

/- The document's EqMsg, by the first cell that differs. -/
namespace Go.Proofs.YtonpmabdjngdcaaGreatDoor
open Go.RowKit
set_option maxRecDepth 100000

set_option maxHeartbeats 4000000 in
theorem eqm15 (a b : Mg) (va vb : Option Addr) (vc vd : Nat) (w : World) (h0 : b.n 0 = a.n 0) (h1 : b.n 1 = a.n 1) (h2 : b.n 2 = a.n 2) (h3 : b.n 3 = a.n 3) (h4 : b.n 4 = a.n 4) (h5 : b.n 5 = a.n 5) (h6 : b.n 6 = a.n 6) (h7 : b.n 7 = a.n 7) (h8 : b.n 8 = a.n 8) (h9 : b.n 9 = a.n 9) (h11 : b.n 11 = a.n 11) (h12 : b.n 12 = a.n 12) (h13 : b.s 13 = a.s 13) (h14 : b.s 14 = a.s 14) (hne : a.n 15 ≠ b.n 15) (hcm : ∀ W, w.Since w.heap.size W → Calls Tryz.prog 43 #[.slice va (a.s 10).length vc, .slice vb (b.s 10).length vd] W fun e w' => e = .returned (.int .i64 0) ∧ ∃ m, w' = W.drewN m) :
    Calls Tryz.prog 12 #[mgV a va vc, mgV b vb vd] w fun e w' => e = .returned (.bool false) ∧ w.Since w.heap.size w' := by
  obtain ⟨MA, HMA⟩ : ∃ x, Hid ((mgL a va vc).toArray = x) := ⟨_, rfl⟩
  obtain ⟨MB, HMB⟩ : ∃ x, Hid ((mgL b vb vd).toArray = x) := ⟨_, rfl⟩
  have sw : w.Since w.heap.size ((w.alloc (.cells MA 37)).alloc (.cells MB 37)) := ((World.Since.refl _ _).alloc (Nat.le_refl _) _).alloc (by simp) _
  have gA : ∀ i, i < 22 → MA[i]? = some (mgCell a va vc i) := fun i hi => by rw [← HMA.out]; exact mgL_get a va vc i hi
  have gB : ∀ i, i < 22 → MB[i]? = some (mgCell b vb vd i) := fun i hi => by rw [← HMB.out]; exact mgL_get b vb vd i hi
  have a0 : MA[0]? = some (.int .i64 (a.n 0)) := gA 0 (by decide)
  have b0 : MB[0]? = some (.int .i64 (b.n 0)) := gB 0 (by decide)
  rw [h0] at b0
  have a1 : MA[1]? = some (.int .i64 (a.n 1)) := gA 1 (by decide)
  have b1 : MB[1]? = some (.int .i64 (b.n 1)) := gB 1 (by decide)
  rw [h1] at b1
  have a2 : MA[2]? = some (.int .i64 (a.n 2)) := gA 2 (by decide)
  have b2 : MB[2]? = some (.int .i64 (b.n 2)) := gB 2 (by decide)
  rw [h2] at b2
  have a3 : MA[3]? = some (.int .i64 (a.n 3)) := gA 3 (by decide)
  have b3 : MB[3]? = some (.int .i64 (b.n 3)) := gB 3 (by decide)
  rw [h3] at b3
  have a4 : MA[4]? = some (.int .u64 (a.n 4)) := gA 4 (by decide)
  have b4 : MB[4]? = some (.int .u64 (b.n 4)) := gB 4 (by decide)
  rw [h4] at b4
  have a5 : MA[5]? = some (.int .u64 (a.n 5)) := gA 5 (by decide)
  have b5 : MB[5]? = some (.int .u64 (b.n 5)) := gB 5 (by decide)
  rw [h5] at b5
  have a6 : MA[6]? = some (.int .u64 (a.n 6)) := gA 6 (by decide)
  have b6 : MB[6]? = some (.int .u64 (b.n 6)) := gB 6 (by decide)
  rw [h6] at b6
  have a7 : MA[7]? = some (.int .u64 (a.n 7)) := gA 7 (by decide)
  have b7 : MB[7]? = some (.int .u64 (b.n 7)) := gB 7 (by decide)
  rw [h7] at b7
  have a8 : MA[8]? = some (.int .i64 (a.n 8)) := gA 8 (by decide)
  have b8 : MB[8]? = some (.int .i64 (b.n 8)) := gB 8 (by decide)
  rw [h8] at b8
  have a9 : MA[9]? = some (.int .u64 (a.n 9)) := gA 9 (by decide)
  have b9 : MB[9]? = some (.int .u64 (b.n 9)) := gB 9 (by decide)
  rw [h9] at b9
  have a10 : MA[10]? = some (.slice va (a.s 10).length vc) := gA 10 (by decide)
  have b10 : MB[10]? = some (.slice vb (b.s 10).length vd) := gB 10 (by decide)
  have a11 : MA[11]? = some (.int .i64 (a.n 11)) := gA 11 (by decide)
  have b11 : MB[11]? = some (.int .i64 (b.n 11)) := gB 11 (by decide)
  rw [h11] at b11
  have a12 : MA[12]? = some (.int .u64 (a.n 12)) := gA 12 (by decide)
  have b12 : MB[12]? = some (.int .u64 (b.n 12)) := gB 12 (by decide)
  rw [h12] at b12
  have a13 : MA[13]? = some (.string (strL (a.s 13))) := gA 13 (by decide)
  have b13 : MB[13]? = some (.string (strL (b.s 13))) := gB 13 (by decide)
  rw [h13] at b13
  have a14 : MA[14]? = some (.string (strL (a.s 14))) := gA 14 (by decide)
  have b14 : MB[14]? = some (.string (strL (b.s 14))) := gB 14 (by decide)
  rw [h14] at b14
  have a15 : MA[15]? = some (.int .u64 (a.n 15)) := gA 15 (by decide)
  have b15 : MB[15]? = some (.int .u64 (b.n 15)) := gB 15 (by decide)
  clear h0 h1 h2 h3 h4 h5 h6 h7 h8 h9 h11 h12 h13 h14
  generalize a.n 0 = x0 at *
  generalize a.n 1 = x1 at *
  generalize a.n 2 = x2 at *
  generalize a.n 3 = x3 at *
  generalize a.n 4 = x4 at *
  generalize a.n 5 = x5 at *
  generalize a.n 6 = x6 at *
  generalize a.n 7 = x7 at *
  generalize a.n 8 = x8 at *
  generalize a.n 9 = x9 at *
  generalize a.n 11 = x11 at *
  generalize a.n 12 = x12 at *
  generalize strL (a.s 13) = s13 at *
  generalize strL (a.s 14) = s14 at *
  generalize a.n 15 = x15 at *
  generalize b.n 15 = y15 at *
  have hne2 : (x15 == y15) = false := by rw [beq_eq_false_iff_ne]; exact hne
  have HCM := hide (hcm _ sw)
  clear hcm
  have HS := hide sw
  clear sw gA gB
  unfold mgV
  rw [HMA.out, HMB.out]
  go_enter Tryz.func12, Tryz.ntmps12
  go_wp2_with fail
  refine HCM.out.mono ?_
  rintro e w3 ⟨rfl, q, e3⟩
  subst e3
  have HS3 : Hid (w.Since w.heap.size (((w.alloc (.cells MA 37)).alloc (.cells MB 37)).drewN q)) := since_drewN' HS.out q
  clear HCM
  go_wp2_with fail
  go_ret
  exact ⟨rfl, HS3.out⟩
end Go.Proofs.YtonpmabdjngdcaaGreatDoor

/- The document's EqMsg, by the first cell that differs. -/
namespace Go.Proofs.YtonpmabdjngdcaaGreatDoor
open Go.RowKit
set_option maxRecDepth 100000

set_option maxHeartbeats 4000000 in
theorem eqm16 (a b : Mg) (va vb : Option Addr) (vc vd : Nat) (w : World) (h0 : b.n 0 = a.n 0) (h1 : b.n 1 = a.n 1) (h2 : b.n 2 = a.n 2) (h3 : b.n 3 = a.n 3) (h4 : b.n 4 = a.n 4) (h5 : b.n 5 = a.n 5) (h6 : b.n 6 = a.n 6) (h7 : b.n 7 = a.n 7) (h8 : b.n 8 = a.n 8) (h9 : b.n 9 = a.n 9) (h11 : b.n 11 = a.n 11) (h12 : b.n 12 = a.n 12) (h13 : b.s 13 = a.s 13) (h14 : b.s 14 = a.s 14) (h15 : b.n 15 = a.n 15) (hne : a.n 16 ≠ b.n 16) (hcm : ∀ W, w.Since w.heap.size W → Calls Tryz.prog 43 #[.slice va (a.s 10).length vc, .slice vb (b.s 10).length vd] W fun e w' => e = .returned (.int .i64 0) ∧ ∃ m, w' = W.drewN m) :
    Calls Tryz.prog 12 #[mgV a va vc, mgV b vb vd] w fun e w' => e = .returned (.bool false) ∧ w.Since w.heap.size w' := by
  obtain ⟨MA, HMA⟩ : ∃ x, Hid ((mgL a va vc).toArray = x) := ⟨_, rfl⟩
  obtain ⟨MB, HMB⟩ : ∃ x, Hid ((mgL b vb vd).toArray = x) := ⟨_, rfl⟩
  have sw : w.Since w.heap.size ((w.alloc (.cells MA 37)).alloc (.cells MB 37)) := ((World.Since.refl _ _).alloc (Nat.le_refl _) _).alloc (by simp) _
  have gA : ∀ i, i < 22 → MA[i]? = some (mgCell a va vc i) := fun i hi => by rw [← HMA.out]; exact mgL_get a va vc i hi
  have gB : ∀ i, i < 22 → MB[i]? = some (mgCell b vb vd i) := fun i hi => by rw [← HMB.out]; exact mgL_get b vb vd i hi
  have a0 : MA[0]? = some (.int .i64 (a.n 0)) := gA 0 (by decide)
  have b0 : MB[0]? = some (.int .i64 (b.n 0)) := gB 0 (by decide)
  rw [h0] at b0
  have a1 : MA[1]? = some (.int .i64 (a.n 1)) := gA 1 (by decide)
  have b1 : MB[1]? = some (.int .i64 (b.n 1)) := gB 1 (by decide)
  rw [h1] at b1
  have a2 : MA[2]? = some (.int .i64 (a.n 2)) := gA 2 (by decide)
  have b2 : MB[2]? = some (.int .i64 (b.n 2)) := gB 2 (by decide)
  rw [h2] at b2
  have a3 : MA[3]? = some (.int .i64 (a.n 3)) := gA 3 (by decide)
  have b3 : MB[3]? = some (.int .i64 (b.n 3)) := gB 3 (by decide)
  rw [h3] at b3
  have a4 : MA[4]? = some (.int .u64 (a.n 4)) := gA 4 (by decide)
  have b4 : MB[4]? = some (.int .u64 (b.n 4)) := gB 4 (by decide)
  rw [h4] at b4
  have a5 : MA[5]? = some (.int .u64 (a.n 5)) := gA 5 (by decide)
  have b5 : MB[5]? = some (.int .u64 (b.n 5)) := gB 5 (by decide)
  rw [h5] at b5
  have a6 : MA[6]? = some (.int .u64 (a.n 6)) := gA 6 (by decide)
  have b6 : MB[6]? = some (.int .u64 (b.n 6)) := gB 6 (by decide)
  rw [h6] at b6
  have a7 : MA[7]? = some (.int .u64 (a.n 7)) := gA 7 (by decide)
  have b7 : MB[7]? = some (.int .u64 (b.n 7)) := gB 7 (by decide)
  rw [h7] at b7
  have a8 : MA[8]? = some (.int .i64 (a.n 8)) := gA 8 (by decide)
  have b8 : MB[8]? = some (.int .i64 (b.n 8)) := gB 8 (by decide)
  rw [h8] at b8
  have a9 : MA[9]? = some (.int .u64 (a.n 9)) := gA 9 (by decide)
  have b9 : MB[9]? = some (.int .u64 (b.n 9)) := gB 9 (by decide)
  rw [h9] at b9
  have a10 : MA[10]? = some (.slice va (a.s 10).length vc) := gA 10 (by decide)
  have b10 : MB[10]? = some (.slice vb (b.s 10).length vd) := gB 10 (by decide)
  have a11 : MA[11]? = some (.int .i64 (a.n 11)) := gA 11 (by decide)
  have b11 : MB[11]? = some (.int .i64 (b.n 11)) := gB 11 (by decide)
  rw [h11] at b11
  have a12 : MA[12]? = some (.int .u64 (a.n 12)) := gA 12 (by decide)
  have b12 : MB[12]? = some (.int .u64 (b.n 12)) := gB 12 (by decide)
  rw [h12] at b12
  have a13 : MA[13]? = some (.string (strL (a.s 13))) := gA 13 (by decide)
  have b13 : MB[13]? = some (.string (strL (b.s 13))) := gB 13 (by decide)
  rw [h13] at b13
  have a14 : MA[14]? = some (.string (strL (a.s 14))) := gA 14 (by decide)
  have b14 : MB[14]? = some (.string (strL (b.s 14))) := gB 14 (by decide)
  rw [h14] at b14
  have a15 : MA[15]? = some (.int .u64 (a.n 15)) := gA 15 (by decide)
  have b15 : MB[15]? = some (.int .u64 (b.n 15)) := gB 15 (by decide)
  rw [h15] at b15
  have a16 : MA[16]? = some (.int .u64 (a.n 16)) := gA 16 (by decide)
  have b16 : MB[16]? = some (.int .u64 (b.n 16)) := gB 16 (by decide)
  have a17 : MA[17]? = some (.int .u64 (a.n 17)) := gA 17 (by decide)
  have b17 : MB[17]? = some (.int .u64 (b.n 17)) := gB 17 (by decide)
  clear h0 h1 h2 h3 h4 h5 h6 h7 h8 h9 h11 h12 h13 h14 h15
  generalize a.n 0 = x0 at *
  generalize a.n 1 = x1 at *
  generalize a.n 2 = x2 at *
  generalize a.n 3 = x3 at *
  generalize a.n 4 = x4 at *
  generalize a.n 5 = x5 at *
  generalize a.n 6 = x6 at *
  generalize a.n 7 = x7 at *
  generalize a.n 8 = x8 at *
  generalize a.n 9 = x9 at *
  generalize a.n 11 = x11 at *
  generalize a.n 12 = x12 at *
  generalize strL (a.s 13) = s13 at *
  generalize strL (a.s 14) = s14 at *
  generalize a.n 15 = x15 at *
  generalize a.n 16 = x16 at *
  generalize b.n 16 = y16 at *
  generalize a.n 17 = x17 at *
  generalize b.n 17 = y17 at *
  have hne2 : (x16 == y16) = false := by rw [beq_eq_false_iff_ne]; exact hne
  have HCM := hide (hcm _ sw)
  clear hcm
  have HS := hide sw
  clear sw gA gB
  unfold mgV
  rw [HMA.out, HMB.out]
  go_enter Tryz.func12, Tryz.ntmps12
  go_wp2_with fail
  refine HCM.out.mono ?_
  rintro e w3 ⟨rfl, q, e3⟩
  subst e3
  have HS3 : Hid (w.Since w.heap.size (((w.alloc (.cells MA 37)).alloc (.cells MB 37)).drewN q)) := since_drewN' HS.out q
  clear HCM
  go_wp2_with fail
  go_ret
  exact ⟨rfl, HS3.out⟩
end Go.Proofs.YtonpmabdjngdcaaGreatDoor

/- The document's EqMsg, by the first cell that differs. -/
namespace Go.Proofs.YtonpmabdjngdcaaGreatDoor
open Go.RowKit
set_option maxRecDepth 100000

set_option maxHeartbeats 4000000 in
theorem eqm17 (a b : Mg) (va vb : Option Addr) (vc vd : Nat) (w : World) (h0 : b.n 0 = a.n 0) (h1 : b.n 1 = a.n 1) (h2 : b.n 2 = a.n 2) (h3 : b.n 3 = a.n 3) (h4 : b.n 4 = a.n 4) (h5 : b.n 5 = a.n 5) (h6 : b.n 6 = a.n 6) (h7 : b.n 7 = a.n 7) (h8 : b.n 8 = a.n 8) (h9 : b.n 9 = a.n 9) (h11 : b.n 11 = a.n 11) (h12 : b.n 12 = a.n 12) (h13 : b.s 13 = a.s 13) (h14 : b.s 14 = a.s 14) (h15 : b.n 15 = a.n 15) (h16 : b.n 16 = a.n 16) (hne : a.n 17 ≠ b.n 17) (hcm : ∀ W, w.Since w.heap.size W → Calls Tryz.prog 43 #[.slice va (a.s 10).length vc, .slice vb (b.s 10).length vd] W fun e w' => e = .returned (.int .i64 0) ∧ ∃ m, w' = W.drewN m) :
    Calls Tryz.prog 12 #[mgV a va vc, mgV b vb vd] w fun e w' => e = .returned (.bool false) ∧ w.Since w.heap.size w' := by
  obtain ⟨MA, HMA⟩ : ∃ x, Hid ((mgL a va vc).toArray = x) := ⟨_, rfl⟩
  obtain ⟨MB, HMB⟩ : ∃ x, Hid ((mgL b vb vd).toArray = x) := ⟨_, rfl⟩
  have sw : w.Since w.heap.size ((w.alloc (.cells MA 37)).alloc (.cells MB 37)) := ((World.Since.refl _ _).alloc (Nat.le_refl _) _).alloc (by simp) _
  have gA : ∀ i, i < 22 → MA[i]? = some (mgCell a va vc i) := fun i hi => by rw [← HMA.out]; exact mgL_get a va vc i hi
  have gB : ∀ i, i < 22 → MB[i]? = some (mgCell b vb vd i) := fun i hi => by rw [← HMB.out]; exact mgL_get b vb vd i hi
  have a0 : MA[0]? = some (.int .i64 (a.n 0)) := gA 0 (by decide)
  have b0 : MB[0]? = some (.int .i64 (b.n 0)) := gB 0 (by decide)
  rw [h0] at b0
  have a1 : MA[1]? = some (.int .i64 (a.n 1)) := gA 1 (by decide)
  have b1 : MB[1]? = some (.int .i64 (b.n 1)) := gB 1 (by decide)
  rw [h1] at b1
  have a2 : MA[2]? = some (.int .i64 (a.n 2)) := gA 2 (by decide)
  have b2 : MB[2]? = some (.int .i64 (b.n 2)) := gB 2 (by decide)
  rw [h2] at b2
  have a3 : MA[3]? = some (.int .i64 (a.n 3)) := gA 3 (by decide)
  have b3 : MB[3]? = some (.int .i64 (b.n 3)) := gB 3 (by decide)
  rw [h3] at b3
  have a4 : MA[4]? = some (.int .u64 (a.n 4)) := gA 4 (by decide)
  have b4 : MB[4]? = some (.int .u64 (b.n 4)) := gB 4 (by decide)
  rw [h4] at b4
  have a5 : MA[5]? = some (.int .u64 (a.n 5)) := gA 5 (by decide)
  have b5 : MB[5]? = some (.int .u64 (b.n 5)) := gB 5 (by decide)
  rw [h5] at b5
  have a6 : MA[6]? = some (.int .u64 (a.n 6)) := gA 6 (by decide)
  have b6 : MB[6]? = some (.int .u64 (b.n 6)) := gB 6 (by decide)
  rw [h6] at b6
  have a7 : MA[7]? = some (.int .u64 (a.n 7)) := gA 7 (by decide)
  have b7 : MB[7]? = some (.int .u64 (b.n 7)) := gB 7 (by decide)
  rw [h7] at b7
  have a8 : MA[8]? = some (.int .i64 (a.n 8)) := gA 8 (by decide)
  have b8 : MB[8]? = some (.int .i64 (b.n 8)) := gB 8 (by decide)
  rw [h8] at b8
  have a9 : MA[9]? = some (.int .u64 (a.n 9)) := gA 9 (by decide)
  have b9 : MB[9]? = some (.int .u64 (b.n 9)) := gB 9 (by decide)
  rw [h9] at b9
  have a10 : MA[10]? = some (.slice va (a.s 10).length vc) := gA 10 (by decide)
  have b10 : MB[10]? = some (.slice vb (b.s 10).length vd) := gB 10 (by decide)
  have a11 : MA[11]? = some (.int .i64 (a.n 11)) := gA 11 (by decide)
  have b11 : MB[11]? = some (.int .i64 (b.n 11)) := gB 11 (by decide)
  rw [h11] at b11
  have a12 : MA[12]? = some (.int .u64 (a.n 12)) := gA 12 (by decide)
  have b12 : MB[12]? = some (.int .u64 (b.n 12)) := gB 12 (by decide)
  rw [h12] at b12
  have a13 : MA[13]? = some (.string (strL (a.s 13))) := gA 13 (by decide)
  have b13 : MB[13]? = some (.string (strL (b.s 13))) := gB 13 (by decide)
  rw [h13] at b13
  have a14 : MA[14]? = some (.string (strL (a.s 14))) := gA 14 (by decide)
  have b14 : MB[14]? = some (.string (strL (b.s 14))) := gB 14 (by decide)
  rw [h14] at b14
  have a15 : MA[15]? = some (.int .u64 (a.n 15)) := gA 15 (by decide)
  have b15 : MB[15]? = some (.int .u64 (b.n 15)) := gB 15 (by decide)
  rw [h15] at b15
  have a16 : MA[16]? = some (.int .u64 (a.n 16)) := gA 16 (by decide)
  have b16 : MB[16]? = some (.int .u64 (b.n 16)) := gB 16 (by decide)
  rw [h16] at b16
  have a17 : MA[17]? = some (.int .u64 (a.n 17)) := gA 17 (by decide)
  have b17 : MB[17]? = some (.int .u64 (b.n 17)) := gB 17 (by decide)
  clear h0 h1 h2 h3 h4 h5 h6 h7 h8 h9 h11 h12 h13 h14 h15 h16
  generalize a.n 0 = x0 at *
  generalize a.n 1 = x1 at *
  generalize a.n 2 = x2 at *
  generalize a.n 3 = x3 at *
  generalize a.n 4 = x4 at *
  generalize a.n 5 = x5 at *
  generalize a.n 6 = x6 at *
  generalize a.n 7 = x7 at *
  generalize a.n 8 = x8 at *
  generalize a.n 9 = x9 at *
  generalize a.n 11 = x11 at *
  generalize a.n 12 = x12 at *
  generalize strL (a.s 13) = s13 at *
  generalize strL (a.s 14) = s14 at *
  generalize a.n 15 = x15 at *
  generalize a.n 16 = x16 at *
  generalize a.n 17 = x17 at *
  generalize b.n 17 = y17 at *
  have hne2 : (x17 == y17) = false := by rw [beq_eq_false_iff_ne]; exact hne
  have HCM := hide (hcm _ sw)
  clear hcm
  have HS := hide sw
  clear sw gA gB
  unfold mgV
  rw [HMA.out, HMB.out]
  go_enter Tryz.func12, Tryz.ntmps12
  go_wp2_with fail
  refine HCM.out.mono ?_
  rintro e w3 ⟨rfl, q, e3⟩
  subst e3
  have HS3 : Hid (w.Since w.heap.size (((w.alloc (.cells MA 37)).alloc (.cells MB 37)).drewN q)) := since_drewN' HS.out q
  clear HCM
  go_wp2_with fail
  go_ret
  exact ⟨rfl, HS3.out⟩
end Go.Proofs.YtonpmabdjngdcaaGreatDoor

/- The document's EqMsg, by the first cell that differs. -/
namespace Go.Proofs.YtonpmabdjngdcaaGreatDoor
open Go.RowKit
set_option maxRecDepth 100000

set_option maxHeartbeats 4000000 in
theorem eqm18 (a b : Mg) (va vb : Option Addr) (vc vd : Nat) (w : World) (h0 : b.n 0 = a.n 0) (h1 : b.n 1 = a.n 1) (h2 : b.n 2 = a.n 2) (h3 : b.n 3 = a.n 3) (h4 : b.n 4 = a.n 4) (h5 : b.n 5 = a.n 5) (h6 : b.n 6 = a.n 6) (h7 : b.n 7 = a.n 7) (h8 : b.n 8 = a.n 8) (h9 : b.n 9 = a.n 9) (h11 : b.n 11 = a.n 11) (h12 : b.n 12 = a.n 12) (h13 : b.s 13 = a.s 13) (h14 : b.s 14 = a.s 14) (h15 : b.n 15 = a.n 15) (h16 : b.n 16 = a.n 16) (h17 : b.n 17 = a.n 17) (hne : a.n 18 ≠ b.n 18) (hcm : ∀ W, w.Since w.heap.size W → Calls Tryz.prog 43 #[.slice va (a.s 10).length vc, .slice vb (b.s 10).length vd] W fun e w' => e = .returned (.int .i64 0) ∧ ∃ m, w' = W.drewN m) :
    Calls Tryz.prog 12 #[mgV a va vc, mgV b vb vd] w fun e w' => e = .returned (.bool false) ∧ w.Since w.heap.size w' := by
  obtain ⟨MA, HMA⟩ : ∃ x, Hid ((mgL a va vc).toArray = x) := ⟨_, rfl⟩
  obtain ⟨MB, HMB⟩ : ∃ x, Hid ((mgL b vb vd).toArray = x) := ⟨_, rfl⟩
  have sw : w.Since w.heap.size ((w.alloc (.cells MA 37)).alloc (.cells MB 37)) := ((World.Since.refl _ _).alloc (Nat.le_refl _) _).alloc (by simp) _
  have gA : ∀ i, i < 22 → MA[i]? = some (mgCell a va vc i) := fun i hi => by rw [← HMA.out]; exact mgL_get a va vc i hi
  have gB : ∀ i, i < 22 → MB[i]? = some (mgCell b vb vd i) := fun i hi => by rw [← HMB.out]; exact mgL_get b vb vd i hi
  have a0 : MA[0]? = some (.int .i64 (a.n 0)) := gA 0 (by decide)
  have b0 : MB[0]? = some (.int .i64 (b.n 0)) := gB 0 (by decide)
  rw [h0] at b0
  have a1 : MA[1]? = some (.int .i64 (a.n 1)) := gA 1 (by decide)
  have b1 : MB[1]? = some (.int .i64 (b.n 1)) := gB 1 (by decide)
  rw [h1] at b1
  have a2 : MA[2]? = some (.int .i64 (a.n 2)) := gA 2 (by decide)
  have b2 : MB[2]? = some (.int .i64 (b.n 2)) := gB 2 (by decide)
  rw [h2] at b2
  have a3 : MA[3]? = some (.int .i64 (a.n 3)) := gA 3 (by decide)
  have b3 : MB[3]? = some (.int .i64 (b.n 3)) := gB 3 (by decide)
  rw [h3] at b3
  have a4 : MA[4]? = some (.int .u64 (a.n 4)) := gA 4 (by decide)
  have b4 : MB[4]? = some (.int .u64 (b.n 4)) := gB 4 (by decide)
  rw [h4] at b4
  have a5 : MA[5]? = some (.int .u64 (a.n 5)) := gA 5 (by decide)
  have b5 : MB[5]? = some (.int .u64 (b.n 5)) := gB 5 (by decide)
  rw [h5] at b5
  have a6 : MA[6]? = some (.int .u64 (a.n 6)) := gA 6 (by decide)
  have b6 : MB[6]? = some (.int .u64 (b.n 6)) := gB 6 (by decide)
  rw [h6] at b6
  have a7 : MA[7]? = some (.int .u64 (a.n 7)) := gA 7 (by decide)
  have b7 : MB[7]? = some (.int .u64 (b.n 7)) := gB 7 (by decide)
  rw [h7] at b7
  have a8 : MA[8]? = some (.int .i64 (a.n 8)) := gA 8 (by decide)
  have b8 : MB[8]? = some (.int .i64 (b.n 8)) := gB 8 (by decide)
  rw [h8] at b8
  have a9 : MA[9]? = some (.int .u64 (a.n 9)) := gA 9 (by decide)
  have b9 : MB[9]? = some (.int .u64 (b.n 9)) := gB 9 (by decide)
  rw [h9] at b9
  have a10 : MA[10]? = some (.slice va (a.s 10).length vc) := gA 10 (by decide)
  have b10 : MB[10]? = some (.slice vb (b.s 10).length vd) := gB 10 (by decide)
  have a11 : MA[11]? = some (.int .i64 (a.n 11)) := gA 11 (by decide)
  have b11 : MB[11]? = some (.int .i64 (b.n 11)) := gB 11 (by decide)
  rw [h11] at b11
  have a12 : MA[12]? = some (.int .u64 (a.n 12)) := gA 12 (by decide)
  have b12 : MB[12]? = some (.int .u64 (b.n 12)) := gB 12 (by decide)
  rw [h12] at b12
  have a13 : MA[13]? = some (.string (strL (a.s 13))) := gA 13 (by decide)
  have b13 : MB[13]? = some (.string (strL (b.s 13))) := gB 13 (by decide)
  rw [h13] at b13
  have a14 : MA[14]? = some (.string (strL (a.s 14))) := gA 14 (by decide)
  have b14 : MB[14]? = some (.string (strL (b.s 14))) := gB 14 (by decide)
  rw [h14] at b14
  have a15 : MA[15]? = some (.int .u64 (a.n 15)) := gA 15 (by decide)
  have b15 : MB[15]? = some (.int .u64 (b.n 15)) := gB 15 (by decide)
  rw [h15] at b15
  have a16 : MA[16]? = some (.int .u64 (a.n 16)) := gA 16 (by decide)
  have b16 : MB[16]? = some (.int .u64 (b.n 16)) := gB 16 (by decide)
  rw [h16] at b16
  have a17 : MA[17]? = some (.int .u64 (a.n 17)) := gA 17 (by decide)
  have b17 : MB[17]? = some (.int .u64 (b.n 17)) := gB 17 (by decide)
  rw [h17] at b17
  have a18 : MA[18]? = some (.int .i64 (a.n 18)) := gA 18 (by decide)
  have b18 : MB[18]? = some (.int .i64 (b.n 18)) := gB 18 (by decide)
  clear h0 h1 h2 h3 h4 h5 h6 h7 h8 h9 h11 h12 h13 h14 h15 h16 h17
  generalize a.n 0 = x0 at *
  generalize a.n 1 = x1 at *
  generalize a.n 2 = x2 at *
  generalize a.n 3 = x3 at *
  generalize a.n 4 = x4 at *
  generalize a.n 5 = x5 at *
  generalize a.n 6 = x6 at *
  generalize a.n 7 = x7 at *
  generalize a.n 8 = x8 at *
  generalize a.n 9 = x9 at *
  generalize a.n 11 = x11 at *
  generalize a.n 12 = x12 at *
  generalize strL (a.s 13) = s13 at *
  generalize strL (a.s 14) = s14 at *
  generalize a.n 15 = x15 at *
  generalize a.n 16 = x16 at *
  generalize a.n 17 = x17 at *
  generalize a.n 18 = x18 at *
  generalize b.n 18 = y18 at *
  have hne2 : (x18 == y18) = false := by rw [beq_eq_false_iff_ne]; exact hne
  have HCM := hide (hcm _ sw)
  clear hcm
  have HS := hide sw
  clear sw gA gB
  unfold mgV
  rw [HMA.out, HMB.out]
  go_enter Tryz.func12, Tryz.ntmps12
  go_wp2_with fail
  refine HCM.out.mono ?_
  rintro e w3 ⟨rfl, q, e3⟩
  subst e3
  have HS3 : Hid (w.Since w.heap.size (((w.alloc (.cells MA 37)).alloc (.cells MB 37)).drewN q)) := since_drewN' HS.out q
  clear HCM
  go_wp2_with fail
  go_ret
  exact ⟨rfl, HS3.out⟩
end Go.Proofs.YtonpmabdjngdcaaGreatDoor

/- The document's EqMsg, by the first cell that differs. -/
namespace Go.Proofs.YtonpmabdjngdcaaGreatDoor
open Go.RowKit
set_option maxRecDepth 100000

set_option maxHeartbeats 4000000 in
theorem eqm19 (a b : Mg) (va vb : Option Addr) (vc vd : Nat) (w : World) (h0 : b.n 0 = a.n 0) (h1 : b.n 1 = a.n 1) (h2 : b.n 2 = a.n 2) (h3 : b.n 3 = a.n 3) (h4 : b.n 4 = a.n 4) (h5 : b.n 5 = a.n 5) (h6 : b.n 6 = a.n 6) (h7 : b.n 7 = a.n 7) (h8 : b.n 8 = a.n 8) (h9 : b.n 9 = a.n 9) (h11 : b.n 11 = a.n 11) (h12 : b.n 12 = a.n 12) (h13 : b.s 13 = a.s 13) (h14 : b.s 14 = a.s 14) (h15 : b.n 15 = a.n 15) (h16 : b.n 16 = a.n 16) (h17 : b.n 17 = a.n 17) (h18 : b.n 18 = a.n 18) (hne : a.n 19 ≠ b.n 19) (hcm : ∀ W, w.Since w.heap.size W → Calls Tryz.prog 43 #[.slice va (a.s 10).length vc, .slice vb (b.s 10).length vd] W fun e w' => e = .returned (.int .i64 0) ∧ ∃ m, w' = W.drewN m) :
    Calls Tryz.prog 12 #[mgV a va vc, mgV b vb vd] w fun e w' => e = .returned (.bool false) ∧ w.Since w.heap.size w' := by
  obtain ⟨MA, HMA⟩ : ∃ x, Hid ((mgL a va vc).toArray = x) := ⟨_, rfl⟩
  obtain ⟨MB, HMB⟩ : ∃ x, Hid ((mgL b vb vd).toArray = x) := ⟨_, rfl⟩
  have sw : w.Since w.heap.size ((w.alloc (.cells MA 37)).alloc (.cells MB 37)) := ((World.Since.refl _ _).alloc (Nat.le_refl _) _).alloc (by simp) _
  have gA : ∀ i, i < 22 → MA[i]? = some (mgCell a va vc i) := fun i hi => by rw [← HMA.out]; exact mgL_get a va vc i hi
  have gB : ∀ i, i < 22 → MB[i]? = some (mgCell b vb vd i) := fun i hi => by rw [← HMB.out]; exact mgL_get b vb vd i hi
  have a0 : MA[0]? = some (.int .i64 (a.n 0)) := gA 0 (by decide)
  have b0 : MB[0]? = some (.int .i64 (b.n 0)) := gB 0 (by decide)
  rw [h0] at b0
  have a1 : MA[1]? = some (.int .i64 (a.n 1)) := gA 1 (by decide)
  have b1 : MB[1]? = some (.int .i64 (b.n 1)) := gB 1 (by decide)
  rw [h1] at b1
  have a2 : MA[2]? = some (.int .i64 (a.n 2)) := gA 2 (by decide)
  have b2 : MB[2]? = some (.int .i64 (b.n 2)) := gB 2 (by decide)
  rw [h2] at b2
  have a3 : MA[3]? = some (.int .i64 (a.n 3)) := gA 3 (by decide)
  have b3 : MB[3]? = some (.int .i64 (b.n 3)) := gB 3 (by decide)
  rw [h3] at b3
  have a4 : MA[4]? = some (.int .u64 (a.n 4)) := gA 4 (by decide)
  have b4 : MB[4]? = some (.int .u64 (b.n 4)) := gB 4 (by decide)
  rw [h4] at b4
  have a5 : MA[5]? = some (.int .u64 (a.n 5)) := gA 5 (by decide)
  have b5 : MB[5]? = some (.int .u64 (b.n 5)) := gB 5 (by decide)
  rw [h5] at b5
  have a6 : MA[6]? = some (.int .u64 (a.n 6)) := gA 6 (by decide)
  have b6 : MB[6]? = some (.int .u64 (b.n 6)) := gB 6 (by decide)
  rw [h6] at b6
  have a7 : MA[7]? = some (.int .u64 (a.n 7)) := gA 7 (by decide)
  have b7 : MB[7]? = some (.int .u64 (b.n 7)) := gB 7 (by decide)
  rw [h7] at b7
  have a8 : MA[8]? = some (.int .i64 (a.n 8)) := gA 8 (by decide)
  have b8 : MB[8]? = some (.int .i64 (b.n 8)) := gB 8 (by decide)
  rw [h8] at b8
  have a9 : MA[9]? = some (.int .u64 (a.n 9)) := gA 9 (by decide)
  have b9 : MB[9]? = some (.int .u64 (b.n 9)) := gB 9 (by decide)
  rw [h9] at b9
  have a10 : MA[10]? = some (.slice va (a.s 10).length vc) := gA 10 (by decide)
  have b10 : MB[10]? = some (.slice vb (b.s 10).length vd) := gB 10 (by decide)
  have a11 : MA[11]? = some (.int .i64 (a.n 11)) := gA 11 (by decide)
  have b11 : MB[11]? = some (.int .i64 (b.n 11)) := gB 11 (by decide)
  rw [h11] at b11
  have a12 : MA[12]? = some (.int .u64 (a.n 12)) := gA 12 (by decide)
  have b12 : MB[12]? = some (.int .u64 (b.n 12)) := gB 12 (by decide)
  rw [h12] at b12
  have a13 : MA[13]? = some (.string (strL (a.s 13))) := gA 13 (by decide)
  have b13 : MB[13]? = some (.string (strL (b.s 13))) := gB 13 (by decide)
  rw [h13] at b13
  have a14 : MA[14]? = some (.string (strL (a.s 14))) := gA 14 (by decide)
  have b14 : MB[14]? = some (.string (strL (b.s 14))) := gB 14 (by decide)
  rw [h14] at b14
  have a15 : MA[15]? = some (.int .u64 (a.n 15)) := gA 15 (by decide)
  have b15 : MB[15]? = some (.int .u64 (b.n 15)) := gB 15 (by decide)
  rw [h15] at b15
  have a16 : MA[16]? = some (.int .u64 (a.n 16)) := gA 16 (by decide)
  have b16 : MB[16]? = some (.int .u64 (b.n 16)) := gB 16 (by decide)
  rw [h16] at b16
  have a17 : MA[17]? = some (.int .u64 (a.n 17)) := gA 17 (by decide)
  have b17 : MB[17]? = some (.int .u64 (b.n 17)) := gB 17 (by decide)
  rw [h17] at b17
  have a18 : MA[18]? = some (.int .i64 (a.n 18)) := gA 18 (by decide)
  have b18 : MB[18]? = some (.int .i64 (b.n 18)) := gB 18 (by decide)
  rw [h18] at b18
  have a19 : MA[19]? = some (.int .i64 (a.n 19)) := gA 19 (by decide)
  have b19 : MB[19]? = some (.int .i64 (b.n 19)) := gB 19 (by decide)
  clear h0 h1 h2 h3 h4 h5 h6 h7 h8 h9 h11 h12 h13 h14 h15 h16 h17 h18
  generalize a.n 0 = x0 at *
  generalize a.n 1 = x1 at *
  generalize a.n 2 = x2 at *
  generalize a.n 3 = x3 at *
  generalize a.n 4 = x4 at *
  generalize a.n 5 = x5 at *
  generalize a.n 6 = x6 at *
  generalize a.n 7 = x7 at *
  generalize a.n 8 = x8 at *
  generalize a.n 9 = x9 at *
  generalize a.n 11 = x11 at *
  generalize a.n 12 = x12 at *
  generalize strL (a.s 13) = s13 at *
  generalize strL (a.s 14) = s14 at *
  generalize a.n 15 = x15 at *
  generalize a.n 16 = x16 at *
  generalize a.n 17 = x17 at *
  generalize a.n 18 = x18 at *
  generalize a.n 19 = x19 at *
  generalize b.n 19 = y19 at *
  have hne2 : (x19 == y19) = false := by rw [beq_eq_false_iff_ne]; exact hne
  have HCM := hide (hcm _ sw)
  clear hcm
  have HS := hide sw
  clear sw gA gB
  unfold mgV
  rw [HMA.out, HMB.out]
  go_enter Tryz.func12, Tryz.ntmps12
  go_wp2_with fail
  refine HCM.out.mono ?_
  rintro e w3 ⟨rfl, q, e3⟩
  subst e3
  have HS3 : Hid (w.Since w.heap.size (((w.alloc (.cells MA 37)).alloc (.cells MB 37)).drewN q)) := since_drewN' HS.out q
  clear HCM
  go_wp2_with fail
  go_ret
  exact ⟨rfl, HS3.out⟩
end Go.Proofs.YtonpmabdjngdcaaGreatDoor

/- The document's EqMsg, by the first cell that differs. -/
namespace Go.Proofs.YtonpmabdjngdcaaGreatDoor
open Go.RowKit
set_option maxRecDepth 100000

set_option maxHeartbeats 4000000 in
theorem eqm20 (a b : Mg) (va vb : Option Addr) (vc vd : Nat) (w : World) (h0 : b.n 0 = a.n 0) (h1 : b.n 1 = a.n 1) (h2 : b.n 2 = a.n 2) (h3 : b.n 3 = a.n 3) (h4 : b.n 4 = a.n 4) (h5 : b.n 5 = a.n 5) (h6 : b.n 6 = a.n 6) (h7 : b.n 7 = a.n 7) (h8 : b.n 8 = a.n 8) (h9 : b.n 9 = a.n 9) (h11 : b.n 11 = a.n 11) (h12 : b.n 12 = a.n 12) (h13 : b.s 13 = a.s 13) (h14 : b.s 14 = a.s 14) (h15 : b.n 15 = a.n 15) (h16 : b.n 16 = a.n 16) (h17 : b.n 17 = a.n 17) (h18 : b.n 18 = a.n 18) (h19 : b.n 19 = a.n 19) (hne : a.n 20 ≠ b.n 20) (hcm : ∀ W, w.Since w.heap.size W → Calls Tryz.prog 43 #[.slice va (a.s 10).length vc, .slice vb (b.s 10).length vd] W fun e w' => e = .returned (.int .i64 0) ∧ ∃ m, w' = W.drewN m) :
    Calls Tryz.prog 12 #[mgV a va vc, mgV b vb vd] w fun e w' => e = .returned (.bool false) ∧ w.Since w.heap.size w' := by
  obtain ⟨MA, HMA⟩ : ∃ x, Hid ((mgL a va vc).toArray = x) := ⟨_, rfl⟩
  obtain ⟨MB, HMB⟩ : ∃ x, Hid ((mgL b vb vd).toArray = x) := ⟨_, rfl⟩
  have sw : w.Since w.heap.size ((w.alloc (.cells MA 37)).alloc (.cells MB 37)) := ((World.Since.refl _ _).alloc (Nat.le_refl _) _).alloc (by simp) _
  have gA : ∀ i, i < 22 → MA[i]? = some (mgCell a va vc i) := fun i hi => by rw [← HMA.out]; exact mgL_get a va vc i hi
  have gB : ∀ i, i < 22 → MB[i]? = some (mgCell b vb vd i) := fun i hi => by rw [← HMB.out]; exact mgL_get b vb vd i hi
  have a0 : MA[0]? = some (.int .i64 (a.n 0)) := gA 0 (by decide)
  have b0 : MB[0]? = some (.int .i64 (b.n 0)) := gB 0 (by decide)
  rw [h0] at b0
  have a1 : MA[1]? = some (.int .i64 (a.n 1)) := gA 1 (by decide)
  have b1 : MB[1]? = some (.int .i64 (b.n 1)) := gB 1 (by decide)
  rw [h1] at b1
  have a2 : MA[2]? = some (.int .i64 (a.n 2)) := gA 2 (by decide)
  have b2 : MB[2]? = some (.int .i64 (b.n 2)) := gB 2 (by decide)
  rw [h2] at b2
  have a3 : MA[3]? = some (.int .i64 (a.n 3)) := gA 3 (by decide)
  have b3 : MB[3]? = some (.int .i64 (b.n 3)) := gB 3 (by decide)
  rw [h3] at b3
  have a4 : MA[4]? = some (.int .u64 (a.n 4)) := gA 4 (by decide)
  have b4 : MB[4]? = some (.int .u64 (b.n 4)) := gB 4 (by decide)
  rw [h4] at b4
  have a5 : MA[5]? = some (.int .u64 (a.n 5)) := gA 5 (by decide)
  have b5 : MB[5]? = some (.int .u64 (b.n 5)) := gB 5 (by decide)
  rw [h5] at b5
  have a6 : MA[6]? = some (.int .u64 (a.n 6)) := gA 6 (by decide)
  have b6 : MB[6]? = some (.int .u64 (b.n 6)) := gB 6 (by decide)
  rw [h6] at b6
  have a7 : MA[7]? = some (.int .u64 (a.n 7)) := gA 7 (by decide)
  have b7 : MB[7]? = some (.int .u64 (b.n 7)) := gB 7 (by decide)
  rw [h7] at b7
  have a8 : MA[8]? = some (.int .i64 (a.n 8)) := gA 8 (by decide)
  have b8 : MB[8]? = some (.int .i64 (b.n 8)) := gB 8 (by decide)
  rw [h8] at b8
  have a9 : MA[9]? = some (.int .u64 (a.n 9)) := gA 9 (by decide)
  have b9 : MB[9]? = some (.int .u64 (b.n 9)) := gB 9 (by decide)
  rw [h9] at b9
  have a10 : MA[10]? = some (.slice va (a.s 10).length vc) := gA 10 (by decide)
  have b10 : MB[10]? = some (.slice vb (b.s 10).length vd) := gB 10 (by decide)
  have a11 : MA[11]? = some (.int .i64 (a.n 11)) := gA 11 (by decide)
  have b11 : MB[11]? = some (.int .i64 (b.n 11)) := gB 11 (by decide)
  rw [h11] at b11
  have a12 : MA[12]? = some (.int .u64 (a.n 12)) := gA 12 (by decide)
  have b12 : MB[12]? = some (.int .u64 (b.n 12)) := gB 12 (by decide)
  rw [h12] at b12
  have a13 : MA[13]? = some (.string (strL (a.s 13))) := gA 13 (by decide)
  have b13 : MB[13]? = some (.string (strL (b.s 13))) := gB 13 (by decide)
  rw [h13] at b13
  have a14 : MA[14]? = some (.string (strL (a.s 14))) := gA 14 (by decide)
  have b14 : MB[14]? = some (.string (strL (b.s 14))) := gB 14 (by decide)
  rw [h14] at b14
  have a15 : MA[15]? = some (.int .u64 (a.n 15)) := gA 15 (by decide)
  have b15 : MB[15]? = some (.int .u64 (b.n 15)) := gB 15 (by decide)
  rw [h15] at b15
  have a16 : MA[16]? = some (.int .u64 (a.n 16)) := gA 16 (by decide)
  have b16 : MB[16]? = some (.int .u64 (b.n 16)) := gB 16 (by decide)
  rw [h16] at b16
  have a17 : MA[17]? = some (.int .u64 (a.n 17)) := gA 17 (by decide)
  have b17 : MB[17]? = some (.int .u64 (b.n 17)) := gB 17 (by decide)
  rw [h17] at b17
  have a18 : MA[18]? = some (.int .i64 (a.n 18)) := gA 18 (by decide)
  have b18 : MB[18]? = some (.int .i64 (b.n 18)) := gB 18 (by decide)
  rw [h18] at b18
  have a19 : MA[19]? = some (.int .i64 (a.n 19)) := gA 19 (by decide)
  have b19 : MB[19]? = some (.int .i64 (b.n 19)) := gB 19 (by decide)
  rw [h19] at b19
  have a20 : MA[20]? = some (.int .i64 (a.n 20)) := gA 20 (by decide)
  have b20 : MB[20]? = some (.int .i64 (b.n 20)) := gB 20 (by decide)
  clear h0 h1 h2 h3 h4 h5 h6 h7 h8 h9 h11 h12 h13 h14 h15 h16 h17 h18 h19
  generalize a.n 0 = x0 at *
  generalize a.n 1 = x1 at *
  generalize a.n 2 = x2 at *
  generalize a.n 3 = x3 at *
  generalize a.n 4 = x4 at *
  generalize a.n 5 = x5 at *
  generalize a.n 6 = x6 at *
  generalize a.n 7 = x7 at *
  generalize a.n 8 = x8 at *
  generalize a.n 9 = x9 at *
  generalize a.n 11 = x11 at *
  generalize a.n 12 = x12 at *
  generalize strL (a.s 13) = s13 at *
  generalize strL (a.s 14) = s14 at *
  generalize a.n 15 = x15 at *
  generalize a.n 16 = x16 at *
  generalize a.n 17 = x17 at *
  generalize a.n 18 = x18 at *
  generalize a.n 19 = x19 at *
  generalize a.n 20 = x20 at *
  generalize b.n 20 = y20 at *
  have hne2 : (x20 == y20) = false := by rw [beq_eq_false_iff_ne]; exact hne
  have HCM := hide (hcm _ sw)
  clear hcm
  have HS := hide sw
  clear sw gA gB
  unfold mgV
  rw [HMA.out, HMB.out]
  go_enter Tryz.func12, Tryz.ntmps12
  go_wp2_with fail
  refine HCM.out.mono ?_
  rintro e w3 ⟨rfl, q, e3⟩
  subst e3
  have HS3 : Hid (w.Since w.heap.size (((w.alloc (.cells MA 37)).alloc (.cells MB 37)).drewN q)) := since_drewN' HS.out q
  clear HCM
  go_wp2_with fail
  go_ret
  exact ⟨rfl, HS3.out⟩
end Go.Proofs.YtonpmabdjngdcaaGreatDoor

/- The document's EqMsg, by the first cell that differs. -/
namespace Go.Proofs.YtonpmabdjngdcaaGreatDoor
open Go.RowKit
set_option maxRecDepth 100000

set_option maxHeartbeats 4000000 in
theorem eqm21 (a b : Mg) (va vb : Option Addr) (vc vd : Nat) (w : World) (h0 : b.n 0 = a.n 0) (h1 : b.n 1 = a.n 1) (h2 : b.n 2 = a.n 2) (h3 : b.n 3 = a.n 3) (h4 : b.n 4 = a.n 4) (h5 : b.n 5 = a.n 5) (h6 : b.n 6 = a.n 6) (h7 : b.n 7 = a.n 7) (h8 : b.n 8 = a.n 8) (h9 : b.n 9 = a.n 9) (h11 : b.n 11 = a.n 11) (h12 : b.n 12 = a.n 12) (h13 : b.s 13 = a.s 13) (h14 : b.s 14 = a.s 14) (h15 : b.n 15 = a.n 15) (h16 : b.n 16 = a.n 16) (h17 : b.n 17 = a.n 17) (h18 : b.n 18 = a.n 18) (h19 : b.n 19 = a.n 19) (h20 : b.n 20 = a.n 20) (hne : a.n 21 ≠ b.n 21) (hcm : ∀ W, w.Since w.heap.size W → Calls Tryz.prog 43 #[.slice va (a.s 10).length vc, .slice vb (b.s 10).length vd] W fun e w' => e = .returned (.int .i64 0) ∧ ∃ m, w' = W.drewN m) :
    Calls Tryz.prog 12 #[mgV a va vc, mgV b vb vd] w fun e w' => e = .returned (.bool false) ∧ w.Since w.heap.size w' := by
  obtain ⟨MA, HMA⟩ : ∃ x, Hid ((mgL a va vc).toArray = x) := ⟨_, rfl⟩
  obtain ⟨MB, HMB⟩ : ∃ x, Hid ((mgL b vb vd).toArray = x) := ⟨_, rfl⟩
  have sw : w.Since w.heap.size ((w.alloc (.cells MA 37)).alloc (.cells MB 37)) := ((World.Since.refl _ _).alloc (Nat.le_refl _) _).alloc (by simp) _
  have gA : ∀ i, i < 22 → MA[i]? = some (mgCell a va vc i) := fun i hi => by rw [← HMA.out]; exact mgL_get a va vc i hi
  have gB : ∀ i, i < 22 → MB[i]? = some (mgCell b vb vd i) := fun i hi => by rw [← HMB.out]; exact mgL_get b vb vd i hi
  have a0 : MA[0]? = some (.int .i64 (a.n 0)) := gA 0 (by decide)
  have b0 : MB[0]? = some (.int .i64 (b.n 0)) := gB 0 (by decide)
  rw [h0] at b0
  have a1 : MA[1]? = some (.int .i64 (a.n 1)) := gA 1 (by decide)
  have b1 : MB[1]? = some (.int .i64 (b.n 1)) := gB 1 (by decide)
  rw [h1] at b1
  have a2 : MA[2]? = some (.int .i64 (a.n 2)) := gA 2 (by decide)
  have b2 : MB[2]? = some (.int .i64 (b.n 2)) := gB 2 (by decide)
  rw [h2] at b2
  have a3 : MA[3]? = some (.int .i64 (a.n 3)) := gA 3 (by decide)
  have b3 : MB[3]? = some (.int .i64 (b.n 3)) := gB 3 (by decide)
  rw [h3] at b3
  have a4 : MA[4]? = some (.int .u64 (a.n 4)) := gA 4 (by decide)
  have b4 : MB[4]? = some (.int .u64 (b.n 4)) := gB 4 (by decide)
  rw [h4] at b4
  have a5 : MA[5]? = some (.int .u64 (a.n 5)) := gA 5 (by decide)
  have b5 : MB[5]? = some (.int .u64 (b.n 5)) := gB 5 (by decide)
  rw [h5] at b5
  have a6 : MA[6]? = some (.int .u64 (a.n 6)) := gA 6 (by decide)
  have b6 : MB[6]? = some (.int .u64 (b.n 6)) := gB 6 (by decide)
  rw [h6] at b6
  have a7 : MA[7]? = some (.int .u64 (a.n 7)) := gA 7 (by decide)
  have b7 : MB[7]? = some (.int .u64 (b.n 7)) := gB 7 (by decide)
  rw [h7] at b7
  have a8 : MA[8]? = some (.int .i64 (a.n 8)) := gA 8 (by decide)
  have b8 : MB[8]? = some (.int .i64 (b.n 8)) := gB 8 (by decide)
  rw [h8] at b8
  have a9 : MA[9]? = some (.int .u64 (a.n 9)) := gA 9 (by decide)
  have b9 : MB[9]? = some (.int .u64 (b.n 9)) := gB 9 (by decide)
  rw [h9] at b9
  have a10 : MA[10]? = some (.slice va (a.s 10).length vc) := gA 10 (by decide)
  have b10 : MB[10]? = some (.slice vb (b.s 10).length vd) := gB 10 (by decide)
  have a11 : MA[11]? = some (.int .i64 (a.n 11)) := gA 11 (by decide)
  have b11 : MB[11]? = some (.int .i64 (b.n 11)) := gB 11 (by decide)
  rw [h11] at b11
  have a12 : MA[12]? = some (.int .u64 (a.n 12)) := gA 12 (by decide)
  have b12 : MB[12]? = some (.int .u64 (b.n 12)) := gB 12 (by decide)
  rw [h12] at b12
  have a13 : MA[13]? = some (.string (strL (a.s 13))) := gA 13 (by decide)
  have b13 : MB[13]? = some (.string (strL (b.s 13))) := gB 13 (by decide)
  rw [h13] at b13
  have a14 : MA[14]? = some (.string (strL (a.s 14))) := gA 14 (by decide)
  have b14 : MB[14]? = some (.string (strL (b.s 14))) := gB 14 (by decide)
  rw [h14] at b14
  have a15 : MA[15]? = some (.int .u64 (a.n 15)) := gA 15 (by decide)
  have b15 : MB[15]? = some (.int .u64 (b.n 15)) := gB 15 (by decide)
  rw [h15] at b15
  have a16 : MA[16]? = some (.int .u64 (a.n 16)) := gA 16 (by decide)
  have b16 : MB[16]? = some (.int .u64 (b.n 16)) := gB 16 (by decide)
  rw [h16] at b16
  have a17 : MA[17]? = some (.int .u64 (a.n 17)) := gA 17 (by decide)
  have b17 : MB[17]? = some (.int .u64 (b.n 17)) := gB 17 (by decide)
  rw [h17] at b17
  have a18 : MA[18]? = some (.int .i64 (a.n 18)) := gA 18 (by decide)
  have b18 : MB[18]? = some (.int .i64 (b.n 18)) := gB 18 (by decide)
  rw [h18] at b18
  have a19 : MA[19]? = some (.int .i64 (a.n 19)) := gA 19 (by decide)
  have b19 : MB[19]? = some (.int .i64 (b.n 19)) := gB 19 (by decide)
  rw [h19] at b19
  have a20 : MA[20]? = some (.int .i64 (a.n 20)) := gA 20 (by decide)
  have b20 : MB[20]? = some (.int .i64 (b.n 20)) := gB 20 (by decide)
  rw [h20] at b20
  have a21 : MA[21]? = some (.int .i64 (a.n 21)) := gA 21 (by decide)
  have b21 : MB[21]? = some (.int .i64 (b.n 21)) := gB 21 (by decide)
  clear h0 h1 h2 h3 h4 h5 h6 h7 h8 h9 h11 h12 h13 h14 h15 h16 h17 h18 h19 h20
  generalize a.n 0 = x0 at *
  generalize a.n 1 = x1 at *
  generalize a.n 2 = x2 at *
  generalize a.n 3 = x3 at *
  generalize a.n 4 = x4 at *
  generalize a.n 5 = x5 at *
  generalize a.n 6 = x6 at *
  generalize a.n 7 = x7 at *
  generalize a.n 8 = x8 at *
  generalize a.n 9 = x9 at *
  generalize a.n 11 = x11 at *
  generalize a.n 12 = x12 at *
  generalize strL (a.s 13) = s13 at *
  generalize strL (a.s 14) = s14 at *
  generalize a.n 15 = x15 at *
  generalize a.n 16 = x16 at *
  generalize a.n 17 = x17 at *
  generalize a.n 18 = x18 at *
  generalize a.n 19 = x19 at *
  generalize a.n 20 = x20 at *
  generalize a.n 21 = x21 at *
  generalize b.n 21 = y21 at *
  have hne2 : (x21 == y21) = false := by rw [beq_eq_false_iff_ne]; exact hne
  have HCM := hide (hcm _ sw)
  clear hcm
  have HS := hide sw
  clear sw gA gB
  unfold mgV
  rw [HMA.out, HMB.out]
  go_enter Tryz.func12, Tryz.ntmps12
  go_wp2_with fail
  refine HCM.out.mono ?_
  rintro e w3 ⟨rfl, q, e3⟩
  subst e3
  have HS3 : Hid (w.Since w.heap.size (((w.alloc (.cells MA 37)).alloc (.cells MB 37)).drewN q)) := since_drewN' HS.out q
  clear HCM
  go_wp2_with fail
  go_ret
  exact ⟨rfl, HS3.out⟩
end Go.Proofs.YtonpmabdjngdcaaGreatDoor

/- The document's EqMsg, by the first cell that differs. -/
namespace Go.Proofs.YtonpmabdjngdcaaGreatDoor
open Go.RowKit
set_option maxRecDepth 100000

set_option maxHeartbeats 4000000 in
theorem eqm22 (a b : Mg) (va vb : Option Addr) (vc vd : Nat) (w : World) (h0 : b.n 0 = a.n 0) (h1 : b.n 1 = a.n 1) (h2 : b.n 2 = a.n 2) (h3 : b.n 3 = a.n 3) (h4 : b.n 4 = a.n 4) (h5 : b.n 5 = a.n 5) (h6 : b.n 6 = a.n 6) (h7 : b.n 7 = a.n 7) (h8 : b.n 8 = a.n 8) (h9 : b.n 9 = a.n 9) (h11 : b.n 11 = a.n 11) (h12 : b.n 12 = a.n 12) (h13 : b.s 13 = a.s 13) (h14 : b.s 14 = a.s 14) (h15 : b.n 15 = a.n 15) (h16 : b.n 16 = a.n 16) (h17 : b.n 17 = a.n 17) (h18 : b.n 18 = a.n 18) (h19 : b.n 19 = a.n 19) (h20 : b.n 20 = a.n 20) (h21 : b.n 21 = a.n 21) (hcm : ∀ W, w.Since w.heap.size W → Calls Tryz.prog 43 #[.slice va (a.s 10).length vc, .slice vb (b.s 10).length vd] W fun e w' => e = .returned (.int .i64 0) ∧ ∃ m, w' = W.drewN m) :
    Calls Tryz.prog 12 #[mgV a va vc, mgV b vb vd] w fun e w' => e = .returned (.bool true) ∧ w.Since w.heap.size w' := by
  obtain ⟨MA, HMA⟩ : ∃ x, Hid ((mgL a va vc).toArray = x) := ⟨_, rfl⟩
  obtain ⟨MB, HMB⟩ : ∃ x, Hid ((mgL b vb vd).toArray = x) := ⟨_, rfl⟩
  have sw : w.Since w.heap.size ((w.alloc (.cells MA 37)).alloc (.cells MB 37)) := ((World.Since.refl _ _).alloc (Nat.le_refl _) _).alloc (by simp) _
  have gA : ∀ i, i < 22 → MA[i]? = some (mgCell a va vc i) := fun i hi => by rw [← HMA.out]; exact mgL_get a va vc i hi
  have gB : ∀ i, i < 22 → MB[i]? = some (mgCell b vb vd i) := fun i hi => by rw [← HMB.out]; exact mgL_get b vb vd i hi
  have a0 : MA[0]? = some (.int .i64 (a.n 0)) := gA 0 (by decide)
  have b0 : MB[0]? = some (.int .i64 (b.n 0)) := gB 0 (by decide)
  rw [h0] at b0
  have a1 : MA[1]? = some (.int .i64 (a.n 1)) := gA 1 (by decide)
  have b1 : MB[1]? = some (.int .i64 (b.n 1)) := gB 1 (by decide)
  rw [h1] at b1
  have a2 : MA[2]? = some (.int .i64 (a.n 2)) := gA 2 (by decide)
  have b2 : MB[2]? = some (.int .i64 (b.n 2)) := gB 2 (by decide)
  rw [h2] at b2
  have a3 : MA[3]? = some (.int .i64 (a.n 3)) := gA 3 (by decide)
  have b3 : MB[3]? = some (.int .i64 (b.n 3)) := gB 3 (by decide)
  rw [h3] at b3
  have a4 : MA[4]? = some (.int .u64 (a.n 4)) := gA 4 (by decide)
  have b4 : MB[4]? = some (.int .u64 (b.n 4)) := gB 4 (by decide)
  rw [h4] at b4
  have a5 : MA[5]? = some (.int .u64 (a.n 5)) := gA 5 (by decide)
  have b5 : MB[5]? = some (.int .u64 (b.n 5)) := gB 5 (by decide)
  rw [h5] at b5
  have a6 : MA[6]? = some (.int .u64 (a.n 6)) := gA 6 (by decide)
  have b6 : MB[6]? = some (.int .u64 (b.n 6)) := gB 6 (by decide)
  rw [h6] at b6
  have a7 : MA[7]? = some (.int .u64 (a.n 7)) := gA 7 (by decide)
  have b7 : MB[7]? = some (.int .u64 (b.n 7)) := gB 7 (by decide)
  rw [h7] at b7
  have a8 : MA[8]? = some (.int .i64 (a.n 8)) := gA 8 (by decide)
  have b8 : MB[8]? = some (.int .i64 (b.n 8)) := gB 8 (by decide)
  rw [h8] at b8
  have a9 : MA[9]? = some (.int .u64 (a.n 9)) := gA 9 (by decide)
  have b9 : MB[9]? = some (.int .u64 (b.n 9)) := gB 9 (by decide)
  rw [h9] at b9
  have a10 : MA[10]? = some (.slice va (a.s 10).length vc) := gA 10 (by decide)
  have b10 : MB[10]? = some (.slice vb (b.s 10).length vd) := gB 10 (by decide)
  have a11 : MA[11]? = some (.int .i64 (a.n 11)) := gA 11 (by decide)
  have b11 : MB[11]? = some (.int .i64 (b.n 11)) := gB 11 (by decide)
  rw [h11] at b11
  have a12 : MA[12]? = some (.int .u64 (a.n 12)) := gA 12 (by decide)
  have b12 : MB[12]? = some (.int .u64 (b.n 12)) := gB 12 (by decide)
  rw [h12] at b12
  have a13 : MA[13]? = some (.string (strL (a.s 13))) := gA 13 (by decide)
  have b13 : MB[13]? = some (.string (strL (b.s 13))) := gB 13 (by decide)
  rw [h13] at b13
  have a14 : MA[14]? = some (.string (strL (a.s 14))) := gA 14 (by decide)
  have b14 : MB[14]? = some (.string (strL (b.s 14))) := gB 14 (by decide)
  rw [h14] at b14
  have a15 : MA[15]? = some (.int .u64 (a.n 15)) := gA 15 (by decide)
  have b15 : MB[15]? = some (.int .u64 (b.n 15)) := gB 15 (by decide)
  rw [h15] at b15
  have a16 : MA[16]? = some (.int .u64 (a.n 16)) := gA 16 (by decide)
  have b16 : MB[16]? = some (.int .u64 (b.n 16)) := gB 16 (by decide)
  rw [h16] at b16
  have a17 : MA[17]? = some (.int .u64 (a.n 17)) := gA 17 (by decide)
  have b17 : MB[17]? = some (.int .u64 (b.n 17)) := gB 17 (by decide)
  rw [h17] at b17
  have a18 : MA[18]? = some (.int .i64 (a.n 18)) := gA 18 (by decide)
  have b18 : MB[18]? = some (.int .i64 (b.n 18)) := gB 18 (by decide)
  rw [h18] at b18
  have a19 : MA[19]? = some (.int .i64 (a.n 19)) := gA 19 (by decide)
  have b19 : MB[19]? = some (.int .i64 (b.n 19)) := gB 19 (by decide)
  rw [h19] at b19
  have a20 : MA[20]? = some (.int .i64 (a.n 20)) := gA 20 (by decide)
  have b20 : MB[20]? = some (.int .i64 (b.n 20)) := gB 20 (by decide)
  rw [h20] at b20
  have a21 : MA[21]? = some (.int .i64 (a.n 21)) := gA 21 (by decide)
  have b21 : MB[21]? = some (.int .i64 (b.n 21)) := gB 21 (by decide)
  rw [h21] at b21
  clear h0 h1 h2 h3 h4 h5 h6 h7 h8 h9 h11 h12 h13 h14 h15 h16 h17 h18 h19 h20 h21
  generalize a.n 0 = x0 at *
  generalize a.n 1 = x1 at *
  generalize a.n 2 = x2 at *
  generalize a.n 3 = x3 at *
  generalize a.n 4 = x4 at *
  generalize a.n 5 = x5 at *
  generalize a.n 6 = x6 at *
  generalize a.n 7 = x7 at *
  generalize a.n 8 = x8 at *
  generalize a.n 9 = x9 at *
  generalize a.n 11 = x11 at *
  generalize a.n 12 = x12 at *
  generalize strL (a.s 13) = s13 at *
  generalize strL (a.s 14) = s14 at *
  generalize a.n 15 = x15 at *
  generalize a.n 16 = x16 at *
  generalize a.n 17 = x17 at *
  generalize a.n 18 = x18 at *
  generalize a.n 19 = x19 at *
  generalize a.n 20 = x20 at *
  generalize a.n 21 = x21 at *
  have HCM := hide (hcm _ sw)
  clear hcm
  have HS := hide sw
  clear sw gA gB
  unfold mgV
  rw [HMA.out, HMB.out]
  go_enter Tryz.func12, Tryz.ntmps12
  go_wp2_with fail
  refine HCM.out.mono ?_
  rintro e w3 ⟨rfl, q, e3⟩
  subst e3
  have HS3 : Hid (w.Since w.heap.size (((w.alloc (.cells MA 37)).alloc (.cells MB 37)).drewN q)) := since_drewN' HS.out q
  clear HCM
  go_wp2_with fail
  go_ret
  exact ⟨rfl, HS3.out⟩
end Go.Proofs.YtonpmabdjngdcaaGreatDoor
