/- Own texts, joined: R17, R18, R19, R20, R22, R23, RL, R24, RF1. -/
import Derived.Test.YteneaiaejdgpcaaM2
import Derived.Test.YteneaiaejdgpcaaRows
import Derived.ProofKit
import Derived.OpenShut
import Derived.SizedLaws
import Derived.Lib.SmallJoins
import Derived.Deep.Matrix
import Derived.Deep.Slices

/- The document's help: CopyMsg, CmpTag; less, epoch. -/
namespace Go.Proofs.Yteneaiaejdgpcaa
open Go.RowKit Go.Maps
set_option maxRecDepth 100000
set_option maxRecDepth 100000

set_option maxHeartbeats 4000000 in
theorem copyMsg_any (m : Mg) (va : Option Addr) (vc : Nat) (w : World) (hA : MgA w m va vc) :
    Calls Try.prog 17 #[mgV m va vc] w fun e w' => ∃ g, e = .returned (mgV m (some ⟨g, 0, none⟩) (m.s 10).length) ∧ MgA w' m (some ⟨g, 0, none⟩) (m.s 10).length ∧ w.Since w.heap.size w' ∧ w.heap.size ≤ g := by
  obtain ⟨MM, HMM⟩ : ∃ x, Hid ((mgL m va vc).toArray = x) := ⟨_, rfl⟩
  obtain ⟨W1, HW1⟩ : ∃ W, Hid (w.alloc (.cells MM 41) = W) := ⟨_, rfl⟩
  have s1 : w.Since w.heap.size W1 := by rw [← HW1.out]; exact (World.Since.refl _ _).alloc (Nat.le_refl _) _
  have z1 : W1.heap.size = w.heap.size + 1 := by rw [← HW1.out]; simp
  have r1 : W1.rowIs w.heap.size 41 22 (mgCell m va vc) := by rw [← HW1.out, ← HMM.out]; exact mg_row w m va vc
  obtain ⟨W2, HW2⟩ : ∃ W, Hid (W1.alloc mgZ = W) := ⟨_, rfl⟩
  have s2 : W1.Since W1.heap.size W2 := by rw [← HW2.out]; exact (World.Since.refl _ _).alloc (Nat.le_refl _) _
  have r2 : W2.rowIs (w.heap.size + 1) 41 22 (mgCell mg0 none 0) := by rw [← z1, ← HW2.out]; exact mgZ_row W1
  have rm2 := row_since r1 s2
  have sw2 : w.Since w.heap.size W2 := s1.trans (since_mono s2 s1.size)
  have z2 : W2.heap.size = w.heap.size + 1 + 1 := by rw [← HW2.out, ← z1]; simp
  have hA2 := hA.since sw2
  have c10 : W2.cell? ⟨w.heap.size, 10, none⟩ = some (.slice va (m.s 10).length vc) := rm2.cell (i := 10) (by decide)
  have HCP := hide (copy_any va (m.s 10).length vc _ W2 (by have := hA.len 10; omega) hA2.val)
  have HS2 := hide sw2
  have HR2 := hide r2
  have HRM := hide rm2
  have Hz2 := hide z2
  have HA := hide hA
  unfold mgZ at HW2
  clear s1 r1 s2 r2 rm2 sw2 z2 hA hA2
  unfold mgV
  rw [HMM.out]
  clear HMM
  go_enter Try.func17, Try.ntmps17
  go_upto_region 1 with fail
  rw [HW1.out]
  try rw [z1]
  rw [HW2.out]
  try rw [z1]
  clear HW1 HW2 z1
  refine wp_region_lit ?_
  refine wpList_plain rfl fun _ hK => op_run (.pointer (some ⟨w.heap.size, 10, none⟩)) (by kernel_rfl) (hK _ _ ?_)
  simp only [Act.put, List.setIfInBounds_toArray, List.set_cons_zero, List.set_cons_succ]
  refine wpList_plain rfl fun _ hK => op_run (.slice va (m.s 10).length vc) (by go_simp) (hK _ _ ?_)
  simp only [Act.put, List.setIfInBounds_toArray, List.set_cons_zero, List.set_cons_succ]
  refine wpList_plain rfl fun _ hK => op_call 8 #[.slice va (m.s 10).length vc] (by kernel_rfl) HCP.out ?_
  rintro e w3 ⟨rfl, hs3, hz3, hr3⟩
  refine ⟨_, rfl, hK _ _ ?_⟩
  clear hK
  simp only [Act.put, List.setIfInBounds_toArray, List.set_cons_zero, List.set_cons_succ]
  refine wpList_plain rfl fun _ hK => op_run (.pointer (some ⟨w.heap.size, 10, none⟩)) (by kernel_rfl) (hK _ _ ?_)
  simp only [Act.put, List.setIfInBounds_toArray, List.set_cons_zero, List.set_cons_succ]
  have r3 := row_since HRM.out hs3
  refine wpList_plain rfl fun _ hK => wp_store_cell 25 (.tmp 6) (.tmp 5) rfl w.heap.size 10 (.slice (some ⟨W2.heap.size, 0, none⟩) (m.s 10).length (m.s 10).length) _ rfl rfl (r3.cell (i := 10) (by decide)) (r3.frozen 10) (by kernel_rfl) rfl (hK _ _ ?_)
  simp only [Act.put]
  have hz2 := Hz2.out
  have r4 : (w3.setCell ⟨w.heap.size, 10, none⟩ (.slice (some ⟨W2.heap.size, 0, none⟩) (m.s 10).length (m.s 10).length)).rowIs w.heap.size 41 22 (mgCell m (some ⟨W2.heap.size, 0, none⟩) (m.s 10).length) := (row_setV r3 (m.s 10) (some ⟨W2.heap.size, 0, none⟩) (m.s 10).length).congr (fun i hi => by
    have e : m.setS 10 (m.s 10) = m := Mg.ext' (fun _ => rfl) (fun c => by
      show (if c = 10 then m.s 10 else m.s c) = m.s c
      by_cases e : c = 10
      · rw [if_pos e, e]
      · rw [if_neg e])
    rw [e])
  have b4 : But w.heap.size w3 (w3.setCell ⟨w.heap.size, 10, none⟩ (.slice (some ⟨W2.heap.size, 0, none⟩) (m.s 10).length (m.s 10).length)) := (But.of_since (World.Since.refl _ _)).setCell 10 _
  generalize w3.setCell ⟨w.heap.size, 10, none⟩ (.slice (some ⟨W2.heap.size, 0, none⟩) (m.s 10).length (m.s 10).length) = w4 at *
  have sw3 : w.Since w.heap.size w3 := HS2.out.trans (since_mono hs3 HS2.out.size)
  have sw4 : w.Since w.heap.size w4 := b4.since sw3 (Nat.le_refl _) sw3.size
  have ro4 := b4.row (row_since HR2.out hs3) (by omega)
  obtain ⟨WE, HWE, rE, hhE, zE, bE, oE, tE, pE⟩ := mg_stored ro4 m (some ⟨W2.heap.size, 0, none⟩) (m.s 10).length
  have hg3 : w3.rowIs W2.heap.size 5 (m.s 10).length (fun j => .int .u8 ((m.s 10).getD j 0 : Nat)) := hr3
  have hgE : WE.rowIs W2.heap.size 5 (m.s 10).length (fun j => .int .u8 ((m.s 10).getD j 0 : Nat)) := (b4.row hg3 (by omega)).of_block (bE _ (by omega))
  have HE : Hid (MgA WE m (some ⟨W2.heap.size, 0, none⟩) (m.s 10).length ∧ w.Since w.heap.size WE ∧ w.heap.size ≤ W2.heap.size) := by
    refine ⟨⟨fun j hj => ⟨_, _, rfl, by rw [Nat.zero_add]; exact hgE.cell hj⟩, (fun e => by cases e), fun q e _ => ?_, HA.out.len, HA.out.byte⟩, ⟨oE.trans sw4.os, tE.trans sw4.tape, pE.trans sw4.output, by rw [zE]; exact sw4.size, fun k hk => (bE k (by omega)).trans (sw4.block k hk)⟩, by omega⟩
    have := Option.some.inj e
    subst this
    exact hgE.lt
  obtain ⟨ML, HML⟩ : ∃ x, Hid ((mgL m (some ⟨W2.heap.size, 0, none⟩) (m.s 10).length).toArray = x) := ⟨_, rfl⟩
  have HIN : Hid ((Try.prog.info? 41).map (·.size) = some ML.size) := by rw [← HML.out]; exact infoMgA _ _ _
  have HAL : Hid (ML.all (·.oneCell') = true) := by rw [← HML.out]; exact mg_all _ _ _
  have HH4 : Hid (w4.heap[w.heap.size]? = some (.cells ML 41 (0, 0))) := by rw [← HML.out]; exact row_heap r4
  have HTE : Hid (w4.there (w.heap.size + 1) 0 ML.size) := by
    have e : ML.size = 22 := by rw [← HML.out, List.size_toArray, mgL_len]
    show World.there _ _ _ _
    rw [e]
    exact row_there ro4
  have HWE' : Hid (w4.setCells (w.heap.size + 1) 0 ML.toList = WE) := by
    rw [← HML.out]
    exact HWE
  have HHE : Hid (WE.heap[w.heap.size + 1]? = some (.cells ML 41 (0, 0))) := by rw [← HML.out]; exact hhE
  clear r3 r4 b4 sw3 sw4 ro4 rE hhE zE bE oE tE pE hg3 hgE hr3 hz3 hs3 c10 HCP hz2
  go_upto_region 2 with fail
  refine wp_region_lit ?_
  refine wpList_load_row rfl 41 (.tmp 1) rfl w.heap.size rfl _ ML (0, 0) _ HH4.out Try.underlying41 rfl HIN.out ?_
  simp only [Act.put, List.setIfInBounds_toArray, List.set_cons_zero, List.set_cons_succ]
  refine wpList_store_mid rfl 41 (.tmp 2) (.tmp 7) rfl (w.heap.size + 1) 0 ML rfl rfl HTE.out HIN.out HAL.out ?_
  rw [HWE'.out]
  go_wp2_with fail
  exact bodyPost_ret_by (results_cell_row rfl _ _ (w.heap.size + 1) 41 _ (0, 0) _ rfl HHE.out Try.underlying41 rfl HIN.out) rfl ⟨_, congrArg (fun x => Ending.returned (.agg x)) HML.out.symm, HE.out⟩
/-- How two tags stand, by the document. -/
def ctM (a b c d : Nat) : Int := if a < c ∨ (a = c ∧ b < d) then -1 else if a = c ∧ b = d then 0 else 1
set_option maxHeartbeats 4000000 in
theorem cmpTag_any (a b c d : Nat) (w : World) : Calls Try.prog 30 #[.agg #[.int .u64 (a : Nat), .int .u64 (b : Nat)], .agg #[.int .u64 (c : Nat), .int .u64 (d : Nat)]] w fun e w' => e = .returned (.int .i64 (ctM a b c d)) ∧ w.Since w.heap.size w' := by
  obtain ⟨W1, HW1⟩ : ∃ W, Hid (w.alloc (.cells #[.int .u64 (a : Nat), .int .u64 (b : Nat)] 24) = W) := ⟨_, rfl⟩
  have s1 : w.Since w.heap.size W1 := by rw [← HW1.out]; exact (World.Since.refl _ _).alloc (Nat.le_refl _) _
  have z1 : W1.heap.size = w.heap.size + 1 := by rw [← HW1.out]; simp
  have a0 : W1.cell? ⟨w.heap.size, 0, none⟩ = some (.int .u64 (a : Nat)) := by rw [← HW1.out]; simp
  have a1 : W1.cell? ⟨w.heap.size, 1, none⟩ = some (.int .u64 (b : Nat)) := by rw [← HW1.out]; simp
  obtain ⟨W2, HW2⟩ : ∃ W, Hid (W1.alloc (.cells #[.int .u64 (c : Nat), .int .u64 (d : Nat)] 24) = W) := ⟨_, rfl⟩
  have s2 : W1.Since W1.heap.size W2 := by rw [← HW2.out]; exact (World.Since.refl _ _).alloc (Nat.le_refl _) _
  have b0 : W2.cell? ⟨w.heap.size + 1, 0, none⟩ = some (.int .u64 (c : Nat)) := by rw [← z1, ← HW2.out]; simp
  have b1 : W2.cell? ⟨w.heap.size + 1, 1, none⟩ = some (.int .u64 (d : Nat)) := by rw [← z1, ← HW2.out]; simp
  replace a0 := cell_later s2 a0
  replace a1 := cell_later s2 a1
  have HS : Hid (w.Since w.heap.size W2) := s1.trans (since_mono s2 s1.size)
  clear s1 s2
  rcases (show a < c ∨ (a = c ∧ b < d) ∨ (a = c ∧ b = d) ∨ (a = c ∧ d < b) ∨ c < a by omega) with p | p | p | p | p
  · skip
    have HE : ctM a b c d = -1 := by unfold ctM; rw [if_pos (by omega)]
    rw [HE]
    have q1 : (a : Int) < (c : Int) := by omega
    have q2 : decide ((a : Int) < (c : Int)) = true := by simp; omega
    clear HE p
    go_enter Try.func30, Try.ntmps30
    go_upto_region 1 with fail
    rw [HW1.out]
    try rw [z1]
    rw [HW2.out]
    try rw [z1]
    clear HW1 HW2 z1
    go_wp2_with fail
    go_ret
    exact ⟨rfl, HS.out⟩
  · skip
    have HE : ctM a b c d = -1 := by unfold ctM; rw [if_pos (by omega)]
    rw [HE]
    have q1 : ¬ ((a : Int) < (c : Int)) := by omega
    have q2 : decide ((a : Int) < (c : Int)) = false := by simp; omega
    have q3 : ((a : Int) == (c : Int)) = true := by simp; omega
    have q4 : (b : Int) < (d : Int) := by omega
    have q5 : decide ((b : Int) < (d : Int)) = true := by simp; omega
    clear HE p
    go_enter Try.func30, Try.ntmps30
    go_upto_region 1 with fail
    rw [HW1.out]
    try rw [z1]
    rw [HW2.out]
    try rw [z1]
    clear HW1 HW2 z1
    go_wp2_with fail
    go_ret
    exact ⟨rfl, HS.out⟩
  · skip
    have HE : ctM a b c d = 0 := by unfold ctM; rw [if_neg (by omega), if_pos (by omega)]
    rw [HE]
    have q1 : ¬ ((a : Int) < (c : Int)) := by omega
    have q2 : decide ((a : Int) < (c : Int)) = false := by simp; omega
    have q3 : ((a : Int) == (c : Int)) = true := by simp; omega
    have q4 : ¬ ((b : Int) < (d : Int)) := by omega
    have q5 : decide ((b : Int) < (d : Int)) = false := by simp; omega
    have q6 : ((b : Int) == (d : Int)) = true := by simp; omega
    clear HE p
    go_enter Try.func30, Try.ntmps30
    go_upto_region 1 with fail
    rw [HW1.out]
    try rw [z1]
    rw [HW2.out]
    try rw [z1]
    clear HW1 HW2 z1
    go_wp2_with fail
    go_ret
    exact ⟨rfl, HS.out⟩
  · skip
    have HE : ctM a b c d = 1 := by unfold ctM; rw [if_neg (by omega), if_neg (by omega)]
    rw [HE]
    have q1 : ¬ ((a : Int) < (c : Int)) := by omega
    have q2 : decide ((a : Int) < (c : Int)) = false := by simp; omega
    have q3 : ((a : Int) == (c : Int)) = true := by simp; omega
    have q4 : ¬ ((b : Int) < (d : Int)) := by omega
    have q5 : decide ((b : Int) < (d : Int)) = false := by simp; omega
    have q6 : ((b : Int) == (d : Int)) = false := by simp; omega
    clear HE p
    go_enter Try.func30, Try.ntmps30
    go_upto_region 1 with fail
    rw [HW1.out]
    try rw [z1]
    rw [HW2.out]
    try rw [z1]
    clear HW1 HW2 z1
    go_wp2_with fail
    go_ret
    exact ⟨rfl, HS.out⟩
  · skip
    have HE : ctM a b c d = 1 := by unfold ctM; rw [if_neg (by omega), if_neg (by omega)]
    rw [HE]
    have q1 : ¬ ((a : Int) < (c : Int)) := by omega
    have q2 : decide ((a : Int) < (c : Int)) = false := by simp; omega
    have q3 : ((a : Int) == (c : Int)) = false := by simp; omega
    clear HE p
    go_enter Try.func30, Try.ntmps30
    go_upto_region 1 with fail
    rw [HW1.out]
    try rw [z1]
    rw [HW2.out]
    try rw [z1]
    clear HW1 HW2 z1
    go_wp2_with fail
    go_ret
    exact ⟨rfl, HS.out⟩
end Go.Proofs.Yteneaiaejdgpcaa

/- Stage 9's laws: less, epoch; EqStored. -/
namespace Go.Proofs.Yteneaiaejdgpcaa
open Go.RowKit Go.Maps
set_option maxRecDepth 100000
set_option maxRecDepth 100000

theorem tag_box (w : World) (a b : Nat) : ∃ W, Hid (w.alloc (.cells #[.int .u64 (a : Nat), .int .u64 (b : Nat)] 24) = W) ∧ w.Since w.heap.size W ∧ W.heap.size = w.heap.size + 1 ∧ W.cell? ⟨w.heap.size, 0, none⟩ = some (.int .u64 (a : Nat)) ∧ W.cell? ⟨w.heap.size, 1, none⟩ = some (.int .u64 (b : Nat)) :=
  ⟨_, rfl, (World.Since.refl _ _).alloc (Nat.le_refl _) _, by simp, by simp, by simp⟩
theorem less_any (a b c d : Nat) (w : World) : Calls Try.prog 20 #[.agg #[.int .u64 (a : Nat), .int .u64 (b : Nat)], .agg #[.int .u64 (c : Nat), .int .u64 (d : Nat)]] w fun e w' => e = .returned (.bool (decide (ctM a b c d < 0))) ∧ w.Since w.heap.size w' := by
  obtain ⟨W1, HW1, s1, z1, a0, a1⟩ := tag_box w a b
  obtain ⟨W2, HW2, s2, z2, b0, b1⟩ := tag_box W1 c d
  rw [z1] at b0 b1
  replace a0 := cell_later s2 a0
  replace a1 := cell_later s2 a1
  have HC : Hid (Calls Try.prog 30 #[.agg #[.int .u64 (a : Nat), .int .u64 (b : Nat)], .agg #[.int .u64 (c : Nat), .int .u64 (d : Nat)]] W2 fun e w' => e = .returned (.int .i64 (ctM a b c d)) ∧ Hid (w.Since w.heap.size w')) := (cmpTag_any a b c d W2).mono fun e w' ⟨he, hs⟩ => ⟨he, (s1.trans (since_mono s2 s1.size)).trans (since_mono hs (s1.trans (since_mono s2 s1.size)).size)⟩
  generalize ctM a b c d = K at *
  clear s1 s2 z2
  go_enter Try.func20, Try.ntmps20
  go_upto_region 1 with fail
  rw [HW1.out]
  try rw [z1]
  rw [HW2.out]
  try rw [z1]
  clear HW1 HW2 z1
  go_wp2_with fail
  refine HC.out.mono ?_
  rintro e w3 ⟨rfl, H3⟩
  go_wp2_with fail
  go_ret
  exact ⟨rfl, H3.out⟩
/-- The epoch that a write or beat comes with. -/
def epM (m : Mg) : Int := if m.n 0 = 4 then m.n 5 else m.n 4
theorem epoch_any (m : Mg) (va : Option Addr) (vc : Nat) (w : World) : Calls Try.prog 25 #[mgV m va vc] w fun e w' => e = .returned (.int .u64 (epM m)) ∧ w.Since w.heap.size w' := by
  obtain ⟨MM, HMM⟩ : ∃ x, Hid ((mgL m va vc).toArray = x) := ⟨_, rfl⟩
  obtain ⟨W1, HW1⟩ : ∃ W, Hid (w.alloc (.cells MM 41) = W) := ⟨_, rfl⟩
  have s1 : w.Since w.heap.size W1 := by rw [← HW1.out]; exact (World.Since.refl _ _).alloc (Nat.le_refl _) _
  have r1 : W1.rowIs w.heap.size 41 22 (mgCell m va vc) := by rw [← HW1.out, ← HMM.out]; exact mg_row w m va vc
  have c0 : W1.cell? ⟨w.heap.size, 0, none⟩ = some (.int .i64 (m.n 0)) := r1.cell (i := 0) (by decide)
  have c4 : W1.cell? ⟨w.heap.size, 4, none⟩ = some (.int .u64 (m.n 4)) := r1.cell (i := 4) (by decide)
  have c5 : W1.cell? ⟨w.heap.size, 5, none⟩ = some (.int .u64 (m.n 5)) := r1.cell (i := 5) (by decide)
  have HS := hide s1
  unfold epM
  by_cases k : m.n 0 = 4
  · rw [if_pos k]
    have q : (m.n 0 == 4) = true := by simp [k]
    generalize m.n 0 = K at *
    generalize m.n 4 = E at *
    generalize m.n 5 = T at *
    clear s1 r1 k
    unfold mgV
    rw [HMM.out]
    go_enter Try.func25, Try.ntmps25
    go_upto_region 1 with fail
    rw [HW1.out]
    clear HW1 HMM
    go_wp2_with fail
    go_ret
    exact ⟨rfl, HS.out⟩
  · rw [if_neg k]
    have q : (m.n 0 == 4) = false := by simp [k]
    generalize m.n 0 = K at *
    generalize m.n 4 = E at *
    generalize m.n 5 = T at *
    clear s1 r1 k
    unfold mgV
    rw [HMM.out]
    go_enter Try.func25, Try.ntmps25
    go_upto_region 1 with fail
    rw [HW1.out]
    clear HW1 HMM
    go_wp2_with fail
    go_ret
    exact ⟨rfl, HS.out⟩
end Go.Proofs.Yteneaiaejdgpcaa

/- Stage 9's laws: lives. -/
namespace Go.Proofs.Yteneaiaejdgpcaa
open Go.RowKit Go.Maps
set_option maxRecDepth 100000
set_option maxRecDepth 100000

theorem wpList_want {P : Program} {ops : Array Oper} {rest : List Oper} {o : Oper} {a : Act} {w : World} {Q : Exit → Act → World → Prop} (hw : Region.wanted o (yielded ops a.tmps) = true)
    (h : ∀ K : Act → World → Prop, (∀ a' w', wpList P ops Q rest a' w' → K a' w') → Oper.wp P o a w K Q) : wpList P ops Q (o :: rest) a w :=
  wpList_step fun _ hK => by
    rw [if_pos hw]
    exact h _ hK
theorem op_convert {P : Program} {o : Oper} {a : Act} {w w' : World} {K : Act → World → Prop} {Q : Exit → Act → World → Prop} (t t' : TypeId) (x : Operand) (ho : o.op = .convert t t' x) (v v' : Value) (hx : a.eval x = v) (hr : (convert t t' v).run P w = .ok v' w') (h : K (a.put o.dst v') w') : Oper.wp P o a w K Q := by
  unfold Oper.wp
  simp [execOp, ho, hx, hr, Result.andThen]
  exact h
/-- The two messages of lives. -/
def lvP : Mg := ⟨fun c => if c = 0 then 1 else if c = 1 then 2 else if c = 2 then 1 else if c = 4 then 5 else 0, fun _ => []⟩
def lvW : Mg := ⟨fun c => if c = 0 then 4 else if c = 1 then 2 else if c = 2 then 1 else if c = 5 then 5 else if c = 6 then 1 else if c = 8 then 3 else 0, fun c => if c = 10 then [119] else []⟩
theorem lvP_v : mgV lvP none 0 = .agg #[.int .i64 1, .int .i64 2, .int .i64 1, .int .i64 0, .int .u64 5, .int .u64 0, .int .u64 0, .int .u64 0, .int .i64 0, .int .u64 0, .slice none 0 0, .int .i64 0, .int .u64 0, .string ⟨#[]⟩, .string ⟨#[]⟩, .int .u64 0, .int .u64 0, .int .u64 0, .int .i64 0, .int .i64 0, .int .i64 0, .int .i64 0] := rfl
theorem lvW_v (va : Option Addr) : mgV lvW va 1 = .agg #[.int .i64 4, .int .i64 2, .int .i64 1, .int .i64 0, .int .u64 0, .int .u64 5, .int .u64 1, .int .u64 0, .int .i64 3, .int .u64 0, .slice va 1 1, .int .i64 0, .int .u64 0, .string ⟨#[]⟩, .string ⟨#[]⟩, .int .u64 0, .int .u64 0, .int .u64 0, .int .i64 0, .int .i64 0, .int .i64 0, .int .i64 0] := rfl
theorem mgN_of {m : Mg} (h : ∀ c, 0 ≤ m.n c ∧ m.n c ≤ 5) : MgN m :=
  ⟨fun c _ => ⟨(h c).1, by have := (h c).2; omega⟩, fun c _ => ⟨by have := (h c).1; omega, by have := (h c).2; omega⟩⟩
theorem lvP_n : MgN lvP := mgN_of (fun c => by unfold lvP; dsimp only; (repeat' split) <;> omega)
theorem lvW_n : MgN lvW := mgN_of (fun c => by unfold lvW; dsimp only; (repeat' split) <;> omega)
theorem lvP_a (w : World) : MgA w lvP none 0 := ⟨fun j hj => absurd hj (Nat.not_lt_zero _), fun _ => ⟨rfl, rfl⟩, fun _ e => (by cases e), fun _ => Nat.zero_le _, fun _ v hv => absurd hv List.not_mem_nil⟩
theorem lvW_a {w : World} {g : Nat} (h : Byt w (some ⟨g, 0, none⟩) 1 (fun _ => 119)) : MgA w lvW (some ⟨g, 0, none⟩) 1 := by
  refine ⟨fun j hj => ?_, fun e => (by cases e), fun q e _ => ?_, fun c => ?_, fun c v hv => ?_⟩
  · have hj : j < 1 := hj
    obtain ⟨b, o, e, hc⟩ := h j hj
    refine ⟨b, o, e, ?_⟩
    have : j = 0 := by omega
    subst this
    exact hc
  · obtain ⟨b, o, e1, hc⟩ := h 0 (by decide)
    rw [e] at e1
    rw [Option.some.inj e1]
    exact World.block_lt_of_cell? _ _ hc
  · unfold lvW; dsimp only; split <;> simp
  · unfold lvW at hv; dsimp only at hv
    split at hv
    · simp at hv; omega
    · simp at hv
theorem lv_h1 : hearM ⟨0, 0, 0, [118], 0⟩ lvP = ⟨prG lvP 5 ⟨0, 0, 0, [118], 0⟩, true, false, true, ⟨5, 0, 0, [118], 0⟩⟩ := rfl
theorem lv_h2 : hearM ⟨5, 0, 0, [118], 0⟩ lvW = ⟨wrG lvW 5 1, true, true, true, ⟨5, 5, 1, [119], 3⟩⟩ := rfl
/-- The world behind a constant of one byte as a list. -/
def byteW (w : World) (b : Nat) : World := w.alloc (.cells #[.int .u8 (b : Nat)] 5 (1, 2))
theorem byteW_since (w : World) (b : Nat) : w.Since w.heap.size (byteW w b) := (World.Since.refl _ _).alloc (Nat.le_refl _) _
theorem byteW_size (w : World) (b : Nat) : (byteW w b).heap.size = w.heap.size + 1 := by unfold byteW; simp
theorem byteW_byt (w : World) (b : Nat) : Byt (byteW w b) (some ⟨w.heap.size, 0, none⟩) 1 (fun _ => b) := fun j hj => ⟨_, _, rfl, by
  have : j = 0 := by omega
  subst this
  unfold byteW
  rw [World.cell?_alloc_mark]
  rfl⟩
theorem conv_byte (w : World) (b : Nat) : (convert 25 25 (.slice (some ⟨w.heap.size, 0, none⟩) 1 1)).run Try.prog (w.alloc (.cells #[.int .u8 (b : Nat)] 5)) = .ok (.slice (some ⟨w.heap.size, 0, none⟩) 1 1) (byteW w b) :=
  Lib.run_convert_bytes_const (P := Try.prog) w 25 5 #[.int .u8 (b : Nat)] 1 1 Try.underlying25 Try.underlying5
theorem row_byt {w : World} {g n : Nat} {x : Nat → Nat} (h : w.rowIs g 5 n (fun j => .int .u8 (x j : Nat))) : Byt w (some ⟨g, 0, none⟩) n x := fun j hj => ⟨g, 0, rfl, by rw [Nat.zero_add]; exact h.cell hj⟩
/-- What Stored answers, laid into new memory. -/
theorem st_put (w : World) (vs : List Value) (hl : vs.length = 4) (h1 : vs.toArray.all (·.oneCell') = true) : ∃ (W : World) (SA : Array Value), Hid (vs.toArray = SA) ∧ Hid ((w.alloc (.cells #[.int .u64 0, .int .u64 0, .int .u64 0, .slice none 0 0] 27)).there w.heap.size 0 SA.size) ∧ Hid ((w.alloc (.cells #[.int .u64 0, .int .u64 0, .int .u64 0, .slice none 0 0] 27)).setCells w.heap.size 0 SA.toList = W) ∧ Hid ((Try.prog.info? 27).map (·.size) = some SA.size) ∧ Hid (SA.all (·.oneCell') = true) ∧ Hid (W.rowIs w.heap.size 27 4 (fun i => vs.getD i undef)) ∧ Hid (w.Since w.heap.size W) := by
  have r0 : (w.alloc (.cells #[.int .u64 0, .int .u64 0, .int .u64 0, .slice none 0 0] 27)).rowIs w.heap.size 27 4 (fun i => if i = 3 then .slice none 0 0 else .int .u64 0) :=
    World.rowIs_alloc w _ _ _ (fun i hi => by
      have hi' : i < 4 := hi
      match i, hi' with
      | 0, _ => rfl
      | 1, _ => rfl
      | 2, _ => rfl
      | 3, _ => rfl)
  obtain ⟨W, HW, h7, z7, b7, o7, t7, p7⟩ := cells_stored r0 vs hl
  have s6 : w.Since w.heap.size (w.alloc (.cells #[.int .u64 0, .int .u64 0, .int .u64 0, .slice none 0 0] 27)) := (World.Since.refl _ _).alloc (Nat.le_refl _) _
  have hz : vs.toArray.size = 4 := by rw [List.size_toArray, hl]
  refine ⟨W, vs.toArray, rfl, ?_, HW, by rw [hz]; exact infoSt, h1, ⟨vs.toArray, h7, hz, fun i hi => ?_⟩, o7.trans s6.os, t7.trans s6.tape, p7.trans s6.output, by rw [z7]; exact s6.size, fun k hk => (b7 k (by omega)).trans (s6.block k hk)⟩
  · show World.there _ _ _ _
    rw [hz]
    exact row_there r0
  · rw [List.getElem?_toArray]
    simp [List.getD, show i < vs.length by omega]
/-- What lives has in memory. -/
structure Lv (hb wb sb rb : Nat) (ga : Option Addr) (gc sg sc : Nat) (W : World) : Prop where
  h : W.rowIs hb 46 25 (hdCell (prG lvP 5 ⟨0, 0, 0, [118], 0⟩) ga gc true false true)
  w : ∃ xa xc, W.rowIs wb 46 25 (hdCell (wrG lvW 5 1) xa xc true true true)
  s : W.rowIs sb 27 4 (fun i => [.int .u64 (5 : Nat), .int .u64 (5 : Nat), .int .u64 (1 : Nat), .slice (some ⟨sg, 0, none⟩) 1 sc].getD i undef)
  hv : Byt W ga 1 (fun _ => 118)
  sv : Byt W (some ⟨sg, 0, none⟩) 1 (fun _ => 119)
  rp : RpIs W rb ⟨5, 5, 1, [119], 3⟩
theorem Lv.since {hb wb sb rb : Nat} {ga : Option Addr} {gc sg sc : Nat} {W W' : World} (h : Lv hb wb sb rb ga gc sg sc W) (hs : W.Since W.heap.size W') : Lv hb wb sb rb ga gc sg sc W' :=
  ⟨row_since h.h hs, by obtain ⟨a, c, q⟩ := h.w; exact ⟨a, c, row_since q hs⟩, row_since h.s hs, h.hv.since hs, h.sv.since hs, h.rp.since hs⟩
set_option maxHeartbeats 8000000 in
theorem lives_any (w : World) : Calls Try.prog 9 #[] w fun e w' => e = .returned (.bool true) ∧ w.Since w.heap.size w' := by
  have s1 := byteW_since w 118
  have HNW : Hid (Calls Try.prog 19 #[.slice (some ⟨w.heap.size, 0, none⟩) 1 1] (byteW w 118) fun e w' => ∃ rb, e = .returned (.pointer (some ⟨rb, 0, none⟩)) ∧ Hid (w.heap.size < rb) ∧ Hid (RpIs w' rb ⟨0, 0, 0, [118], 0⟩) ∧ Hid (w.Since w.heap.size w')) := (new_any (some ⟨w.heap.size, 0, none⟩) 1 1 (fun _ => 118) _ (byteW_byt w 118) (fun _ => by decide) (fun e => by cases e) (by decide)).mono fun e w' ⟨rb, he, h1, h2, h3⟩ => ⟨rb, he, by
    have := byteW_size w 118
    show w.heap.size < rb
    omega, h2, s1.trans (since_mono h3 s1.size)⟩
  clear s1
  go_enter Try.func9, Try.ntmps9
  go_upto_region 1 with fail
  refine wp_region_lit ?_
  refine wpList_plain rfl fun _ hK => op_runW (w' := w.alloc (.cells #[.int .u8 (118 : Nat)] 5)) (.slice (some ⟨w.heap.size, 0, none⟩) 1 1) (by go_simp) (hK _ _ ?_)
  simp only [Act.put, List.setIfInBounds_toArray, List.set_cons_zero, List.set_cons_succ]
  refine wpList_plain rfl fun _ hK => op_convert _ _ _ rfl _ _ rfl (conv_byte w 118) (hK _ _ ?_)
  simp only [Act.put, List.setIfInBounds_toArray, List.set_cons_zero, List.set_cons_succ]
  refine wpList_plain rfl fun _ hK => op_call 19 #[.slice (some ⟨w.heap.size, 0, none⟩) 1 1] (by kernel_rfl) HNW.out ?_
  rintro e w1 ⟨rb, rfl, HB, HR1, HS1⟩
  refine ⟨_, rfl, hK _ _ ?_⟩
  clear hK
  simp only [Act.put, List.setIfInBounds_toArray, List.set_cons_zero, List.set_cons_succ]
  have HP := hide (hear_any HR1.out lvP none 0 (lvP_a w1) lvP_n)
  rw [lv_h1] at HP
  have HP2 : Hid (Calls Try.prog 13 #[.pointer (some ⟨rb, 0, none⟩), mgV lvP none 0] w1 fun e w' => ∃ ga gc, e = .returned (hdV (prG lvP 5 ⟨0, 0, 0, [118], 0⟩) ga gc true false true) ∧ Hid (RpIs w' rb ⟨5, 0, 0, [118], 0⟩) ∧ Hid (w.Since w.heap.size w') ∧ Hid (Byt w' ga 1 (fun _ => 118))) := HP.out.mono fun e w' ⟨ga, gc, he, h1, h2, h3⟩ => ⟨ga, gc, he, h1, h2.since HS1.out (by have := HB.out; omega) HS1.out.size, by
    rcases h3 with ⟨_, _, h3⟩ | ⟨g, rfl, h4, h5⟩
    · exact absurd h3 (by decide)
    · intro j hj
      obtain ⟨b, o, e, hc⟩ := h5.byt j hj
      refine ⟨b, o, e, hc.trans ?_⟩
      have : j = 0 := by omega
      subst this
      rfl⟩
  clear HP HR1 HNW HS1
  go_upto_region 4 with fail
  refine wp_region_lit ?_
  refine wpList_plain rfl fun _ hK => op_run (.pointer (some ⟨rb, 0, none⟩)) (by kernel_rfl) (hK _ _ ?_)
  simp only [Act.put, List.setIfInBounds_toArray, List.set_cons_zero, List.set_cons_succ]
  refine wpList_plain rfl fun _ hK => op_run (.agg #[.int .i64 1, .int .i64 2, .int .i64 1, .int .i64 0]) (by kernel_rfl) (hK _ _ ?_)
  simp only [Act.put, List.setIfInBounds_toArray, List.set_cons_zero, List.set_cons_succ]
  refine wpList_plain rfl fun _ hK => op_run (mgV lvP none 0) (by kernel_rfl) (hK _ _ ?_)
  simp only [Act.put, List.setIfInBounds_toArray, List.set_cons_zero, List.set_cons_succ]
  refine wpList_plain rfl fun _ hK => op_call 13 #[.pointer (some ⟨rb, 0, none⟩), mgV lvP none 0] (by kernel_rfl) HP2.out ?_
  rintro e w2 ⟨ga, gc, rfl, HR2, HS2, HV2⟩
  refine ⟨_, rfl, hK _ _ ?_⟩
  clear hK HP2
  obtain ⟨W3, HA3, HVv3, HT3, HW3, HI3, HO3, HRo3, HSi3⟩ := hd_put w2 (prG lvP 5 ⟨0, 0, 0, [118], 0⟩) ga gc true false true
  rw [HVv3.out]
  simp only [Act.put, List.setIfInBounds_toArray, List.set_cons_zero, List.set_cons_succ]
  go_upto_region 5 with (refine wpList_store_mid rfl 46 _ _ rfl w2.heap.size 0 _ rfl rfl HT3.out HI3.out HO3.out ?_; rw [HW3.out])
  have s3 : w.Since w.heap.size W3 := HS2.out.trans (since_mono HSi3.out HS2.out.size)
  have s4 := byteW_since W3 119
  have b4 := byteW_byt W3 119
  have HQ := hide (hear_any ((HR2.out.since HSi3.out).since s4) lvW (some ⟨W3.heap.size, 0, none⟩) 1 (lvW_a b4) lvW_n)
  rw [lv_h2] at HQ
  have HQ2 : Hid (Calls Try.prog 13 #[.pointer (some ⟨rb, 0, none⟩), mgV lvW (some ⟨W3.heap.size, 0, none⟩) 1] (byteW W3 119) fun e w' => ∃ xa xc, e = .returned (hdV (wrG lvW 5 1) xa xc true true true) ∧ Hid (RpIs w' rb ⟨5, 5, 1, [119], 3⟩) ∧ Hid (w.Since w.heap.size w') ∧ Hid (Byt w' ga 1 (fun _ => 118)) ∧ Hid (w'.rowIs w2.heap.size 46 25 (hdCell (prG lvP 5 ⟨0, 0, 0, [118], 0⟩) ga gc true false true))) := HQ.out.mono fun e w' ⟨xa, xc, he, h1, h2, _⟩ => ⟨xa, xc, he, h1, h2.since (s3.trans (since_mono s4 s3.size)) (by have := HB.out; omega) (by have := s3.size; have := s4.size; omega), byt_but ((HV2.out.since HSi3.out).since s4) ((HR2.out.since HSi3.out).since s4) h2, h2.row (row_since HRo3.out s4) (by have := HR2.out.lt; omega)⟩
  clear HQ s3 s4 b4 HSi3 HT3 HW3 HI3 HO3 HVv3 HRo3
  refine wp_region_lit ?_
  refine wpList_plain rfl fun _ hK => op_run (.pointer (some ⟨rb, 0, none⟩)) (by kernel_rfl) (hK _ _ ?_)
  simp only [Act.put, List.setIfInBounds_toArray, List.set_cons_zero, List.set_cons_succ]
  refine wpList_plain rfl fun _ hK => op_run (.agg #[.int .i64 4, .int .i64 2, .int .i64 1, .int .i64 0]) (by kernel_rfl) (hK _ _ ?_)
  simp only [Act.put, List.setIfInBounds_toArray, List.set_cons_zero, List.set_cons_succ]
  refine wpList_plain rfl fun _ hK => op_run (.agg #[.int .u64 5, .int .u64 1]) (by kernel_rfl) (hK _ _ ?_)
  simp only [Act.put, List.setIfInBounds_toArray, List.set_cons_zero, List.set_cons_succ]
  refine wpList_plain rfl fun _ hK => op_runW (w' := W3.alloc (.cells #[.int .u8 (119 : Nat)] 5)) (.slice (some ⟨W3.heap.size, 0, none⟩) 1 1) (by go_simp) (hK _ _ ?_)
  simp only [Act.put, List.setIfInBounds_toArray, List.set_cons_zero, List.set_cons_succ]
  refine wpList_plain rfl fun _ hK => op_convert _ _ _ rfl _ _ rfl (conv_byte W3 119) (hK _ _ ?_)
  simp only [Act.put, List.setIfInBounds_toArray, List.set_cons_zero, List.set_cons_succ]
  refine wpList_plain rfl fun _ hK => op_run (mgV lvW (some ⟨W3.heap.size, 0, none⟩) 1) (by rw [lvW_v]; kernel_rfl) (hK _ _ ?_)
  simp only [Act.put, List.setIfInBounds_toArray, List.set_cons_zero, List.set_cons_succ]
  refine wpList_plain rfl fun _ hK => op_call 13 #[.pointer (some ⟨rb, 0, none⟩), mgV lvW (some ⟨W3.heap.size, 0, none⟩) 1] (by kernel_rfl) HQ2.out ?_
  rintro e w5 ⟨xa, xc, rfl, HR5, HS5, HV5, HH5⟩
  refine ⟨_, rfl, hK _ _ ?_⟩
  clear hK HQ2 HR2 HS2 HV2
  obtain ⟨W6, HA6, HVv6, HT6, HW6, HI6, HO6, HRo6, HSi6⟩ := hd_put w5 (wrG lvW 5 1) xa xc true true true
  rw [HVv6.out]
  simp only [Act.put, List.setIfInBounds_toArray, List.set_cons_zero, List.set_cons_succ]
  go_upto_region 6 with (refine wpList_store_mid rfl 46 _ _ rfl w5.heap.size 0 _ rfl rfl HT6.out HI6.out HO6.out ?_; rw [HW6.out])
  have HST := hide (stored_any (HR5.out.since HSi6.out))
  refine wp_region_lit ?_
  refine wpList_plain rfl fun _ hK => op_run (.pointer (some ⟨rb, 0, none⟩)) (by kernel_rfl) (hK _ _ ?_)
  simp only [Act.put, List.setIfInBounds_toArray, List.set_cons_zero, List.set_cons_succ]
  refine wpList_plain rfl fun _ hK => op_call 10 #[.pointer (some ⟨rb, 0, none⟩)] (by kernel_rfl) HST.out ?_
  rintro e w7 ⟨sg, sc, rfl, hsg, hsc, hsv, hs7⟩
  refine ⟨_, rfl, hK _ _ ?_⟩
  clear hK HST
  obtain ⟨W8, SA, HSA, HT8, HW8, HI8, HO8, HRo8, HSi8⟩ := st_put w7 [.int .u64 (5 : Nat), .int .u64 (5 : Nat), .int .u64 (1 : Nat), .slice (some ⟨sg, 0, none⟩) 1 sc] rfl (by simp [Value.oneCell'])
  rw [show stV ⟨5, 5, 1, [119], 3⟩ sg sc = .agg SA from congrArg Value.agg HSA.out]
  simp only [Act.put, List.setIfInBounds_toArray, List.set_cons_zero, List.set_cons_succ]
  have s68 : W6.Since W6.heap.size W8 := hs7.trans (since_mono HSi8.out hs7.size)
  have s58 : w5.Since w5.heap.size W8 := HSi6.out.trans (since_mono s68 HSi6.out.size)
  have HL8 : Hid (Lv w2.heap.size w5.heap.size w7.heap.size rb ga gc sg sc W8) := ⟨row_since HH5.out s58, ⟨xa, xc, row_since HRo6.out s68⟩, HRo8.out, HV5.out.since s58, fun j hj => by
    obtain ⟨b, o, e, hc⟩ := (hsv.since HSi8.out) j hj
    refine ⟨b, o, e, hc.trans ?_⟩
    have : j = 0 := by omega
    subst this
    rfl, HR5.out.since s58⟩
  have HE8 : Hid (w.Since w.heap.size W8) := HS5.out.trans (since_mono s58 HS5.out.size)
  go_upto_region 7 with (refine wpList_store_mid rfl 27 _ _ rfl w7.heap.size 0 _ rfl rfl HT8.out HI8.out HO8.out ?_; rw [HW8.out])
  clear s68 s58 hsg hsc hsv hs7 HR5 HS5 HV5 HH5 HVv6 HT6 HW6 HI6 HO6 HRo6 HSi6 HSA HT8 HW8 HI8 HO8 HRo8 HSi8 HB
  generalize w2.heap.size = hb at *
  generalize w5.heap.size = wb at *
  generalize w7.heap.size = sb at *
  refine wp_region_lit ?_
  refine wpList_plain rfl fun _ hK => op_run (.pointer (some ⟨hb, 22, none⟩)) (by first | kernel_rfl | go_simp) (hK _ _ ?_)
  simp only [Act.put, List.setIfInBounds_toArray, List.set_cons_zero, List.set_cons_succ]
  refine wpList_plain rfl fun _ hK => op_run (.bool true) (by have c : W8.cell? ⟨hb, 22, none⟩ = some (.bool true) := HL8.out.h.cell (i := 22) (by decide); go_simp) (hK _ _ ?_)
  simp only [Act.put, List.setIfInBounds_toArray, List.set_cons_zero, List.set_cons_succ]
  refine wpList_plain rfl fun _ hK => op_run (.bool true) (by first | kernel_rfl | go_simp) (hK _ _ ?_)
  simp only [Act.put, List.setIfInBounds_toArray, List.set_cons_zero, List.set_cons_succ]
  refine wpList_want rfl fun _ hK => op_run (.pointer (some ⟨hb, 0, none⟩)) (by first | kernel_rfl | go_simp) (hK _ _ ?_)
  simp only [Act.put, List.setIfInBounds_toArray, List.set_cons_zero, List.set_cons_succ]
  refine wpList_want rfl fun _ hK => op_run (.pointer (some ⟨hb, 0, none⟩)) (by first | kernel_rfl | go_simp) (hK _ _ ?_)
  simp only [Act.put, List.setIfInBounds_toArray, List.set_cons_zero, List.set_cons_succ]
  refine wpList_want rfl fun _ hK => op_run (.pointer (some ⟨hb, 0, none⟩)) (by first | kernel_rfl | go_simp) (hK _ _ ?_)
  simp only [Act.put, List.setIfInBounds_toArray, List.set_cons_zero, List.set_cons_succ]
  refine wpList_want rfl fun _ hK => op_run (.int .i64 2) (by have c : W8.cell? ⟨hb, 0, none⟩ = some (.int .i64 2) := HL8.out.h.cell (i := 0) (by decide); go_simp) (hK _ _ ?_)
  simp only [Act.put, List.setIfInBounds_toArray, List.set_cons_zero, List.set_cons_succ]
  refine wpList_want rfl fun _ hK => op_run (.bool true) (by first | kernel_rfl | go_simp) (hK _ _ ?_)
  simp only [Act.put, List.setIfInBounds_toArray, List.set_cons_zero, List.set_cons_succ]
  refine wpList_plain rfl fun _ hK => op_run (.bool true) (by first | kernel_rfl | go_simp) (hK _ _ ?_)
  simp only [Act.put, List.setIfInBounds_toArray, List.set_cons_zero, List.set_cons_succ]
  refine wpList_plain rfl fun _ hK => op_run (.bool true) (by first | kernel_rfl | go_simp) (hK _ _ ?_)
  simp only [Act.put, List.setIfInBounds_toArray, List.set_cons_zero, List.set_cons_succ]
  refine wpList_want rfl fun _ hK => op_run (.pointer (some ⟨hb, 0, none⟩)) (by first | kernel_rfl | go_simp) (hK _ _ ?_)
  simp only [Act.put, List.setIfInBounds_toArray, List.set_cons_zero, List.set_cons_succ]
  refine wpList_want rfl fun _ hK => op_run (.pointer (some ⟨hb, 10, none⟩)) (by first | kernel_rfl | go_simp) (hK _ _ ?_)
  simp only [Act.put, List.setIfInBounds_toArray, List.set_cons_zero, List.set_cons_succ]
  refine wpList_want rfl fun _ hK => op_run (.slice ga 1 gc) (by have c : W8.cell? ⟨hb, 10, none⟩ = some (.slice ga 1 gc) := HL8.out.h.cell (i := 10) (by decide); go_simp) (hK _ _ ?_)
  simp only [Act.put, List.setIfInBounds_toArray, List.set_cons_zero, List.set_cons_succ]
  have sw9 := byteW_since W8 118
  have HEQw9 : Hid (Calls Try.prog 24 #[.slice ga 1 gc, .slice (some ⟨W8.heap.size, 0, none⟩) 1 1] (byteW W8 118) fun e w' => e = .returned (.bool true) ∧ Hid (W8.Since W8.heap.size w')) := (eq_same _ _ 1 _ 1 (fun _ => 118) _ (HL8.out.hv.since sw9) (byteW_byt W8 118) (by decide)).mono fun e w' ⟨he, m, hm⟩ => ⟨he, by rw [hm]; exact since_drewN' sw9 m⟩
  refine wpList_want rfl fun _ hK => op_runW (w' := W8.alloc (.cells #[.int .u8 (118 : Nat)] 5)) (.slice (some ⟨W8.heap.size, 0, none⟩) 1 1) (by go_simp) (hK _ _ ?_)
  simp only [Act.put, List.setIfInBounds_toArray, List.set_cons_zero, List.set_cons_succ]
  refine wpList_want rfl fun _ hK => op_convert _ _ _ rfl _ _ rfl (conv_byte W8 118) (hK _ _ ?_)
  simp only [Act.put, List.setIfInBounds_toArray, List.set_cons_zero, List.set_cons_succ]
  refine wpList_want rfl fun _ hK => op_call 24 #[.slice ga 1 gc, .slice (some ⟨W8.heap.size, 0, none⟩) 1 1] (by kernel_rfl) HEQw9.out ?_
  rintro e w9 ⟨rfl, Hsw9⟩
  refine ⟨_, rfl, hK _ _ ?_⟩
  clear hK HEQw9 sw9
  simp only [Act.put, List.setIfInBounds_toArray, List.set_cons_zero, List.set_cons_succ]
  have HL9 := hide (HL8.out.since Hsw9.out)
  have HE9 : Hid (w.Since w.heap.size w9) := HE8.out.trans (since_mono Hsw9.out HE8.out.size)
  obtain ⟨xa', xc', hw9⟩ := HL9.out.w
  have HW9 := hide hw9
  clear hw9 HL8 HE8
  refine wpList_plain rfl fun _ hK => op_run (.bool true) (by first | kernel_rfl | go_simp) (hK _ _ ?_)
  simp only [Act.put, List.setIfInBounds_toArray, List.set_cons_zero, List.set_cons_succ]
  refine wpList_plain rfl fun _ hK => op_run (.bool true) (by first | kernel_rfl | go_simp) (hK _ _ ?_)
  simp only [Act.put, List.setIfInBounds_toArray, List.set_cons_zero, List.set_cons_succ]
  refine wpList_want rfl fun _ hK => op_run (.pointer (some ⟨wb, 23, none⟩)) (by first | kernel_rfl | go_simp) (hK _ _ ?_)
  simp only [Act.put, List.setIfInBounds_toArray, List.set_cons_zero, List.set_cons_succ]
  refine wpList_want rfl fun _ hK => op_run (.bool true) (by have c : w9.cell? ⟨wb, 23, none⟩ = some (.bool true) := HW9.out.cell (i := 23) (by decide); go_simp) (hK _ _ ?_)
  simp only [Act.put, List.setIfInBounds_toArray, List.set_cons_zero, List.set_cons_succ]
  refine wpList_plain rfl fun _ hK => op_run (.bool true) (by first | kernel_rfl | go_simp) (hK _ _ ?_)
  simp only [Act.put, List.setIfInBounds_toArray, List.set_cons_zero, List.set_cons_succ]
  refine wpList_plain rfl fun _ hK => op_run (.bool true) (by first | kernel_rfl | go_simp) (hK _ _ ?_)
  simp only [Act.put, List.setIfInBounds_toArray, List.set_cons_zero, List.set_cons_succ]
  refine wpList_want rfl fun _ hK => op_run (.pointer (some ⟨wb, 24, none⟩)) (by first | kernel_rfl | go_simp) (hK _ _ ?_)
  simp only [Act.put, List.setIfInBounds_toArray, List.set_cons_zero, List.set_cons_succ]
  refine wpList_want rfl fun _ hK => op_run (.bool true) (by have c : w9.cell? ⟨wb, 24, none⟩ = some (.bool true) := HW9.out.cell (i := 24) (by decide); go_simp) (hK _ _ ?_)
  simp only [Act.put, List.setIfInBounds_toArray, List.set_cons_zero, List.set_cons_succ]
  refine wpList_plain rfl fun _ hK => op_run (.bool true) (by first | kernel_rfl | go_simp) (hK _ _ ?_)
  simp only [Act.put, List.setIfInBounds_toArray, List.set_cons_zero, List.set_cons_succ]
  refine wpList_plain rfl fun _ hK => op_run (.bool true) (by first | kernel_rfl | go_simp) (hK _ _ ?_)
  simp only [Act.put, List.setIfInBounds_toArray, List.set_cons_zero, List.set_cons_succ]
  refine wpList_want rfl fun _ hK => op_run (.pointer (some ⟨wb, 0, none⟩)) (by first | kernel_rfl | go_simp) (hK _ _ ?_)
  simp only [Act.put, List.setIfInBounds_toArray, List.set_cons_zero, List.set_cons_succ]
  refine wpList_want rfl fun _ hK => op_run (.pointer (some ⟨wb, 0, none⟩)) (by first | kernel_rfl | go_simp) (hK _ _ ?_)
  simp only [Act.put, List.setIfInBounds_toArray, List.set_cons_zero, List.set_cons_succ]
  refine wpList_want rfl fun _ hK => op_run (.pointer (some ⟨wb, 0, none⟩)) (by first | kernel_rfl | go_simp) (hK _ _ ?_)
  simp only [Act.put, List.setIfInBounds_toArray, List.set_cons_zero, List.set_cons_succ]
  refine wpList_want rfl fun _ hK => op_run (.int .i64 5) (by have c : w9.cell? ⟨wb, 0, none⟩ = some (.int .i64 5) := HW9.out.cell (i := 0) (by decide); go_simp) (hK _ _ ?_)
  simp only [Act.put, List.setIfInBounds_toArray, List.set_cons_zero, List.set_cons_succ]
  refine wpList_want rfl fun _ hK => op_run (.bool true) (by first | kernel_rfl | go_simp) (hK _ _ ?_)
  simp only [Act.put, List.setIfInBounds_toArray, List.set_cons_zero, List.set_cons_succ]
  refine wpList_plain rfl fun _ hK => op_run (.bool true) (by first | kernel_rfl | go_simp) (hK _ _ ?_)
  simp only [Act.put, List.setIfInBounds_toArray, List.set_cons_zero, List.set_cons_succ]
  refine wpList_plain rfl fun _ hK => op_run (.bool true) (by first | kernel_rfl | go_simp) (hK _ _ ?_)
  simp only [Act.put, List.setIfInBounds_toArray, List.set_cons_zero, List.set_cons_succ]
  refine wpList_want rfl fun _ hK => op_run (.pointer (some ⟨sb, 0, none⟩)) (by first | kernel_rfl | go_simp) (hK _ _ ?_)
  simp only [Act.put, List.setIfInBounds_toArray, List.set_cons_zero, List.set_cons_succ]
  refine wpList_want rfl fun _ hK => op_run (.int .u64 5) (by have c : w9.cell? ⟨sb, 0, none⟩ = some (.int .u64 (5 : Nat)) := HL9.out.s.cell (i := 0) (by decide); go_simp) (hK _ _ ?_)
  simp only [Act.put, List.setIfInBounds_toArray, List.set_cons_zero, List.set_cons_succ]
  refine wpList_want rfl fun _ hK => op_run (.bool true) (by first | kernel_rfl | go_simp) (hK _ _ ?_)
  simp only [Act.put, List.setIfInBounds_toArray, List.set_cons_zero, List.set_cons_succ]
  refine wpList_plain rfl fun _ hK => op_run (.bool true) (by first | kernel_rfl | go_simp) (hK _ _ ?_)
  simp only [Act.put, List.setIfInBounds_toArray, List.set_cons_zero, List.set_cons_succ]
  refine wpList_plain rfl fun _ hK => op_run (.bool true) (by first | kernel_rfl | go_simp) (hK _ _ ?_)
  simp only [Act.put, List.setIfInBounds_toArray, List.set_cons_zero, List.set_cons_succ]
  refine wpList_want rfl fun _ hK => op_run (.pointer (some ⟨sb, 3, none⟩)) (by first | kernel_rfl | go_simp) (hK _ _ ?_)
  simp only [Act.put, List.setIfInBounds_toArray, List.set_cons_zero, List.set_cons_succ]
  refine wpList_want rfl fun _ hK => op_run (.slice (some ⟨sg, 0, none⟩) 1 sc) (by have c : w9.cell? ⟨sb, 3, none⟩ = some (.slice (some ⟨sg, 0, none⟩) 1 sc) := HL9.out.s.cell (i := 3) (by decide); go_simp) (hK _ _ ?_)
  simp only [Act.put, List.setIfInBounds_toArray, List.set_cons_zero, List.set_cons_succ]
  have swa := byteW_since w9 119
  have HEQwa : Hid (Calls Try.prog 24 #[.slice (some ⟨sg, 0, none⟩) 1 sc, .slice (some ⟨w9.heap.size, 0, none⟩) 1 1] (byteW w9 119) fun e w' => e = .returned (.bool true) ∧ Hid (w9.Since w9.heap.size w')) := (eq_same _ _ 1 _ 1 (fun _ => 119) _ (HL9.out.sv.since swa) (byteW_byt w9 119) (by decide)).mono fun e w' ⟨he, m, hm⟩ => ⟨he, by rw [hm]; exact since_drewN' swa m⟩
  refine wpList_want rfl fun _ hK => op_runW (w' := w9.alloc (.cells #[.int .u8 (119 : Nat)] 5)) (.slice (some ⟨w9.heap.size, 0, none⟩) 1 1) (by go_simp) (hK _ _ ?_)
  simp only [Act.put, List.setIfInBounds_toArray, List.set_cons_zero, List.set_cons_succ]
  refine wpList_want rfl fun _ hK => op_convert _ _ _ rfl _ _ rfl (conv_byte w9 119) (hK _ _ ?_)
  simp only [Act.put, List.setIfInBounds_toArray, List.set_cons_zero, List.set_cons_succ]
  refine wpList_want rfl fun _ hK => op_call 24 #[.slice (some ⟨sg, 0, none⟩) 1 sc, .slice (some ⟨w9.heap.size, 0, none⟩) 1 1] (by kernel_rfl) HEQwa.out ?_
  rintro e wa ⟨rfl, Hswa⟩
  refine ⟨_, rfl, hK _ _ ?_⟩
  clear hK HEQwa swa
  simp only [Act.put, List.setIfInBounds_toArray, List.set_cons_zero, List.set_cons_succ]
  have HWT := hide (wait_any (HL9.out.rp.since Hswa.out))
  have HEa : Hid (w.Since w.heap.size wa) := HE9.out.trans (since_mono Hswa.out HE9.out.size)
  refine wpList_plain rfl fun _ hK => op_run (.bool true) (by first | kernel_rfl | go_simp) (hK _ _ ?_)
  simp only [Act.put, List.setIfInBounds_toArray, List.set_cons_zero, List.set_cons_succ]
  refine wpList_plain rfl fun _ hK => op_run (.bool true) (by first | kernel_rfl | go_simp) (hK _ _ ?_)
  simp only [Act.put, List.setIfInBounds_toArray, List.set_cons_zero, List.set_cons_succ]
  refine wpList_want rfl fun _ hK => op_run (.pointer (some ⟨rb, 0, none⟩)) (by first | kernel_rfl | go_simp) (hK _ _ ?_)
  simp only [Act.put, List.setIfInBounds_toArray, List.set_cons_zero, List.set_cons_succ]
  refine wpList_want rfl fun _ hK => op_call 12 #[.pointer (some ⟨rb, 0, none⟩)] (by kernel_rfl) HWT.out ?_
  rintro e wz ⟨rfl, rfl⟩
  refine ⟨_, rfl, hK _ _ ?_⟩
  clear hK
  simp only [Act.put, List.setIfInBounds_toArray, List.set_cons_zero, List.set_cons_succ]
  refine wpList_want rfl fun _ hK => op_run (.bool true) (by first | kernel_rfl | go_simp) (hK _ _ ?_)
  simp only [Act.put, List.setIfInBounds_toArray, List.set_cons_zero, List.set_cons_succ]
  refine wpList_plain rfl fun _ hK => op_run (.bool true) (by first | kernel_rfl | go_simp) (hK _ _ ?_)
  simp only [Act.put, List.setIfInBounds_toArray, List.set_cons_zero, List.set_cons_succ]
  clear HWT HL9 HW9
  go_wp2_with fail
  go_ret
  exact ⟨rfl, HEa.out⟩
end Go.Proofs.Yteneaiaejdgpcaa

/- Stage 9's laws: a step of a life. -/
namespace Go.Proofs.Yteneaiaejdgpcaa
open Go.RowKit Go.Maps
set_option maxRecDepth 100000
set_option maxRecDepth 100000

/-- A call that is handed in. -/
structure Od where
  d : Int
  wh : Int
  sp : Int
  ep : Nat
  m : Mg
  va : Option Addr
  vc : Nat
  s1 : Nat
  s2 : Nat
  s3 : Nat
  sa : Option Addr
  sl : Nat
  sc : Nat
def opL (o : Od) : List Value := [.int .i64 o.d, .int .i64 o.wh, .int .i64 o.sp, .int .u64 (o.ep : Nat)] ++ mgL o.m o.va o.vc ++ [.int .u64 (o.s1 : Nat), .int .u64 (o.s2 : Nat), .int .u64 (o.s3 : Nat), .slice o.sa o.sl o.sc]
theorem opL_len (o : Od) : (opL o).length = 30 := by unfold opL; simp [mgL_len]
theorem opL_one (o : Od) : (opL o).toArray.all (·.oneCell') = true := all_oneCell_toArray (fun v hv => by
  unfold opL at hv
  rcases List.mem_append.1 hv with h | h
  · rcases List.mem_append.1 h with h | h
    · simp only [List.mem_cons, List.not_mem_nil, or_false] at h
      rcases h with rfl | rfl | rfl | rfl <;> rfl
    · exact mgL_one _ _ _ v h
  · simp only [List.mem_cons, List.not_mem_nil, or_false] at h
    rcases h with rfl | rfl | rfl | rfl <;> rfl)
theorem opL_m (o : Od) (i : Nat) (hi : i < 22) : (opL o)[4 + i]? = (mgL o.m o.va o.vc)[i]? := by
  unfold opL
  rw [List.append_assoc, List.getElem?_append_right (by simp), List.getElem?_append_left (by simp [mgL_len]; omega)]
  congr 1
  simp
theorem infoOp : (Try.prog.info? 43).map (·.size) = some 30 := by kernel_rfl
/-- The calls that are handed in. -/
structure OpsIn (w : World) (oa : Option Addr) (on : Nat) (O : Nat → Od) : Prop where
  at' : ∀ i, i < on → ∃ b o, oa = some ⟨b, o, none⟩ ∧ w.rangeAt b (o + i * 30) (opL (O i)) ∧ b < w.heap.size
  ok : ∀ i, i < on → MgA w (O i).m (O i).va (O i).vc ∧ MgN (O i).m ∧ (O i).ep < 18446744073709551616
theorem rangeS {w w' : World} {b o : Nat} {cs : List Value} (h : w.rangeAt b o cs) (hl : b < w.heap.size) (hs : w.Since w.heap.size w') : w'.rangeAt b o cs := fun j v hv => by
  rw [World.cell?_of_block (a := ⟨b, o + j, none⟩) (hs.block b hl)]
  exact h j v hv
theorem OpsIn.since {w w' : World} {oa : Option Addr} {on : Nat} {O : Nat → Od} (h : OpsIn w oa on O) (hs : w.Since w.heap.size w') : OpsIn w' oa on O :=
  ⟨fun i hi => by
    obtain ⟨b, o, e, h1, h2⟩ := h.at' i hi
    exact ⟨b, o, e, rangeS h1 h2 hs, Nat.lt_of_lt_of_le h2 hs.size⟩, fun i hi => ⟨(h.ok i hi).1.since hs, (h.ok i hi).2⟩⟩
theorem opZ_row (w : World) : ∃ f, (w.alloc (.cells #[.int .i64 0, .int .i64 0, .int .i64 0, .int .u64 0, .int .i64 0, .int .i64 0, .int .i64 0, .int .i64 0, .int .u64 0, .int .u64 0, .int .u64 0, .int .u64 0, .int .i64 0, .int .u64 0, .slice none 0 0, .int .i64 0, .int .u64 0, .string ⟨#[]⟩, .string ⟨#[]⟩, .int .u64 0, .int .u64 0, .int .u64 0, .int .i64 0, .int .i64 0, .int .i64 0, .int .i64 0, .int .u64 0, .int .u64 0, .int .u64 0, .slice none 0 0] 43)).rowIs w.heap.size 43 30 f :=
  ⟨_, World.rowIs_alloc w _ _ (fun i => (#[.int .i64 0, .int .i64 0, .int .i64 0, .int .u64 0, .int .i64 0, .int .i64 0, .int .i64 0, .int .i64 0, .int .u64 0, .int .u64 0, .int .u64 0, .int .u64 0, .int .i64 0, .int .u64 0, .slice none 0 0, .int .i64 0, .int .u64 0, .string ⟨#[]⟩, .string ⟨#[]⟩, .int .u64 0, .int .u64 0, .int .u64 0, .int .i64 0, .int .i64 0, .int .i64 0, .int .i64 0, .int .u64 0, .int .u64 0, .int .u64 0, .slice none 0 0] : Array Value).getD i undef) (fun i hi => by
    rw [Array.getElem?_eq_getElem hi, Array.getD_eq_getD_getElem?, Array.getElem?_eq_getElem hi]
    rfl)⟩
/-- A call is laid into new memory. -/
theorem op_put (w : World) (o : Od) : ∃ (W : World) (OA : Array Value), Hid ((opL o).toArray = OA) ∧ Hid ((w.alloc (.cells #[.int .i64 0, .int .i64 0, .int .i64 0, .int .u64 0, .int .i64 0, .int .i64 0, .int .i64 0, .int .i64 0, .int .u64 0, .int .u64 0, .int .u64 0, .int .u64 0, .int .i64 0, .int .u64 0, .slice none 0 0, .int .i64 0, .int .u64 0, .string ⟨#[]⟩, .string ⟨#[]⟩, .int .u64 0, .int .u64 0, .int .u64 0, .int .i64 0, .int .i64 0, .int .i64 0, .int .i64 0, .int .u64 0, .int .u64 0, .int .u64 0, .slice none 0 0] 43)).there w.heap.size 0 OA.size) ∧ Hid ((w.alloc (.cells #[.int .i64 0, .int .i64 0, .int .i64 0, .int .u64 0, .int .i64 0, .int .i64 0, .int .i64 0, .int .i64 0, .int .u64 0, .int .u64 0, .int .u64 0, .int .u64 0, .int .i64 0, .int .u64 0, .slice none 0 0, .int .i64 0, .int .u64 0, .string ⟨#[]⟩, .string ⟨#[]⟩, .int .u64 0, .int .u64 0, .int .u64 0, .int .i64 0, .int .i64 0, .int .i64 0, .int .i64 0, .int .u64 0, .int .u64 0, .int .u64 0, .slice none 0 0] 43)).setCells w.heap.size 0 OA.toList = W) ∧ Hid ((Try.prog.info? 43).map (·.size) = some OA.size) ∧ Hid (OA.all (·.oneCell') = true) ∧ Hid (W.rowIs w.heap.size 43 30 (fun i => (opL o).getD i undef)) ∧ Hid (w.Since w.heap.size W) := by
  obtain ⟨f, r0⟩ := opZ_row w
  obtain ⟨W, HW, h7, z7, b7, o7, t7, p7⟩ := cells_stored r0 (opL o) (opL_len o)
  have s6 : w.Since w.heap.size (w.alloc (.cells #[.int .i64 0, .int .i64 0, .int .i64 0, .int .u64 0, .int .i64 0, .int .i64 0, .int .i64 0, .int .i64 0, .int .u64 0, .int .u64 0, .int .u64 0, .int .u64 0, .int .i64 0, .int .u64 0, .slice none 0 0, .int .i64 0, .int .u64 0, .string ⟨#[]⟩, .string ⟨#[]⟩, .int .u64 0, .int .u64 0, .int .u64 0, .int .i64 0, .int .i64 0, .int .i64 0, .int .i64 0, .int .u64 0, .int .u64 0, .int .u64 0, .slice none 0 0] 43)) := (World.Since.refl _ _).alloc (Nat.le_refl _) _
  have hz : (opL o).toArray.size = 30 := by rw [List.size_toArray, opL_len]
  refine ⟨W, (opL o).toArray, rfl, ?_, HW, by rw [hz]; exact infoOp, opL_one o, ⟨(opL o).toArray, h7, hz, fun i hi => ?_⟩, o7.trans s6.os, t7.trans s6.tape, p7.trans s6.output, by rw [z7]; exact s6.size, fun k hk => (b7 k (by omega)).trans (s6.block k hk)⟩
  · show World.there _ _ _ _
    rw [hz]
    exact row_there r0
  · rw [List.getElem?_toArray]
    simp [List.getD, show i < (opL o).length by rw [opL_len]; exact hi]
theorem res_cc {P : Program} {fn : Func} {p q : Tmp} {ty tz : TypeId} (h : fn.results = #[.cell p ty, .cell q tz]) (tmps : Array Value) (w : World) (g k : Nat) (t u : TypeId) (cs ds : Array Value) (fr fs : Nat × Nat) (d e : TypeDesc)
    (hp : tmps.getD p undef = .pointer (some ⟨g, 0, none⟩)) (hg : w.heap[g]? = some (.cells cs t fr)) (hu : P.underlying ty = some d) (hd : (match d with | .struct _ | .array _ _ => true | _ => false) = true) (hi : (P.info? ty).map (·.size) = some cs.size)
    (hq : tmps.getD q undef = .pointer (some ⟨k, 0, none⟩)) (hk : w.heap[k]? = some (.cells ds u fs)) (hv : P.underlying tz = some e) (he : (match e with | .struct _ | .array _ _ => true | _ => false) = true) (hj : (P.info? tz).map (·.size) = some ds.size) :
    (results fn tmps).run P w = .ok (.tuple #[.agg cs, .agg ds]) w := by
  have hp' : tmps[p]?.getD undef = .pointer (some ⟨g, 0, none⟩) := by simpa using hp
  have hq' : tmps[q]?.getD undef = .pointer (some ⟨k, 0, none⟩) := by simpa using hq
  simp [results, h, hp', hq', asAddr, run_loadVar_row w g t ty cs fr d hg hu hd hi, run_loadVar_row w k u tz ds fs e hk hv he hj, Sem.run_bind, Result.andThen]
/-- What a step of a life makes of the copy, and what it tells. -/
def atM (o : Od) (r : Rp) : Mg × Hd := if o.d = 1 then (o.m, hearM r o.m) else (mg0, ⟨mg0, false, false, false, if o.d = 2 then { r with wt := wtM (r.wt - 1) } else if o.d = 3 then (if r.p < o.ep then { r with p := o.ep } else r) else r⟩)
/-- While a step of a life is made. -/
structure Az (w : World) (rb : Nat) (r : Rp) (o : Od) (f6 : Nat → Value) (W : World) : Prop where
  rp : RpIs W rb r
  mga : MgA W o.m o.va o.vc
  op : W.rowIs (w.heap.size + 3) 43 30 (fun i => (opL o).getD i undef)
  r6 : W.rowIs (w.heap.size + 1) 41 22 f6
  r7 : W.rowIs (w.heap.size + 2) 46 25 (hdCell mg0 none 0 false false false)
  but : But rb w W
  lt : rb < w.heap.size
theorem heap_setCells (b : Nat) : ∀ (vs : List Value) (o : Nat) (W : World) (k : Nat), k ≠ b → (W.setCells b o vs).heap[k]? = W.heap[k]?
  | [], _, _, _, _ => rfl
  | v :: vs, o, W, k, h => (heap_setCells b vs (o + 1) (W.setCell ⟨b, o, none⟩ v) k h).trans (Below.heap_setCell _ _ _ _ h)
section
variable {w W W' : World} {rb : Nat} {r r' : Rp} {o : Od} {f6 : Nat → Value}
theorem Az.since (h : Az w rb r o f6 W) (hs : W.Since W.heap.size W') : Az w rb r o f6 W' :=
  ⟨h.rp.since hs, h.mga.since hs, row_since h.op hs, row_since h.r6 hs, row_since h.r7 hs, h.but.sin hs, h.lt⟩
theorem mga_but {m : Mg} {va : Option Addr} {vc : Nat} (h : MgA W m va vc) (hr : RpIs W rb r) (hb : But rb W W') : MgA W' m va vc :=
  ⟨byt_but h.val hr hb, h.nil, fun q e h0 => Nat.lt_of_lt_of_le (h.lt q e h0) hb.size, h.len, h.byte⟩
theorem Az.turn (h : Az w rb r o f6 W) (hb : But rb W W') (hr : RpIs W' rb r') : Az w rb r' o f6 W' :=
  ⟨hr, mga_but h.mga h.rp hb, hb.row h.op (by have := h.lt; omega), hb.row h.r6 (by have := h.lt; omega), hb.row h.r7 (by have := h.lt; omega), h.but.trans hb, h.lt⟩
theorem mga_other {m : Mg} {va : Option Addr} {vc b t : Nat} {f : Nat → Value} (h : MgA W m va vc) (hr : W.rowIs b t 22 f) (hn : ∀ i, i < 22 → ∀ n, f i ≠ .int .u8 n) (hb : But b W W') : MgA W' m va vc := by
  refine ⟨fun j hj => ?_, h.nil, fun q e h0 => Nat.lt_of_lt_of_le (h.lt q e h0) hb.size, h.len, h.byte⟩
  obtain ⟨g, off, e, hc⟩ := h.val j hj
  refine ⟨g, off, e, ?_⟩
  have hl := World.block_lt_of_cell? _ _ hc
  have hne : g ≠ b := fun e => by
    subst e
    by_cases hi : off + j < 22
    · rw [hr.cell hi] at hc
      exact hn _ hi _ (Option.some.inj hc)
    · obtain ⟨cs, h1, h2, h3⟩ := hr
      simp only [World.cell?, h1] at hc
      rw [Array.getElem?_eq_none (by omega)] at hc
      exact absurd hc (by simp)
  rw [World.cell?_of_block (a := ⟨g, off + j, none⟩) (hb.block g hl hne)]
  exact hc
theorem mgCell_no8 (m : Mg) (va : Option Addr) (vc i : Nat) (n : Int) : mgCell m va vc i ≠ .int .u8 n := by
  unfold mgCell
  repeat' split
  all_goals simp
theorem Az.put (h : Az w rb r o (mgCell mg0 none 0) W) (m : Mg) (va : Option Addr) (vc : Nat) : Az w rb r o (mgCell m va vc) (W.setCells (w.heap.size + 1) 0 (mgL m va vc)) := by
  have hb : But (w.heap.size + 1) W (W.setCells (w.heap.size + 1) 0 (mgL m va vc)) := (But.of_since (World.Since.refl _ _)).setCells _ 0
  obtain ⟨W1, HW, r1, _⟩ := mg_stored h.r6 m va vc
  have hl := h.lt
  have hs := h.but.size
  rw [show W.setCells (w.heap.size + 1) 0 (mgL m va vc) = W1 from HW.out] at hb ⊢
  exact ⟨h.rp.but hb (by omega), mga_other h.mga h.r6 (fun i _ => mgCell_no8 _ _ _ i) hb, hb.row h.op (by omega), r1, hb.row h.r7 (by omega), ⟨hb.os.trans h.but.os, hb.tape.trans h.but.tape, hb.output.trans h.but.output, Nat.le_trans hs hb.size, fun k hk hn => (hb.block k (by omega) (by omega)).trans (h.but.block k hk hn)⟩, hl⟩
theorem Az.range (h : Az w rb r o f6 W) : W.rangeAt (w.heap.size + 3) 4 (mgL o.m o.va o.vc) := fun j v hv => by
  have hj : j < 22 := by have := (List.getElem?_eq_some_iff.1 hv).1; rwa [mgL_len] at this
  rw [h.op.cell (i := 4 + j) (by omega)]
  have := opL_m o j hj
  rw [hv] at this
  simp [List.getD, this]
/-- The end of a step: the second answer is laid. -/
theorem Az.fin (h : Az w rb r o f6 W) (a : Mg) (ga : Option Addr) (gc : Nat) (b1 b2 b3 : Bool) : ∃ (HL : Array Value) (WE : World), Hid (hdV a ga gc b1 b2 b3 = .agg HL) ∧ Hid (W.there (w.heap.size + 2) 0 HL.size) ∧ Hid ((Try.prog.info? 46).map (·.size) = some HL.size) ∧ Hid (HL.all (·.oneCell') = true) ∧ Hid (W.setCells (w.heap.size + 2) 0 HL.toList = WE) ∧ Hid (WE.heap[w.heap.size + 2]? = some (.cells HL 46 (0, 0))) ∧ Hid (WE.rowIs (w.heap.size + 1) 41 22 f6) ∧ Hid (RpIs WE rb r ∧ But rb w WE ∧ ∀ k, k ≠ w.heap.size + 2 → WE.heap[k]? = W.heap[k]?) := by
  obtain ⟨WE, HWE, hhE, zE, bE, oE, tE, pE⟩ := cells_stored h.r7 (hdL a ga gc b1 b2 b3) (hdL_len _ _ _ _ _ _)
  have hl := h.lt
  refine ⟨(hdL a ga gc b1 b2 b3).toArray, WE, rfl, ?_, infoHrA _ _ _ _ _ _, hd_all _ _ _ _ _ _, HWE, hhE, h.r6.of_block (bE _ (by omega)), h.rp.on (bE _ (by omega)), ⟨oE.trans h.but.os, tE.trans h.but.tape, pE.trans h.but.output, by rw [zE]; exact h.but.size, fun k hk hn => ?_⟩, bE⟩
  · have e : (hdL a ga gc b1 b2 b3).toArray.size = 25 := by rw [List.size_toArray, hdL_len]
    show World.there _ _ _ _
    rw [e]
    exact row_there h.r7
  · rw [bE k (by omega)]
    exact h.but.block k hk hn
end
def lfV (p te ts : Nat) (sa : Option Addr) (sn sc : Nat) (span : Int) (oa : Option Addr) (on oc : Nat) : Value := .agg #[.int .u64 (p : Nat), .int .u64 (te : Nat), .int .u64 (ts : Nat), .slice sa sn sc, .int .i64 span, .slice oa on oc]
set_option maxHeartbeats 8000000 in
theorem at_tick {rb : Nat} {r : Rp} {w : World} (h : RpIs w rb r) (p te ts : Nat) (sa : Option Addr) (sn sc : Nat) (span : Int) (oa : Option Addr) (on oc : Nat) (O : Nat → Od) (hO : OpsIn w oa on O) (i : Nat) (hi : i < on) (hon : on ≤ 1000000000000) (hd : (O i).d = 2) :
    Calls Try.prog 11 #[lfV p te ts sa sn sc span oa on oc, .pointer (some ⟨rb, 0, none⟩), .int .i64 (i : Nat)] w fun e w' => ∃ va vc ga gc, e = .returned (.tuple #[mgV (atM (O i) r).1 va vc, hdV (atM (O i) r).2.a ga gc (atM (O i) r).2.b1 (atM (O i) r).2.b2 (atM (O i) r).2.b3]) ∧ RpIs w' rb (atM (O i) r).2.r ∧ But rb w w' ∧ AnV w.heap.size w' (atM (O i) r).2.a ga gc ∧ ((O i).d = 1 → va = (O i).va ∧ vc = (O i).vc) := by
  obtain ⟨ob, oo, rfl, hrg, hob⟩ := hO.at' i hi
  have hok := hO.ok i hi
  obtain ⟨W1, HW1⟩ : ∃ W, Hid (w.alloc (.cells #[.int .u64 (p : Nat), .int .u64 (te : Nat), .int .u64 (ts : Nat), .slice sa sn sc, .int .i64 span, .slice (some ⟨ob, oo, none⟩) on oc] 30) = W) := ⟨_, rfl⟩
  have s1 : w.Since w.heap.size W1 := by rw [← HW1.out]; exact (World.Since.refl _ _).alloc (Nat.le_refl _) _
  have z1 : W1.heap.size = w.heap.size + 1 := by rw [← HW1.out]; simp
  have c5 : W1.cell? ⟨w.heap.size, 5, none⟩ = some (.slice (some ⟨ob, oo, none⟩) on oc) := by rw [← HW1.out]; simp
  obtain ⟨W2, HW2⟩ : ∃ W, Hid (W1.alloc mgZ = W) := ⟨_, rfl⟩
  have s2 : W1.Since W1.heap.size W2 := by rw [← HW2.out]; exact (World.Since.refl _ _).alloc (Nat.le_refl _) _
  have z2 : W2.heap.size = w.heap.size + 1 + 1 := by rw [← HW2.out, ← z1]; simp
  have r2 : W2.rowIs (w.heap.size + 1) 41 22 (mgCell mg0 none 0) := by rw [← z1, ← HW2.out]; exact mgZ_row W1
  obtain ⟨W3, HW3⟩ : ∃ W, Hid (W2.alloc hdZ = W) := ⟨_, rfl⟩
  have s3 : W2.Since W2.heap.size W3 := by rw [← HW3.out]; exact (World.Since.refl _ _).alloc (Nat.le_refl _) _
  have z3 : W3.heap.size = w.heap.size + 3 := by rw [← HW3.out]; have : (W2.alloc hdZ).heap.size = W2.heap.size + 1 := by simp
                                                 omega
  have r3 : W3.rowIs (w.heap.size + 2) 46 25 (hdCell mg0 none 0 false false false) := by
    have e : w.heap.size + 2 = W2.heap.size := by omega
    rw [e, ← HW3.out]; exact hdZ_row W2
  have s13 : W1.Since W1.heap.size W3 := s2.trans (since_mono s3 s2.size)
  have sw3 : w.Since w.heap.size W3 := s1.trans (since_mono s13 s1.size)
  replace c5 := cell_later s13 c5
  obtain ⟨W5, OA, HOA, HT5, HW5, HI5, HO5, HR5, HS5⟩ := op_put W3 (O i)
  rw [z3] at HT5 HW5 HR5
  have sw5 : w.Since w.heap.size W5 := sw3.trans (since_mono HS5.out sw3.size)
  have HZ : Hid (Az w rb r (O i) (mgCell mg0 none 0) W5) := ⟨h.since sw5, hok.1.since sw5, HR5.out, row_since (row_since r2 s3) HS5.out, row_since r3 HS5.out, But.of_since sw5, h.lt⟩
  have HRG : Hid (W3.rangeAt ob (oo + i * 30) (opL (O i))) := rangeS hrg hob sw3
  have HN := hide hok.2.1
  have HEP := hide hok.2.2
  have c0 : W5.cell? ⟨w.heap.size + 3, 0, none⟩ = some (.int .i64 (O i).d) := HZ.out.op.cell (i := 0) (by decide)
  have hiz : (i : Int) < (on : Int) := by omega
  have hion : (on : Int) ≤ 1000000000000 := by omega
  have hd1 : (O i).d ≠ 1 := by omega
  have HD1 := hide hd1
  clear hd1
  have HEQ : atM (O i) r = (mg0, ⟨mg0, false, false, false, { r with wt := wtM (r.wt - 1) }⟩) := by unfold atM; rw [if_neg (by omega), if_pos hd]
  rw [HEQ]
  clear HEQ
  have HII : Hid ((Try.prog.info? 43).map (·.size) = some (opL (O i)).length) := by rw [opL_len]; exact infoOp
  have q1 : ((O i).d == 1) = false := by simp; omega
  have q2 : ((O i).d == 2) = true := by simp; omega
  unfold mgZ at HW2
  unfold hdZ at HW3
  clear s1 s2 s3 s13 sw3 sw5 r2 r3 hrg hob hok hO h hd HR5 HS5 hon hi
  unfold lfV
  go_enter Try.func11, Try.ntmps11
  go_upto_region 1 with fail
  rw [HW1.out]
  try rw [z1]
  rw [HW2.out]
  try rw [z2]
  try rw [z1]
  rw [HW3.out]
  try rw [z2]
  try rw [z1]
  clear HW1 HW2 HW3 z1 z2
  refine wp_region_lit ?_
  refine wpList_plain rfl fun _ hK => op_run (.pointer (some ⟨w.heap.size, 5, none⟩)) (by kernel_rfl) (hK _ _ ?_)
  simp only [Act.put, List.setIfInBounds_toArray, List.set_cons_zero, List.set_cons_succ]
  refine wpList_plain rfl fun _ hK => op_run (.slice (some ⟨ob, oo, none⟩) on oc) (by go_simp) (hK _ _ ?_)
  simp only [Act.put, List.setIfInBounds_toArray, List.set_cons_zero, List.set_cons_succ]
  refine wpList_plain rfl fun _ hK => op_run (.int .i64 (i : Nat)) (by kernel_rfl) (hK _ _ ?_)
  simp only [Act.put, List.setIfInBounds_toArray, List.set_cons_zero, List.set_cons_succ]
  refine wpList_plain rfl fun _ hK => op_run (.pointer (some ⟨ob, oo + i * 30, none⟩)) (by go_simp) (hK _ _ ?_)
  simp only [Act.put, List.setIfInBounds_toArray, List.set_cons_zero, List.set_cons_succ]
  refine wpList_load_mid rfl 43 (.tmp 12) rfl ob (oo + i * 30) rfl (opL (O i)) _ HRG.out Try.underlying43 rfl HII.out ?_
  rw [HOA.out]
  simp only [Act.put, List.setIfInBounds_toArray, List.set_cons_zero, List.set_cons_succ]
  refine wpList_plain rfl fun _ hK => op_runW (w' := W3.alloc (.cells #[.int .i64 0, .int .i64 0, .int .i64 0, .int .u64 0, .int .i64 0, .int .i64 0, .int .i64 0, .int .i64 0, .int .u64 0, .int .u64 0, .int .u64 0, .int .u64 0, .int .i64 0, .int .u64 0, .slice none 0 0, .int .i64 0, .int .u64 0, .string ⟨#[]⟩, .string ⟨#[]⟩, .int .u64 0, .int .u64 0, .int .u64 0, .int .i64 0, .int .i64 0, .int .i64 0, .int .i64 0, .int .u64 0, .int .u64 0, .int .u64 0, .slice none 0 0] 43)) (.pointer (some ⟨w.heap.size + 3, 0, none⟩)) (by rw [← z3]; kernel_rfl) (hK _ _ ?_)
  simp only [Act.put, List.setIfInBounds_toArray, List.set_cons_zero, List.set_cons_succ]
  refine wpList_store_mid rfl 43 (.tmp 8) (.tmp 13) rfl (w.heap.size + 3) 0 OA rfl rfl HT5.out HI5.out HO5.out ?_
  rw [HW5.out]
  simp only [Act.put]
  clear hK HT5 HI5 HO5 HW5 HOA HRG HII c5 hiz hion z3
  have HTK : Hid (Calls Try.prog 14 #[.pointer (some ⟨rb, 0, none⟩)] W5 fun e w' => e = .returned (.tuple #[]) ∧ Hid (Az w rb { r with wt := wtM (r.wt - 1) } (O i) (mgCell mg0 none 0) w')) := (tick_any HZ.out.rp).mono fun e w' ⟨he, h1, h2⟩ => ⟨he, HZ.out.turn h2 h1⟩
  go_wp2_with fail
  refine HTK.out.mono ?_
  rintro e w6 ⟨rfl, HX⟩
  go_upto_region 9 with fail
  refine wp_region_lit ?_
  refine wpList_plain rfl fun _ hK => op_run (mgV mg0 none 0) (by kernel_rfl) (hK _ _ ?_)
  simp only [Act.put, List.setIfInBounds_toArray, List.set_cons_zero, List.set_cons_succ]
  refine wpList_plain rfl fun _ hK => op_run (hdV mg0 none 0 false false false) (by kernel_rfl) (hK _ _ ?_)
  simp only [Act.put, List.setIfInBounds_toArray, List.set_cons_zero, List.set_cons_succ]
  refine wpList_store_mid rfl 41 (.tmp 6) (.tmp 35) rfl (w.heap.size + 1) 0 (mgL mg0 none 0).toArray rfl rfl (fun j hj => ⟨by rw [HX.out.r6.cell (by rw [List.size_toArray, mgL_len] at hj; omega)]; rfl, HX.out.r6.frozen _⟩) (infoMgA _ _ _) (mg_all _ _ _) ?_
  simp only [Act.put]
  have HY := hide (HX.out.put mg0 none 0)
  generalize World.setCells _ (w.heap.size + 1) 0 (mgL mg0 none 0) = wy at *
  obtain ⟨HL, WE, HHL, HTE, HIR, HAL, HWE, HHE, HR6, HE⟩ := HY.out.fin mg0 none 0 false false false
  rw [HHL.out]
  refine wpList_store_mid rfl 46 (.tmp 7) (.tmp 36) rfl (w.heap.size + 2) 0 HL rfl rfl HTE.out HIR.out HAL.out ?_
  rw [HWE.out]
  have HH6 := hide (row_heap HR6.out)
  go_wp2_with fail
  exact bodyPost_ret_by (res_cc rfl _ _ (w.heap.size + 1) (w.heap.size + 2) 41 46 (mgL mg0 none 0).toArray _ (0, 0) (0, 0) _ _ rfl HH6.out Try.underlying41 rfl (infoMgA _ _ _) rfl HHE.out Try.underlying46 rfl HIR.out) rfl ⟨none, 0, none, 0, congrArg (fun x => Ending.returned (.tuple #[mgV mg0 none 0, x])) HHL.out.symm, HE.out.1, HE.out.2.1, AnV.nil _ _ rfl, fun h => absurd h HD1.out⟩
set_option maxHeartbeats 8000000 in
theorem at_own {rb : Nat} {r : Rp} {w : World} (h : RpIs w rb r) (p te ts : Nat) (sa : Option Addr) (sn sc : Nat) (span : Int) (oa : Option Addr) (on oc : Nat) (O : Nat → Od) (hO : OpsIn w oa on O) (i : Nat) (hi : i < on) (hon : on ≤ 1000000000000) (hd : (O i).d = 3) :
    Calls Try.prog 11 #[lfV p te ts sa sn sc span oa on oc, .pointer (some ⟨rb, 0, none⟩), .int .i64 (i : Nat)] w fun e w' => ∃ va vc ga gc, e = .returned (.tuple #[mgV (atM (O i) r).1 va vc, hdV (atM (O i) r).2.a ga gc (atM (O i) r).2.b1 (atM (O i) r).2.b2 (atM (O i) r).2.b3]) ∧ RpIs w' rb (atM (O i) r).2.r ∧ But rb w w' ∧ AnV w.heap.size w' (atM (O i) r).2.a ga gc ∧ ((O i).d = 1 → va = (O i).va ∧ vc = (O i).vc) := by
  obtain ⟨ob, oo, rfl, hrg, hob⟩ := hO.at' i hi
  have hok := hO.ok i hi
  obtain ⟨W1, HW1⟩ : ∃ W, Hid (w.alloc (.cells #[.int .u64 (p : Nat), .int .u64 (te : Nat), .int .u64 (ts : Nat), .slice sa sn sc, .int .i64 span, .slice (some ⟨ob, oo, none⟩) on oc] 30) = W) := ⟨_, rfl⟩
  have s1 : w.Since w.heap.size W1 := by rw [← HW1.out]; exact (World.Since.refl _ _).alloc (Nat.le_refl _) _
  have z1 : W1.heap.size = w.heap.size + 1 := by rw [← HW1.out]; simp
  have c5 : W1.cell? ⟨w.heap.size, 5, none⟩ = some (.slice (some ⟨ob, oo, none⟩) on oc) := by rw [← HW1.out]; simp
  obtain ⟨W2, HW2⟩ : ∃ W, Hid (W1.alloc mgZ = W) := ⟨_, rfl⟩
  have s2 : W1.Since W1.heap.size W2 := by rw [← HW2.out]; exact (World.Since.refl _ _).alloc (Nat.le_refl _) _
  have z2 : W2.heap.size = w.heap.size + 1 + 1 := by rw [← HW2.out, ← z1]; simp
  have r2 : W2.rowIs (w.heap.size + 1) 41 22 (mgCell mg0 none 0) := by rw [← z1, ← HW2.out]; exact mgZ_row W1
  obtain ⟨W3, HW3⟩ : ∃ W, Hid (W2.alloc hdZ = W) := ⟨_, rfl⟩
  have s3 : W2.Since W2.heap.size W3 := by rw [← HW3.out]; exact (World.Since.refl _ _).alloc (Nat.le_refl _) _
  have z3 : W3.heap.size = w.heap.size + 3 := by rw [← HW3.out]; have : (W2.alloc hdZ).heap.size = W2.heap.size + 1 := by simp
                                                 omega
  have r3 : W3.rowIs (w.heap.size + 2) 46 25 (hdCell mg0 none 0 false false false) := by
    have e : w.heap.size + 2 = W2.heap.size := by omega
    rw [e, ← HW3.out]; exact hdZ_row W2
  have s13 : W1.Since W1.heap.size W3 := s2.trans (since_mono s3 s2.size)
  have sw3 : w.Since w.heap.size W3 := s1.trans (since_mono s13 s1.size)
  replace c5 := cell_later s13 c5
  obtain ⟨W5, OA, HOA, HT5, HW5, HI5, HO5, HR5, HS5⟩ := op_put W3 (O i)
  rw [z3] at HT5 HW5 HR5
  have sw5 : w.Since w.heap.size W5 := sw3.trans (since_mono HS5.out sw3.size)
  have HZ : Hid (Az w rb r (O i) (mgCell mg0 none 0) W5) := ⟨h.since sw5, hok.1.since sw5, HR5.out, row_since (row_since r2 s3) HS5.out, row_since r3 HS5.out, But.of_since sw5, h.lt⟩
  have HRG : Hid (W3.rangeAt ob (oo + i * 30) (opL (O i))) := rangeS hrg hob sw3
  have HN := hide hok.2.1
  have HEP := hide hok.2.2
  have c0 : W5.cell? ⟨w.heap.size + 3, 0, none⟩ = some (.int .i64 (O i).d) := HZ.out.op.cell (i := 0) (by decide)
  have hiz : (i : Int) < (on : Int) := by omega
  have hion : (on : Int) ≤ 1000000000000 := by omega
  have hd1 : (O i).d ≠ 1 := by omega
  have HD1 := hide hd1
  clear hd1
  have HEQ : atM (O i) r = (mg0, ⟨mg0, false, false, false, if r.p < (O i).ep then { r with p := (O i).ep } else r⟩) := by unfold atM; rw [if_neg (by omega), if_neg (by omega), if_pos hd]
  rw [HEQ]
  clear HEQ
  obtain ⟨RO, HRO⟩ : ∃ x, Hid ((if r.p < (O i).ep then { r with p := (O i).ep } else r) = x) := ⟨_, rfl⟩
  rw [HRO.out]
  have HII : Hid ((Try.prog.info? 43).map (·.size) = some (opL (O i)).length) := by rw [opL_len]; exact infoOp
  have q1 : ((O i).d == 1) = false := by simp; omega
  have q2 : ((O i).d == 2) = false := by simp; omega
  have q3 : ((O i).d == 3) = true := by simp; omega
  unfold mgZ at HW2
  unfold hdZ at HW3
  clear s1 s2 s3 s13 sw3 sw5 r2 r3 hrg hob hok hO h hd HR5 HS5 hon hi
  unfold lfV
  go_enter Try.func11, Try.ntmps11
  go_upto_region 1 with fail
  rw [HW1.out]
  try rw [z1]
  rw [HW2.out]
  try rw [z2]
  try rw [z1]
  rw [HW3.out]
  try rw [z2]
  try rw [z1]
  clear HW1 HW2 HW3 z1 z2
  refine wp_region_lit ?_
  refine wpList_plain rfl fun _ hK => op_run (.pointer (some ⟨w.heap.size, 5, none⟩)) (by kernel_rfl) (hK _ _ ?_)
  simp only [Act.put, List.setIfInBounds_toArray, List.set_cons_zero, List.set_cons_succ]
  refine wpList_plain rfl fun _ hK => op_run (.slice (some ⟨ob, oo, none⟩) on oc) (by go_simp) (hK _ _ ?_)
  simp only [Act.put, List.setIfInBounds_toArray, List.set_cons_zero, List.set_cons_succ]
  refine wpList_plain rfl fun _ hK => op_run (.int .i64 (i : Nat)) (by kernel_rfl) (hK _ _ ?_)
  simp only [Act.put, List.setIfInBounds_toArray, List.set_cons_zero, List.set_cons_succ]
  refine wpList_plain rfl fun _ hK => op_run (.pointer (some ⟨ob, oo + i * 30, none⟩)) (by go_simp) (hK _ _ ?_)
  simp only [Act.put, List.setIfInBounds_toArray, List.set_cons_zero, List.set_cons_succ]
  refine wpList_load_mid rfl 43 (.tmp 12) rfl ob (oo + i * 30) rfl (opL (O i)) _ HRG.out Try.underlying43 rfl HII.out ?_
  rw [HOA.out]
  simp only [Act.put, List.setIfInBounds_toArray, List.set_cons_zero, List.set_cons_succ]
  refine wpList_plain rfl fun _ hK => op_runW (w' := W3.alloc (.cells #[.int .i64 0, .int .i64 0, .int .i64 0, .int .u64 0, .int .i64 0, .int .i64 0, .int .i64 0, .int .i64 0, .int .u64 0, .int .u64 0, .int .u64 0, .int .u64 0, .int .i64 0, .int .u64 0, .slice none 0 0, .int .i64 0, .int .u64 0, .string ⟨#[]⟩, .string ⟨#[]⟩, .int .u64 0, .int .u64 0, .int .u64 0, .int .i64 0, .int .i64 0, .int .i64 0, .int .i64 0, .int .u64 0, .int .u64 0, .int .u64 0, .slice none 0 0] 43)) (.pointer (some ⟨w.heap.size + 3, 0, none⟩)) (by rw [← z3]; kernel_rfl) (hK _ _ ?_)
  simp only [Act.put, List.setIfInBounds_toArray, List.set_cons_zero, List.set_cons_succ]
  refine wpList_store_mid rfl 43 (.tmp 8) (.tmp 13) rfl (w.heap.size + 3) 0 OA rfl rfl HT5.out HI5.out HO5.out ?_
  rw [HW5.out]
  simp only [Act.put]
  clear hK HT5 HI5 HO5 HW5 HOA HRG HII c5 hiz hion z3
  have HTK : Hid (Calls Try.prog 27 #[.pointer (some ⟨rb, 0, none⟩), .int .u64 ((O i).ep : Nat)] W5 fun e w' => e = .returned (.bool (decide (r.p < (O i).ep))) ∧ Hid (Az w rb RO (O i) (mgCell mg0 none 0) w')) := (own_any HZ.out.rp (O i).ep HEP.out).mono fun e w' ⟨he, h1, h2⟩ => ⟨he, by rw [← HRO.out]; exact HZ.out.turn h2 h1⟩
  have c3 : W5.cell? ⟨w.heap.size + 3, 3, none⟩ = some (.int .u64 ((O i).ep : Nat)) := HZ.out.op.cell (i := 3) (by decide)
  go_wp2_with fail
  refine HTK.out.mono ?_
  rintro e w6 ⟨rfl, HX⟩
  clear c3
  go_upto_region 9 with fail
  refine wp_region_lit ?_
  refine wpList_plain rfl fun _ hK => op_run (mgV mg0 none 0) (by kernel_rfl) (hK _ _ ?_)
  simp only [Act.put, List.setIfInBounds_toArray, List.set_cons_zero, List.set_cons_succ]
  refine wpList_plain rfl fun _ hK => op_run (hdV mg0 none 0 false false false) (by kernel_rfl) (hK _ _ ?_)
  simp only [Act.put, List.setIfInBounds_toArray, List.set_cons_zero, List.set_cons_succ]
  refine wpList_store_mid rfl 41 (.tmp 6) (.tmp 35) rfl (w.heap.size + 1) 0 (mgL mg0 none 0).toArray rfl rfl (fun j hj => ⟨by rw [HX.out.r6.cell (by rw [List.size_toArray, mgL_len] at hj; omega)]; rfl, HX.out.r6.frozen _⟩) (infoMgA _ _ _) (mg_all _ _ _) ?_
  simp only [Act.put]
  have HY := hide (HX.out.put mg0 none 0)
  generalize World.setCells _ (w.heap.size + 1) 0 (mgL mg0 none 0) = wy at *
  obtain ⟨HL, WE, HHL, HTE, HIR, HAL, HWE, HHE, HR6, HE⟩ := HY.out.fin mg0 none 0 false false false
  rw [HHL.out]
  refine wpList_store_mid rfl 46 (.tmp 7) (.tmp 36) rfl (w.heap.size + 2) 0 HL rfl rfl HTE.out HIR.out HAL.out ?_
  rw [HWE.out]
  have HH6 := hide (row_heap HR6.out)
  go_wp2_with fail
  exact bodyPost_ret_by (res_cc rfl _ _ (w.heap.size + 1) (w.heap.size + 2) 41 46 (mgL mg0 none 0).toArray _ (0, 0) (0, 0) _ _ rfl HH6.out Try.underlying41 rfl (infoMgA _ _ _) rfl HHE.out Try.underlying46 rfl HIR.out) rfl ⟨none, 0, none, 0, congrArg (fun x => Ending.returned (.tuple #[mgV mg0 none 0, x])) HHL.out.symm, HE.out.1, HE.out.2.1, AnV.nil _ _ rfl, fun h => absurd h HD1.out⟩
set_option maxHeartbeats 8000000 in
theorem at_none {rb : Nat} {r : Rp} {w : World} (h : RpIs w rb r) (p te ts : Nat) (sa : Option Addr) (sn sc : Nat) (span : Int) (oa : Option Addr) (on oc : Nat) (O : Nat → Od) (hO : OpsIn w oa on O) (i : Nat) (hi : i < on) (hon : on ≤ 1000000000000) (hd : (O i).d ≠ 1 ∧ (O i).d ≠ 2 ∧ (O i).d ≠ 3) :
    Calls Try.prog 11 #[lfV p te ts sa sn sc span oa on oc, .pointer (some ⟨rb, 0, none⟩), .int .i64 (i : Nat)] w fun e w' => ∃ va vc ga gc, e = .returned (.tuple #[mgV (atM (O i) r).1 va vc, hdV (atM (O i) r).2.a ga gc (atM (O i) r).2.b1 (atM (O i) r).2.b2 (atM (O i) r).2.b3]) ∧ RpIs w' rb (atM (O i) r).2.r ∧ But rb w w' ∧ AnV w.heap.size w' (atM (O i) r).2.a ga gc ∧ ((O i).d = 1 → va = (O i).va ∧ vc = (O i).vc) := by
  obtain ⟨ob, oo, rfl, hrg, hob⟩ := hO.at' i hi
  have hok := hO.ok i hi
  obtain ⟨W1, HW1⟩ : ∃ W, Hid (w.alloc (.cells #[.int .u64 (p : Nat), .int .u64 (te : Nat), .int .u64 (ts : Nat), .slice sa sn sc, .int .i64 span, .slice (some ⟨ob, oo, none⟩) on oc] 30) = W) := ⟨_, rfl⟩
  have s1 : w.Since w.heap.size W1 := by rw [← HW1.out]; exact (World.Since.refl _ _).alloc (Nat.le_refl _) _
  have z1 : W1.heap.size = w.heap.size + 1 := by rw [← HW1.out]; simp
  have c5 : W1.cell? ⟨w.heap.size, 5, none⟩ = some (.slice (some ⟨ob, oo, none⟩) on oc) := by rw [← HW1.out]; simp
  obtain ⟨W2, HW2⟩ : ∃ W, Hid (W1.alloc mgZ = W) := ⟨_, rfl⟩
  have s2 : W1.Since W1.heap.size W2 := by rw [← HW2.out]; exact (World.Since.refl _ _).alloc (Nat.le_refl _) _
  have z2 : W2.heap.size = w.heap.size + 1 + 1 := by rw [← HW2.out, ← z1]; simp
  have r2 : W2.rowIs (w.heap.size + 1) 41 22 (mgCell mg0 none 0) := by rw [← z1, ← HW2.out]; exact mgZ_row W1
  obtain ⟨W3, HW3⟩ : ∃ W, Hid (W2.alloc hdZ = W) := ⟨_, rfl⟩
  have s3 : W2.Since W2.heap.size W3 := by rw [← HW3.out]; exact (World.Since.refl _ _).alloc (Nat.le_refl _) _
  have z3 : W3.heap.size = w.heap.size + 3 := by rw [← HW3.out]; have : (W2.alloc hdZ).heap.size = W2.heap.size + 1 := by simp
                                                 omega
  have r3 : W3.rowIs (w.heap.size + 2) 46 25 (hdCell mg0 none 0 false false false) := by
    have e : w.heap.size + 2 = W2.heap.size := by omega
    rw [e, ← HW3.out]; exact hdZ_row W2
  have s13 : W1.Since W1.heap.size W3 := s2.trans (since_mono s3 s2.size)
  have sw3 : w.Since w.heap.size W3 := s1.trans (since_mono s13 s1.size)
  replace c5 := cell_later s13 c5
  obtain ⟨W5, OA, HOA, HT5, HW5, HI5, HO5, HR5, HS5⟩ := op_put W3 (O i)
  rw [z3] at HT5 HW5 HR5
  have sw5 : w.Since w.heap.size W5 := sw3.trans (since_mono HS5.out sw3.size)
  have HZ : Hid (Az w rb r (O i) (mgCell mg0 none 0) W5) := ⟨h.since sw5, hok.1.since sw5, HR5.out, row_since (row_since r2 s3) HS5.out, row_since r3 HS5.out, But.of_since sw5, h.lt⟩
  have HRG : Hid (W3.rangeAt ob (oo + i * 30) (opL (O i))) := rangeS hrg hob sw3
  have HN := hide hok.2.1
  have HEP := hide hok.2.2
  have c0 : W5.cell? ⟨w.heap.size + 3, 0, none⟩ = some (.int .i64 (O i).d) := HZ.out.op.cell (i := 0) (by decide)
  have hiz : (i : Int) < (on : Int) := by omega
  have hion : (on : Int) ≤ 1000000000000 := by omega
  have hd1 : (O i).d ≠ 1 := by omega
  have HD1 := hide hd1
  clear hd1
  have HEQ : atM (O i) r = (mg0, ⟨mg0, false, false, false, r⟩) := by unfold atM; rw [if_neg (by omega), if_neg (by omega), if_neg (by omega)]
  rw [HEQ]
  clear HEQ
  have HII : Hid ((Try.prog.info? 43).map (·.size) = some (opL (O i)).length) := by rw [opL_len]; exact infoOp
  have q1 : ((O i).d == 1) = false := by simp; omega
  have q2 : ((O i).d == 2) = false := by simp; omega
  have q3 : ((O i).d == 3) = false := by simp; omega
  unfold mgZ at HW2
  unfold hdZ at HW3
  clear s1 s2 s3 s13 sw3 sw5 r2 r3 hrg hob hok hO h hd HR5 HS5 hon hi
  unfold lfV
  go_enter Try.func11, Try.ntmps11
  go_upto_region 1 with fail
  rw [HW1.out]
  try rw [z1]
  rw [HW2.out]
  try rw [z2]
  try rw [z1]
  rw [HW3.out]
  try rw [z2]
  try rw [z1]
  clear HW1 HW2 HW3 z1 z2
  refine wp_region_lit ?_
  refine wpList_plain rfl fun _ hK => op_run (.pointer (some ⟨w.heap.size, 5, none⟩)) (by kernel_rfl) (hK _ _ ?_)
  simp only [Act.put, List.setIfInBounds_toArray, List.set_cons_zero, List.set_cons_succ]
  refine wpList_plain rfl fun _ hK => op_run (.slice (some ⟨ob, oo, none⟩) on oc) (by go_simp) (hK _ _ ?_)
  simp only [Act.put, List.setIfInBounds_toArray, List.set_cons_zero, List.set_cons_succ]
  refine wpList_plain rfl fun _ hK => op_run (.int .i64 (i : Nat)) (by kernel_rfl) (hK _ _ ?_)
  simp only [Act.put, List.setIfInBounds_toArray, List.set_cons_zero, List.set_cons_succ]
  refine wpList_plain rfl fun _ hK => op_run (.pointer (some ⟨ob, oo + i * 30, none⟩)) (by go_simp) (hK _ _ ?_)
  simp only [Act.put, List.setIfInBounds_toArray, List.set_cons_zero, List.set_cons_succ]
  refine wpList_load_mid rfl 43 (.tmp 12) rfl ob (oo + i * 30) rfl (opL (O i)) _ HRG.out Try.underlying43 rfl HII.out ?_
  rw [HOA.out]
  simp only [Act.put, List.setIfInBounds_toArray, List.set_cons_zero, List.set_cons_succ]
  refine wpList_plain rfl fun _ hK => op_runW (w' := W3.alloc (.cells #[.int .i64 0, .int .i64 0, .int .i64 0, .int .u64 0, .int .i64 0, .int .i64 0, .int .i64 0, .int .i64 0, .int .u64 0, .int .u64 0, .int .u64 0, .int .u64 0, .int .i64 0, .int .u64 0, .slice none 0 0, .int .i64 0, .int .u64 0, .string ⟨#[]⟩, .string ⟨#[]⟩, .int .u64 0, .int .u64 0, .int .u64 0, .int .i64 0, .int .i64 0, .int .i64 0, .int .i64 0, .int .u64 0, .int .u64 0, .int .u64 0, .slice none 0 0] 43)) (.pointer (some ⟨w.heap.size + 3, 0, none⟩)) (by rw [← z3]; kernel_rfl) (hK _ _ ?_)
  simp only [Act.put, List.setIfInBounds_toArray, List.set_cons_zero, List.set_cons_succ]
  refine wpList_store_mid rfl 43 (.tmp 8) (.tmp 13) rfl (w.heap.size + 3) 0 OA rfl rfl HT5.out HI5.out HO5.out ?_
  rw [HW5.out]
  simp only [Act.put]
  clear hK HT5 HI5 HO5 HW5 HOA HRG HII c5 hiz hion z3
  go_upto_region 9 with fail
  refine wp_region_lit ?_
  refine wpList_plain rfl fun _ hK => op_run (mgV mg0 none 0) (by kernel_rfl) (hK _ _ ?_)
  simp only [Act.put, List.setIfInBounds_toArray, List.set_cons_zero, List.set_cons_succ]
  refine wpList_plain rfl fun _ hK => op_run (hdV mg0 none 0 false false false) (by kernel_rfl) (hK _ _ ?_)
  simp only [Act.put, List.setIfInBounds_toArray, List.set_cons_zero, List.set_cons_succ]
  refine wpList_store_mid rfl 41 (.tmp 6) (.tmp 35) rfl (w.heap.size + 1) 0 (mgL mg0 none 0).toArray rfl rfl (fun j hj => ⟨by rw [HZ.out.r6.cell (by rw [List.size_toArray, mgL_len] at hj; omega)]; rfl, HZ.out.r6.frozen _⟩) (infoMgA _ _ _) (mg_all _ _ _) ?_
  simp only [Act.put]
  have HY := hide (HZ.out.put mg0 none 0)
  generalize World.setCells _ (w.heap.size + 1) 0 (mgL mg0 none 0) = wy at *
  obtain ⟨HL, WE, HHL, HTE, HIR, HAL, HWE, HHE, HR6, HE⟩ := HY.out.fin mg0 none 0 false false false
  rw [HHL.out]
  refine wpList_store_mid rfl 46 (.tmp 7) (.tmp 36) rfl (w.heap.size + 2) 0 HL rfl rfl HTE.out HIR.out HAL.out ?_
  rw [HWE.out]
  have HH6 := hide (row_heap HR6.out)
  go_wp2_with fail
  exact bodyPost_ret_by (res_cc rfl _ _ (w.heap.size + 1) (w.heap.size + 2) 41 46 (mgL mg0 none 0).toArray _ (0, 0) (0, 0) _ _ rfl HH6.out Try.underlying41 rfl (infoMgA _ _ _) rfl HHE.out Try.underlying46 rfl HIR.out) rfl ⟨none, 0, none, 0, congrArg (fun x => Ending.returned (.tuple #[mgV mg0 none 0, x])) HHL.out.symm, HE.out.1, HE.out.2.1, AnV.nil _ _ rfl, fun h => absurd h HD1.out⟩
set_option maxHeartbeats 8000000 in
theorem at_hear {rb : Nat} {r : Rp} {w : World} (h : RpIs w rb r) (p te ts : Nat) (sa : Option Addr) (sn sc : Nat) (span : Int) (oa : Option Addr) (on oc : Nat) (O : Nat → Od) (hO : OpsIn w oa on O) (i : Nat) (hi : i < on) (hon : on ≤ 1000000000000) (hd : (O i).d = 1) :
    Calls Try.prog 11 #[lfV p te ts sa sn sc span oa on oc, .pointer (some ⟨rb, 0, none⟩), .int .i64 (i : Nat)] w fun e w' => ∃ va vc ga gc, e = .returned (.tuple #[mgV (atM (O i) r).1 va vc, hdV (atM (O i) r).2.a ga gc (atM (O i) r).2.b1 (atM (O i) r).2.b2 (atM (O i) r).2.b3]) ∧ RpIs w' rb (atM (O i) r).2.r ∧ But rb w w' ∧ AnV w.heap.size w' (atM (O i) r).2.a ga gc ∧ ((O i).d = 1 → va = (O i).va ∧ vc = (O i).vc) := by
  obtain ⟨ob, oo, rfl, hrg, hob⟩ := hO.at' i hi
  have hok := hO.ok i hi
  obtain ⟨W1, HW1⟩ : ∃ W, Hid (w.alloc (.cells #[.int .u64 (p : Nat), .int .u64 (te : Nat), .int .u64 (ts : Nat), .slice sa sn sc, .int .i64 span, .slice (some ⟨ob, oo, none⟩) on oc] 30) = W) := ⟨_, rfl⟩
  have s1 : w.Since w.heap.size W1 := by rw [← HW1.out]; exact (World.Since.refl _ _).alloc (Nat.le_refl _) _
  have z1 : W1.heap.size = w.heap.size + 1 := by rw [← HW1.out]; simp
  have c5 : W1.cell? ⟨w.heap.size, 5, none⟩ = some (.slice (some ⟨ob, oo, none⟩) on oc) := by rw [← HW1.out]; simp
  obtain ⟨W2, HW2⟩ : ∃ W, Hid (W1.alloc mgZ = W) := ⟨_, rfl⟩
  have s2 : W1.Since W1.heap.size W2 := by rw [← HW2.out]; exact (World.Since.refl _ _).alloc (Nat.le_refl _) _
  have z2 : W2.heap.size = w.heap.size + 1 + 1 := by rw [← HW2.out, ← z1]; simp
  have r2 : W2.rowIs (w.heap.size + 1) 41 22 (mgCell mg0 none 0) := by rw [← z1, ← HW2.out]; exact mgZ_row W1
  obtain ⟨W3, HW3⟩ : ∃ W, Hid (W2.alloc hdZ = W) := ⟨_, rfl⟩
  have s3 : W2.Since W2.heap.size W3 := by rw [← HW3.out]; exact (World.Since.refl _ _).alloc (Nat.le_refl _) _
  have z3 : W3.heap.size = w.heap.size + 3 := by rw [← HW3.out]; have : (W2.alloc hdZ).heap.size = W2.heap.size + 1 := by simp
                                                 omega
  have r3 : W3.rowIs (w.heap.size + 2) 46 25 (hdCell mg0 none 0 false false false) := by
    have e : w.heap.size + 2 = W2.heap.size := by omega
    rw [e, ← HW3.out]; exact hdZ_row W2
  have s13 : W1.Since W1.heap.size W3 := s2.trans (since_mono s3 s2.size)
  have sw3 : w.Since w.heap.size W3 := s1.trans (since_mono s13 s1.size)
  replace c5 := cell_later s13 c5
  obtain ⟨W5, OA, HOA, HT5, HW5, HI5, HO5, HR5, HS5⟩ := op_put W3 (O i)
  rw [z3] at HT5 HW5 HR5
  have sw5 : w.Since w.heap.size W5 := sw3.trans (since_mono HS5.out sw3.size)
  have HZ : Hid (Az w rb r (O i) (mgCell mg0 none 0) W5) := ⟨h.since sw5, hok.1.since sw5, HR5.out, row_since (row_since r2 s3) HS5.out, row_since r3 HS5.out, But.of_since sw5, h.lt⟩
  have HRG : Hid (W3.rangeAt ob (oo + i * 30) (opL (O i))) := rangeS hrg hob sw3
  have HN := hide hok.2.1
  have HEP := hide hok.2.2
  have c0 : W5.cell? ⟨w.heap.size + 3, 0, none⟩ = some (.int .i64 (O i).d) := HZ.out.op.cell (i := 0) (by decide)
  have hiz : (i : Int) < (on : Int) := by omega
  have hion : (on : Int) ≤ 1000000000000 := by omega
  have hd1 : (O i).d = 1 := by omega
  have HD1 := hide hd1
  clear hd1
  have HEQ : atM (O i) r = ((O i).m, hearM r (O i).m) := if_pos hd
  rw [HEQ]
  clear HEQ
  have HII : Hid ((Try.prog.info? 43).map (·.size) = some (opL (O i)).length) := by rw [opL_len]; exact infoOp
  have q1 : ((O i).d == 1) = true := by simp; omega
  unfold mgZ at HW2
  unfold hdZ at HW3
  clear s1 s2 s3 s13 sw3 sw5 r2 r3 hrg hob hok hO h hd HR5 HS5 hon hi
  unfold lfV
  go_enter Try.func11, Try.ntmps11
  go_upto_region 1 with fail
  rw [HW1.out]
  try rw [z1]
  rw [HW2.out]
  try rw [z2]
  try rw [z1]
  rw [HW3.out]
  try rw [z2]
  try rw [z1]
  clear HW1 HW2 HW3 z1 z2
  refine wp_region_lit ?_
  refine wpList_plain rfl fun _ hK => op_run (.pointer (some ⟨w.heap.size, 5, none⟩)) (by kernel_rfl) (hK _ _ ?_)
  simp only [Act.put, List.setIfInBounds_toArray, List.set_cons_zero, List.set_cons_succ]
  refine wpList_plain rfl fun _ hK => op_run (.slice (some ⟨ob, oo, none⟩) on oc) (by go_simp) (hK _ _ ?_)
  simp only [Act.put, List.setIfInBounds_toArray, List.set_cons_zero, List.set_cons_succ]
  refine wpList_plain rfl fun _ hK => op_run (.int .i64 (i : Nat)) (by kernel_rfl) (hK _ _ ?_)
  simp only [Act.put, List.setIfInBounds_toArray, List.set_cons_zero, List.set_cons_succ]
  refine wpList_plain rfl fun _ hK => op_run (.pointer (some ⟨ob, oo + i * 30, none⟩)) (by go_simp) (hK _ _ ?_)
  simp only [Act.put, List.setIfInBounds_toArray, List.set_cons_zero, List.set_cons_succ]
  refine wpList_load_mid rfl 43 (.tmp 12) rfl ob (oo + i * 30) rfl (opL (O i)) _ HRG.out Try.underlying43 rfl HII.out ?_
  rw [HOA.out]
  simp only [Act.put, List.setIfInBounds_toArray, List.set_cons_zero, List.set_cons_succ]
  refine wpList_plain rfl fun _ hK => op_runW (w' := W3.alloc (.cells #[.int .i64 0, .int .i64 0, .int .i64 0, .int .u64 0, .int .i64 0, .int .i64 0, .int .i64 0, .int .i64 0, .int .u64 0, .int .u64 0, .int .u64 0, .int .u64 0, .int .i64 0, .int .u64 0, .slice none 0 0, .int .i64 0, .int .u64 0, .string ⟨#[]⟩, .string ⟨#[]⟩, .int .u64 0, .int .u64 0, .int .u64 0, .int .i64 0, .int .i64 0, .int .i64 0, .int .i64 0, .int .u64 0, .int .u64 0, .int .u64 0, .slice none 0 0] 43)) (.pointer (some ⟨w.heap.size + 3, 0, none⟩)) (by rw [← z3]; kernel_rfl) (hK _ _ ?_)
  simp only [Act.put, List.setIfInBounds_toArray, List.set_cons_zero, List.set_cons_succ]
  refine wpList_store_mid rfl 43 (.tmp 8) (.tmp 13) rfl (w.heap.size + 3) 0 OA rfl rfl HT5.out HI5.out HO5.out ?_
  rw [HW5.out]
  simp only [Act.put]
  clear hK HT5 HI5 HO5 HW5 HOA HRG HII c5 hiz hion z3
  have HZd := hide (HZ.out.since ((World.Since.refl _ _).drew))
  go_upto_region 4 with fail
  refine wp_region_held_drew (S := fun W => W.rangeAt (w.heap.size + 3) 4 (mgL (O i).m (O i).va (O i).vc)) (by kernel_rfl) HZd.out.range fun _ => ?_
  refine wpAnyH_take (i := 0) (v := .pointer (some ⟨w.heap.size + 3, 4, none⟩)) rfl (by kernel_rfl) (by kernel_rfl) (by kernel_rfl) (fun _ _ _ h => h) (.inl ⟨rfl, fun W hW => by kernel_rfl⟩) HZd.out.range ?_
  simp only [List.getElem_toArray, List.getElem_cons_zero, Act.put, List.setIfInBounds_toArray, List.set_cons_zero, List.set_cons_succ]
  refine wpAnyH_take (i := 1) (v := .agg (mgL (O i).m (O i).va (O i).vc).toArray) rfl (by kernel_rfl) (by kernel_rfl) (by kernel_rfl) (fun _ _ _ h => h) (yieldsIf_load_mid rfl 41 (.tmp 18) rfl (w.heap.size + 3) 4 rfl (mgL (O i).m (O i).va (O i).vc) _ (fun _ h => h) Try.underlying41 rfl (infoMg' _ _ _)) HZd.out.range ?_
  simp only [List.getElem_toArray, List.getElem_cons_zero, List.getElem_cons_succ, Act.put, List.setIfInBounds_toArray, List.set_cons_zero, List.set_cons_succ]
  refine wpAnyH_take (i := 2) (v := .pointer (some ⟨rb, 0, none⟩)) rfl (by kernel_rfl) (by kernel_rfl) (by kernel_rfl) (fun _ _ _ h => h) (.inl ⟨rfl, fun W hW => by kernel_rfl⟩) HZd.out.range ?_
  simp only [List.getElem_toArray, List.getElem_cons_zero, List.getElem_cons_succ, Act.put, List.setIfInBounds_toArray, List.set_cons_zero, List.set_cons_succ]
  refine wpAnyH_take (i := 3) (v := .pointer (some ⟨w.heap.size + 3, 4, none⟩)) rfl (by kernel_rfl) (by kernel_rfl) (by kernel_rfl) (fun _ _ _ h => h) (.inl ⟨rfl, fun W hW => by kernel_rfl⟩) HZd.out.range ?_
  simp only [List.getElem_toArray, List.getElem_cons_zero, List.getElem_cons_succ, Act.put, List.setIfInBounds_toArray, List.set_cons_zero, List.set_cons_succ]
  refine wpAnyH_take (i := 4) (v := .agg (mgL (O i).m (O i).va (O i).vc).toArray) rfl (by kernel_rfl) (by kernel_rfl) (by kernel_rfl) (fun _ _ _ h => h) (yieldsIf_load_mid rfl 41 (.tmp 21) rfl (w.heap.size + 3) 4 rfl (mgL (O i).m (O i).va (O i).vc) _ (fun _ h => h) Try.underlying41 rfl (infoMg' _ _ _)) HZd.out.range ?_
  simp only [List.getElem_toArray, List.getElem_cons_zero, List.getElem_cons_succ, Act.put, List.setIfInBounds_toArray, List.set_cons_zero, List.set_cons_succ]
  refine wpAnyH_ready (rs := [5]) (by kernel_rfl) (by simp) ?_
  refine AllReadyH.cons rfl (fun K hK => ?_) AllReadyH.nil
  have HCP := hide (copyMsg_any (O i).m (O i).va (O i).vc _ HZd.out.mga)
  refine step_callW rfl 17 #[.agg (mgL (O i).m (O i).va (O i).vc).toArray] (by kernel_rfl) HCP.out ?_
  rintro e w6 ⟨cg, rfl, hAw6, hsw6, _⟩
  have HZ6 := hide (HZd.out.since hsw6)
  have HAw6 := hide hAw6
  clear hAw6 hsw6 HCP
  refine ⟨_, rfl, hK.out _ _ HZ6.out.range fun _ => ?_⟩
  clear hK
  simp only [List.getElem_toArray, List.getElem_cons_zero, List.getElem_cons_succ, Act.put, List.setIfInBounds_toArray, List.set_cons_zero, List.set_cons_succ]
  refine wpAnyH_ready (rs := [6]) (by kernel_rfl) (by simp) ?_
  refine AllReadyH.cons rfl (fun K hK => ?_) AllReadyH.nil
  have HHR := hide (hear_any HZ6.out.rp (O i).m (some ⟨cg, 0, none⟩) ((O i).m.s 10).length HAw6.out HN.out)
  refine step_callW rfl 13 #[.pointer (some ⟨rb, 0, none⟩), mgV (O i).m (some ⟨cg, 0, none⟩) ((O i).m.s 10).length] (by kernel_rfl) HHR.out ?_
  rintro e w7 ⟨ga, gc, rfl, hrw7, hbw7, hvw7⟩
  have HZ7 := hide (HZ6.out.turn hbw7 hrw7)
  have HVw7 : Hid (AnV (w.heap.size + 4) w7 (hearM r (O i).m).a ga gc) := hvw7.on (by have := HZ6.out.op.lt; omega) (fun _ _ => rfl)
  clear hrw7 hbw7 hvw7 HHR
  refine ⟨_, rfl, hK.out _ _ HZ7.out.range fun _ => ?_⟩
  clear hK
  simp only [List.getElem_toArray, List.getElem_cons_zero, List.getElem_cons_succ, Act.put, List.setIfInBounds_toArray, List.set_cons_zero, List.set_cons_succ]
  refine wpAnyH_ready (rs := [7]) (by kernel_rfl) (by simp) ?_
  refine AllReadyH.cons rfl (fun K hK => ?_) AllReadyH.nil
  refine step_storeM rfl (wp_store_mid 41 (.tmp 6) (.tmp 19) rfl (w.heap.size + 1) 0 (mgL (O i).m (O i).va (O i).vc).toArray rfl rfl (fun j hj => ⟨by rw [HZ7.out.r6.cell (by rw [List.size_toArray, mgL_len] at hj; omega)]; rfl, HZ7.out.r6.frozen _⟩) (infoMgA _ _ _) (mg_all _ _ _) ?_)
  have HZ8 := hide (HZ7.out.put (O i).m (O i).va (O i).vc)
  have HVw8 : Hid (AnV (w.heap.size + 4) (World.setCells w7 (w.heap.size + 1) 0 (mgL (O i).m (O i).va (O i).vc)) (hearM r (O i).m).a ga gc) := HVw7.out.on (Nat.le_refl _) (fun g hg => heap_setCells _ _ _ _ g (by omega))
  generalize World.setCells _ (w.heap.size + 1) 0 (mgL (O i).m (O i).va (O i).vc) = w8 at *
  refine hK.out _ _ HZ8.out.range fun _ => ?_
  clear hK
  simp only [List.getElem_toArray, List.getElem_cons_zero, List.getElem_cons_succ, Act.put]
  refine wpAnyH_ready (rs := [8]) (by kernel_rfl) (by simp) ?_
  refine AllReadyH.cons rfl (fun K hK => ?_) AllReadyH.nil
  obtain ⟨HL, WE, HHL, HTE, HIR, HAL, HWE, HHE, HR6, HE⟩ := HZ8.out.fin (hearM r (O i).m).a ga gc (hearM r (O i).m).b1 (hearM r (O i).m).b2 (hearM r (O i).m).b3
  rw [HHL.out]
  refine step_storeM rfl (wp_store_mid 46 (.tmp 7) (.tmp 24) rfl (w.heap.size + 2) 0 HL rfl rfl HTE.out HIR.out HAL.out ?_)
  rw [HWE.out]
  have HQ : Hid (WE.rangeAt (w.heap.size + 3) 4 (mgL (O i).m (O i).va (O i).vc)) := fun j v hv => by
    rw [World.cell?_of_block (a := ⟨w.heap.size + 3, 4 + j, none⟩) (HE.out.2.2 _ (by show w.heap.size + 3 ≠ _; omega))]
    exact HZ8.out.range j v hv
  refine hK.out _ _ HQ.out fun _ => ?_
  clear hK
  simp only [List.getElem_toArray, List.getElem_cons_zero, List.getElem_cons_succ, Act.put]
  refine wpAnyH_done (by kernel_rfl) ?_ _
  have HH6 := hide (row_heap HR6.out)
  have HAV : Hid (AnV w.heap.size WE (hearM r (O i).m).a ga gc) := HVw8.out.on (by omega) (fun g hg => HE.out.2.2 g (by omega))
  go_wp2_with fail
  exact bodyPost_ret_by (res_cc rfl _ _ (w.heap.size + 1) (w.heap.size + 2) 41 46 (mgL (O i).m (O i).va (O i).vc).toArray _ (0, 0) (0, 0) _ _ rfl HH6.out Try.underlying41 rfl (infoMgA _ _ _) rfl HHE.out Try.underlying46 rfl HIR.out) rfl ⟨(O i).va, (O i).vc, ga, gc, congrArg (fun x => Ending.returned (.tuple #[mgV (O i).m (O i).va (O i).vc, x])) HHL.out.symm, HE.out.1, HE.out.2.1, HAV.out, fun _ => ⟨rfl, rfl⟩⟩
theorem at_any {rb : Nat} {r : Rp} {w : World} (h : RpIs w rb r) (p te ts : Nat) (sa : Option Addr) (sn sc : Nat) (span : Int) (oa : Option Addr) (on oc : Nat) (O : Nat → Od) (hO : OpsIn w oa on O) (i : Nat) (hi : i < on) (hon : on ≤ 1000000000000) :
    Calls Try.prog 11 #[lfV p te ts sa sn sc span oa on oc, .pointer (some ⟨rb, 0, none⟩), .int .i64 (i : Nat)] w fun e w' => ∃ va vc ga gc, e = .returned (.tuple #[mgV (atM (O i) r).1 va vc, hdV (atM (O i) r).2.a ga gc (atM (O i) r).2.b1 (atM (O i) r).2.b2 (atM (O i) r).2.b3]) ∧ RpIs w' rb (atM (O i) r).2.r ∧ But rb w w' ∧ AnV w.heap.size w' (atM (O i) r).2.a ga gc ∧ ((O i).d = 1 → va = (O i).va ∧ vc = (O i).vc) := by
  by_cases h1 : (O i).d = 1
  · exact at_hear h p te ts sa sn sc span oa on oc O hO i hi hon h1
  by_cases h2 : (O i).d = 2
  · exact at_tick h p te ts sa sn sc span oa on oc O hO i hi hon h2
  by_cases h3 : (O i).d = 3
  · exact at_own h p te ts sa sn sc span oa on oc O hO i hi hon h3
  exact at_none h p te ts sa sn sc span oa on oc O hO i hi hon ⟨h1, h2, h3⟩
end Go.Proofs.Yteneaiaejdgpcaa

/- The document's EqStored. -/
namespace Go.Proofs.Yteneaiaejdgpcaa
open Go.RowKit Go.Maps
set_option maxRecDepth 100000
set_option maxRecDepth 100000

set_option maxHeartbeats 4000000 in
theorem eqSt_any (p te ts p' te' ts' : Nat) (a b : Option Addr) (n m c d : Nat) (x y : Nat → Nat) (w : World) (ha : Byt w a n x) (hb : Byt w b m y) (hn : n ≤ 140737488355328) (hm : m ≤ 140737488355328) :
    Calls Try.prog 16 #[.agg #[.int .u64 (p : Nat), .int .u64 (te : Nat), .int .u64 (ts : Nat), .slice a n c], .agg #[.int .u64 (p' : Nat), .int .u64 (te' : Nat), .int .u64 (ts' : Nat), .slice b m d]] w fun e w' => e = .returned (.bool (decide (p = p' ∧ te = te' ∧ ts = ts' ∧ (List.range n).map x = (List.range m).map y))) ∧ w.Since w.heap.size w' := by
  obtain ⟨W1, HW1⟩ : ∃ W, Hid (w.alloc (.cells #[.int .u64 (p : Nat), .int .u64 (te : Nat), .int .u64 (ts : Nat), .slice a n c] 27) = W) := ⟨_, rfl⟩
  have s1 : w.Since w.heap.size W1 := by rw [← HW1.out]; exact (World.Since.refl _ _).alloc (Nat.le_refl _) _
  have z1 : W1.heap.size = w.heap.size + 1 := by rw [← HW1.out]; simp
  have a0 : W1.cell? ⟨w.heap.size, 0, none⟩ = some (.int .u64 (p : Nat)) := by rw [← HW1.out]; simp
  have a1 : W1.cell? ⟨w.heap.size, 1, none⟩ = some (.int .u64 (te : Nat)) := by rw [← HW1.out]; simp
  have a2 : W1.cell? ⟨w.heap.size, 2, none⟩ = some (.int .u64 (ts : Nat)) := by rw [← HW1.out]; simp
  have a3 : W1.cell? ⟨w.heap.size, 3, none⟩ = some (.slice a n c) := by rw [← HW1.out]; simp
  obtain ⟨W2, HW2⟩ : ∃ W, Hid (W1.alloc (.cells #[.int .u64 (p' : Nat), .int .u64 (te' : Nat), .int .u64 (ts' : Nat), .slice b m d] 27) = W) := ⟨_, rfl⟩
  have s2 : W1.Since W1.heap.size W2 := by rw [← HW2.out]; exact (World.Since.refl _ _).alloc (Nat.le_refl _) _
  have b0 : W2.cell? ⟨w.heap.size + 1, 0, none⟩ = some (.int .u64 (p' : Nat)) := by rw [← z1, ← HW2.out]; simp
  have b1 : W2.cell? ⟨w.heap.size + 1, 1, none⟩ = some (.int .u64 (te' : Nat)) := by rw [← z1, ← HW2.out]; simp
  have b2 : W2.cell? ⟨w.heap.size + 1, 2, none⟩ = some (.int .u64 (ts' : Nat)) := by rw [← z1, ← HW2.out]; simp
  have b3 : W2.cell? ⟨w.heap.size + 1, 3, none⟩ = some (.slice b m d) := by rw [← z1, ← HW2.out]; simp
  replace a0 := cell_later s2 a0
  replace a1 := cell_later s2 a1
  replace a2 := cell_later s2 a2
  replace a3 := cell_later s2 a3
  have hs := s1.trans (since_mono s2 s1.size)
  have HS : Hid (w.Since w.heap.size W2) := hs
  have HCM : Hid (Calls Try.prog 29 #[.slice a n c, .slice b m d] W2 fun e w' => ∃ k : Int, e = .returned (.int .i64 k) ∧ (k == 0) = decide ((List.range n).map x = (List.range m).map y) ∧ Hid (w.Since w.heap.size w')) := (cmpB_any a b n m c d x y W2 (ha.since hs) (hb.since hs) hn hm).mono fun e w' ⟨k, he, hk, q, hq⟩ => ⟨k, he, hk, by subst hq; exact ⟨hs.os, hs.tape, hs.output, hs.size, hs.block⟩⟩
  clear s1 s2 hs ha hb hn hm
  by_cases h1 : p = p'
  · have q1 : ((p : Int) == (p' : Int)) = true := by simp [h1]
    by_cases h2 : te = te'
    · have q2 : ((te : Int) == (te' : Int)) = true := by simp [h2]
      by_cases h3 : ts = ts'
      · have q3 : ((ts : Int) == (ts' : Int)) = true := by simp [h3]
        have HE : decide (p = p' ∧ te = te' ∧ ts = ts' ∧ (List.range n).map x = (List.range m).map y) = decide ((List.range n).map x = (List.range m).map y) := by simp [h1, h2, h3]
        rw [HE]
        generalize decide ((List.range n).map x = (List.range m).map y) = B at *
        clear h1 h2 h3
        cases B with
        | true =>
          clear HE
          go_enter Try.func16, Try.ntmps16
          go_upto_region 1 with fail
          rw [HW1.out]
          try rw [z1]
          rw [HW2.out]
          try rw [z1]
          clear HW1 HW2 z1
          go_wp2_with (go_at_call 29; refine HCM.out.mono ?_; rintro e w3 ⟨k, rfl, hk, HS⟩)
          go_ret
          exact ⟨rfl, HS.out⟩
        | false =>
          clear HE
          go_enter Try.func16, Try.ntmps16
          go_upto_region 1 with fail
          rw [HW1.out]
          try rw [z1]
          rw [HW2.out]
          try rw [z1]
          clear HW1 HW2 z1
          go_wp2_with (go_at_call 29; refine HCM.out.mono ?_; rintro e w3 ⟨k, rfl, hk, HS⟩)
          go_ret
          exact ⟨rfl, HS.out⟩
      · have q3 : ((ts : Int) == (ts' : Int)) = false := by simp; omega
        have HE : decide (p = p' ∧ te = te' ∧ ts = ts' ∧ (List.range n).map x = (List.range m).map y) = false := by simp [h3]
        rw [HE]
        clear h1 h2 h3 HCM
        clear HE
        go_enter Try.func16, Try.ntmps16
        go_upto_region 1 with fail
        rw [HW1.out]
        try rw [z1]
        rw [HW2.out]
        try rw [z1]
        clear HW1 HW2 z1
        go_wp2_with fail
        go_ret
        exact ⟨rfl, HS.out⟩
    · have q2 : ((te : Int) == (te' : Int)) = false := by simp; omega
      have HE : decide (p = p' ∧ te = te' ∧ ts = ts' ∧ (List.range n).map x = (List.range m).map y) = false := by simp [h2]
      rw [HE]
      clear h1 h2 HCM
      clear HE
      go_enter Try.func16, Try.ntmps16
      go_upto_region 1 with fail
      rw [HW1.out]
      try rw [z1]
      rw [HW2.out]
      try rw [z1]
      clear HW1 HW2 z1
      go_wp2_with fail
      go_ret
      exact ⟨rfl, HS.out⟩
  · have q1 : ((p : Int) == (p' : Int)) = false := by simp; omega
    have HE : decide (p = p' ∧ te = te' ∧ ts = ts' ∧ (List.range n).map x = (List.range m).map y) = false := by simp [h1]
    rw [HE]
    clear h1 HCM
    clear HE
    go_enter Try.func16, Try.ntmps16
    go_upto_region 1 with fail
    rw [HW1.out]
    try rw [z1]
    rw [HW2.out]
    try rw [z1]
    clear HW1 HW2 z1
    go_wp2_with fail
    go_ret
    exact ⟨rfl, HS.out⟩
end Go.Proofs.Yteneaiaejdgpcaa

/- ReplicaFences: what a step tells, as plain facts. -/
namespace Go.Proofs.Yteneaiaejdgpcaa
open Go.RowKit Go.Maps
set_option maxRecDepth 100000
set_option maxRecDepth 100000

theorem cmT_pos {a b c d : Nat} (h : 0 < cmT a b c d) : c < a ∨ (a = c ∧ d < b) := by
  unfold cmT orM cmN at h
  by_cases h1 : a < c
  · rw [if_pos h1] at h; simp at h
  · rw [if_neg h1] at h
    by_cases h2 : c < a
    · exact .inl h2
    · rw [if_neg h2] at h
      simp at h
      by_cases h3 : b < d
      · rw [if_pos h3] at h; simp at h
      · rw [if_neg h3] at h
        by_cases h4 : d < b
        · exact .inr ⟨by omega, h4⟩
        · rw [if_neg h4] at h; simp at h
theorem cmT_zero {a b c d : Nat} (h : cmT a b c d = 0) : a = c ∧ b = d := by
  unfold cmT orM cmN at h
  by_cases h1 : a < c
  · rw [if_pos h1] at h; simp at h
  · rw [if_neg h1] at h
    by_cases h2 : c < a
    · rw [if_pos h2] at h; simp at h
    · rw [if_neg h2] at h
      simp at h
      by_cases h3 : b < d
      · rw [if_pos h3] at h; simp at h
      · rw [if_neg h3] at h
        by_cases h4 : d < b
        · rw [if_pos h4] at h; simp at h
        · omega
theorem ctM_ge {a b c d : Nat} (h : c < a ∨ (a = c ∧ d ≤ b)) : ¬ (ctM a b c d < 0) := by
  unfold ctM
  rw [if_neg (by omega)]
  split <;> omega
structure FN (r : Rp) (M : Mg) (H : Hd) : Prop where
  pr : r.p ≤ H.r.p
  tg : ¬ (ctM H.r.te H.r.ts r.te r.ts < 0)
  vl : H.r.te = r.te → H.r.ts = r.ts → H.r.v = r.v
  ch : M.n 0 ≠ 0 → (H.b3 = true ↔ ¬ (H.r.p = r.p ∧ H.r.te = r.te ∧ H.r.ts = r.ts ∧ H.r.v = r.v))
  tk : H.b2 = true → ((r.p : Nat) : Int) ≤ epM M
  pm : H.b1 = true → H.a.n 0 = 2 → ∃ E : Nat, H.a.n 4 = (E : Nat) ∧ r.p ≤ E ∧ H.a.n 5 = (r.te : Nat) ∧ H.a.n 6 = (r.ts : Nat) ∧ H.a.s 10 = H.r.v ∧ M.n 4 = (E : Nat) ∧ H.r.p = E ∧ H.r.te = r.te ∧ H.r.ts = r.ts
  wr : H.b1 = true → H.a.n 0 = 5 → ∃ E Q : Nat, H.a.n 5 = (E : Nat) ∧ H.a.n 6 = (Q : Nat) ∧ M.n 5 = (E : Nat) ∧ M.n 6 = (Q : Nat) ∧ H.r.te = E ∧ H.r.ts = Q ∧ ¬ (ctM E Q r.te r.ts < 0)
  ot : H.b1 = false ∨ (H.a.n 0 ≠ 2 ∧ H.a.n 0 ≠ 5) → H.r.te = r.te ∧ H.r.ts = r.ts
theorem FN.still {r r' : Rp} {M a : Mg} {b1 : Bool} (hp : r'.p = r.p) (ht : r'.te = r.te) (hs : r'.ts = r.ts) (hv : r'.v = r.v) (ha : b1 = false ∨ (a.n 0 ≠ 2 ∧ a.n 0 ≠ 5)) : FN r M ⟨a, b1, false, false, r'⟩ :=
  ⟨by show r.p ≤ r'.p; omega, by show ¬ (ctM r'.te r'.ts r.te r.ts < 0); exact ctM_ge (by omega), fun _ _ => hv, fun _ => ⟨fun e => by simp at e, fun e => absurd ⟨hp, ht, hs, hv⟩ e⟩, fun e => by simp at e, fun e k => by
    have e : b1 = true := e
    have k : a.n 0 = 2 := k
    rcases ha with h | h
    · rw [h] at e; simp at e
    · exact absurd k h.1, fun e k => by
    have e : b1 = true := e
    have k : a.n 0 = 5 := k
    rcases ha with h | h
    · rw [h] at e; simp at e
    · exact absurd k h.2, fun _ => ⟨ht, hs⟩⟩
theorem fenceFacts (o : Od) (r : Rp) (hN : MgN o.m) : FN r (atM o r).1 (atM o r).2 := by
  have h4 := hN.nat 4 rfl
  have h5 := hN.nat 5 rfl
  have h6 := hN.nat 6 rfl
  by_cases d1 : o.d = 1
  · have ea : atM o r = (o.m, hearM r o.m) := if_pos d1
    rw [ea]
    show FN r o.m (hearM r o.m)
    unfold hearM
    by_cases k1 : o.m.n 0 = 1
    · rw [if_pos k1]
      unfold hearP
      by_cases q : (o.m.n 4).toNat < r.p ∨ (r.p < (o.m.n 4).toNat ∧ 0 < r.wt)
      · rw [if_pos q]
        exact FN.still rfl rfl rfl rfl (.inr ⟨by show (3 : Int) ≠ 2; decide, by show (3 : Int) ≠ 5; decide⟩)
      · rw [if_neg q]
        refine ⟨by show r.p ≤ (o.m.n 4).toNat; omega, by show ¬ (ctM r.te r.ts r.te r.ts < 0); exact ctM_ge (by omega), fun _ _ => rfl, fun _ => ?_, fun e => by simp at e, fun _ _ => ⟨(o.m.n 4).toNat, rfl, by omega, rfl, rfl, rfl, h4.1, rfl, rfl, rfl⟩, fun _ k => ?_, fun _ => ⟨rfl, rfl⟩⟩
        · show decide (r.p ≠ (o.m.n 4).toNat) = true ↔ ¬ ((o.m.n 4).toNat = r.p ∧ r.te = r.te ∧ r.ts = r.ts ∧ r.v = r.v)
          simp; omega
        · have k : (2 : Int) = 5 := k
          exact absurd k (by decide)
    · rw [if_neg k1]
      by_cases k4 : o.m.n 0 = 4
      · rw [if_pos k4]
        have hep : epM o.m = o.m.n 5 := if_pos k4
        unfold hearW
        by_cases q : (o.m.n 5).toNat < r.p
        · rw [if_pos q]
          exact FN.still rfl rfl rfl rfl (.inr ⟨by show (3 : Int) ≠ 2; decide, by show (3 : Int) ≠ 5; decide⟩)
        · rw [if_neg q]
          by_cases q1 : 0 < cmT (o.m.n 5).toNat (o.m.n 6).toNat r.te r.ts
          · rw [if_pos q1]
            have hc := cmT_pos q1
            refine ⟨by show r.p ≤ (o.m.n 5).toNat; omega, by show ¬ (ctM (o.m.n 5).toNat (o.m.n 6).toNat r.te r.ts < 0); exact ctM_ge (by omega), fun e1 e2 => ?_, fun _ => ?_, fun _ => by rw [hep]; omega, fun _ k => ?_, fun _ _ => ⟨(o.m.n 5).toNat, (o.m.n 6).toNat, rfl, rfl, h5.1, h6.1, rfl, rfl, ctM_ge (by omega)⟩, fun e => ?_⟩
            · have e1 : (o.m.n 5).toNat = r.te := e1
              have e2 : (o.m.n 6).toNat = r.ts := e2
              omega
            · show true = true ↔ ¬ ((o.m.n 5).toNat = r.p ∧ (o.m.n 5).toNat = r.te ∧ (o.m.n 6).toNat = r.ts ∧ _)
              exact ⟨fun _ e => by omega, fun _ => rfl⟩
            · have k : (5 : Int) = 2 := k
              exact absurd k (by decide)
            · rcases e with e | e
              · simp at e
              · exact absurd rfl e.2
          · rw [if_neg q1]
            have hch : ∀ x : Nat, (decide (r.p ≠ x) = true ↔ ¬ (x = r.p ∧ r.te = r.te ∧ r.ts = r.ts ∧ r.v = r.v)) := fun x => by simp; omega
            by_cases q2 : cmT (o.m.n 5).toNat (o.m.n 6).toNat r.te r.ts = 0
            · rw [if_pos q2]
              have hc := cmT_zero q2
              refine ⟨by show r.p ≤ (o.m.n 5).toNat; omega, by show ¬ (ctM r.te r.ts r.te r.ts < 0); exact ctM_ge (by omega), fun _ _ => rfl, fun _ => hch _, fun _ => by rw [hep]; omega, fun _ k => ?_, fun _ _ => ⟨(o.m.n 5).toNat, (o.m.n 6).toNat, rfl, rfl, h5.1, h6.1, hc.1.symm, hc.2.symm, ctM_ge (by omega)⟩, fun _ => ⟨rfl, rfl⟩⟩
              have k : (5 : Int) = 2 := k
              exact absurd k (by decide)
            · rw [if_neg q2]
              refine ⟨by show r.p ≤ (o.m.n 5).toNat; omega, by show ¬ (ctM r.te r.ts r.te r.ts < 0); exact ctM_ge (by omega), fun _ _ => rfl, fun _ => hch _, fun _ => by rw [hep]; omega, fun e => by simp at e, fun e => by simp at e, fun _ => ⟨rfl, rfl⟩⟩
      · rw [if_neg k4]
        by_cases k6 : o.m.n 0 = 6
        · rw [if_pos k6]
          have hep : epM o.m = o.m.n 4 := if_neg k4
          unfold hearB
          by_cases q : (o.m.n 4).toNat < r.p
          · rw [if_pos q]
            exact FN.still rfl rfl rfl rfl (.inr ⟨by show (3 : Int) ≠ 2; decide, by show (3 : Int) ≠ 5; decide⟩)
          · rw [if_neg q]
            refine ⟨by show r.p ≤ (o.m.n 4).toNat; omega, by show ¬ (ctM r.te r.ts r.te r.ts < 0); exact ctM_ge (by omega), fun _ _ => rfl, fun _ => ?_, fun _ => by rw [hep]; omega, fun _ k => ?_, fun _ k => ?_, fun _ => ⟨rfl, rfl⟩⟩
            · show decide (r.p ≠ (o.m.n 4).toNat) = true ↔ ¬ ((o.m.n 4).toNat = r.p ∧ r.te = r.te ∧ r.ts = r.ts ∧ r.v = r.v)
              simp; omega
            · have k : (7 : Int) = 2 := k
              exact absurd k (by decide)
            · have k : (7 : Int) = 5 := k
              exact absurd k (by decide)
        · rw [if_neg k6]
          exact FN.still rfl rfl rfl rfl (.inl rfl)
  · have ea : atM o r = (mg0, ⟨mg0, false, false, false, if o.d = 2 then { r with wt := wtM (r.wt - 1) } else if o.d = 3 then (if r.p < o.ep then { r with p := o.ep } else r) else r⟩) := if_neg d1
    rw [ea]
    by_cases d2 : o.d = 2
    · rw [if_pos d2]
      exact FN.still rfl rfl rfl rfl (.inl rfl)
    · rw [if_neg d2]
      by_cases d3 : o.d = 3
      · rw [if_pos d3]
        by_cases d4 : r.p < o.ep
        · rw [if_pos d4]
          refine ⟨by show r.p ≤ o.ep; omega, by show ¬ (ctM r.te r.ts r.te r.ts < 0); exact ctM_ge (by omega), fun _ _ => rfl, fun e => absurd rfl e, fun e => by simp at e, fun e => by simp at e, fun e => by simp at e, fun _ => ⟨rfl, rfl⟩⟩
        · rw [if_neg d4]
          exact FN.still rfl rfl rfl rfl (.inl rfl)
      · rw [if_neg d3]
        exact FN.still rfl rfl rfl rfl (.inl rfl)
end Go.Proofs.Yteneaiaejdgpcaa

/- A life that is handed in; an answer beside a message, laid into new memory. -/
namespace Go.Proofs.Yteneaiaejdgpcaa
open Go.RowKit Go.Maps
set_option maxRecDepth 100000
set_option maxRecDepth 100000

/-- A life that is handed in. -/
structure LifeIn (w : World) (p te ts : Nat) (sa : Option Addr) (sn sc : Nat) (x : Nat → Nat) (span : Int) (oa : Option Addr) (on oc : Nat) (O : Nat → Od) : Prop where
  p : p < 18446744073709551616
  te : te < 18446744073709551616
  ts : ts < 18446744073709551616
  val : Byt w sa sn x
  byte : ∀ j, x j < 256
  nil : sa = none → sn = 0
  sn : sn ≤ 140737488351232
  sp : -9223372036854775808 ≤ span ∧ span ≤ 9223372036854775807
  ops : OpsIn w oa on O
  on : on ≤ 1000000000000
/-- An answer beside a message, laid into new memory. -/
theorem two_put (w : World) (m : Mg) (va : Option Addr) (vc : Nat) (a : Mg) (ga : Option Addr) (gc : Nat) (b1 b2 b3 : Bool) : ∃ (W WE : World) (ML HL : Array Value), Hid (mgV m va vc = .agg ML) ∧ Hid (hdV a ga gc b1 b2 b3 = .agg HL) ∧ Hid (((w.alloc (.cells #[.int .i64 0, .int .i64 0, .int .i64 0, .int .i64 0, .int .u64 0, .int .u64 0, .int .u64 0, .int .u64 0, .int .i64 0, .int .u64 0, .slice none 0 0, .int .i64 0, .int .u64 0, .string ⟨#[]⟩, .string ⟨#[]⟩, .int .u64 0, .int .u64 0, .int .u64 0, .int .i64 0, .int .i64 0, .int .i64 0, .int .i64 0] 41)).alloc (.cells #[.int .i64 0, .int .i64 0, .int .i64 0, .int .i64 0, .int .u64 0, .int .u64 0, .int .u64 0, .int .u64 0, .int .i64 0, .int .u64 0, .slice none 0 0, .int .i64 0, .int .u64 0, .string ⟨#[]⟩, .string ⟨#[]⟩, .int .u64 0, .int .u64 0, .int .u64 0, .int .i64 0, .int .i64 0, .int .i64 0, .int .i64 0, .bool false, .bool false, .bool false] 46)).there w.heap.size 0 ML.size) ∧ Hid (((w.alloc (.cells #[.int .i64 0, .int .i64 0, .int .i64 0, .int .i64 0, .int .u64 0, .int .u64 0, .int .u64 0, .int .u64 0, .int .i64 0, .int .u64 0, .slice none 0 0, .int .i64 0, .int .u64 0, .string ⟨#[]⟩, .string ⟨#[]⟩, .int .u64 0, .int .u64 0, .int .u64 0, .int .i64 0, .int .i64 0, .int .i64 0, .int .i64 0] 41)).alloc (.cells #[.int .i64 0, .int .i64 0, .int .i64 0, .int .i64 0, .int .u64 0, .int .u64 0, .int .u64 0, .int .u64 0, .int .i64 0, .int .u64 0, .slice none 0 0, .int .i64 0, .int .u64 0, .string ⟨#[]⟩, .string ⟨#[]⟩, .int .u64 0, .int .u64 0, .int .u64 0, .int .i64 0, .int .i64 0, .int .i64 0, .int .i64 0, .bool false, .bool false, .bool false] 46)).setCells w.heap.size 0 ML.toList = W) ∧ Hid (W.there (w.heap.size + 1) 0 HL.size) ∧ Hid (W.setCells (w.heap.size + 1) 0 HL.toList = WE) ∧ Hid ((Try.prog.info? 41).map (·.size) = some ML.size) ∧ Hid (ML.all (·.oneCell') = true) ∧ Hid ((Try.prog.info? 46).map (·.size) = some HL.size) ∧ Hid (HL.all (·.oneCell') = true) ∧ Hid (WE.rowIs w.heap.size 41 22 (mgCell m va vc)) ∧ Hid (WE.rowIs (w.heap.size + 1) 46 25 (hdCell a ga gc b1 b2 b3)) ∧ Hid (w.Since w.heap.size WE) := by
  have s1 : w.Since w.heap.size (w.alloc mgZ) := (World.Since.refl _ _).alloc (Nat.le_refl _) _
  have z1 : (w.alloc mgZ).heap.size = w.heap.size + 1 := by simp
  have s2 : (w.alloc mgZ).Since (w.alloc mgZ).heap.size ((w.alloc mgZ).alloc hdZ) := (World.Since.refl _ _).alloc (Nat.le_refl _) _
  have r1 := row_since (mgZ_row w) s2
  have r2 := hdZ_row (w.alloc mgZ)
  rw [z1] at r2
  have sw : w.Since w.heap.size ((w.alloc mgZ).alloc hdZ) := s1.trans (since_mono s2 s1.size)
  obtain ⟨W, HW, rW, hW, zW, bW, oW, tW, pW⟩ := mg_stored r1 m va vc
  have r2W := r2.of_block (bW _ (by omega))
  obtain ⟨WE, HWE, hhE, zE, bE, oE, tE, pE⟩ := cells_stored r2W (hdL a ga gc b1 b2 b3) (hdL_len _ _ _ _ _ _)
  have e1 : (mgL m va vc).toArray.size = 22 := by rw [List.size_toArray, mgL_len]
  have e2 : (hdL a ga gc b1 b2 b3).toArray.size = 25 := by rw [List.size_toArray, hdL_len]
  refine ⟨W, WE, (mgL m va vc).toArray, (hdL a ga gc b1 b2 b3).toArray, rfl, rfl, ?_, HW, ?_, HWE, infoMgA _ _ _, mg_all _ _ _, infoHrA _ _ _ _ _ _, hd_all _ _ _ _ _ _, rW.of_block (bE _ (by omega)), hd_cells hhE rfl, oE.trans (oW.trans sw.os), tE.trans (tW.trans sw.tape), pE.trans (pW.trans sw.output), by rw [zE, zW]; exact sw.size, fun k hk => (bE k (by omega)).trans ((bW k (by omega)).trans (sw.block k hk))⟩
  · show World.there _ _ _ _
    rw [e1]
    exact row_there r1
  · show World.there _ _ _ _
    rw [e2]
    exact row_there r2W
/-- What an answer bears, as bytes. -/
theorem anv_byt {lo : Nat} {w : World} {a : Mg} {ga : Option Addr} {gc : Nat} (h : AnV lo w a ga gc) (hb : ∀ v ∈ a.s 10, v < 256) : Byt w ga (a.s 10).length (fun j => (a.s 10).getD j 0) := by
  rcases h with ⟨_, _, h⟩ | ⟨g, rfl, _, h⟩
  · rw [h]; exact fun j hj => absurd hj (Nat.not_lt_zero _)
  · intro j hj
    obtain ⟨b, o, e, hc⟩ := h.byt j (by rw [strL_size]; exact hj)
    exact ⟨b, o, e, by rw [hc, bx_strL hb]⟩
theorem mgL_get (m : Mg) (va : Option Addr) (vc j : Nat) (hj : j < 22) : (mgL m va vc)[j]? = some (mgCell m va vc j) := by
  unfold mgL
  rw [List.getElem?_map, List.getElem?_range hj]
  rfl
end Go.Proofs.Yteneaiaejdgpcaa

/- ReplicaFences: the walk. -/
namespace Go.Proofs.Yteneaiaejdgpcaa
open Go.RowKit Go.Maps
set_option maxRecDepth 100000
set_option maxRecDepth 100000

def tgC (te ts : Nat) (i : Nat) : Value := if i = 0 then .int .u64 (te : Nat) else .int .u64 (ts : Nat)
theorem tg_row (w : World) (te ts : Nat) : (w.alloc (.cells #[.int .u64 (te : Nat), .int .u64 (ts : Nat)] 24)).rowIs w.heap.size 24 2 (tgC te ts) :=
  World.rowIs_alloc w _ _ _ (fun i hi => by
    have hi' : i < 2 := hi
    match i, hi' with
    | 0, _ | 1, _ => rfl)
set_option maxHeartbeats 16000000 in
theorem fences_any {w : World} {p te ts : Nat} {sa : Option Addr} {sn sc : Nat} {x : Nat → Nat} {span : Int} {oa : Option Addr} {on oc : Nat} {O : Nat → Od} (h : LifeIn w p te ts sa sn sc x span oa on oc O) :
    Calls Try.prog 6 #[lfV p te ts sa sn sc span oa on oc] w fun e w' => e = .returned (.bool true) ∧ w.Since w.heap.size w' := by
  obtain ⟨LA, HLA⟩ : ∃ x : Array Value, Hid (#[.int .u64 (p : Nat), .int .u64 (te : Nat), .int .u64 (ts : Nat), .slice sa sn sc, .int .i64 span, .slice oa on oc] = x) := ⟨_, rfl⟩
  obtain ⟨W1, HW1⟩ : ∃ W, Hid (w.alloc (.cells LA 30) = W) := ⟨_, rfl⟩
  have s1 : w.Since w.heap.size W1 := by rw [← HW1.out]; exact (World.Since.refl _ _).alloc (Nat.le_refl _) _
  have z1 : W1.heap.size = w.heap.size + 1 := by rw [← HW1.out]; simp
  have g1 : W1.heap[w.heap.size]? = some (.cells LA 30 (0, 0)) := by rw [← HW1.out]; exact heap_alloc_new w _
  have HLI : Hid ((Try.prog.info? 30).map (·.size) = some LA.size) := by rw [← HLA.out]; show _ = some 6; kernel_rfl
  have HL := hide h
  have HG : Hid (∀ W : World, W1.Since W1.heap.size W → W.heap[w.heap.size]? = some (.cells LA 30 (0, 0))) := fun W hW => by rw [hW.block _ (by omega)]; exact g1
  have HC : Hid (∀ W : World, W1.Since W1.heap.size W → ∀ i v, #[.int .u64 (p : Nat), .int .u64 (te : Nat), .int .u64 (ts : Nat), .slice sa sn sc, .int .i64 span, .slice oa on oc][i]? = some v → W.cell? ⟨w.heap.size, i, none⟩ = some v) := fun W hW i v hv => by
    have := HG.out W hW
    simp only [World.cell?, this]
    rw [← HLA.out]
    exact hv
  have HS1 := hide s1
  have Hz1 := hide z1
  have HD1 : Hid (W1.Since W1.heap.size W1.drew) := (World.Since.refl _ _).drew
  have HCP : Hid (Calls Try.prog 8 #[.slice sa sn sc] W1.drew fun e w' => e = .returned (.slice (some ⟨W1.heap.size, 0, none⟩) sn sn) ∧ Hid (W1.Since W1.heap.size w') ∧ Hid (Byt w' (some ⟨W1.heap.size, 0, none⟩) sn x)) := (copy_any sa sn sc x W1.drew (by have := h.sn; omega) ((h.val.since s1).since ((World.Since.refl _ _).drew))).mono fun e w' ⟨he, h1, _, h2⟩ => ⟨he, ((World.Since.refl _ _).drew).trans h1, row_byt h2⟩
  have HLV := hide lives_any
  clear s1 z1 g1 h
  unfold lfV
  rw [HLA.out]
  go_enter Try.func6, Try.ntmps6
  go_upto_region 1 with fail
  rw [HW1.out]
  refine wp_region_held_drew (S := fun W => W1.Since W1.heap.size W) (by kernel_rfl) HD1.out fun _ => ?_
  refine wpAnyH_take (i := 0) (v := .pointer (some ⟨w.heap.size, 0, none⟩)) rfl (by kernel_rfl) (by kernel_rfl) (by kernel_rfl) (fun _ _ _ h => h) (.inl ⟨rfl, fun W hW => by kernel_rfl⟩) HD1.out ?_
  simp only [List.getElem_toArray, List.getElem_cons_zero, Act.put, List.setIfInBounds_toArray, List.set_cons_zero, List.set_cons_succ]
  refine wpAnyH_take (i := 1) (v := .pointer (some ⟨w.heap.size, 0, none⟩)) rfl (by kernel_rfl) (by kernel_rfl) (by kernel_rfl) (fun _ _ _ h => h) (.inl ⟨rfl, fun W hW => by kernel_rfl⟩) HD1.out ?_
  simp only [List.getElem_toArray, List.getElem_cons_zero, List.getElem_cons_succ, Act.put, List.setIfInBounds_toArray, List.set_cons_zero, List.set_cons_succ]
  refine wpAnyH_take (i := 2) (v := .int .u64 (p : Nat)) rfl (by kernel_rfl) (by kernel_rfl) (by kernel_rfl) (fun _ _ _ h => h) (.inl ⟨rfl, fun W hW => by have c := HC.out W hW 0 _ rfl; go_simp⟩) HD1.out ?_
  simp only [List.getElem_toArray, List.getElem_cons_zero, List.getElem_cons_succ, Act.put, List.setIfInBounds_toArray, List.set_cons_zero, List.set_cons_succ]
  refine wpAnyH_take (i := 3) (v := .pointer (some ⟨w.heap.size, 0, none⟩)) rfl (by kernel_rfl) (by kernel_rfl) (by kernel_rfl) (fun _ _ _ h => h) (.inl ⟨rfl, fun W hW => by kernel_rfl⟩) HD1.out ?_
  simp only [List.getElem_toArray, List.getElem_cons_zero, List.getElem_cons_succ, Act.put, List.setIfInBounds_toArray, List.set_cons_zero, List.set_cons_succ]
  refine wpAnyH_take (i := 4) (v := .pointer (some ⟨w.heap.size, 1, none⟩)) rfl (by kernel_rfl) (by kernel_rfl) (by kernel_rfl) (fun _ _ _ h => h) (.inl ⟨rfl, fun W hW => by kernel_rfl⟩) HD1.out ?_
  simp only [List.getElem_toArray, List.getElem_cons_zero, List.getElem_cons_succ, Act.put, List.setIfInBounds_toArray, List.set_cons_zero, List.set_cons_succ]
  refine wpAnyH_take (i := 5) (v := .agg #[.int .u64 (te : Nat), .int .u64 (ts : Nat)]) rfl (by kernel_rfl) (by kernel_rfl) (by kernel_rfl) (fun _ _ _ h => h) (.inl ⟨rfl, fun W hW => by have c := HC.out W hW 1 _ rfl; have c2 := HC.out W hW 2 _ rfl; go_simp⟩) HD1.out ?_
  simp only [List.getElem_toArray, List.getElem_cons_zero, List.getElem_cons_succ, Act.put, List.setIfInBounds_toArray, List.set_cons_zero, List.set_cons_succ]
  refine wpAnyH_take (i := 6) (v := .pointer (some ⟨w.heap.size, 0, none⟩)) rfl (by kernel_rfl) (by kernel_rfl) (by kernel_rfl) (fun _ _ _ h => h) (.inl ⟨rfl, fun W hW => by kernel_rfl⟩) HD1.out ?_
  simp only [List.getElem_toArray, List.getElem_cons_zero, List.getElem_cons_succ, Act.put, List.setIfInBounds_toArray, List.set_cons_zero, List.set_cons_succ]
  refine wpAnyH_take (i := 7) (v := .pointer (some ⟨w.heap.size, 3, none⟩)) rfl (by kernel_rfl) (by kernel_rfl) (by kernel_rfl) (fun _ _ _ h => h) (.inl ⟨rfl, fun W hW => by kernel_rfl⟩) HD1.out ?_
  simp only [List.getElem_toArray, List.getElem_cons_zero, List.getElem_cons_succ, Act.put, List.setIfInBounds_toArray, List.set_cons_zero, List.set_cons_succ]
  refine wpAnyH_take (i := 8) (v := .slice sa sn sc) rfl (by kernel_rfl) (by kernel_rfl) (by kernel_rfl) (fun _ _ _ h => h) (.inl ⟨rfl, fun W hW => by have c := HC.out W hW 3 _ rfl; go_simp⟩) HD1.out ?_
  simp only [List.getElem_toArray, List.getElem_cons_zero, List.getElem_cons_succ, Act.put, List.setIfInBounds_toArray, List.set_cons_zero, List.set_cons_succ]
  refine wpAnyH_take (i := 11) (v := .pointer (some ⟨w.heap.size, 4, none⟩)) rfl (by kernel_rfl) (by kernel_rfl) (by kernel_rfl) (fun _ _ _ h => h) (.inl ⟨rfl, fun W hW => by kernel_rfl⟩) HD1.out ?_
  simp only [List.getElem_toArray, List.getElem_cons_zero, List.getElem_cons_succ, Act.put, List.setIfInBounds_toArray, List.set_cons_zero, List.set_cons_succ]
  refine wpAnyH_take (i := 12) (v := .int .i64 span) rfl (by kernel_rfl) (by kernel_rfl) (by kernel_rfl) (fun _ _ _ h => h) (.inl ⟨rfl, fun W hW => by have c := HC.out W hW 4 _ rfl; go_simp⟩) HD1.out ?_
  simp only [List.getElem_toArray, List.getElem_cons_zero, List.getElem_cons_succ, Act.put, List.setIfInBounds_toArray, List.set_cons_zero, List.set_cons_succ]
  refine wpAnyH_ready (rs := [9]) (by kernel_rfl) (by simp) ?_
  refine AllReadyH.cons rfl (fun K hK => ?_) AllReadyH.nil
  refine step_callW rfl 8 #[.slice sa sn sc] (by kernel_rfl) HCP.out ?_
  rintro e w2 ⟨rfl, HS2, HB2⟩
  refine ⟨_, rfl, hK.out _ _ HS2.out fun _ => ?_⟩
  clear hK HCP
  simp only [List.getElem_toArray, List.getElem_cons_zero, List.getElem_cons_succ, Act.put, List.setIfInBounds_toArray, List.set_cons_zero, List.set_cons_succ]
  refine wpAnyH_take (i := 10) (v := .agg #[.int .u64 (p : Nat), .int .u64 (te : Nat), .int .u64 (ts : Nat), .slice (some ⟨W1.heap.size, 0, none⟩) sn sn]) rfl (by kernel_rfl) (by kernel_rfl) (by kernel_rfl) (fun _ _ _ h => h) (.inl ⟨rfl, fun W hW => by kernel_rfl⟩) HS2.out ?_
  simp only [List.getElem_toArray, List.getElem_cons_zero, List.getElem_cons_succ, Act.put, List.setIfInBounds_toArray, List.set_cons_zero, List.set_cons_succ]
  have HLD : Hid (Calls Try.prog 7 #[.agg #[.int .u64 (p : Nat), .int .u64 (te : Nat), .int .u64 (ts : Nat), .slice (some ⟨W1.heap.size, 0, none⟩) sn sn], .int .i64 span] w2 fun e w' => ∃ rb, e = .returned (.pointer (some ⟨rb, 0, none⟩)) ∧ Hid (w.heap.size < rb) ∧ Hid (RpIs w' rb ⟨p, te, ts, (List.range sn).map x, wtM span⟩) ∧ Hid (W1.Since W1.heap.size w')) := (load_any p te ts (some ⟨W1.heap.size, 0, none⟩) sn sn x span w2 HL.out.p HL.out.te HL.out.ts HB2.out HL.out.byte (fun e => by cases e) HL.out.sn HL.out.sp.2).mono fun e w' ⟨rb, he, h1, h2, h3⟩ => ⟨rb, he, by
    have := HS2.out.size
    have := Hz1.out
    show w.heap.size < rb
    omega, h2, HS2.out.trans (since_mono h3 HS2.out.size)⟩
  refine wpAnyH_ready (rs := [13]) (by kernel_rfl) (by simp) ?_
  refine AllReadyH.cons rfl (fun K hK => ?_) AllReadyH.nil
  refine step_callW rfl 7 #[.agg #[.int .u64 (p : Nat), .int .u64 (te : Nat), .int .u64 (ts : Nat), .slice (some ⟨W1.heap.size, 0, none⟩) sn sn], .int .i64 span] (by kernel_rfl) HLD.out ?_
  rintro e w3 ⟨rb, rfl, HRB, HR3, HS3⟩
  refine ⟨_, rfl, hK.out _ _ HS3.out fun _ => ?_⟩
  clear hK HLD HB2 HS2 HD1
  simp only [List.getElem_toArray, List.getElem_cons_zero, List.getElem_cons_succ, Act.put, List.setIfInBounds_toArray, List.set_cons_zero, List.set_cons_succ]
  refine wpAnyH_take (i := 14) (v := .pointer (some ⟨rb, 0, none⟩)) rfl (by kernel_rfl) (by kernel_rfl) (by kernel_rfl) (fun _ _ _ h => h) (.inl ⟨rfl, fun W hW => by kernel_rfl⟩) HS3.out ?_
  simp only [List.getElem_toArray, List.getElem_cons_zero, List.getElem_cons_succ, Act.put, List.setIfInBounds_toArray, List.set_cons_zero, List.set_cons_succ]
  refine wpAnyH_done (by kernel_rfl) ?_ _
  have hne : (Value.pointer (some ⟨rb, 0, none⟩) : Value) = .pointer (some ⟨rb, 0, none⟩) := rfl
  clear hne
  go_upto_region 4 with (go_at_call 9; refine (HLV.out _).mono ?_; rintro e w4 ⟨rfl, hs4⟩)
  have HS4 : Hid (W1.Since W1.heap.size w4) := HS3.out.trans (since_mono hs4 HS3.out.size)
  have HR4 := hide (HR3.out.since hs4)
  clear HS3 HR3 hs4 HLV
  have cte : w4.cell? ⟨w.heap.size, 1, none⟩ = some (.int .u64 (te : Nat)) := HC.out w4 HS4.out 1 _ rfl
  have cts : w4.cell? ⟨w.heap.size, 2, none⟩ = some (.int .u64 (ts : Nat)) := HC.out w4 HS4.out 2 _ rfl
  obtain ⟨Wg, HWg⟩ : ∃ W, Hid (w4.alloc (.cells #[.int .u64 (te : Nat), .int .u64 (ts : Nat)] 24) = W) := ⟨_, rfl⟩
  have sg : w4.Since w4.heap.size Wg := by rw [← HWg.out]; exact (World.Since.refl _ _).alloc (Nat.le_refl _) _
  have rg := tg_row w4 te ts
  rw [HWg.out] at rg
  obtain ⟨gb, Hgb⟩ : ∃ x, Hid (w4.heap.size = x) := ⟨_, rfl⟩
  rw [Hgb.out] at rg
  have HG0 : Hid (Wg.rowIs gb 24 2 (tgC te ts)) := rg
  have HRg := hide (HR4.out.since sg)
  have HSg : Hid (W1.Since W1.heap.size Wg) := HS4.out.trans (since_mono sg HS4.out.size)
  have HGB : Hid (W1.heap.size ≤ gb) := by have := HS4.out.size; rw [Hgb.out] at this; exact this
  go_upto_region 5 with fail
  rw [HWg.out, Hgb.out]
  clear HWg Hgb rg sg cte cts HS4 HR4
  go_wp2_with fail
  go_loopg [5, 6, 7, 8, 9, 10] on (fun q s5 s6 s7 s8 s9 s10 wr => ∃ (i pr : Nat) (r : Rp), i ≤ on ∧ i ≤ 500 ∧ q = on - i ∧ s6 = .int .i64 (i : Nat) ∧ s5 = .int .u64 (pr : Nat) ∧ Hid (pr ≤ r.p) ∧ Hid (RpIs wr rb r) ∧ Hid (W1.Since W1.heap.size wr) ∧ Hid (wr.rowIs gb 24 2 (tgC r.te r.ts)))
  case atStart => exact ⟨0, 0, _, Nat.zero_le _, Nat.zero_le _, rfl, rfl, rfl, Nat.zero_le _, HRg, HSg, HG0⟩
  case round =>
    obtain ⟨i, pr, r, hi, hi5, rfl, rfl, rfl, HPR, HRr, HSr, HGr⟩ := hrel
    clear HRg HSg HG0
    by_cases hlt : i < on ∧ i < 500
    · obtain ⟨hlt, hl5⟩ := hlt
      obtain ⟨ob, oo, rfl, hrg, hob⟩ := (HL.out.ops.since (HS1.out.trans (since_mono HSr.out HS1.out.size))).at' i hlt
      clear hrg hob
      have c5 : wr.cell? ⟨w.heap.size, 5, none⟩ = some (.slice (some ⟨ob, oo, none⟩) on oc) := HC.out wr HSr.out 5 _ rfl
      have hiz : (i : Int) < (on : Int) := by omega
      have hi5z : (i : Int) < 500 := by omega
      have HON := hide HL.out.on
      have HST := hide (stored_any HRr.out)
      go_upto_region 9 with fail
      clear c5
      refine wp_region_lit ?_
      refine wpList_plain rfl fun _ hK => op_run (.pointer (some ⟨rb, 0, none⟩)) (by kernel_rfl) (hK _ _ ?_)
      simp only [Act.put, List.setIfInBounds_toArray, List.set_cons_zero, List.set_cons_succ]
      refine wpList_plain rfl fun _ hK => op_call 10 #[.pointer (some ⟨rb, 0, none⟩)] (by kernel_rfl) HST.out ?_
      rintro e w6 ⟨sg, sgc, rfl, _, _, hsB, hs6⟩
      refine ⟨_, rfl, hK _ _ ?_⟩
      clear hK HST
      obtain ⟨W7, SA, HSA, HT7, HW7, HI7, HO7, HR7, HS7⟩ := st_put w6 [.int .u64 (r.p : Nat), .int .u64 (r.te : Nat), .int .u64 (r.ts : Nat), .slice (some ⟨sg, 0, none⟩) r.v.length sgc] rfl (by simp [Value.oneCell'])
      rw [show stV r sg sgc = .agg SA from congrArg Value.agg HSA.out]
      simp only [Act.put, List.setIfInBounds_toArray, List.set_cons_zero, List.set_cons_succ]
      go_upto_region 10 with (refine wpList_store_mid rfl 27 _ _ rfl w6.heap.size 0 _ rfl rfl HT7.out HI7.out HO7.out ?_; rw [HW7.out])
      have sr7 : wr.Since wr.heap.size W7 := hs6.trans (since_mono HS7.out hs6.size)
      have s17 : W1.Since W1.heap.size W7 := HSr.out.trans (since_mono sr7 HSr.out.size)
      have sw7 : w.Since w.heap.size W7 := HS1.out.trans (since_mono s17 HS1.out.size)
      have HAT : Hid (Calls Try.prog 11 #[.agg LA, .pointer (some ⟨rb, 0, none⟩), .int .i64 (i : Nat)] W7 fun e w' => ∃ va vc ga gc, e = .returned (.tuple #[mgV (atM (O i) r).1 va vc, hdV (atM (O i) r).2.a ga gc (atM (O i) r).2.b1 (atM (O i) r).2.b2 (atM (O i) r).2.b3]) ∧ Hid (RpIs w' rb (atM (O i) r).2.r) ∧ Hid (But rb W7 w') ∧ Hid (AnV W7.heap.size w' (atM (O i) r).2.a ga gc)) := by
        have q := at_any (HRr.out.since sr7) p te ts sa sn sc span (some ⟨ob, oo, none⟩) on oc O (HL.out.ops.since sw7) i hlt HON.out
        unfold lfV at q
        rw [HLA.out] at q
        exact q.mono fun e w' ⟨va, vc, ga, gc, he, h1, h2, h3, _⟩ => ⟨va, vc, ga, gc, he, h1, h2, h3⟩
      have HGL := hide (HG.out W7 s17)
      have HZ6 := hide hs6.size
      have HZ7 := hide sr7.size
      have HS17 := hide s17
      have HBW := hide (hsB.since HS7.out)
      have HG7 : Hid (W7.rowIs gb 24 2 (tgC r.te r.ts)) := row_since HGr.out sr7
      have HRB7 := hide (HRr.out.since sr7)
      have HFN := hide (fenceFacts (O i) r (HL.out.ops.ok i hlt).2.1)
      clear sr7 s17 sw7 hs6 HSA HT7 HW7 HI7 HO7 HS7 HGr hsB
      obtain ⟨wb, Hwb⟩ : ∃ x, Hid (w6.heap.size = x) := ⟨_, rfl⟩
      rw [Hwb.out] at HR7 HZ6 ⊢
      clear Hwb
      refine wp_region_lit ?_
      refine wpList_load_row rfl 30 (.tmp 1) rfl w.heap.size rfl _ LA (0, 0) _ HGL.out Try.underlying30 rfl HLI.out ?_
      simp only [Act.put, List.setIfInBounds_toArray, List.set_cons_zero, List.set_cons_succ]
      refine wpList_plain rfl fun _ hK => op_run (.pointer (some ⟨rb, 0, none⟩)) (by kernel_rfl) (hK _ _ ?_)
      simp only [Act.put, List.setIfInBounds_toArray, List.set_cons_zero, List.set_cons_succ]
      refine wpList_plain rfl fun _ hK => op_run (.int .i64 (i : Nat)) (by kernel_rfl) (hK _ _ ?_)
      simp only [Act.put, List.setIfInBounds_toArray, List.set_cons_zero, List.set_cons_succ]
      refine wpList_plain rfl fun _ hK => op_call 11 #[.agg LA, .pointer (some ⟨rb, 0, none⟩), .int .i64 (i : Nat)] (by kernel_rfl) HAT.out ?_
      rintro e w8 ⟨va, vc, ga, gc, rfl, HR8, HB8, HAN⟩
      refine ⟨_, rfl, hK _ _ ?_⟩
      clear hK HAT HGL
      obtain ⟨W9, WE, ML, HLs, HML, HHL, HT9, HW9, HTE, HWE, HIM, HOM, HIH, HOH, HRM, HRH, HSE⟩ := two_put w8 (atM (O i) r).1 va vc (atM (O i) r).2.a ga gc (atM (O i) r).2.b1 (atM (O i) r).2.b2 (atM (O i) r).2.b3
      rw [HML.out, HHL.out]
      simp only [Act.put, List.setIfInBounds_toArray, List.set_cons_zero, List.set_cons_succ]
      refine wpList_plain rfl fun _ hK => op_run (.tuple #[.agg ML, .agg HLs]) (by kernel_rfl) (hK _ _ ?_)
      simp only [Act.put, List.setIfInBounds_toArray, List.set_cons_zero, List.set_cons_succ]
      refine wpList_plain rfl fun _ hK => op_run (.agg ML) (by kernel_rfl) (hK _ _ ?_)
      simp only [Act.put, List.setIfInBounds_toArray, List.set_cons_zero, List.set_cons_succ]
      refine wpList_plain rfl fun _ hK => op_run (.agg HLs) (by kernel_rfl) (hK _ _ ?_)
      simp only [Act.put, List.setIfInBounds_toArray, List.set_cons_zero, List.set_cons_succ]
      refine wpList_plain rfl fun _ hK => op_runW (w' := w8.alloc (.cells #[.int .i64 0, .int .i64 0, .int .i64 0, .int .i64 0, .int .u64 0, .int .u64 0, .int .u64 0, .int .u64 0, .int .i64 0, .int .u64 0, .slice none 0 0, .int .i64 0, .int .u64 0, .string ⟨#[]⟩, .string ⟨#[]⟩, .int .u64 0, .int .u64 0, .int .u64 0, .int .i64 0, .int .i64 0, .int .i64 0, .int .i64 0] 41)) (.pointer (some ⟨w8.heap.size, 0, none⟩)) (by kernel_rfl) (hK _ _ ?_)
      simp only [Act.put, List.setIfInBounds_toArray, List.set_cons_zero, List.set_cons_succ]
      have e10 : (w8.alloc (.cells #[.int .i64 0, .int .i64 0, .int .i64 0, .int .i64 0, .int .u64 0, .int .u64 0, .int .u64 0, .int .u64 0, .int .i64 0, .int .u64 0, .slice none 0 0, .int .i64 0, .int .u64 0, .string ⟨#[]⟩, .string ⟨#[]⟩, .int .u64 0, .int .u64 0, .int .u64 0, .int .i64 0, .int .i64 0, .int .i64 0, .int .i64 0] 41)).heap.size = w8.heap.size + 1 := by simp
      refine wpList_plain rfl fun _ hK => op_runW (w' := (w8.alloc (.cells #[.int .i64 0, .int .i64 0, .int .i64 0, .int .i64 0, .int .u64 0, .int .u64 0, .int .u64 0, .int .u64 0, .int .i64 0, .int .u64 0, .slice none 0 0, .int .i64 0, .int .u64 0, .string ⟨#[]⟩, .string ⟨#[]⟩, .int .u64 0, .int .u64 0, .int .u64 0, .int .i64 0, .int .i64 0, .int .i64 0, .int .i64 0] 41)).alloc (.cells #[.int .i64 0, .int .i64 0, .int .i64 0, .int .i64 0, .int .u64 0, .int .u64 0, .int .u64 0, .int .u64 0, .int .i64 0, .int .u64 0, .slice none 0 0, .int .i64 0, .int .u64 0, .string ⟨#[]⟩, .string ⟨#[]⟩, .int .u64 0, .int .u64 0, .int .u64 0, .int .i64 0, .int .i64 0, .int .i64 0, .int .i64 0, .bool false, .bool false, .bool false] 46)) (.pointer (some ⟨(w8.alloc (.cells #[.int .i64 0, .int .i64 0, .int .i64 0, .int .i64 0, .int .u64 0, .int .u64 0, .int .u64 0, .int .u64 0, .int .i64 0, .int .u64 0, .slice none 0 0, .int .i64 0, .int .u64 0, .string ⟨#[]⟩, .string ⟨#[]⟩, .int .u64 0, .int .u64 0, .int .u64 0, .int .i64 0, .int .i64 0, .int .i64 0, .int .i64 0] 41)).heap.size, 0, none⟩)) (by kernel_rfl) (hK _ _ ?_)
      rw [e10]
      clear e10
      simp only [Act.put, List.setIfInBounds_toArray, List.set_cons_zero, List.set_cons_succ]
      refine wpList_store_mid rfl 41 (.tmp 8) (.tmp 52) rfl w8.heap.size 0 ML rfl rfl HT9.out HIM.out HOM.out ?_
      rw [HW9.out]
      simp only [Act.put]
      refine wpList_store_mid rfl 46 (.tmp 9) (.tmp 53) rfl (w8.heap.size + 1) 0 HLs rfl rfl HTE.out HIH.out HOH.out ?_
      rw [HWE.out]
      simp only [Act.put]
      have hb8 := HB8.out
      have s8 := HSE.out
      have hrb : w.heap.size < rb := HRB.out
      have hz := Hz1.out
      have hwne : wb ≠ rb := by have := HRr.out.lt; have := HZ6.out; omega
      have hgne : gb ≠ rb := by
        intro e
        have h1 := HRB7.out.row
        rw [← e] at h1
        obtain ⟨c1, g1, _⟩ := h1
        obtain ⟨c2, g2, _⟩ := HG7.out
        rw [g1] at g2
        simp only [Option.some.injEq, Obj.cells.injEq] at g2
        exact absurd g2.2.1 (by decide)
      have HWE0 : Hid (WE.rowIs wb 27 4 (fun i => [.int .u64 (r.p : Nat), .int .u64 (r.te : Nat), .int .u64 (r.ts : Nat), .slice (some ⟨sg, 0, none⟩) r.v.length sgc].getD i undef)) := row_since (hb8.row HR7.out hwne) s8
      have HGE : Hid (WE.rowIs gb 24 2 (tgC r.te r.ts)) := row_since (hb8.row HG7.out hgne) s8
      have HRE := hide (HR8.out.since s8)
      have HSE' : Hid (W1.Since W1.heap.size WE) := by
        have a : W1.Since W1.heap.size w8 := hb8.since HS17.out (by omega) HS17.out.size
        exact a.trans (since_mono s8 a.size)
      have HME : Hid (WE.rowIs w8.heap.size 41 22 (mgCell (atM (O i) r).1 va vc)) := HRM
      have HHE : Hid (WE.rowIs (w8.heap.size + 1) 46 25 (hdCell (atM (O i) r).2.a ga gc (atM (O i) r).2.b1 (atM (O i) r).2.b2 (atM (O i) r).2.b3)) := HRH
      have HBWE : Hid (Byt WE (some ⟨sg, 0, none⟩) r.v.length (fun j => r.v.getD j 0)) := (byt_but HBW.out HRB7.out hb8).since s8
      have HANE : Hid ((∀ v ∈ (atM (O i) r).2.a.s 10, v < 256) → Byt WE ga ((atM (O i) r).2.a.s 10).length (fun j => ((atM (O i) r).2.a.s 10).getD j 0)) := fun hv => (anv_byt HAN.out hv).since s8
      clear hK hb8 s8 hrb hz HB8 HSE HRM HRH HR8 HR7 HS17 HON HT9 HW9 HTE HWE HIM HOM HIH HOH HML HHL HBW HAN HG7 HRB7 HZ6 HZ7 hwne hgne
      obtain ⟨mb, Hmb⟩ : ∃ x, Hid (w8.heap.size = x) := ⟨_, rfl⟩
      rw [Hmb.out] at HME HHE ⊢
      clear Hmb
      obtain ⟨hb, Hhb⟩ : ∃ x, Hid (mb + 1 = x) := ⟨_, rfl⟩
      rw [Hhb.out] at HHE ⊢
      clear Hhb
      have HST := hide (stored_any HRE.out)
      obtain ⟨M, HM⟩ : ∃ x, Hid ((atM (O i) r).1 = x) := ⟨_, rfl⟩
      obtain ⟨HH, HHH⟩ : ∃ x, Hid ((atM (O i) r).2 = x) := ⟨_, rfl⟩
      rw [HM.out] at HME HFN
      rw [HHH.out] at HHE HFN HRE HANE HST
      clear HM HHH
      go_upto_region 11 with fail
      refine wp_region_lit ?_
      refine wpList_plain rfl fun _ hK => op_run (.pointer (some ⟨rb, 0, none⟩)) (by kernel_rfl) (hK _ _ ?_)
      simp only [Act.put, List.setIfInBounds_toArray, List.set_cons_zero, List.set_cons_succ]
      refine wpList_plain rfl fun _ hK => op_call 10 #[.pointer (some ⟨rb, 0, none⟩)] (by kernel_rfl) HST.out ?_
      rintro e w10 ⟨ng, ngc, rfl, _, _, hnB, hs10⟩
      refine ⟨_, rfl, hK _ _ ?_⟩
      clear hK HST
      obtain ⟨W11, SB, HSB, HT11, HW11, HI11, HO11, HR11, HS11⟩ := st_put w10 [.int .u64 (HH.r.p : Nat), .int .u64 (HH.r.te : Nat), .int .u64 (HH.r.ts : Nat), .slice (some ⟨ng, 0, none⟩) HH.r.v.length ngc] rfl (by simp [Value.oneCell'])
      rw [show stV HH.r ng ngc = .agg SB from congrArg Value.agg HSB.out]
      simp only [Act.put, List.setIfInBounds_toArray, List.set_cons_zero, List.set_cons_succ]
      go_upto_region 12 with (refine wpList_store_mid rfl 27 _ _ rfl w10.heap.size 0 _ rfl rfl HT11.out HI11.out HO11.out ?_; rw [HW11.out])
      obtain ⟨nb, Hnb⟩ : ∃ x, Hid (w10.heap.size = x) := ⟨_, rfl⟩
      rw [Hnb.out] at HR11 ⊢
      clear Hnb
      have s11 : WE.Since WE.heap.size W11 := hs10.trans (since_mono HS11.out hs10.size)
      have HRow : Hid (∀ W : World, W11.Since W11.heap.size W → W.rowIs wb 27 4 (fun i => [.int .u64 (r.p : Nat), .int .u64 (r.te : Nat), .int .u64 (r.ts : Nat), .slice (some ⟨sg, 0, none⟩) r.v.length sgc].getD i undef) ∧ W.rowIs nb 27 4 (fun i => [.int .u64 (HH.r.p : Nat), .int .u64 (HH.r.te : Nat), .int .u64 (HH.r.ts : Nat), .slice (some ⟨ng, 0, none⟩) HH.r.v.length ngc].getD i undef) ∧ W.rowIs mb 41 22 (mgCell M va vc) ∧ W.rowIs hb 46 25 (hdCell HH.a ga gc HH.b1 HH.b2 HH.b3) ∧ W.rowIs gb 24 2 (tgC r.te r.ts)) := fun W hW =>
        ⟨row_since (row_since HWE0.out s11) hW, row_since HR11.out hW, row_since (row_since HME.out s11) hW, row_since (row_since HHE.out s11) hW, row_since (row_since HGE.out s11) hW⟩
      have HFX : Hid (∀ W : World, W11.Since W11.heap.size W → W.cell? ⟨wb, 0, none⟩ = some (.int .u64 (r.p : Nat)) ∧ W.cell? ⟨wb, 1, none⟩ = some (.int .u64 (r.te : Nat)) ∧ W.cell? ⟨wb, 2, none⟩ = some (.int .u64 (r.ts : Nat)) ∧ W.cell? ⟨wb, 3, none⟩ = some (.slice (some ⟨sg, 0, none⟩) r.v.length sgc) ∧ W.cell? ⟨nb, 0, none⟩ = some (.int .u64 (HH.r.p : Nat)) ∧ W.cell? ⟨nb, 1, none⟩ = some (.int .u64 (HH.r.te : Nat)) ∧ W.cell? ⟨nb, 2, none⟩ = some (.int .u64 (HH.r.ts : Nat)) ∧ W.cell? ⟨nb, 3, none⟩ = some (.slice (some ⟨ng, 0, none⟩) HH.r.v.length ngc) ∧ W.cell? ⟨mb, 0, none⟩ = some (.int .i64 (M.n 0)) ∧ W.cell? ⟨mb, 4, none⟩ = some (.int .u64 (M.n 4)) ∧ W.cell? ⟨mb, 5, none⟩ = some (.int .u64 (M.n 5)) ∧ W.cell? ⟨mb, 6, none⟩ = some (.int .u64 (M.n 6)) ∧ W.cell? ⟨hb, 0, none⟩ = some (.int .i64 (HH.a.n 0)) ∧ W.cell? ⟨hb, 4, none⟩ = some (.int .u64 (HH.a.n 4)) ∧ W.cell? ⟨hb, 5, none⟩ = some (.int .u64 (HH.a.n 5)) ∧ W.cell? ⟨hb, 6, none⟩ = some (.int .u64 (HH.a.n 6)) ∧ W.cell? ⟨hb, 10, none⟩ = some (.slice ga (HH.a.s 10).length gc) ∧ W.cell? ⟨hb, 22, none⟩ = some (.bool HH.b1) ∧ W.cell? ⟨hb, 23, none⟩ = some (.bool HH.b2) ∧ W.cell? ⟨hb, 24, none⟩ = some (.bool HH.b3) ∧ W.cell? ⟨gb, 0, none⟩ = some (.int .u64 (r.te : Nat)) ∧ W.cell? ⟨gb, 1, none⟩ = some (.int .u64 (r.ts : Nat))) := fun W hW => by
        obtain ⟨h1, h2, h3, h4, h5⟩ := HRow.out W hW
        exact ⟨h1.cell (i := 0) (by decide), h1.cell (i := 1) (by decide), h1.cell (i := 2) (by decide), h1.cell (i := 3) (by decide), h2.cell (i := 0) (by decide), h2.cell (i := 1) (by decide), h2.cell (i := 2) (by decide), h2.cell (i := 3) (by decide), h3.cell (i := 0) (by decide), h3.cell (i := 4) (by decide), h3.cell (i := 5) (by decide), h3.cell (i := 6) (by decide), h4.cell (i := 0) (by decide), h4.cell (i := 4) (by decide), h4.cell (i := 5) (by decide), h4.cell (i := 6) (by decide), h4.cell (i := 10) (by decide), h4.cell (i := 22) (by decide), h4.cell (i := 23) (by decide), h4.cell (i := 24) (by decide), h5.cell (i := 0) (by decide), h5.cell (i := 1) (by decide)⟩
      have HBX : Hid (∀ W : World, W11.Since W11.heap.size W → Byt W (some ⟨sg, 0, none⟩) r.v.length (fun j => r.v.getD j 0) ∧ Byt W (some ⟨ng, 0, none⟩) HH.r.v.length (fun j => HH.r.v.getD j 0) ∧ ((∀ v ∈ HH.a.s 10, v < 256) → Byt W ga (HH.a.s 10).length (fun j => (HH.a.s 10).getD j 0))) := fun W hW =>
        ⟨(HBWE.out.since s11).since hW, (hnB.since HS11.out).since hW, fun hv => ((HANE.out hv).since s11).since hW⟩
      have HEND : Hid (∀ W : World, W11.Since W11.heap.size W → RpIs W rb HH.r ∧ W1.Since W1.heap.size W) := fun W hW =>
        ⟨(HRE.out.since s11).since hW, by
          have a := HSE'.out.trans (since_mono s11 HSE'.out.size)
          exact a.trans (since_mono hW a.size)⟩
      have HOK := hide HRr.out.ok
      have HOK2 := hide HRE.out.ok
      have H11 : Hid (W11.Since W11.heap.size W11) := World.Since.refl _ _
      have HI1 : Hid (i + 1 ≤ on ∧ i + 1 ≤ 500) := ⟨by omega, by omega⟩
      have hme : on - (i + 1) < on - i := by omega
      have hwi : IntKind.i64.wrap ((i : Int) + 1) = (i : Int) + 1 := by rw [IntKind.wrap_i64]; omega
      clear s11 hs10 HS11 HSB HT11 HW11 HI11 HO11 HR11 hnB HWE0 HME HHE HGE HBWE HANE HRE HSE' HRr HSr hiz hi5z hlt hl5 hi hi5
      simp only [Act.put]
      go_cut [82] from 34 to 167 (fun s82 wx => s82 = .bool false ∧ Hid (W11.Since W11.heap.size wx))
      case first =>
        as_aux_lemma =>
          have hfn := HFN.out
          have z1 : ¬ ((HH.r.p : Int) < (r.p : Int)) := by have := hfn.pr; omega
          have z1d : decide ((HH.r.p : Int) < (r.p : Int)) = false := by simp; exact hfn.pr
          have HLS : Hid (Calls Try.prog 20 #[.agg #[.int .u64 (HH.r.te : Nat), .int .u64 (HH.r.ts : Nat)], .agg #[.int .u64 (r.te : Nat), .int .u64 (r.ts : Nat)]] W11 fun e w' => e = .returned (.bool false) ∧ Hid (W11.Since W11.heap.size w') ∧ w'.cell? ⟨wb, 1, none⟩ = some (.int .u64 (r.te : Nat)) ∧ w'.cell? ⟨wb, 2, none⟩ = some (.int .u64 (r.ts : Nat)) ∧ w'.cell? ⟨wb, 3, none⟩ = some (.slice (some ⟨sg, 0, none⟩) r.v.length sgc) ∧ w'.cell? ⟨nb, 1, none⟩ = some (.int .u64 (HH.r.te : Nat)) ∧ w'.cell? ⟨nb, 2, none⟩ = some (.int .u64 (HH.r.ts : Nat)) ∧ w'.cell? ⟨nb, 3, none⟩ = some (.slice (some ⟨ng, 0, none⟩) HH.r.v.length ngc)) := (less_any HH.r.te HH.r.ts r.te r.ts W11).mono fun e w' ⟨he, hs⟩ => by
            obtain ⟨fwb0, fwb1, fwb2, fwb3, fnb0, fnb1, fnb2, fnb3, fmb0, fmb4, fmb5, fmb6, fhb0, fhb4, fhb5, fhb6, fhb10, fhb22, fhb23, fhb24, fgb0, fgb1⟩ := HFX.out w' hs
            exact ⟨by rw [he, decide_eq_false hfn.tg], hs, fwb1, fwb2, fwb3, fnb1, fnb2, fnb3⟩
          have HEQ : Hid (HH.r.te = r.te → HH.r.ts = r.ts → ∀ W : World, Hid (W11.Since W11.heap.size W) → Calls Try.prog 24 #[.slice (some ⟨ng, 0, none⟩) HH.r.v.length ngc, .slice (some ⟨sg, 0, none⟩) r.v.length sgc] W fun e w' => e = .returned (.bool true) ∧ Hid (W11.Since W11.heap.size w')) := fun e1 e2 W hW => by
            obtain ⟨b1, b2, _⟩ := HBX.out W hW.out
            have q := eq_any _ _ _ _ ngc sgc _ _ W b2 b1 (by have := HOK2.out.len; omega) (by have := HOK.out.len; omega)
            rw [hfn.vl e1 e2] at q ⊢
            exact q.mono fun e w' ⟨he, m, hm⟩ => ⟨by rw [he]; simp, by subst hm; exact ⟨hW.out.os, hW.out.tape, hW.out.output, hW.out.size, hW.out.block⟩⟩
          obtain ⟨fwb0, fwb1, fwb2, fwb3, fnb0, fnb1, fnb2, fnb3, fmb0, fmb4, fmb5, fmb6, fhb0, fhb4, fhb5, fhb6, fhb10, fhb22, fhb23, fhb24, fgb0, fgb1⟩ := HFX.out W11 H11.out
          clear hfn HFN HRow HFX HBX HEND HOK HOK2
          by_cases e1 : HH.r.te = r.te
          · have q1 : ((HH.r.te : Int) == (r.te : Int)) = true := by simp [e1]
            by_cases e2 : HH.r.ts = r.ts
            · have q2 : ((HH.r.ts : Int) == (r.ts : Int)) = true := by simp [e2]
              have HE2 := hide (HEQ.out e1 e2)
              clear HEQ e1 e2
              generalize HH.r.te = te' at *
              generalize HH.r.ts = ts' at *
              generalize HH.r.p = p' at *
              generalize HH.r.v.length = vl' at *
              generalize r.te = te0 at *
              generalize r.ts = ts0 at *
              generalize r.p = p0 at *
              generalize r.v.length = vl0 at *
              go_wp2_with (first
                | (go_at_call 20; refine HLS.out.mono ?_; rintro e w12 ⟨rfl, HS12, c1, c2, c3, c4, c5, c6⟩)
                | (go_at_call 24; refine (HE2.out _ HS12).mono ?_; rintro e w13 ⟨rfl, HS13⟩))
              go_meet
              case rel => go_light; exact ⟨rfl, HS13⟩
            · have q2 : ((HH.r.ts : Int) == (r.ts : Int)) = false := by simp; omega
              clear HEQ e1 e2
              generalize HH.r.te = te' at *
              generalize HH.r.ts = ts' at *
              generalize HH.r.p = p' at *
              generalize HH.r.v.length = vl' at *
              generalize r.te = te0 at *
              generalize r.ts = ts0 at *
              generalize r.p = p0 at *
              generalize r.v.length = vl0 at *
              go_wp2_with (first
                | (go_at_call 20; refine HLS.out.mono ?_; rintro e w12 ⟨rfl, HS12, c1, c2, c3, c4, c5, c6⟩))
              go_meet
              case rel => go_light; exact ⟨rfl, HS12⟩
          · have q1 : ((HH.r.te : Int) == (r.te : Int)) = false := by simp; omega
            clear HEQ e1
            generalize HH.r.te = te' at *
            generalize HH.r.ts = ts' at *
            generalize HH.r.p = p' at *
            generalize HH.r.v.length = vl' at *
            generalize r.te = te0 at *
            generalize r.ts = ts0 at *
            generalize r.p = p0 at *
            generalize r.v.length = vl0 at *
            go_wp2_with (first
              | (go_at_call 20; refine HLS.out.mono ?_; rintro e w12 ⟨rfl, HS12, c1, c2, c3, c4, c5, c6⟩))
            go_meet
            case rel => go_light; exact ⟨rfl, HS12⟩
      case rest =>
        obtain ⟨rfl, HS12⟩ := hcut
        go_upto_region 14 with fail
        go_cut [94] from 34 to 167 (fun s94 wx => s94 = .bool false ∧ Hid (W11.Since W11.heap.size wx))
        case first =>
          as_aux_lemma =>
            by_cases n0 : M.n 0 = 0
            · obtain ⟨fwb0, fwb1, fwb2, fwb3, fnb0, fnb1, fnb2, fnb3, fmb0, fmb4, fmb5, fmb6, fhb0, fhb4, fhb5, fhb6, fhb10, fhb22, fhb23, fhb24, fgb0, fgb1⟩ := HFX.out wc HS12.out
              have y1 : (M.n 0 != 0) = false := by simp [n0]
              have HD : Hid (∀ q, Hid (W11.Since W11.heap.size (wc.drewN q))) := fun q => ⟨HS12.out.os, HS12.out.tape, HS12.out.output, HS12.out.size, HS12.out.block⟩
              clear HFN HRow HFX HBX HEND HOK HOK2 n0
              generalize M.n 0 = mk at *
              go_quiet (fail)
              go_wp2_with fail
              go_meet
              case rel => go_light; exact ⟨rfl, HD.out _⟩
            · have hsd : W11.Since W11.heap.size wc.drew := ⟨HS12.out.os, HS12.out.tape, HS12.out.output, HS12.out.size, HS12.out.block⟩
              obtain ⟨fwb0, fwb1, fwb2, fwb3, fnb0, fnb1, fnb2, fnb3, fmb0, fmb4, fmb5, fmb6, fhb0, fhb4, fhb5, fhb6, fhb10, fhb22, fhb23, fhb24, fgb0, fgb1⟩ := HFX.out wc.drew hsd
              obtain ⟨b1, b2, _⟩ := HBX.out wc.drew hsd
              have y1 : (M.n 0 != 0) = true := by simp [n0]
              have hch := HFN.out.ch n0
              have hBB : decide (HH.r.p = r.p ∧ HH.r.te = r.te ∧ HH.r.ts = r.ts ∧ (List.range HH.r.v.length).map (fun j => HH.r.v.getD j 0) = (List.range r.v.length).map (fun j => r.v.getD j 0)) = !HH.b3 := by
                rw [range_getD, range_getD]
                cases hb : HH.b3 with
                | true => simp only [Bool.not_true]; exact decide_eq_false (hch.1 hb)
                | false => simp only [Bool.not_false]; exact decide_eq_true (Classical.byContradiction fun e => by have := hch.2 e; rw [hb] at this; simp at this)
              have HES : Hid (Calls Try.prog 16 #[.agg #[.int .u64 (HH.r.p : Nat), .int .u64 (HH.r.te : Nat), .int .u64 (HH.r.ts : Nat), .slice (some ⟨ng, 0, none⟩) HH.r.v.length ngc], .agg #[.int .u64 (r.p : Nat), .int .u64 (r.te : Nat), .int .u64 (r.ts : Nat), .slice (some ⟨sg, 0, none⟩) r.v.length sgc]] wc.drew fun e w' => e = .returned (.bool (!HH.b3)) ∧ (w'.cell? ⟨wb, 0, none⟩ = some (.int .u64 (r.p : Nat)) ∧ w'.cell? ⟨wb, 1, none⟩ = some (.int .u64 (r.te : Nat)) ∧ w'.cell? ⟨wb, 2, none⟩ = some (.int .u64 (r.ts : Nat)) ∧ w'.cell? ⟨wb, 3, none⟩ = some (.slice (some ⟨sg, 0, none⟩) r.v.length sgc) ∧ w'.cell? ⟨nb, 0, none⟩ = some (.int .u64 (HH.r.p : Nat)) ∧ w'.cell? ⟨nb, 1, none⟩ = some (.int .u64 (HH.r.te : Nat)) ∧ w'.cell? ⟨nb, 2, none⟩ = some (.int .u64 (HH.r.ts : Nat)) ∧ w'.cell? ⟨nb, 3, none⟩ = some (.slice (some ⟨ng, 0, none⟩) HH.r.v.length ngc) ∧ w'.cell? ⟨mb, 0, none⟩ = some (.int .i64 (M.n 0)) ∧ w'.cell? ⟨hb, 24, none⟩ = some (.bool HH.b3)) ∧ Hid (W11.Since W11.heap.size w')) := (eqSt_any HH.r.p HH.r.te HH.r.ts r.p r.te r.ts _ _ _ _ ngc sgc _ _ wc.drew b2 b1 (by have := HOK2.out.len; omega) (by have := HOK.out.len; omega)).mono fun e w' ⟨he, hs⟩ => by
                have h2 : W11.Since W11.heap.size w' := hsd.trans (since_mono hs hsd.size)
                obtain ⟨fwb0, fwb1, fwb2, fwb3, fnb0, fnb1, fnb2, fnb3, fmb0, fmb4, fmb5, fmb6, fhb0, fhb4, fhb5, fhb6, fhb10, fhb22, fhb23, fhb24, fgb0, fgb1⟩ := HFX.out w' h2
                exact ⟨by rw [he, hBB], ⟨fwb0, fwb1, fwb2, fwb3, fnb0, fnb1, fnb2, fnb3, fmb0, fhb24⟩, h2⟩
              clear HFN HRow HFX HBX HEND HOK HOK2 n0 hch hBB b1 b2 hsd
              generalize M.n 0 = mk at *
              generalize HH.b3 = ch at *
              generalize HH.r.te = te' at *
              generalize HH.r.ts = ts' at *
              generalize HH.r.p = p' at *
              generalize HH.r.v.length = vl' at *
              generalize r.te = te0 at *
              generalize r.ts = ts0 at *
              generalize r.p = p0 at *
              generalize r.v.length = vl0 at *
              go_region_held3 (fun W => W.cell? ⟨wb, 0, none⟩ = some (.int .u64 (p0 : Nat)) ∧ W.cell? ⟨wb, 1, none⟩ = some (.int .u64 (te0 : Nat)) ∧ W.cell? ⟨wb, 2, none⟩ = some (.int .u64 (ts0 : Nat)) ∧ W.cell? ⟨wb, 3, none⟩ = some (.slice (some ⟨sg, 0, none⟩) vl0 sgc) ∧ W.cell? ⟨nb, 0, none⟩ = some (.int .u64 (p' : Nat)) ∧ W.cell? ⟨nb, 1, none⟩ = some (.int .u64 (te' : Nat)) ∧ W.cell? ⟨nb, 2, none⟩ = some (.int .u64 (ts' : Nat)) ∧ W.cell? ⟨nb, 3, none⟩ = some (.slice (some ⟨ng, 0, none⟩) vl' ngc) ∧ W.cell? ⟨mb, 0, none⟩ = some (.int .i64 mk) ∧ W.cell? ⟨hb, 24, none⟩ = some (.bool ch))
                (first | exact ⟨fwb0, fwb1, fwb2, fwb3, fnb0, fnb1, fnb2, fnb3, fmb0, fhb24⟩ | exact ⟨g0, g1, g2, g3, g4, g5, g6, g7, g8, g9⟩)
                (first | (go_at_call 16; with_reducible refine HES.out.mono ?_; rintro e w13 ⟨rfl, ⟨g0, g1, g2, g3, g4, g5, g6, g7, g8, g9⟩, HK⟩))
              all_goals
                cases ch with
                | true =>
                  go_wp2_with fail
                  go_meet
                  case rel => go_light; exact ⟨rfl, HK⟩
                | false =>
                  go_wp2_with fail
                  go_meet
                  case rel => go_light; exact ⟨rfl, HK⟩
        case rest =>
          clear HS12
          obtain ⟨rfl, HS14⟩ := hcut
          go_upto_region 16 with fail
          go_cut [102] from 34 to 167 (fun s102 wx => s102 = .bool false ∧ Hid (W11.Since W11.heap.size wx))
          case first =>
            as_aux_lemma =>
              obtain ⟨fwb0, fwb1, fwb2, fwb3, fnb0, fnb1, fnb2, fnb3, fmb0, fmb4, fmb5, fmb6, fhb0, fhb4, fhb5, fhb6, fhb10, fhb22, fhb23, fhb24, fgb0, fgb1⟩ := HFX.out wc HS14.out
              cases hb2 : HH.b2 with
              | false =>
                rw [hb2] at fhb23
                clear HFN HRow HFX HBX HEND HOK HOK2 hb2
                go_wp2_with fail
                go_meet
                case rel => go_light; exact ⟨rfl, HS14⟩
              | true =>
                rw [hb2] at fhb23
                obtain ⟨_, _, rm, _, _⟩ := HRow.out wc HS14.out
                obtain ⟨MM, HMM⟩ : ∃ x, Hid (mgV M va vc = .agg x) := ⟨_, rfl⟩
                have hMM : (mgL M va vc).toArray = MM := Value.agg.inj HMM.out
                have HMR : Hid (wc.heap[mb]? = some (.cells MM 41 (0, 0))) := by
                  obtain ⟨cs, h1, h2, h3⟩ := rm
                  have : cs = MM := by
                    rw [← hMM]
                    apply Array.ext_getElem?
                    intro j
                    by_cases hj : j < 22
                    · rw [h3 j hj, List.getElem?_toArray]
                      exact (mgL_get M va vc j hj).symm
                    · rw [Array.getElem?_eq_none (by omega), Array.getElem?_eq_none (by rw [List.size_toArray, mgL_len]; omega)]
                  rw [← this]; exact h1
                have HMI : Hid ((Try.prog.info? 41).map (·.size) = some MM.size) := by rw [← hMM]; exact infoMgA _ _ _
                have hle : ((pr : Nat) : Int) ≤ epM M := by have h1 := HFN.out.tk hb2; have h2 := HPR.out; omega
                have HEP : Hid (Calls Try.prog 25 #[.agg MM] wc fun e w' => e = .returned (.int .u64 (epM M)) ∧ Hid (W11.Since W11.heap.size w')) := by
                  have q := epoch_any M va vc wc
                  rw [HMM.out] at q
                  exact q.mono fun e w' ⟨he, hs⟩ => ⟨he, HS14.out.trans (since_mono hs HS14.out.size)⟩
                have zlt : ¬ (epM M < ((pr : Nat) : Int)) := by omega
                clear HFN HRow HFX HBX HEND HOK HOK2 hb2 rm hMM HMM hle
                generalize epM M = em at *
                refine wp_region_lit ?_
                refine wpList_plain rfl fun _ hK => op_run (.pointer (some ⟨hb, 23, none⟩)) (by kernel_rfl) (hK _ _ ?_)
                simp only [Act.put, List.setIfInBounds_toArray, List.set_cons_zero, List.set_cons_succ]
                refine wpList_plain rfl fun _ hK => op_run (.bool true) (by go_simp) (hK _ _ ?_)
                simp only [Act.put, List.setIfInBounds_toArray, List.set_cons_zero, List.set_cons_succ]
                refine wpList_plain rfl fun _ hK => op_run (.bool true) (by kernel_rfl) (hK _ _ ?_)
                simp only [Act.put, List.setIfInBounds_toArray, List.set_cons_zero, List.set_cons_succ]
                refine wpList_load_rowG rfl 41 (.tmp 8) rfl mb rfl _ MM (0, 0) _ HMR.out Try.underlying41 rfl HMI.out ?_
                simp only [Act.put, List.setIfInBounds_toArray, List.set_cons_zero, List.set_cons_succ]
                refine wpList_want rfl fun _ hK => op_call 25 #[.agg MM] (by kernel_rfl) HEP.out ?_
                rintro e w13 ⟨rfl, HK⟩
                refine ⟨_, rfl, hK _ _ ?_⟩
                simp only [Act.put, List.setIfInBounds_toArray, List.set_cons_zero, List.set_cons_succ]
                clear hK
                refine wpList_want rfl fun _ hK => op_run (.int .u64 (pr : Nat)) (by kernel_rfl) (hK _ _ ?_)
                simp only [Act.put, List.setIfInBounds_toArray, List.set_cons_zero, List.set_cons_succ]
                refine wpList_want rfl fun _ hK => op_run (.bool false) (by go_simp) (hK _ _ ?_)
                simp only [Act.put, List.setIfInBounds_toArray, List.set_cons_zero, List.set_cons_succ]
                refine wpList_plain rfl fun _ hK => op_run (.bool false) (by kernel_rfl) (hK _ _ ?_)
                simp only [Act.put, List.setIfInBounds_toArray, List.set_cons_zero, List.set_cons_succ]
                go_wp2_with fail
                go_meet
                case rel => go_light; exact ⟨rfl, HK⟩
          case rest =>
            clear HS14
            obtain ⟨rfl, HS16⟩ := hcut
            obtain ⟨fwb0, fwb1, fwb2, fwb3, fnb0, fnb1, fnb2, fnb3, fmb0, fmb4, fmb5, fmb6, fhb0, fhb4, fhb5, fhb6, fhb10, fhb22, fhb23, fhb24, fgb0, fgb1⟩ := HFX.out wc HS16.out
            obtain ⟨hend1, hend2⟩ := HEND.out wc HS16.out
            have hgrow := (HRow.out wc HS16.out).2.2.2.2
            have HPR2 : Hid (pr ≤ HH.r.p) := by have := HPR.out; have := HFN.out.pr; show pr ≤ _; omega
            cases hb1 : HH.b1 with
            | false =>
              rw [hb1] at fhb22
              have hot := HFN.out.ot (.inl hb1)
              rw [← hot.1, ← hot.2] at hgrow
              have HQ : Hid (RpIs wc rb HH.r ∧ W1.Since W1.heap.size wc ∧ wc.rowIs gb 24 2 (tgC HH.r.te HH.r.ts)) := ⟨hend1, hend2, hgrow⟩
              clear HFN HRow HFX HBX HEND HOK HOK2 hb1 hot hgrow hend1 hend2
              go_wp2_with fail
              go_roundg (on - (i + 1))
              case measure => go_light; exact hme
              case rel => go_light; exact ⟨i + 1, pr, HH.r, HI1.out.1, HI1.out.2, rfl, by simp, rfl, HPR2, HQ.out.1, HQ.out.2.1, HQ.out.2.2⟩
            | true =>
              rw [hb1] at fhb22
              by_cases a2 : HH.a.n 0 = 2
              · as_aux_lemma =>
                  obtain ⟨E, h4, hpE, h5, h6, h10, hm4, hrp, hrt, hrs⟩ := HFN.out.pm hb1 a2
                  obtain ⟨_, bb2, bb3⟩ := HBX.out wc HS16.out
                  rw [h10] at bb3
                  have HEQ : Hid (Calls Try.prog 24 #[.slice ga HH.r.v.length gc, .slice (some ⟨ng, 0, none⟩) HH.r.v.length ngc] wc fun e w' => e = .returned (.bool true) ∧ Hid (W11.Since W11.heap.size w') ∧ w'.cell? ⟨nb, 0, none⟩ = some (.int .u64 (E : Nat)) ∧ w'.cell? ⟨mb, 4, none⟩ = some (.int .u64 (E : Nat)) ∧ w'.cell? ⟨hb, 4, none⟩ = some (.int .u64 (E : Nat)) ∧ Hid (RpIs w' rb HH.r ∧ W1.Since W1.heap.size w' ∧ w'.rowIs gb 24 2 (tgC HH.r.te HH.r.ts))) := by
                    have q := eq_any _ _ _ _ gc ngc _ _ wc (bb3 HOK2.out.byte) bb2 (by have := HOK2.out.len; omega) (by have := HOK2.out.len; omega)
                    refine q.mono fun e w' ⟨he, m, hm⟩ => ?_
                    have hs : W11.Since W11.heap.size w' := by subst hm; exact ⟨HS16.out.os, HS16.out.tape, HS16.out.output, HS16.out.size, HS16.out.block⟩
                    clear fwb0 fwb1 fwb2 fwb3 fnb0 fnb1 fnb2 fnb3 fmb0 fmb4 fmb5 fmb6 fhb0 fhb4 fhb5 fhb6 fhb10 fhb22 fhb23 fhb24 fgb0 fgb1
                    obtain ⟨fwb0, fwb1, fwb2, fwb3, fnb0, fnb1, fnb2, fnb3, fmb0, fmb4, fmb5, fmb6, fhb0, fhb4, fhb5, fhb6, fhb10, fhb22, fhb23, fhb24, fgb0, fgb1⟩ := HFX.out w' hs
                    have hg := (HRow.out w' hs).2.2.2.2
                    rw [← hrt, ← hrs] at hg
                    rw [hrp] at fnb0
                    rw [hm4] at fmb4
                    rw [h4] at fhb4
                    exact ⟨by rw [he]; simp, hs, fnb0, fmb4, fhb4, (HEND.out w' hs).1, (HEND.out w' hs).2, hg⟩
                  rw [a2] at fhb0
                  rw [h4] at fhb4
                  rw [h5] at fhb5
                  rw [h6] at fhb6
                  rw [h10] at fhb10
                  rw [hm4] at fmb4
                  rw [hrp] at fnb0
                  have z1 : ¬ ((E : Int) < (pr : Int)) := by have := HPR.out; omega
                  have z1d : decide ((E : Int) < (pr : Int)) = false := by have := HPR.out; simp; omega
                  have z2 : ((E : Int) != (E : Int)) = false := by simp
                  have z3 : ((r.te : Int) == (r.te : Int)) = true := by simp
                  have z4 : ((r.ts : Int) == (r.ts : Int)) = true := by simp
                  have HPE : Hid (E ≤ HH.r.p) := by show E ≤ HH.r.p; omega
                  clear HFN HRow HFX HBX HEND HOK HOK2 hb1 a2 h4 hpE h5 h6 h10 hm4 hrp hrt hrs bb2 bb3 hend1 hend2 hgrow HPR2 HPR
                  generalize HH.r.v.length = vl' at *
                  generalize r.te = te0 at *
                  generalize r.ts = ts0 at *
                  go_wp2_with (go_at_call 24; refine HEQ.out.mono ?_; rintro e w13 ⟨rfl, HS13, e1, e2, e3, HQ⟩)
                  go_roundg (on - (i + 1))
                  case measure => go_light; exact hme
                  case rel => go_light; exact ⟨i + 1, E, HH.r, HI1.out.1, HI1.out.2, rfl, by simp, rfl, HPE, HQ.out.1, HQ.out.2.1, HQ.out.2.2⟩
              · have ea2 : (HH.a.n 0 == 2) = false := by simp [a2]
                by_cases a5 : HH.a.n 0 = 5
                · as_aux_lemma =>
                    obtain ⟨E, Q, h5, h6, hm5, hm6, hrt, hrs, hct⟩ := HFN.out.wr hb1 a5
                    have HLS : Hid (Calls Try.prog 20 #[.agg #[.int .u64 (E : Nat), .int .u64 (Q : Nat)], .agg #[.int .u64 (r.te : Nat), .int .u64 (r.ts : Nat)]] wc fun e w' => e = .returned (.bool false) ∧ w'.cell? ⟨hb, 5, none⟩ = some (.int .u64 (E : Nat)) ∧ w'.cell? ⟨hb, 6, none⟩ = some (.int .u64 (Q : Nat)) ∧ w'.cell? ⟨mb, 5, none⟩ = some (.int .u64 (E : Nat)) ∧ w'.cell? ⟨mb, 6, none⟩ = some (.int .u64 (Q : Nat)) ∧ w'.cell? ⟨nb, 1, none⟩ = some (.int .u64 (E : Nat)) ∧ w'.cell? ⟨nb, 2, none⟩ = some (.int .u64 (Q : Nat)) ∧ ∃ W14, Hid (w'.setCells gb 0 [.int .u64 (E : Nat), .int .u64 (Q : Nat)] = W14) ∧ Hid (w'.there gb 0 2) ∧ Hid (RpIs W14 rb HH.r ∧ W1.Since W1.heap.size W14 ∧ W14.rowIs gb 24 2 (tgC HH.r.te HH.r.ts))) := (less_any E Q r.te r.ts wc).mono fun e w' ⟨he, hs0⟩ => by
                      have hs : W11.Since W11.heap.size w' := HS16.out.trans (since_mono hs0 HS16.out.size)
                      clear fwb0 fwb1 fwb2 fwb3 fnb0 fnb1 fnb2 fnb3 fmb0 fmb4 fmb5 fmb6 fhb0 fhb4 fhb5 fhb6 fhb10 fhb22 fhb23 fhb24 fgb0 fgb1
                      obtain ⟨fwb0, fwb1, fwb2, fwb3, fnb0, fnb1, fnb2, fnb3, fmb0, fmb4, fmb5, fmb6, fhb0, fhb4, fhb5, fhb6, fhb10, fhb22, fhb23, fhb24, fgb0, fgb1⟩ := HFX.out w' hs
                      have hg := (HRow.out w' hs).2.2.2.2
                      obtain ⟨hr1, hr2⟩ := HEND.out w' hs
                      obtain ⟨W14, hW14, hh, hz, hbl, ho, ht, hp⟩ := cells_stored hg [.int .u64 (E : Nat), .int .u64 (Q : Nat)] rfl
                      have hne : rb ≠ gb := fun e => by
                        have h1 := hr1.row
                        rw [e] at h1
                        obtain ⟨c1, g1, _⟩ := h1
                        obtain ⟨c2, g2, _⟩ := hg
                        rw [g1] at g2
                        simp only [Option.some.injEq, Obj.cells.injEq] at g2
                        exact absurd g2.2.1 (by decide)
                      rw [h5] at fhb5
                      rw [h6] at fhb6
                      rw [hm5] at fmb5
                      rw [hm6] at fmb6
                      rw [hrt] at fnb1
                      rw [hrs] at fnb2
                      refine ⟨by rw [he, decide_eq_false hct], fhb5, fhb6, fmb5, fmb6, fnb1, fnb2, W14, hW14, row_there hg, hr1.on (hbl rb hne), ⟨ho.trans hr2.os, ht.trans hr2.tape, hp.trans hr2.output, by rw [hz]; exact hr2.size, fun k hk => (hbl k (fun e => by have := HGB.out; omega)).trans (hr2.block k hk)⟩, ?_⟩
                      rw [hrt, hrs]
                      exact ⟨_, hh, rfl, fun j hj => by match j, hj with | 0, _ | 1, _ => rfl⟩
                    rw [a5] at fhb0
                    rw [h5] at fhb5
                    rw [h6] at fhb6
                    have z3 : ((E : Int) == (E : Int)) = true := by simp
                    have z4 : ((Q : Int) == (Q : Int)) = true := by simp
                    have HPQ : Hid (pr ≤ HH.r.p) := HPR2
                    have HII2 : Hid ((Try.prog.info? 24).map (·.size) = some (#[.int .u64 (E : Nat), .int .u64 (Q : Nat)] : Array Value).size) := infoTg
                    clear HFN HRow HFX HBX HEND HOK HOK2 hb1 a2 a5 h5 h6 hm5 hm6 hrt hrs hct hend1 hend2 hgrow HPR2 HPR ea2
                    generalize r.te = te0 at *
                    generalize r.ts = ts0 at *
                    go_upto_region 27 with (go_at_call 20; refine HLS.out.mono ?_; rintro e w13 ⟨rfl, e1, e2, e3, e4, e5, e6, W14, HW14, HTt, HQ⟩)
                    refine wp_region_lit ?_
                    refine wpList_plain rfl fun _ hK => op_run (.pointer (some ⟨hb, 0, none⟩)) (by kernel_rfl) (hK _ _ ?_)
                    simp only [Act.put, List.setIfInBounds_toArray, List.set_cons_zero, List.set_cons_succ]
                    refine wpList_plain rfl fun _ hK => op_run (.pointer (some ⟨hb, 5, none⟩)) (by kernel_rfl) (hK _ _ ?_)
                    simp only [Act.put, List.setIfInBounds_toArray, List.set_cons_zero, List.set_cons_succ]
                    refine wpList_plain rfl fun _ hK => op_run (.agg #[.int .u64 (E : Nat), .int .u64 (Q : Nat)]) (by go_simp) (hK _ _ ?_)
                    simp only [Act.put, List.setIfInBounds_toArray, List.set_cons_zero, List.set_cons_succ]
                    refine wpList_store_mid rfl 24 (.tmp 4) (.tmp 167) rfl gb 0 #[.int .u64 (E : Nat), .int .u64 (Q : Nat)] rfl rfl HTt.out HII2.out (by simp [Value.oneCell']) ?_
                    rw [HW14.out]
                    simp only [Act.put]
                    go_wp2_with fail
                    go_roundg (on - (i + 1))
                    case measure => go_light; exact hme
                    case rel => go_light; exact ⟨i + 1, pr, HH.r, HI1.out.1, HI1.out.2, rfl, by simp, rfl, HPQ, HQ.out.1, HQ.out.2.1, HQ.out.2.2⟩
                · have ea5 : (HH.a.n 0 == 5) = false := by simp [a5]
                  have hot := HFN.out.ot (.inr ⟨a2, a5⟩)
                  rw [← hot.1, ← hot.2] at hgrow
                  have HQ : Hid (RpIs wc rb HH.r ∧ W1.Since W1.heap.size wc ∧ wc.rowIs gb 24 2 (tgC HH.r.te HH.r.ts)) := ⟨hend1, hend2, hgrow⟩
                  clear HFN HRow HFX HBX HEND HOK HOK2 hb1 hot hgrow hend1 hend2 a2 a5
                  generalize HH.a.n 0 = ak at *
                  go_wp2_with fail
                  go_roundg (on - (i + 1))
                  case measure => go_light; exact hme
                  case rel => go_light; exact ⟨i + 1, pr, HH.r, HI1.out.1, HI1.out.2, rfl, by simp, rfl, HPR2, HQ.out.1, HQ.out.2.1, HQ.out.2.2⟩
    · have c5 : wr.cell? ⟨w.heap.size, 5, none⟩ = some (.slice oa on oc) := HC.out wr HSr.out 5 _ rfl
      have HF : Hid (w.Since w.heap.size wr) := HS1.out.trans (since_mono HSr.out HS1.out.size)
      by_cases hin : (i : Int) < (on : Int)
      · have hin2 : ¬ ((i : Int) < 500) := by omega
        clear hlt hi hi5
        go_wp2_with fail
        go_ret
        exact ⟨rfl, HF.out⟩
      · clear hlt hi hi5
        go_wp2_with fail
        go_ret
        exact ⟨rfl, HF.out⟩
end Go.Proofs.Yteneaiaejdgpcaa

/- What the laws of replica are handed, read out of memory. -/
namespace Go.Proofs.Yteneaiaejdgpcaa
open Go.ChangeShapes Go.WideShapes Go.ChangeAt Go.RowKit Go.Deep Go.Joins
set_option maxRecDepth 100000
set_option maxRecDepth 100000

structure Mg.wf (m : Mg) : Prop where
  n : ∀ c, c = 10 ∨ c = 13 ∨ c = 14 ∨ 22 ≤ c → m.n c = 0
  s : ∀ c, c ≠ 10 → c ≠ 13 → c ≠ 14 → m.s c = []
theorem own : ownKnob Try.prog.godebug = none := by kernel_rfl
theorem laidOut : laidOutB Try.prog = true := by kernel_rfl
theorem cellsI : Try.prog.cellsOf 3 = 1 := by kernel_rfl
theorem cellsU : Try.prog.cellsOf 22 = 1 := by kernel_rfl
theorem cells8 : Try.prog.cellsOf 5 = 1 := by kernel_rfl
theorem cellsB : Try.prog.cellsOf 25 = 1 := by kernel_rfl
theorem cellsS : Try.prog.cellsOf 9 = 1 := by kernel_rfl
theorem cellsH : Try.prog.cellsOf 36 = 4 := by kernel_rfl
theorem cellsT : Try.prog.cellsOf 24 = 2 := by kernel_rfl
theorem cellsC : Try.prog.cellsOf 38 = 2 := by kernel_rfl
theorem cellsE : Try.prog.cellsOf 39 = 1 := by kernel_rfl
theorem cellsM : Try.prog.cellsOf 41 = 22 := by kernel_rfl
theorem bytes8 : Try.prog.bytesOf 5 = 1 := by kernel_rfl
theorem reach_eq : reachBytes = 140737488351232 := rfl
theorem add_at (b o : Nat) (r : Nat) : (⟨b, o, none⟩ : Addr).add r = ⟨b, o + r, none⟩ := by simp [Addr.add]
theorem byte_of {n : Int} (h : (Lit.int .u8 n).wf = true) : ∃ m : Nat, n = m ∧ m < 256 := by
  have := bounds_u8 h
  exact ⟨n.toNat, by omega, by omega⟩
def Fits {H : Type} (t : TypeId) (d : DataW H) : Prop := ∀ n, n ∈ d.weights Try.prog t → n ≤ reachBytes
theorem fits_of_each {H : Type} {ts : List TypeId} {ds : List (DataW H)} (h : ∀ n, n ∈ DataW.weightsEach Try.prog ts ds → n ≤ reachBytes) {j : Nat} {t : TypeId} {d : DataW H} (ht : ts[j]? = some t) (hd : ds[j]? = some d) : Fits t d :=
  fun n hn => h n (DataW.weights_mem_each ht hd n hn)
theorem each_of_all {H : Type} {ts : List TypeId} {ds : List (DataW H)} (h : (DataW.weightsEach Try.prog ts ds).all (· ≤ reachBytes) = true) : ∀ n, n ∈ DataW.weightsEach Try.prog ts ds → n ≤ reachBytes :=
  fun n hn => of_decide_eq_true (List.all_eq_true.1 h n hn)
theorem weightsAll_mem {H : Type} {P : Program} {e : TypeId} : ∀ {l : List (DataW H)} {d : DataW H}, d ∈ l → ∀ n ∈ d.weights P e, n ∈ DataW.weightsAll P e l
  | d' :: r, d, hd, n, hn => by
    simp only [DataW.weightsAll, List.mem_append]
    rcases List.mem_cons.1 hd with rfl | h
    · exact Or.inl hn
    · exact Or.inr (weightsAll_mem h n hn)
theorem open_bytes {H : Type} {enc : TypeId × Value → H} {W : World} {fuel : Nat} {v : Value} {y : DataW H × List MemPlace} (h : DataW.trod enc Try.prog W 0 (fun _ => true) true fuel 25 [v] = some y) (hf : Fits 25 y.1) :
    ∃ (a : Option Addr) (len cap : Nat) (z : Nat → Nat), v = .slice a len cap ∧ len ≤ cap ∧ cap ≤ 140737488351232 ∧ (∀ j, z j < 256) ∧ Byt W a cap z ∧ (a = none → len = 0 ∧ cap = 0) := by
  rcases open_ints Try.underlying25 Try.underlying5 cells8 h with ⟨hcs, _⟩ | ⟨a, len, cap, zs, hcs, _, hl, hm, hz, hx, hcell, hwf⟩
  · exact ⟨none, 0, 0, fun _ => 0, by simpa using hcs, Nat.le_refl _, by omega, fun _ => by show 0 < 256; decide, fun j hj => absurd hj (Nat.not_lt_zero _), fun _ => ⟨rfl, rfl⟩⟩
  · simp only [if_true] at hz
    refine ⟨some a, len, cap, fun j => (zs.getD j 0).toNat % 256, by simpa using hcs, hl, ?_, fun j => Nat.mod_lt _ (by decide), fun j hj => ?_, fun e => by cases e⟩
    · have hw := hf ((lits .u8 (zs.take len) : List (DataW H)).length + (lits .u8 (zs.drop len) : List (DataW H)).length) (by rw [hx]; simp [DataW.weights, Try.underlying25, bytes8])
      simp only [lits, List.length_map, List.length_take, List.length_drop, reach_eq] at hw
      omega
    · obtain ⟨b, off, sp⟩ := a
      have h5 := hcell j (by omega)
      obtain rfl : sp = none := by simpa [Addr.add] using World.cell?_spot (hcell 0 (by omega))
      rw [add_at] at h5
      refine ⟨b, off, rfl, ?_⟩
      have hmem : zs.getD j 0 ∈ zs := by
        rw [List.getD_eq_getElem?_getD, List.getElem?_eq_getElem (by omega)]; exact List.getElem_mem _
      obtain ⟨m, hm1, hm2⟩ := byte_of (hwf _ hmem)
      show W.cell? _ = some (.int .u8 (((zs.getD j 0).toNat % 256 : Nat) : Int))
      rw [hm1] at h5 ⊢
      rw [Int.toNat_natCast, Nat.mod_eq_of_lt hm2]
      exact h5
/-- Whole numbers as they lie in a message. -/
def Mg.int (m : Mg) : Prop := (∀ c, isU c = true → 0 ≤ m.n c ∧ m.n c < 18446744073709551616) ∧ ∀ c, -9223372036854775808 ≤ m.n c ∧ (isU c = false → m.n c < 9223372036854775808)
set_option maxHeartbeats 4000000 in
/-- A message that is handed in. -/
theorem open_msg {H : Type} {enc : TypeId × Value → H} {W : World} {fuel : Nat} {cs : List Value} {y : DataW H × List MemPlace} (h : DataW.trod enc Try.prog W 0 (fun _ => true) true fuel 41 cs = some y) (hf : Fits 41 y.1) :
    ∃ (m : Mg) (va : Option Addr) (vc : Nat), cs = mgL m va vc ∧ MgA W m va vc ∧ m.wf ∧ m.int ∧ (m.s 10).length ≤ vc ∧ vc ≤ 140737488351232 := by
  obtain ⟨xs, m, _, hx, hcl, hlen, hfs⟩ := DataW.trod_struct Try.underlying41 h
  rw [cellsM] at hcl
  obtain ⟨v0, v1, v2, v3, v4, v5, v6, v7, v8, v9, v10, v11, v12, v13, v14, v15, v16, v17, v18, v19, v20, v21, rfl⟩ : ∃ v0 v1 v2 v3 v4 v5 v6 v7 v8 v9 v10 v11 v12 v13 v14 v15 v16 v17 v18 v19 v20 v21, cs = [v0, v1, v2, v3, v4, v5, v6, v7, v8, v9, v10, v11, v12, v13, v14, v15, v16, v17, v18, v19, v20, v21] := by
    match cs, hcl with
    | [v0, v1, v2, v3, v4, v5, v6, v7, v8, v9, v10, v11, v12, v13, v14, v15, v16, v17, v18, v19, v20, v21], _ => exact ⟨v0, v1, v2, v3, v4, v5, v6, v7, v8, v9, v10, v11, v12, v13, v14, v15, v16, v17, v18, v19, v20, v21, rfl⟩
  obtain ⟨y0, y1, y2, y3, y4, y5, y6, y7, y8, y9, y10, y11, y12, y13, y14, y15, y16, rfl⟩ : ∃ y0 y1 y2 y3 y4 y5 y6 y7 y8 y9 y10 y11 y12 y13 y14 y15 y16, xs = [y0, y1, y2, y3, y4, y5, y6, y7, y8, y9, y10, y11, y12, y13, y14, y15, y16] := by
    match xs, hlen with
    | [y0, y1, y2, y3, y4, y5, y6, y7, y8, y9, y10, y11, y12, y13, y14, y15, y16], _ => exact ⟨y0, y1, y2, y3, y4, y5, y6, y7, y8, y9, y10, y11, y12, y13, y14, y15, y16, rfl⟩
  have f0 := hfs 0 _ rfl
  have f1 := hfs 1 _ rfl
  have f2 := hfs 2 _ rfl
  have f3 := hfs 3 _ rfl
  have f4 := hfs 4 _ rfl
  have f5 := hfs 5 _ rfl
  have f6 := hfs 6 _ rfl
  have f7 := hfs 7 _ rfl
  have f8 := hfs 8 _ rfl
  have f9 := hfs 9 _ rfl
  have f10 := hfs 10 _ rfl
  have f11 := hfs 11 _ rfl
  have f12 := hfs 12 _ rfl
  have f13 := hfs 13 _ rfl
  have f14 := hfs 14 _ rfl
  have f15 := hfs 15 _ rfl
  have f16 := hfs 16 _ rfl
  simp [cellsH] at f0
  simp [cellsU] at f1
  simp [cellsT] at f2
  simp [cellsU] at f3
  simp [cellsI] at f4
  simp [cellsU] at f5
  simp [cellsB] at f6
  simp [cellsI] at f7
  simp [cellsU] at f8
  simp [cellsS] at f9
  simp [cellsS] at f10
  simp [cellsU] at f11
  simp [cellsC] at f12
  simp [cellsI] at f13
  simp [cellsI] at f14
  simp [cellsI] at f15
  simp [cellsE] at f16
  obtain ⟨xs0, n0, _, _, _, hl0, hg0⟩ := DataW.trod_struct Try.underlying36 f0
  obtain ⟨q0, q1, q2, q3, rfl⟩ : ∃ q0 q1 q2 q3, xs0 = [q0, q1, q2, q3] := by
    match xs0, hl0 with
    | [a, b, c, d], _ => exact ⟨a, b, c, d, rfl⟩
  have g0 := hg0 0 _ rfl
  simp [cellsI] at g0
  obtain ⟨k0, e0, _, w0⟩ := DataW.trod_int Try.underlying3 g0
  obtain rfl : v0 = .int .i64 k0 := by simpa using e0
  have g1 := hg0 1 _ rfl
  simp [cellsI] at g1
  obtain ⟨k1, e1, _, w1⟩ := DataW.trod_int Try.underlying3 g1
  obtain rfl : v1 = .int .i64 k1 := by simpa using e1
  have g2 := hg0 2 _ rfl
  simp [cellsI] at g2
  obtain ⟨k2, e2, _, w2⟩ := DataW.trod_int Try.underlying3 g2
  obtain rfl : v2 = .int .i64 k2 := by simpa using e2
  have g3 := hg0 3 _ rfl
  simp [cellsI] at g3
  obtain ⟨k3, e3, _, w3⟩ := DataW.trod_int Try.underlying3 g3
  obtain rfl : v3 = .int .i64 k3 := by simpa using e3
  obtain ⟨k4, e4, _, w4⟩ := DataW.trod_int Try.underlying22 f1
  obtain rfl : v4 = .int .u64 k4 := by simpa using e4
  obtain ⟨xs2, n2, _, _, _, hl2, hg2⟩ := DataW.trod_struct Try.underlying24 f2
  obtain ⟨q5, q6, rfl⟩ : ∃ q5 q6, xs2 = [q5, q6] := by
    match xs2, hl2 with
    | [a, b], _ => exact ⟨a, b, rfl⟩
  have g5 := hg2 0 _ rfl
  simp [cellsU] at g5
  obtain ⟨k5, e5, _, w5⟩ := DataW.trod_int Try.underlying22 g5
  obtain rfl : v5 = .int .u64 k5 := by simpa using e5
  have g6 := hg2 1 _ rfl
  simp [cellsU] at g6
  obtain ⟨k6, e6, _, w6⟩ := DataW.trod_int Try.underlying22 g6
  obtain rfl : v6 = .int .u64 k6 := by simpa using e6
  obtain ⟨k7, e7, _, w7⟩ := DataW.trod_int Try.underlying22 f3
  obtain rfl : v7 = .int .u64 k7 := by simpa using e7
  obtain ⟨k8, e8, _, w8⟩ := DataW.trod_int Try.underlying3 f4
  obtain rfl : v8 = .int .i64 k8 := by simpa using e8
  obtain ⟨k9, e9, _, w9⟩ := DataW.trod_int Try.underlying22 f5
  obtain rfl : v9 = .int .u64 k9 := by simpa using e9
  have hfit : Fits 25 y6.1 := fun n hn => hf n (by
    rw [hx]
    simp only [DataW.weights, Try.underlying41]
    exact DataW.weights_mem_each (j := 6) rfl rfl n hn)
  obtain ⟨a, len, cap, z, rfl, hl, hcap, hz, hb, hn⟩ := open_bytes f6 hfit
  obtain ⟨k11, e11, _, w11⟩ := DataW.trod_int Try.underlying3 f7
  obtain rfl : v11 = .int .i64 k11 := by simpa using e11
  obtain ⟨k12, e12, _, w12⟩ := DataW.trod_int Try.underlying22 f8
  obtain rfl : v12 = .int .u64 k12 := by simpa using e12
  obtain ⟨s13, e13, hy13, _⟩ := DataW.trod_string Try.underlying9 f9
  obtain rfl : v13 = .string s13 := by simpa using e13
  have hs13 : s13.size ≤ 140737488351232 := by
    have := hf s13.data.toList.length (by
      rw [hx]
      simp only [DataW.weights, Try.underlying41]
      exact DataW.weights_mem_each (j := 9) rfl rfl _ (by rw [hy13]; simp [DataW.weights]))
    rw [Array.length_toList] at this
    exact this
  obtain ⟨s14, e14, hy14, _⟩ := DataW.trod_string Try.underlying9 f10
  obtain rfl : v14 = .string s14 := by simpa using e14
  have hs14 : s14.size ≤ 140737488351232 := by
    have := hf s14.data.toList.length (by
      rw [hx]
      simp only [DataW.weights, Try.underlying41]
      exact DataW.weights_mem_each (j := 10) rfl rfl _ (by rw [hy14]; simp [DataW.weights]))
    rw [Array.length_toList] at this
    exact this
  obtain ⟨k15, e15, _, w15⟩ := DataW.trod_int Try.underlying22 f11
  obtain rfl : v15 = .int .u64 k15 := by simpa using e15
  obtain ⟨xs12, n12, _, _, _, hl12, hg12⟩ := DataW.trod_struct Try.underlying38 f12
  obtain ⟨q16, q17, rfl⟩ : ∃ q16 q17, xs12 = [q16, q17] := by
    match xs12, hl12 with
    | [a, b], _ => exact ⟨a, b, rfl⟩
  have g16 := hg12 0 _ rfl
  simp [cellsU] at g16
  obtain ⟨k16, e16, _, w16⟩ := DataW.trod_int Try.underlying22 g16
  obtain rfl : v16 = .int .u64 k16 := by simpa using e16
  have g17 := hg12 1 _ rfl
  simp [cellsU] at g17
  obtain ⟨k17, e17, _, w17⟩ := DataW.trod_int Try.underlying22 g17
  obtain rfl : v17 = .int .u64 k17 := by simpa using e17
  obtain ⟨k18, e18, _, w18⟩ := DataW.trod_int Try.underlying3 f13
  obtain rfl : v18 = .int .i64 k18 := by simpa using e18
  obtain ⟨k19, e19, _, w19⟩ := DataW.trod_int Try.underlying3 f14
  obtain rfl : v19 = .int .i64 k19 := by simpa using e19
  obtain ⟨k20, e20, _, w20⟩ := DataW.trod_int Try.underlying3 f15
  obtain rfl : v20 = .int .i64 k20 := by simpa using e20
  obtain ⟨k21, e21, _, w21⟩ := DataW.trod_int Try.underlying39 f16
  obtain rfl : v21 = .int .i64 k21 := by simpa using e21
  refine ⟨⟨fun c => if c = 0 then k0 else if c = 1 then k1 else if c = 2 then k2 else if c = 3 then k3 else if c = 4 then k4 else if c = 5 then k5 else if c = 6 then k6 else if c = 7 then k7 else if c = 8 then k8 else if c = 9 then k9 else if c = 11 then k11 else if c = 12 then k12 else if c = 15 then k15 else if c = 16 then k16 else if c = 17 then k17 else if c = 18 then k18 else if c = 19 then k19 else if c = 20 then k20 else if c = 21 then k21 else 0, fun c => if c = 10 then (List.range len).map z else if c = 13 then listS s13 else if c = 14 then listS s14 else []⟩, a, cap, ?_, ⟨?_, ?_, ?_, ?_, ?_⟩, ?_, ?_, ?_, hcap⟩
  · have e10 : ((List.range len).map z).length = len := by simp
    show _ = ([.int .i64 k0, .int .i64 k1, .int .i64 k2, .int .i64 k3, .int .u64 k4, .int .u64 k5, .int .u64 k6, .int .u64 k7, .int .i64 k8, .int .u64 k9, .slice a ((List.range len).map z).length cap, .int .i64 k11, .int .u64 k12, .string (strL (listS s13)), .string (strL (listS s14)), .int .u64 k15, .int .u64 k16, .int .u64 k17, .int .i64 k18, .int .i64 k19, .int .i64 k20, .int .i64 k21] : List Value)
    rw [e10, strL_listS, strL_listS]
  · show Byt W a ((List.range len).map z).length (fun j => ((List.range len).map z).getD j 0)
    rw [List.length_map, List.length_range]
    intro j hj
    obtain ⟨b, o, e, hc⟩ := hb j (by omega)
    refine ⟨b, o, e, ?_⟩
    show W.cell? _ = some (.int .u8 ((((List.range len).map z).getD j 0 : Nat) : Int))
    rw [getD_range_map z len j hj]
    exact hc
  · intro e
    show ((List.range len).map z).length = 0 ∧ cap = 0
    rw [List.length_map, List.length_range]
    exact hn e
  · intro q e h0
    have h0 : 0 < ((List.range len).map z).length := h0
    rw [List.length_map, List.length_range] at h0
    obtain ⟨b, o, e2, hc⟩ := hb 0 (by omega)
    rw [e2] at e
    obtain rfl := Option.some.inj e
    exact World.block_lt_of_cell? _ _ hc
  · intro c
    show (if c = 10 then (List.range len).map z else if c = 13 then listS s13 else if c = 14 then listS s14 else []).length ≤ _
    split
    · rw [List.length_map, List.length_range]; omega
    · split
      · rw [listS_len]; exact hs13
      · split
        · rw [listS_len]; exact hs14
        · exact Nat.zero_le _
  · intro c v hv
    have hv : v ∈ (if c = 10 then (List.range len).map z else if c = 13 then listS s13 else if c = 14 then listS s14 else []) := hv
    split at hv
    · obtain ⟨j, _, rfl⟩ := List.mem_map.1 hv
      exact hz j
    · split at hv
      · exact listS_byte s13 v hv
      · split at hv
        · exact listS_byte s14 v hv
        · exact absurd hv (List.not_mem_nil)
  · refine ⟨fun c hc => ?_, fun c c1 c2 c3 => ?_⟩
    · show (if c = 0 then k0 else if c = 1 then k1 else if c = 2 then k2 else if c = 3 then k3 else if c = 4 then k4 else if c = 5 then k5 else if c = 6 then k6 else if c = 7 then k7 else if c = 8 then k8 else if c = 9 then k9 else if c = 11 then k11 else if c = 12 then k12 else if c = 15 then k15 else if c = 16 then k16 else if c = 17 then k17 else if c = 18 then k18 else if c = 19 then k19 else if c = 20 then k20 else if c = 21 then k21 else 0) = (0 : Int)
      rw [if_neg (by omega)]; rw [if_neg (by omega)]; rw [if_neg (by omega)]; rw [if_neg (by omega)]; rw [if_neg (by omega)]; rw [if_neg (by omega)]; rw [if_neg (by omega)]; rw [if_neg (by omega)]; rw [if_neg (by omega)]; rw [if_neg (by omega)]; rw [if_neg (by omega)]; rw [if_neg (by omega)]; rw [if_neg (by omega)]; rw [if_neg (by omega)]; rw [if_neg (by omega)]; rw [if_neg (by omega)]; rw [if_neg (by omega)]; rw [if_neg (by omega)]; rw [if_neg (by omega)]
    · show (if c = 10 then (List.range len).map z else if c = 13 then listS s13 else if c = 14 then listS s14 else []) = []
      rw [if_neg c1, if_neg c2, if_neg c3]
  · have b0 : ∀ {n : Int}, (Lit.int .i64 n).wf = true → -9223372036854775808 ≤ n ∧ n < 9223372036854775808 := fun h => by have := bounds_i64 h; omega
    have b1 : ∀ {n : Int}, (Lit.int .u64 n).wf = true → 0 ≤ n ∧ n < 18446744073709551616 := fun h => by have := bounds_u64 h; omega
    have r0 := b0 w0
    have r1 := b0 w1
    have r2 := b0 w2
    have r3 := b0 w3
    have r4 := b1 w4
    have r5 := b1 w5
    have r6 := b1 w6
    have r7 := b1 w7
    have r8 := b0 w8
    have r9 := b1 w9
    have r11 := b0 w11
    have r12 := b1 w12
    have r15 := b1 w15
    have r16 := b1 w16
    have r17 := b1 w17
    have r18 := b0 w18
    have r19 := b0 w19
    have r20 := b0 w20
    have r21 := b0 w21
    have hall : ∀ c, (isU c = true → 0 ≤ (if c = 0 then k0 else if c = 1 then k1 else if c = 2 then k2 else if c = 3 then k3 else if c = 4 then k4 else if c = 5 then k5 else if c = 6 then k6 else if c = 7 then k7 else if c = 8 then k8 else if c = 9 then k9 else if c = 11 then k11 else if c = 12 then k12 else if c = 15 then k15 else if c = 16 then k16 else if c = 17 then k17 else if c = 18 then k18 else if c = 19 then k19 else if c = 20 then k20 else if c = 21 then k21 else 0) ∧ (if c = 0 then k0 else if c = 1 then k1 else if c = 2 then k2 else if c = 3 then k3 else if c = 4 then k4 else if c = 5 then k5 else if c = 6 then k6 else if c = 7 then k7 else if c = 8 then k8 else if c = 9 then k9 else if c = 11 then k11 else if c = 12 then k12 else if c = 15 then k15 else if c = 16 then k16 else if c = 17 then k17 else if c = 18 then k18 else if c = 19 then k19 else if c = 20 then k20 else if c = 21 then k21 else 0) < (18446744073709551616 : Int)) ∧ -9223372036854775808 ≤ (if c = 0 then k0 else if c = 1 then k1 else if c = 2 then k2 else if c = 3 then k3 else if c = 4 then k4 else if c = 5 then k5 else if c = 6 then k6 else if c = 7 then k7 else if c = 8 then k8 else if c = 9 then k9 else if c = 11 then k11 else if c = 12 then k12 else if c = 15 then k15 else if c = 16 then k16 else if c = 17 then k17 else if c = 18 then k18 else if c = 19 then k19 else if c = 20 then k20 else if c = 21 then k21 else 0) ∧ (isU c = false → (if c = 0 then k0 else if c = 1 then k1 else if c = 2 then k2 else if c = 3 then k3 else if c = 4 then k4 else if c = 5 then k5 else if c = 6 then k6 else if c = 7 then k7 else if c = 8 then k8 else if c = 9 then k9 else if c = 11 then k11 else if c = 12 then k12 else if c = 15 then k15 else if c = 16 then k16 else if c = 17 then k17 else if c = 18 then k18 else if c = 19 then k19 else if c = 20 then k20 else if c = 21 then k21 else 0) < (9223372036854775808 : Int)) := fun c => by
      by_cases hc : c < 22
      · match c, hc with
        | 0, _ => exact (show (isU 0 = true → 0 ≤ k0 ∧ k0 < (18446744073709551616 : Int)) ∧ -9223372036854775808 ≤ k0 ∧ (isU 0 = false → k0 < (9223372036854775808 : Int)) from ⟨fun _ => by first | omega | (exact absurd ‹_› (by decide)), by omega, fun _ => by first | omega | (exact absurd ‹_› (by decide))⟩)
        | 1, _ => exact (show (isU 1 = true → 0 ≤ k1 ∧ k1 < (18446744073709551616 : Int)) ∧ -9223372036854775808 ≤ k1 ∧ (isU 1 = false → k1 < (9223372036854775808 : Int)) from ⟨fun _ => by first | omega | (exact absurd ‹_› (by decide)), by omega, fun _ => by first | omega | (exact absurd ‹_› (by decide))⟩)
        | 2, _ => exact (show (isU 2 = true → 0 ≤ k2 ∧ k2 < (18446744073709551616 : Int)) ∧ -9223372036854775808 ≤ k2 ∧ (isU 2 = false → k2 < (9223372036854775808 : Int)) from ⟨fun _ => by first | omega | (exact absurd ‹_› (by decide)), by omega, fun _ => by first | omega | (exact absurd ‹_› (by decide))⟩)
        | 3, _ => exact (show (isU 3 = true → 0 ≤ k3 ∧ k3 < (18446744073709551616 : Int)) ∧ -9223372036854775808 ≤ k3 ∧ (isU 3 = false → k3 < (9223372036854775808 : Int)) from ⟨fun _ => by first | omega | (exact absurd ‹_› (by decide)), by omega, fun _ => by first | omega | (exact absurd ‹_› (by decide))⟩)
        | 4, _ => exact (show (isU 4 = true → 0 ≤ k4 ∧ k4 < (18446744073709551616 : Int)) ∧ -9223372036854775808 ≤ k4 ∧ (isU 4 = false → k4 < (9223372036854775808 : Int)) from ⟨fun _ => by first | omega | (exact absurd ‹_› (by decide)), by omega, fun _ => by first | omega | (exact absurd ‹_› (by decide))⟩)
        | 5, _ => exact (show (isU 5 = true → 0 ≤ k5 ∧ k5 < (18446744073709551616 : Int)) ∧ -9223372036854775808 ≤ k5 ∧ (isU 5 = false → k5 < (9223372036854775808 : Int)) from ⟨fun _ => by first | omega | (exact absurd ‹_› (by decide)), by omega, fun _ => by first | omega | (exact absurd ‹_› (by decide))⟩)
        | 6, _ => exact (show (isU 6 = true → 0 ≤ k6 ∧ k6 < (18446744073709551616 : Int)) ∧ -9223372036854775808 ≤ k6 ∧ (isU 6 = false → k6 < (9223372036854775808 : Int)) from ⟨fun _ => by first | omega | (exact absurd ‹_› (by decide)), by omega, fun _ => by first | omega | (exact absurd ‹_› (by decide))⟩)
        | 7, _ => exact (show (isU 7 = true → 0 ≤ k7 ∧ k7 < (18446744073709551616 : Int)) ∧ -9223372036854775808 ≤ k7 ∧ (isU 7 = false → k7 < (9223372036854775808 : Int)) from ⟨fun _ => by first | omega | (exact absurd ‹_› (by decide)), by omega, fun _ => by first | omega | (exact absurd ‹_› (by decide))⟩)
        | 8, _ => exact (show (isU 8 = true → 0 ≤ k8 ∧ k8 < (18446744073709551616 : Int)) ∧ -9223372036854775808 ≤ k8 ∧ (isU 8 = false → k8 < (9223372036854775808 : Int)) from ⟨fun _ => by first | omega | (exact absurd ‹_› (by decide)), by omega, fun _ => by first | omega | (exact absurd ‹_› (by decide))⟩)
        | 9, _ => exact (show (isU 9 = true → 0 ≤ k9 ∧ k9 < (18446744073709551616 : Int)) ∧ -9223372036854775808 ≤ k9 ∧ (isU 9 = false → k9 < (9223372036854775808 : Int)) from ⟨fun _ => by first | omega | (exact absurd ‹_› (by decide)), by omega, fun _ => by first | omega | (exact absurd ‹_› (by decide))⟩)
        | 10, _ => exact (show (isU 10 = true → 0 ≤ (0 : Int) ∧ (0 : Int) < (18446744073709551616 : Int)) ∧ -9223372036854775808 ≤ (0 : Int) ∧ (isU 10 = false → (0 : Int) < (9223372036854775808 : Int)) from ⟨fun _ => by first | omega | (exact absurd ‹_› (by decide)), by omega, fun _ => by first | omega | (exact absurd ‹_› (by decide))⟩)
        | 11, _ => exact (show (isU 11 = true → 0 ≤ k11 ∧ k11 < (18446744073709551616 : Int)) ∧ -9223372036854775808 ≤ k11 ∧ (isU 11 = false → k11 < (9223372036854775808 : Int)) from ⟨fun _ => by first | omega | (exact absurd ‹_› (by decide)), by omega, fun _ => by first | omega | (exact absurd ‹_› (by decide))⟩)
        | 12, _ => exact (show (isU 12 = true → 0 ≤ k12 ∧ k12 < (18446744073709551616 : Int)) ∧ -9223372036854775808 ≤ k12 ∧ (isU 12 = false → k12 < (9223372036854775808 : Int)) from ⟨fun _ => by first | omega | (exact absurd ‹_› (by decide)), by omega, fun _ => by first | omega | (exact absurd ‹_› (by decide))⟩)
        | 13, _ => exact (show (isU 13 = true → 0 ≤ (0 : Int) ∧ (0 : Int) < (18446744073709551616 : Int)) ∧ -9223372036854775808 ≤ (0 : Int) ∧ (isU 13 = false → (0 : Int) < (9223372036854775808 : Int)) from ⟨fun _ => by first | omega | (exact absurd ‹_› (by decide)), by omega, fun _ => by first | omega | (exact absurd ‹_› (by decide))⟩)
        | 14, _ => exact (show (isU 14 = true → 0 ≤ (0 : Int) ∧ (0 : Int) < (18446744073709551616 : Int)) ∧ -9223372036854775808 ≤ (0 : Int) ∧ (isU 14 = false → (0 : Int) < (9223372036854775808 : Int)) from ⟨fun _ => by first | omega | (exact absurd ‹_› (by decide)), by omega, fun _ => by first | omega | (exact absurd ‹_› (by decide))⟩)
        | 15, _ => exact (show (isU 15 = true → 0 ≤ k15 ∧ k15 < (18446744073709551616 : Int)) ∧ -9223372036854775808 ≤ k15 ∧ (isU 15 = false → k15 < (9223372036854775808 : Int)) from ⟨fun _ => by first | omega | (exact absurd ‹_› (by decide)), by omega, fun _ => by first | omega | (exact absurd ‹_› (by decide))⟩)
        | 16, _ => exact (show (isU 16 = true → 0 ≤ k16 ∧ k16 < (18446744073709551616 : Int)) ∧ -9223372036854775808 ≤ k16 ∧ (isU 16 = false → k16 < (9223372036854775808 : Int)) from ⟨fun _ => by first | omega | (exact absurd ‹_› (by decide)), by omega, fun _ => by first | omega | (exact absurd ‹_› (by decide))⟩)
        | 17, _ => exact (show (isU 17 = true → 0 ≤ k17 ∧ k17 < (18446744073709551616 : Int)) ∧ -9223372036854775808 ≤ k17 ∧ (isU 17 = false → k17 < (9223372036854775808 : Int)) from ⟨fun _ => by first | omega | (exact absurd ‹_› (by decide)), by omega, fun _ => by first | omega | (exact absurd ‹_› (by decide))⟩)
        | 18, _ => exact (show (isU 18 = true → 0 ≤ k18 ∧ k18 < (18446744073709551616 : Int)) ∧ -9223372036854775808 ≤ k18 ∧ (isU 18 = false → k18 < (9223372036854775808 : Int)) from ⟨fun _ => by first | omega | (exact absurd ‹_› (by decide)), by omega, fun _ => by first | omega | (exact absurd ‹_› (by decide))⟩)
        | 19, _ => exact (show (isU 19 = true → 0 ≤ k19 ∧ k19 < (18446744073709551616 : Int)) ∧ -9223372036854775808 ≤ k19 ∧ (isU 19 = false → k19 < (9223372036854775808 : Int)) from ⟨fun _ => by first | omega | (exact absurd ‹_› (by decide)), by omega, fun _ => by first | omega | (exact absurd ‹_› (by decide))⟩)
        | 20, _ => exact (show (isU 20 = true → 0 ≤ k20 ∧ k20 < (18446744073709551616 : Int)) ∧ -9223372036854775808 ≤ k20 ∧ (isU 20 = false → k20 < (9223372036854775808 : Int)) from ⟨fun _ => by first | omega | (exact absurd ‹_› (by decide)), by omega, fun _ => by first | omega | (exact absurd ‹_› (by decide))⟩)
        | 21, _ => exact (show (isU 21 = true → 0 ≤ k21 ∧ k21 < (18446744073709551616 : Int)) ∧ -9223372036854775808 ≤ k21 ∧ (isU 21 = false → k21 < (9223372036854775808 : Int)) from ⟨fun _ => by first | omega | (exact absurd ‹_› (by decide)), by omega, fun _ => by first | omega | (exact absurd ‹_› (by decide))⟩)
        | k + 22, h => exact absurd h (by omega)
      · rw [if_neg (by omega), if_neg (by omega), if_neg (by omega), if_neg (by omega), if_neg (by omega), if_neg (by omega), if_neg (by omega), if_neg (by omega), if_neg (by omega), if_neg (by omega), if_neg (by omega), if_neg (by omega), if_neg (by omega), if_neg (by omega), if_neg (by omega), if_neg (by omega), if_neg (by omega), if_neg (by omega), if_neg (by omega)]
        exact ⟨fun _ => by omega, by omega, fun _ => by omega⟩
    exact ⟨fun c hc => (hall c).1 hc, fun c => (hall c).2⟩
  · show ((List.range len).map z).length ≤ cap
    rw [List.length_map, List.length_range]
    exact hl

theorem cellsSt : Try.prog.cellsOf 27 = 4 := by kernel_rfl
theorem cellsOp : Try.prog.cellsOf 43 = 30 := by kernel_rfl
theorem cellsOps : Try.prog.cellsOf 28 = 1 := by kernel_rfl
theorem cellsLf : Try.prog.cellsOf 30 = 6 := by kernel_rfl
theorem bytesOp : Try.prog.bytesOf 43 = 288 := by kernel_rfl
/-- What is stored, as it is handed in. -/
theorem open_stored {H : Type} {enc : TypeId × Value → H} {W : World} {fuel : Nat} {v0 v1 v2 v3 : Value} {y : DataW H × List MemPlace} (h : DataW.trod enc Try.prog W 0 (fun _ => true) true fuel 27 [v0, v1, v2, v3] = some y) (hf : Fits 27 y.1) :
    ∃ (p te ts : Nat) (a : Option Addr) (len cap : Nat) (z : Nat → Nat), v0 = .int .u64 (p : Nat) ∧ v1 = .int .u64 (te : Nat) ∧ v2 = .int .u64 (ts : Nat) ∧ v3 = .slice a len cap ∧ p < 18446744073709551616 ∧ te < 18446744073709551616 ∧ ts < 18446744073709551616 ∧ len ≤ cap ∧ cap ≤ 140737488351232 ∧ (∀ j, z j < 256) ∧ Byt W a cap z ∧ (a = none → len = 0 ∧ cap = 0) := by
  obtain ⟨xs, m, _, hx, _, hlen, hfs⟩ := DataW.trod_struct Try.underlying27 h
  obtain ⟨y0, y1, y2, rfl⟩ : ∃ y0 y1 y2, xs = [y0, y1, y2] := by
    match xs, hlen with
    | [a, b, c], _ => exact ⟨a, b, c, rfl⟩
  have f0 := hfs 0 _ rfl
  have f1 := hfs 1 _ rfl
  have f2 := hfs 2 _ rfl
  simp [cellsU] at f0
  simp [cellsT] at f1
  simp [cellsB] at f2
  have b1 : ∀ {n : Int}, (Lit.int .u64 n).wf = true → ∃ m : Nat, n = (m : Int) ∧ m < 18446744073709551616 := fun {n} h => by have := bounds_u64 h; exact ⟨n.toNat, by omega, by omega⟩
  obtain ⟨k0, e0, _, w0⟩ := DataW.trod_int Try.underlying22 f0
  obtain ⟨xt, mt, _, _, _, hlt, hg⟩ := DataW.trod_struct Try.underlying24 f1
  obtain ⟨t0, t1, rfl⟩ : ∃ t0 t1, xt = [t0, t1] := by
    match xt, hlt with
    | [a, b], _ => exact ⟨a, b, rfl⟩
  have g0 := hg 0 _ rfl
  have g1 := hg 1 _ rfl
  simp [cellsU] at g0
  simp [cellsU] at g1
  obtain ⟨k1, e1, _, w1⟩ := DataW.trod_int Try.underlying22 g0
  obtain ⟨k2, e2, _, w2⟩ := DataW.trod_int Try.underlying22 g1
  have hfit : Fits 25 y2.1 := fun n hn => hf n (by
    rw [hx]
    simp only [DataW.weights, Try.underlying27]
    exact DataW.weights_mem_each (j := 2) rfl rfl n hn)
  obtain ⟨a, len, cap, z, e3, hl, hcap, hz, hb, hn⟩ := open_bytes f2 hfit
  obtain ⟨p, rfl, hp⟩ := b1 w0
  obtain ⟨te, rfl, hte⟩ := b1 w1
  obtain ⟨ts, rfl, hts⟩ := b1 w2
  exact ⟨p, te, ts, a, len, cap, z, by simpa using e0, by simpa using e1, by simpa using e2, e3, hp, hte, hts, hl, hcap, hz, hb, hn⟩
theorem list30 {cs : List Value} (h : cs.length = 30) : ∃ (a b c d : Value) (ms : List Value) (e f g k : Value), ms.length = 22 ∧ cs = a :: b :: c :: d :: (ms ++ [e, f, g, k]) := by
  match cs, h with
  | a :: b :: c :: d :: r, h =>
    have hr : r.length = 26 := by simpa using h
    have h2 : (r.drop 22).length = 4 := by simp [hr]
    match hd : r.drop 22, h2 with
    | [e, f, g, k], _ => exact ⟨a, b, c, d, r.take 22, e, f, g, k, by simp [hr], by rw [← hd, List.take_append_drop]⟩
set_option maxHeartbeats 2000000 in
theorem open_ops {H : Type} {enc : TypeId × Value → H} {W : World} {fuel : Nat} {v : Value} {y : DataW H × List MemPlace} (h : DataW.trod enc Try.prog W 0 (fun _ => true) true fuel 28 [v] = some y) (hf : Fits 28 y.1) :
    ∃ (oa : Option Addr) (on oc : Nat) (O : Nat → Od), v = .slice oa on oc ∧ OpsIn W oa on O ∧ on ≤ 1000000000000 := by
  rcases open_slice Try.underlying28 h with ⟨hcs, _⟩ | ⟨a, len, cap, m, n, D, Pl, hcs, _, hl, _, hm, hyx, hel⟩
  · exact ⟨none, 0, 0, fun _ => ⟨0, 0, 0, 0, mg0, none, 0, 0, 0, 0, none, 0, 0⟩, by simpa using hcs, ⟨fun i hi => absurd hi (Nat.not_lt_zero i), fun i hi => absurd hi (Nat.not_lt_zero i)⟩, Nat.zero_le _⟩
  · simp only [if_true] at hm
    subst hm
    obtain ⟨b, o, sp⟩ := a
    rw [hyx] at hf
    have hcount : len ≤ 1000000000000 := by
      have := hf _ (by
        simp only [DataW.weights, Try.underlying28]
        exact List.mem_cons_self ..)
      simp only [List.length_map, List.length_range, bytesOp, reach_eq] at this
      omega
    have hele : ∀ i, i < len → Fits 43 (D i) := fun i hi n hn => hf n (by
      simp only [DataW.weights, Try.underlying28]
      exact List.mem_cons_of_mem _ (List.mem_append_left _ (weightsAll_mem (List.mem_map.2 ⟨i, List.mem_range.2 hi, rfl⟩) n hn)))
    have hsp : 0 < len → sp = none := fun h0 => by
      obtain ⟨cs', hc, _⟩ := hel 0 (by omega)
      rw [cellsOp] at hc
      obtain ⟨_, hl', hcell⟩ := World.cells?_some hc
      have := hcell 0 (by decide)
      rw [List.getElem?_eq_getElem (by rw [hl']; decide)] at this
      simpa [Addr.add] using World.cell?_spot this
    have hall : ∀ i, ∃ q : Od, i < len → sp = none ∧ W.rangeAt b (o + i * 30) (opL q) ∧ MgA W q.m q.va q.vc ∧ MgN q.m ∧ q.ep < 18446744073709551616 := fun i => by
      by_cases hi : i < len
      · obtain ⟨cs', hc, ht⟩ := hel i (by omega)
        rw [cellsOp] at hc
        obtain ⟨_, hl', hcell⟩ := World.cells?_some hc
        obtain rfl := hsp (by omega)
        obtain ⟨c0, c1, c2, c3, ms, s0, s1, s2, s3, hms, rfl⟩ := list30 hl'
        obtain ⟨xs, m2, _, hx, _, hlen, hfs⟩ := DataW.trod_struct Try.underlying43 ht
        obtain ⟨y0, y1, y2, y3, y4, y5, rfl⟩ : ∃ y0 y1 y2 y3 y4 y5, xs = [y0, y1, y2, y3, y4, y5] := by
          match xs, hlen with
          | [a, b, c, d, e, f], _ => exact ⟨a, b, c, d, e, f, rfl⟩
        have f0 := hfs 0 _ rfl
        have f1 := hfs 1 _ rfl
        have f2 := hfs 2 _ rfl
        have f3 := hfs 3 _ rfl
        have f4 := hfs 4 _ rfl
        have f5 := hfs 5 _ rfl
        simp [cellsI] at f0
        simp [cellsI] at f1
        simp [cellsI] at f2
        simp [cellsU] at f3
        simp [cellsM, hms] at f4
        simp [cellsSt, hms] at f5
        obtain ⟨k0, e0, _, _⟩ := DataW.trod_int Try.underlying3 f0
        obtain ⟨k1, e1, _, _⟩ := DataW.trod_int Try.underlying3 f1
        obtain ⟨k2, e2, _, _⟩ := DataW.trod_int Try.underlying3 f2
        obtain ⟨k3, e3, _, w3⟩ := DataW.trod_int Try.underlying22 f3
        have hb3 := bounds_u64 w3
        have hf4 : Fits 41 y4.1 := fun n hn => hele i hi n (by
          rw [show D i = _ from congrArg Prod.fst hx]
          simp only [DataW.weights, Try.underlying43]
          exact DataW.weights_mem_each (j := 4) rfl rfl n hn)
        have hf5 : Fits 27 y5.1 := fun n hn => hele i hi n (by
          rw [show D i = _ from congrArg Prod.fst hx]
          simp only [DataW.weights, Try.underlying43]
          exact DataW.weights_mem_each (j := 5) rfl rfl n hn)
        obtain ⟨mm, va, vc, rfl, hA, _, hint, _⟩ := open_msg f4 hf4
        obtain ⟨p, te, ts, sa, sl, sc, z, rfl, rfl, rfl, rfl, _⟩ := open_stored f5 hf5
        obtain ⟨ep, rfl⟩ : ∃ ep : Nat, k3 = (ep : Int) := ⟨k3.toNat, by omega⟩
        obtain rfl : c0 = .int .i64 k0 := by simpa using e0
        obtain rfl : c1 = .int .i64 k1 := by simpa using e1
        obtain rfl : c2 = .int .i64 k2 := by simpa using e2
        obtain rfl : c3 = .int .u64 (ep : Nat) := by simpa using e3
        refine ⟨⟨k0, k1, k2, ep, mm, va, vc, p, te, ts, sa, sl, sc⟩, fun _ => ⟨rfl, fun j v hv => ?_, hA, ⟨hint.1, fun c hc => ⟨(hint.2 c).1, by have := (hint.2 c).2 hc; show mm.n c ≤ _; omega⟩⟩, by show ep < _; omega⟩⟩
        have hj : j < 30 := by have := (List.getElem?_eq_some_iff.1 hv).1; rw [opL_len] at this; exact this
        have h5 := hcell j hj
        rw [add_at, add_at] at h5
        rw [h5]
        exact hv
      · exact ⟨⟨0, 0, 0, 0, mg0, none, 0, 0, 0, 0, none, 0, 0⟩, fun h => absurd h hi⟩
    obtain ⟨Q, hQ⟩ := Classical.axiomOfChoice hall
    refine ⟨some ⟨b, o, sp⟩, len, m, Q, by simpa using hcs, ⟨fun i hi => ?_, fun i hi => ?_⟩, hcount⟩
    · obtain ⟨h1, h2, _⟩ := hQ i hi
      subst h1
      refine ⟨b, o, rfl, h2, ?_⟩
      have := h2 0 _ (List.getElem?_eq_getElem (by rw [opL_len]; decide))
      exact World.block_lt_of_cell? _ _ this
    · obtain ⟨_, _, h3, h4, h5⟩ := hQ i hi
      exact ⟨h3, h4, h5⟩
end Go.Proofs.Yteneaiaejdgpcaa
