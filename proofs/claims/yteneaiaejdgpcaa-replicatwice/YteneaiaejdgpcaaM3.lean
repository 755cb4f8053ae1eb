/- Own texts, joined: R17, R18, R19, R20, R22, R23, R25, RL, R26, R27. -/
import Derived.Test.YteneaiaejdgpcaaM2

/- The document's help: CopyMsg, CmpTag; less, epoch. -/
namespace Go.Proofs.Yteneaiaejdgpcaa
open Go.RowKit Go.Maps
set_option maxRecDepth 100000
set_option maxRecDepth 100000

set_option maxHeartbeats 4000000 in
theorem copyMsg_any (m : Mg) (va : Option Addr) (vc : Nat) (w : World) (hA : MgA w m va vc) :
    Calls Try.prog 17 #[mgV m va vc] w fun e w' => ∃ g, e = .returned (mgV m (some ⟨g, 0, none⟩) (m.s 10).length) ∧ MgA w' m (some ⟨g, 0, none⟩) (m.s 10).length ∧ w.Since w.heap.size w' ∧ w.heap.size ≤ g := by
  obtain ⟨MM, HMM⟩ : ∃ x, Hid ((mgL m va vc).toArray = x) := ⟨_, rfl⟩
  obtain ⟨W1, HW1⟩ : ∃ W, Hid (w.alloc (.cells MM 41) = W) := ⟨_, rfl⟩
  have s1 : w.Since w.heap.size W1 := by rw [← HW1.out]; exact (World.Since.refl _ _).alloc (Nat.le_refl _) _
  have z1 : W1.heap.size = w.heap.size + 1 := by rw [← HW1.out]; simp
  have r1 : W1.rowIs w.heap.size 41 22 (mgCell m va vc) := by rw [← HW1.out, ← HMM.out]; exact mg_row w m va vc
  obtain ⟨W2, HW2⟩ : ∃ W, Hid (W1.alloc mgZ = W) := ⟨_, rfl⟩
  have s2 : W1.Since W1.heap.size W2 := by rw [← HW2.out]; exact (World.Since.refl _ _).alloc (Nat.le_refl _) _
  have r2 : W2.rowIs (w.heap.size + 1) 41 22 (mgCell mg0 none 0) := by rw [← z1, ← HW2.out]; exact mgZ_row W1
  have rm2 := row_since r1 s2
  have sw2 : w.Since w.heap.size W2 := s1.trans (since_mono s2 s1.size)
  have z2 : W2.heap.size = w.heap.size + 1 + 1 := by rw [← HW2.out, ← z1]; simp
  have hA2 := hA.since sw2
  have c10 : W2.cell? ⟨w.heap.size, 10, none⟩ = some (.slice va (m.s 10).length vc) := rm2.cell (i := 10) (by decide)
  have HCP := hide (copy_any va (m.s 10).length vc _ W2 (by have := hA.len 10; omega) hA2.val)
  have HS2 := hide sw2
  have HR2 := hide r2
  have HRM := hide rm2
  have Hz2 := hide z2
  have HA := hide hA
  unfold mgZ at HW2
  clear s1 r1 s2 r2 rm2 sw2 z2 hA hA2
  unfold mgV
  rw [HMM.out]
  clear HMM
  go_enter Try.func17, Try.ntmps17
  go_upto_region 1 with fail
  rw [HW1.out]
  try rw [z1]
  rw [HW2.out]
  try rw [z1]
  clear HW1 HW2 z1
  refine wp_region_lit ?_
  refine wpList_plain rfl fun _ hK => op_run (.pointer (some ⟨w.heap.size, 10, none⟩)) (by kernel_rfl) (hK _ _ ?_)
  simp only [Act.put, List.setIfInBounds_toArray, List.set_cons_zero, List.set_cons_succ]
  refine wpList_plain rfl fun _ hK => op_run (.slice va (m.s 10).length vc) (by go_simp) (hK _ _ ?_)
  simp only [Act.put, List.setIfInBounds_toArray, List.set_cons_zero, List.set_cons_succ]
  refine wpList_plain rfl fun _ hK => op_call 8 #[.slice va (m.s 10).length vc] (by kernel_rfl) HCP.out ?_
  rintro e w3 ⟨rfl, hs3, hz3, hr3⟩
  refine ⟨_, rfl, hK _ _ ?_⟩
  clear hK
  simp only [Act.put, List.setIfInBounds_toArray, List.set_cons_zero, List.set_cons_succ]
  refine wpList_plain rfl fun _ hK => op_run (.pointer (some ⟨w.heap.size, 10, none⟩)) (by kernel_rfl) (hK _ _ ?_)
  simp only [Act.put, List.setIfInBounds_toArray, List.set_cons_zero, List.set_cons_succ]
  have r3 := row_since HRM.out hs3
  refine wpList_plain rfl fun _ hK => wp_store_cell 25 (.tmp 6) (.tmp 5) rfl w.heap.size 10 (.slice (some ⟨W2.heap.size, 0, none⟩) (m.s 10).length (m.s 10).length) _ rfl rfl (r3.cell (i := 10) (by decide)) (r3.frozen 10) (by kernel_rfl) rfl (hK _ _ ?_)
  simp only [Act.put]
  have hz2 := Hz2.out
  have r4 : (w3.setCell ⟨w.heap.size, 10, none⟩ (.slice (some ⟨W2.heap.size, 0, none⟩) (m.s 10).length (m.s 10).length)).rowIs w.heap.size 41 22 (mgCell m (some ⟨W2.heap.size, 0, none⟩) (m.s 10).length) := (row_setV r3 (m.s 10) (some ⟨W2.heap.size, 0, none⟩) (m.s 10).length).congr (fun i hi => by
    have e : m.setS 10 (m.s 10) = m := Mg.ext' (fun _ => rfl) (fun c => by
      show (if c = 10 then m.s 10 else m.s c) = m.s c
      by_cases e : c = 10
      · rw [if_pos e, e]
      · rw [if_neg e])
    rw [e])
  have b4 : But w.heap.size w3 (w3.setCell ⟨w.heap.size, 10, none⟩ (.slice (some ⟨W2.heap.size, 0, none⟩) (m.s 10).length (m.s 10).length)) := (But.of_since (World.Since.refl _ _)).setCell 10 _
  generalize w3.setCell ⟨w.heap.size, 10, none⟩ (.slice (some ⟨W2.heap.size, 0, none⟩) (m.s 10).length (m.s 10).length) = w4 at *
  have sw3 : w.Since w.heap.size w3 := HS2.out.trans (since_mono hs3 HS2.out.size)
  have sw4 : w.Since w.heap.size w4 := b4.since sw3 (Nat.le_refl _) sw3.size
  have ro4 := b4.row (row_since HR2.out hs3) (by omega)
  obtain ⟨WE, HWE, rE, hhE, zE, bE, oE, tE, pE⟩ := mg_stored ro4 m (some ⟨W2.heap.size, 0, none⟩) (m.s 10).length
  have hg3 : w3.rowIs W2.heap.size 5 (m.s 10).length (fun j => .int .u8 ((m.s 10).getD j 0 : Nat)) := hr3
  have hgE : WE.rowIs W2.heap.size 5 (m.s 10).length (fun j => .int .u8 ((m.s 10).getD j 0 : Nat)) := (b4.row hg3 (by omega)).of_block (bE _ (by omega))
  have HE : Hid (MgA WE m (some ⟨W2.heap.size, 0, none⟩) (m.s 10).length ∧ w.Since w.heap.size WE ∧ w.heap.size ≤ W2.heap.size) := by
    refine ⟨⟨fun j hj => ⟨_, _, rfl, by rw [Nat.zero_add]; exact hgE.cell hj⟩, (fun e => by cases e), fun q e _ => ?_, HA.out.len, HA.out.byte⟩, ⟨oE.trans sw4.os, tE.trans sw4.tape, pE.trans sw4.output, by rw [zE]; exact sw4.size, fun k hk => (bE k (by omega)).trans (sw4.block k hk)⟩, by omega⟩
    have := Option.some.inj e
    subst this
    exact hgE.lt
  obtain ⟨ML, HML⟩ : ∃ x, Hid ((mgL m (some ⟨W2.heap.size, 0, none⟩) (m.s 10).length).toArray = x) := ⟨_, rfl⟩
  have HIN : Hid ((Try.prog.info? 41).map (·.size) = some ML.size) := by rw [← HML.out]; exact infoMgA _ _ _
  have HAL : Hid (ML.all (·.oneCell') = true) := by rw [← HML.out]; exact mg_all _ _ _
  have HH4 : Hid (w4.heap[w.heap.size]? = some (.cells ML 41 (0, 0))) := by rw [← HML.out]; exact row_heap r4
  have HTE : Hid (w4.there (w.heap.size + 1) 0 ML.size) := by
    have e : ML.size = 22 := by rw [← HML.out, List.size_toArray, mgL_len]
    show World.there _ _ _ _
    rw [e]
    exact row_there ro4
  have HWE' : Hid (w4.setCells (w.heap.size + 1) 0 ML.toList = WE) := by
    rw [← HML.out]
    exact HWE
  have HHE : Hid (WE.heap[w.heap.size + 1]? = some (.cells ML 41 (0, 0))) := by rw [← HML.out]; exact hhE
  clear r3 r4 b4 sw3 sw4 ro4 rE hhE zE bE oE tE pE hg3 hgE hr3 hz3 hs3 c10 HCP hz2
  go_upto_region 2 with fail
  refine wp_region_lit ?_
  refine wpList_load_row rfl 41 (.tmp 1) rfl w.heap.size rfl _ ML (0, 0) _ HH4.out Try.underlying41 rfl HIN.out ?_
  simp only [Act.put, List.setIfInBounds_toArray, List.set_cons_zero, List.set_cons_succ]
  refine wpList_store_mid rfl 41 (.tmp 2) (.tmp 7) rfl (w.heap.size + 1) 0 ML rfl rfl HTE.out HIN.out HAL.out ?_
  rw [HWE'.out]
  go_wp2_with fail
  exact bodyPost_ret_by (results_cell_row rfl _ _ (w.heap.size + 1) 41 _ (0, 0) _ rfl HHE.out Try.underlying41 rfl HIN.out) rfl ⟨_, congrArg (fun x => Ending.returned (.agg x)) HML.out.symm, HE.out⟩
/-- How two tags stand, by the document. -/
def ctM (a b c d : Nat) : Int := if a < c ∨ (a = c ∧ b < d) then -1 else if a = c ∧ b = d then 0 else 1
set_option maxHeartbeats 4000000 in
theorem cmpTag_any (a b c d : Nat) (w : World) : Calls Try.prog 30 #[.agg #[.int .u64 (a : Nat), .int .u64 (b : Nat)], .agg #[.int .u64 (c : Nat), .int .u64 (d : Nat)]] w fun e w' => e = .returned (.int .i64 (ctM a b c d)) ∧ w.Since w.heap.size w' := by
  obtain ⟨W1, HW1⟩ : ∃ W, Hid (w.alloc (.cells #[.int .u64 (a : Nat), .int .u64 (b : Nat)] 24) = W) := ⟨_, rfl⟩
  have s1 : w.Since w.heap.size W1 := by rw [← HW1.out]; exact (World.Since.refl _ _).alloc (Nat.le_refl _) _
  have z1 : W1.heap.size = w.heap.size + 1 := by rw [← HW1.out]; simp
  have a0 : W1.cell? ⟨w.heap.size, 0, none⟩ = some (.int .u64 (a : Nat)) := by rw [← HW1.out]; simp
  have a1 : W1.cell? ⟨w.heap.size, 1, none⟩ = some (.int .u64 (b : Nat)) := by rw [← HW1.out]; simp
  obtain ⟨W2, HW2⟩ : ∃ W, Hid (W1.alloc (.cells #[.int .u64 (c : Nat), .int .u64 (d : Nat)] 24) = W) := ⟨_, rfl⟩
  have s2 : W1.Since W1.heap.size W2 := by rw [← HW2.out]; exact (World.Since.refl _ _).alloc (Nat.le_refl _) _
  have b0 : W2.cell? ⟨w.heap.size + 1, 0, none⟩ = some (.int .u64 (c : Nat)) := by rw [← z1, ← HW2.out]; simp
  have b1 : W2.cell? ⟨w.heap.size + 1, 1, none⟩ = some (.int .u64 (d : Nat)) := by rw [← z1, ← HW2.out]; simp
  replace a0 := cell_later s2 a0
  replace a1 := cell_later s2 a1
  have HS : Hid (w.Since w.heap.size W2) := s1.trans (since_mono s2 s1.size)
  clear s1 s2
  rcases (show a < c ∨ (a = c ∧ b < d) ∨ (a = c ∧ b = d) ∨ (a = c ∧ d < b) ∨ c < a by omega) with p | p | p | p | p
  · skip
    have HE : ctM a b c d = -1 := by unfold ctM; rw [if_pos (by omega)]
    rw [HE]
    have q1 : (a : Int) < (c : Int) := by omega
    have q2 : decide ((a : Int) < (c : Int)) = true := by simp; omega
    clear HE p
    go_enter Try.func30, Try.ntmps30
    go_upto_region 1 with fail
    rw [HW1.out]
    try rw [z1]
    rw [HW2.out]
    try rw [z1]
    clear HW1 HW2 z1
    go_wp2_with fail
    go_ret
    exact ⟨rfl, HS.out⟩
  · skip
    have HE : ctM a b c d = -1 := by unfold ctM; rw [if_pos (by omega)]
    rw [HE]
    have q1 : ¬ ((a : Int) < (c : Int)) := by omega
    have q2 : decide ((a : Int) < (c : Int)) = false := by simp; omega
    have q3 : ((a : Int) == (c : Int)) = true := by simp; omega
    have q4 : (b : Int) < (d : Int) := by omega
    have q5 : decide ((b : Int) < (d : Int)) = true := by simp; omega
    clear HE p
    go_enter Try.func30, Try.ntmps30
    go_upto_region 1 with fail
    rw [HW1.out]
    try rw [z1]
    rw [HW2.out]
    try rw [z1]
    clear HW1 HW2 z1
    go_wp2_with fail
    go_ret
    exact ⟨rfl, HS.out⟩
  · skip
    have HE : ctM a b c d = 0 := by unfold ctM; rw [if_neg (by omega), if_pos (by omega)]
    rw [HE]
    have q1 : ¬ ((a : Int) < (c : Int)) := by omega
    have q2 : decide ((a : Int) < (c : Int)) = false := by simp; omega
    have q3 : ((a : Int) == (c : Int)) = true := by simp; omega
    have q4 : ¬ ((b : Int) < (d : Int)) := by omega
    have q5 : decide ((b : Int) < (d : Int)) = false := by simp; omega
    have q6 : ((b : Int) == (d : Int)) = true := by simp; omega
    clear HE p
    go_enter Try.func30, Try.ntmps30
    go_upto_region 1 with fail
    rw [HW1.out]
    try rw [z1]
    rw [HW2.out]
    try rw [z1]
    clear HW1 HW2 z1
    go_wp2_with fail
    go_ret
    exact ⟨rfl, HS.out⟩
  · skip
    have HE : ctM a b c d = 1 := by unfold ctM; rw [if_neg (by omega), if_neg (by omega)]
    rw [HE]
    have q1 : ¬ ((a : Int) < (c : Int)) := by omega
    have q2 : decide ((a : Int) < (c : Int)) = false := by simp; omega
    have q3 : ((a : Int) == (c : Int)) = true := by simp; omega
    have q4 : ¬ ((b : Int) < (d : Int)) := by omega
    have q5 : decide ((b : Int) < (d : Int)) = false := by simp; omega
    have q6 : ((b : Int) == (d : Int)) = false := by simp; omega
    clear HE p
    go_enter Try.func30, Try.ntmps30
    go_upto_region 1 with fail
    rw [HW1.out]
    try rw [z1]
    rw [HW2.out]
    try rw [z1]
    clear HW1 HW2 z1
    go_wp2_with fail
    go_ret
    exact ⟨rfl, HS.out⟩
  · skip
    have HE : ctM a b c d = 1 := by unfold ctM; rw [if_neg (by omega), if_neg (by omega)]
    rw [HE]
    have q1 : ¬ ((a : Int) < (c : Int)) := by omega
    have q2 : decide ((a : Int) < (c : Int)) = false := by simp; omega
    have q3 : ((a : Int) == (c : Int)) = false := by simp; omega
    clear HE p
    go_enter Try.func30, Try.ntmps30
    go_upto_region 1 with fail
    rw [HW1.out]
    try rw [z1]
    rw [HW2.out]
    try rw [z1]
    clear HW1 HW2 z1
    go_wp2_with fail
    go_ret
    exact ⟨rfl, HS.out⟩
end Go.Proofs.Yteneaiaejdgpcaa

/- Stage 9's laws: less, epoch; EqStored. -/
namespace Go.Proofs.Yteneaiaejdgpcaa
open Go.RowKit Go.Maps
set_option maxRecDepth 100000
set_option maxRecDepth 100000

theorem tag_box (w : World) (a b : Nat) : ∃ W, Hid (w.alloc (.cells #[.int .u64 (a : Nat), .int .u64 (b : Nat)] 24) = W) ∧ w.Since w.heap.size W ∧ W.heap.size = w.heap.size + 1 ∧ W.cell? ⟨w.heap.size, 0, none⟩ = some (.int .u64 (a : Nat)) ∧ W.cell? ⟨w.heap.size, 1, none⟩ = some (.int .u64 (b : Nat)) :=
  ⟨_, rfl, (World.Since.refl _ _).alloc (Nat.le_refl _) _, by simp, by simp, by simp⟩
theorem less_any (a b c d : Nat) (w : World) : Calls Try.prog 20 #[.agg #[.int .u64 (a : Nat), .int .u64 (b : Nat)], .agg #[.int .u64 (c : Nat), .int .u64 (d : Nat)]] w fun e w' => e = .returned (.bool (decide (ctM a b c d < 0))) ∧ w.Since w.heap.size w' := by
  obtain ⟨W1, HW1, s1, z1, a0, a1⟩ := tag_box w a b
  obtain ⟨W2, HW2, s2, z2, b0, b1⟩ := tag_box W1 c d
  rw [z1] at b0 b1
  replace a0 := cell_later s2 a0
  replace a1 := cell_later s2 a1
  have HC : Hid (Calls Try.prog 30 #[.agg #[.int .u64 (a : Nat), .int .u64 (b : Nat)], .agg #[.int .u64 (c : Nat), .int .u64 (d : Nat)]] W2 fun e w' => e = .returned (.int .i64 (ctM a b c d)) ∧ Hid (w.Since w.heap.size w')) := (cmpTag_any a b c d W2).mono fun e w' ⟨he, hs⟩ => ⟨he, (s1.trans (since_mono s2 s1.size)).trans (since_mono hs (s1.trans (since_mono s2 s1.size)).size)⟩
  generalize ctM a b c d = K at *
  clear s1 s2 z2
  go_enter Try.func20, Try.ntmps20
  go_upto_region 1 with fail
  rw [HW1.out]
  try rw [z1]
  rw [HW2.out]
  try rw [z1]
  clear HW1 HW2 z1
  go_wp2_with fail
  refine HC.out.mono ?_
  rintro e w3 ⟨rfl, H3⟩
  go_wp2_with fail
  go_ret
  exact ⟨rfl, H3.out⟩
/-- The epoch that a write or beat comes with. -/
def epM (m : Mg) : Int := if m.n 0 = 4 then m.n 5 else m.n 4
theorem epoch_any (m : Mg) (va : Option Addr) (vc : Nat) (w : World) : Calls Try.prog 25 #[mgV m va vc] w fun e w' => e = .returned (.int .u64 (epM m)) ∧ w.Since w.heap.size w' := by
  obtain ⟨MM, HMM⟩ : ∃ x, Hid ((mgL m va vc).toArray = x) := ⟨_, rfl⟩
  obtain ⟨W1, HW1⟩ : ∃ W, Hid (w.alloc (.cells MM 41) = W) := ⟨_, rfl⟩
  have s1 : w.Since w.heap.size W1 := by rw [← HW1.out]; exact (World.Since.refl _ _).alloc (Nat.le_refl _) _
  have r1 : W1.rowIs w.heap.size 41 22 (mgCell m va vc) := by rw [← HW1.out, ← HMM.out]; exact mg_row w m va vc
  have c0 : W1.cell? ⟨w.heap.size, 0, none⟩ = some (.int .i64 (m.n 0)) := r1.cell (i := 0) (by decide)
  have c4 : W1.cell? ⟨w.heap.size, 4, none⟩ = some (.int .u64 (m.n 4)) := r1.cell (i := 4) (by decide)
  have c5 : W1.cell? ⟨w.heap.size, 5, none⟩ = some (.int .u64 (m.n 5)) := r1.cell (i := 5) (by decide)
  have HS := hide s1
  unfold epM
  by_cases k : m.n 0 = 4
  · rw [if_pos k]
    have q : (m.n 0 == 4) = true := by simp [k]
    generalize m.n 0 = K at *
    generalize m.n 4 = E at *
    generalize m.n 5 = T at *
    clear s1 r1 k
    unfold mgV
    rw [HMM.out]
    go_enter Try.func25, Try.ntmps25
    go_upto_region 1 with fail
    rw [HW1.out]
    clear HW1 HMM
    go_wp2_with fail
    go_ret
    exact ⟨rfl, HS.out⟩
  · rw [if_neg k]
    have q : (m.n 0 == 4) = false := by simp [k]
    generalize m.n 0 = K at *
    generalize m.n 4 = E at *
    generalize m.n 5 = T at *
    clear s1 r1 k
    unfold mgV
    rw [HMM.out]
    go_enter Try.func25, Try.ntmps25
    go_upto_region 1 with fail
    rw [HW1.out]
    clear HW1 HMM
    go_wp2_with fail
    go_ret
    exact ⟨rfl, HS.out⟩
end Go.Proofs.Yteneaiaejdgpcaa

/- Stage 9's laws: lives. -/
namespace Go.Proofs.Yteneaiaejdgpcaa
open Go.RowKit Go.Maps
set_option maxRecDepth 100000
set_option maxRecDepth 100000

theorem wpList_want {P : Program} {ops : Array Oper} {rest : List Oper} {o : Oper} {a : Act} {w : World} {Q : Exit → Act → World → Prop} (hw : Region.wanted o (yielded ops a.tmps) = true)
    (h : ∀ K : Act → World → Prop, (∀ a' w', wpList P ops Q rest a' w' → K a' w') → Oper.wp P o a w K Q) : wpList P ops Q (o :: rest) a w :=
  wpList_step fun _ hK => by
    rw [if_pos hw]
    exact h _ hK
theorem op_convert {P : Program} {o : Oper} {a : Act} {w w' : World} {K : Act → World → Prop} {Q : Exit → Act → World → Prop} (t t' : TypeId) (x : Operand) (ho : o.op = .convert t t' x) (v v' : Value) (hx : a.eval x = v) (hr : (convert t t' v).run P w = .ok v' w') (h : K (a.put o.dst v') w') : Oper.wp P o a w K Q := by
  unfold Oper.wp
  simp [execOp, ho, hx, hr, Result.andThen]
  exact h
/-- The two messages of lives. -/
def lvP : Mg := ⟨fun c => if c = 0 then 1 else if c = 1 then 2 else if c = 2 then 1 else if c = 4 then 5 else 0, fun _ => []⟩
def lvW : Mg := ⟨fun c => if c = 0 then 4 else if c = 1 then 2 else if c = 2 then 1 else if c = 5 then 5 else if c = 6 then 1 else if c = 8 then 3 else 0, fun c => if c = 10 then [119] else []⟩
theorem lvP_v : mgV lvP none 0 = .agg #[.int .i64 1, .int .i64 2, .int .i64 1, .int .i64 0, .int .u64 5, .int .u64 0, .int .u64 0, .int .u64 0, .int .i64 0, .int .u64 0, .slice none 0 0, .int .i64 0, .int .u64 0, .string ⟨#[]⟩, .string ⟨#[]⟩, .int .u64 0, .int .u64 0, .int .u64 0, .int .i64 0, .int .i64 0, .int .i64 0, .int .i64 0] := rfl
theorem lvW_v (va : Option Addr) : mgV lvW va 1 = .agg #[.int .i64 4, .int .i64 2, .int .i64 1, .int .i64 0, .int .u64 0, .int .u64 5, .int .u64 1, .int .u64 0, .int .i64 3, .int .u64 0, .slice va 1 1, .int .i64 0, .int .u64 0, .string ⟨#[]⟩, .string ⟨#[]⟩, .int .u64 0, .int .u64 0, .int .u64 0, .int .i64 0, .int .i64 0, .int .i64 0, .int .i64 0] := rfl
theorem mgN_of {m : Mg} (h : ∀ c, 0 ≤ m.n c ∧ m.n c ≤ 5) : MgN m :=
  ⟨fun c _ => ⟨(h c).1, by have := (h c).2; omega⟩, fun c _ => ⟨by have := (h c).1; omega, by have := (h c).2; omega⟩⟩
theorem lvP_n : MgN lvP := mgN_of (fun c => by unfold lvP; dsimp only; (repeat' split) <;> omega)
theorem lvW_n : MgN lvW := mgN_of (fun c => by unfold lvW; dsimp only; (repeat' split) <;> omega)
theorem lvP_a (w : World) : MgA w lvP none 0 := ⟨fun j hj => absurd hj (Nat.not_lt_zero _), fun _ => ⟨rfl, rfl⟩, fun _ e => (by cases e), fun _ => Nat.zero_le _, fun _ v hv => absurd hv List.not_mem_nil⟩
theorem lvW_a {w : World} {g : Nat} (h : Byt w (some ⟨g, 0, none⟩) 1 (fun _ => 119)) : MgA w lvW (some ⟨g, 0, none⟩) 1 := by
  refine ⟨fun j hj => ?_, fun e => (by cases e), fun q e _ => ?_, fun c => ?_, fun c v hv => ?_⟩
  · have hj : j < 1 := hj
    obtain ⟨b, o, e, hc⟩ := h j hj
    refine ⟨b, o, e, ?_⟩
    have : j = 0 := by omega
    subst this
    exact hc
  · obtain ⟨b, o, e1, hc⟩ := h 0 (by decide)
    rw [e] at e1
    rw [Option.some.inj e1]
    exact World.block_lt_of_cell? _ _ hc
  · unfold lvW; dsimp only; split <;> simp
  · unfold lvW at hv; dsimp only at hv
    split at hv
    · simp at hv; omega
    · simp at hv
theorem lv_h1 : hearM ⟨0, 0, 0, [118], 0⟩ lvP = ⟨prG lvP 5 ⟨0, 0, 0, [118], 0⟩, true, false, true, ⟨5, 0, 0, [118], 0⟩⟩ := rfl
theorem lv_h2 : hearM ⟨5, 0, 0, [118], 0⟩ lvW = ⟨wrG lvW 5 1, true, true, true, ⟨5, 5, 1, [119], 3⟩⟩ := rfl
/-- The world behind a constant of one byte as a list. -/
def byteW (w : World) (b : Nat) : World := w.alloc (.cells #[.int .u8 (b : Nat)] 5 (1, 2))
theorem byteW_since (w : World) (b : Nat) : w.Since w.heap.size (byteW w b) := (World.Since.refl _ _).alloc (Nat.le_refl _) _
theorem byteW_size (w : World) (b : Nat) : (byteW w b).heap.size = w.heap.size + 1 := by unfold byteW; simp
theorem byteW_byt (w : World) (b : Nat) : Byt (byteW w b) (some ⟨w.heap.size, 0, none⟩) 1 (fun _ => b) := fun j hj => ⟨_, _, rfl, by
  have : j = 0 := by omega
  subst this
  unfold byteW
  rw [World.cell?_alloc_mark]
  rfl⟩
theorem conv_byte (w : World) (b : Nat) : (convert 25 25 (.slice (some ⟨w.heap.size, 0, none⟩) 1 1)).run Try.prog (w.alloc (.cells #[.int .u8 (b : Nat)] 5)) = .ok (.slice (some ⟨w.heap.size, 0, none⟩) 1 1) (byteW w b) :=
  Lib.run_convert_bytes_const (P := Try.prog) w 25 5 #[.int .u8 (b : Nat)] 1 1 Try.underlying25 Try.underlying5
theorem row_byt {w : World} {g n : Nat} {x : Nat → Nat} (h : w.rowIs g 5 n (fun j => .int .u8 (x j : Nat))) : Byt w (some ⟨g, 0, none⟩) n x := fun j hj => ⟨g, 0, rfl, by rw [Nat.zero_add]; exact h.cell hj⟩
/-- What Stored answers, laid into new memory. -/
theorem st_put (w : World) (vs : List Value) (hl : vs.length = 4) (h1 : vs.toArray.all (·.oneCell') = true) : ∃ (W : World) (SA : Array Value), Hid (vs.toArray = SA) ∧ Hid ((w.alloc (.cells #[.int .u64 0, .int .u64 0, .int .u64 0, .slice none 0 0] 27)).there w.heap.size 0 SA.size) ∧ Hid ((w.alloc (.cells #[.int .u64 0, .int .u64 0, .int .u64 0, .slice none 0 0] 27)).setCells w.heap.size 0 SA.toList = W) ∧ Hid ((Try.prog.info? 27).map (·.size) = some SA.size) ∧ Hid (SA.all (·.oneCell') = true) ∧ Hid (W.rowIs w.heap.size 27 4 (fun i => vs.getD i undef)) ∧ Hid (w.Since w.heap.size W) := by
  have r0 : (w.alloc (.cells #[.int .u64 0, .int .u64 0, .int .u64 0, .slice none 0 0] 27)).rowIs w.heap.size 27 4 (fun i => if i = 3 then .slice none 0 0 else .int .u64 0) :=
    World.rowIs_alloc w _ _ _ (fun i hi => by
      have hi' : i < 4 := hi
      match i, hi' with
      | 0, _ => rfl
      | 1, _ => rfl
      | 2, _ => rfl
      | 3, _ => rfl)
  obtain ⟨W, HW, h7, z7, b7, o7, t7, p7⟩ := cells_stored r0 vs hl
  have s6 : w.Since w.heap.size (w.alloc (.cells #[.int .u64 0, .int .u64 0, .int .u64 0, .slice none 0 0] 27)) := (World.Since.refl _ _).alloc (Nat.le_refl _) _
  have hz : vs.toArray.size = 4 := by rw [List.size_toArray, hl]
  refine ⟨W, vs.toArray, rfl, ?_, HW, by rw [hz]; exact infoSt, h1, ⟨vs.toArray, h7, hz, fun i hi => ?_⟩, o7.trans s6.os, t7.trans s6.tape, p7.trans s6.output, by rw [z7]; exact s6.size, fun k hk => (b7 k (by omega)).trans (s6.block k hk)⟩
  · show World.there _ _ _ _
    rw [hz]
    exact row_there r0
  · rw [List.getElem?_toArray]
    simp [List.getD, show i < vs.length by omega]
/-- What lives has in memory. -/
structure Lv (hb wb sb rb : Nat) (ga : Option Addr) (gc sg sc : Nat) (W : World) : Prop where
  h : W.rowIs hb 46 25 (hdCell (prG lvP 5 ⟨0, 0, 0, [118], 0⟩) ga gc true false true)
  w : ∃ xa xc, W.rowIs wb 46 25 (hdCell (wrG lvW 5 1) xa xc true true true)
  s : W.rowIs sb 27 4 (fun i => [.int .u64 (5 : Nat), .int .u64 (5 : Nat), .int .u64 (1 : Nat), .slice (some ⟨sg, 0, none⟩) 1 sc].getD i undef)
  hv : Byt W ga 1 (fun _ => 118)
  sv : Byt W (some ⟨sg, 0, none⟩) 1 (fun _ => 119)
  rp : RpIs W rb ⟨5, 5, 1, [119], 3⟩
theorem Lv.since {hb wb sb rb : Nat} {ga : Option Addr} {gc sg sc : Nat} {W W' : World} (h : Lv hb wb sb rb ga gc sg sc W) (hs : W.Since W.heap.size W') : Lv hb wb sb rb ga gc sg sc W' :=
  ⟨row_since h.h hs, by obtain ⟨a, c, q⟩ := h.w; exact ⟨a, c, row_since q hs⟩, row_since h.s hs, h.hv.since hs, h.sv.since hs, h.rp.since hs⟩
set_option maxHeartbeats 8000000 in
theorem lives_any (w : World) : Calls Try.prog 9 #[] w fun e w' => e = .returned (.bool true) ∧ w.Since w.heap.size w' := by
  have s1 := byteW_since w 118
  have HNW : Hid (Calls Try.prog 19 #[.slice (some ⟨w.heap.size, 0, none⟩) 1 1] (byteW w 118) fun e w' => ∃ rb, e = .returned (.pointer (some ⟨rb, 0, none⟩)) ∧ Hid (w.heap.size < rb) ∧ Hid (RpIs w' rb ⟨0, 0, 0, [118], 0⟩) ∧ Hid (w.Since w.heap.size w')) := (new_any (some ⟨w.heap.size, 0, none⟩) 1 1 (fun _ => 118) _ (byteW_byt w 118) (fun _ => by decide) (fun e => by cases e) (by decide)).mono fun e w' ⟨rb, he, h1, h2, h3⟩ => ⟨rb, he, by
    have := byteW_size w 118
    show w.heap.size < rb
    omega, h2, s1.trans (since_mono h3 s1.size)⟩
  clear s1
  go_enter Try.func9, Try.ntmps9
  go_upto_region 1 with fail
  refine wp_region_lit ?_
  refine wpList_plain rfl fun _ hK => op_runW (w' := w.alloc (.cells #[.int .u8 (118 : Nat)] 5)) (.slice (some ⟨w.heap.size, 0, none⟩) 1 1) (by go_simp) (hK _ _ ?_)
  simp only [Act.put, List.setIfInBounds_toArray, List.set_cons_zero, List.set_cons_succ]
  refine wpList_plain rfl fun _ hK => op_convert _ _ _ rfl _ _ rfl (conv_byte w 118) (hK _ _ ?_)
  simp only [Act.put, List.setIfInBounds_toArray, List.set_cons_zero, List.set_cons_succ]
  refine wpList_plain rfl fun _ hK => op_call 19 #[.slice (some ⟨w.heap.size, 0, none⟩) 1 1] (by kernel_rfl) HNW.out ?_
  rintro e w1 ⟨rb, rfl, HB, HR1, HS1⟩
  refine ⟨_, rfl, hK _ _ ?_⟩
  clear hK
  simp only [Act.put, List.setIfInBounds_toArray, List.set_cons_zero, List.set_cons_succ]
  have HP := hide (hear_any HR1.out lvP none 0 (lvP_a w1) lvP_n)
  rw [lv_h1] at HP
  have HP2 : Hid (Calls Try.prog 13 #[.pointer (some ⟨rb, 0, none⟩), mgV lvP none 0] w1 fun e w' => ∃ ga gc, e = .returned (hdV (prG lvP 5 ⟨0, 0, 0, [118], 0⟩) ga gc true false true) ∧ Hid (RpIs w' rb ⟨5, 0, 0, [118], 0⟩) ∧ Hid (w.Since w.heap.size w') ∧ Hid (Byt w' ga 1 (fun _ => 118))) := HP.out.mono fun e w' ⟨ga, gc, he, h1, h2, h3⟩ => ⟨ga, gc, he, h1, h2.since HS1.out (by have := HB.out; omega) HS1.out.size, by
    rcases h3 with ⟨_, _, h3⟩ | ⟨g, rfl, h4, h5⟩
    · exact absurd h3 (by decide)
    · intro j hj
      obtain ⟨b, o, e, hc⟩ := h5.byt j hj
      refine ⟨b, o, e, hc.trans ?_⟩
      have : j = 0 := by omega
      subst this
      rfl⟩
  clear HP HR1 HNW HS1
  go_upto_region 4 with fail
  refine wp_region_lit ?_
  refine wpList_plain rfl fun _ hK => op_run (.pointer (some ⟨rb, 0, none⟩)) (by kernel_rfl) (hK _ _ ?_)
  simp only [Act.put, List.setIfInBounds_toArray, List.set_cons_zero, List.set_cons_succ]
  refine wpList_plain rfl fun _ hK => op_run (.agg #[.int .i64 1, .int .i64 2, .int .i64 1, .int .i64 0]) (by kernel_rfl) (hK _ _ ?_)
  simp only [Act.put, List.setIfInBounds_toArray, List.set_cons_zero, List.set_cons_succ]
  refine wpList_plain rfl fun _ hK => op_run (mgV lvP none 0) (by kernel_rfl) (hK _ _ ?_)
  simp only [Act.put, List.setIfInBounds_toArray, List.set_cons_zero, List.set_cons_succ]
  refine wpList_plain rfl fun _ hK => op_call 13 #[.pointer (some ⟨rb, 0, none⟩), mgV lvP none 0] (by kernel_rfl) HP2.out ?_
  rintro e w2 ⟨ga, gc, rfl, HR2, HS2, HV2⟩
  refine ⟨_, rfl, hK _ _ ?_⟩
  clear hK HP2
  obtain ⟨W3, HA3, HVv3, HT3, HW3, HI3, HO3, HRo3, HSi3⟩ := hd_put w2 (prG lvP 5 ⟨0, 0, 0, [118], 0⟩) ga gc true false true
  rw [HVv3.out]
  simp only [Act.put, List.setIfInBounds_toArray, List.set_cons_zero, List.set_cons_succ]
  go_upto_region 5 with (refine wpList_store_mid rfl 46 _ _ rfl w2.heap.size 0 _ rfl rfl HT3.out HI3.out HO3.out ?_; rw [HW3.out])
  have s3 : w.Since w.heap.size W3 := HS2.out.trans (since_mono HSi3.out HS2.out.size)
  have s4 := byteW_since W3 119
  have b4 := byteW_byt W3 119
  have HQ := hide (hear_any ((HR2.out.since HSi3.out).since s4) lvW (some ⟨W3.heap.size, 0, none⟩) 1 (lvW_a b4) lvW_n)
  rw [lv_h2] at HQ
  have HQ2 : Hid (Calls Try.prog 13 #[.pointer (some ⟨rb, 0, none⟩), mgV lvW (some ⟨W3.heap.size, 0, none⟩) 1] (byteW W3 119) fun e w' => ∃ xa xc, e = .returned (hdV (wrG lvW 5 1) xa xc true true true) ∧ Hid (RpIs w' rb ⟨5, 5, 1, [119], 3⟩) ∧ Hid (w.Since w.heap.size w') ∧ Hid (Byt w' ga 1 (fun _ => 118)) ∧ Hid (w'.rowIs w2.heap.size 46 25 (hdCell (prG lvP 5 ⟨0, 0, 0, [118], 0⟩) ga gc true false true))) := HQ.out.mono fun e w' ⟨xa, xc, he, h1, h2, _⟩ => ⟨xa, xc, he, h1, h2.since (s3.trans (since_mono s4 s3.size)) (by have := HB.out; omega) (by have := s3.size; have := s4.size; omega), byt_but ((HV2.out.since HSi3.out).since s4) ((HR2.out.since HSi3.out).since s4) h2, h2.row (row_since HRo3.out s4) (by have := HR2.out.lt; omega)⟩
  clear HQ s3 s4 b4 HSi3 HT3 HW3 HI3 HO3 HVv3 HRo3
  refine wp_region_lit ?_
  refine wpList_plain rfl fun _ hK => op_run (.pointer (some ⟨rb, 0, none⟩)) (by kernel_rfl) (hK _ _ ?_)
  simp only [Act.put, List.setIfInBounds_toArray, List.set_cons_zero, List.set_cons_succ]
  refine wpList_plain rfl fun _ hK => op_run (.agg #[.int .i64 4, .int .i64 2, .int .i64 1, .int .i64 0]) (by kernel_rfl) (hK _ _ ?_)
  simp only [Act.put, List.setIfInBounds_toArray, List.set_cons_zero, List.set_cons_succ]
  refine wpList_plain rfl fun _ hK => op_run (.agg #[.int .u64 5, .int .u64 1]) (by kernel_rfl) (hK _ _ ?_)
  simp only [Act.put, List.setIfInBounds_toArray, List.set_cons_zero, List.set_cons_succ]
  refine wpList_plain rfl fun _ hK => op_runW (w' := W3.alloc (.cells #[.int .u8 (119 : Nat)] 5)) (.slice (some ⟨W3.heap.size, 0, none⟩) 1 1) (by go_simp) (hK _ _ ?_)
  simp only [Act.put, List.setIfInBounds_toArray, List.set_cons_zero, List.set_cons_succ]
  refine wpList_plain rfl fun _ hK => op_convert _ _ _ rfl _ _ rfl (conv_byte W3 119) (hK _ _ ?_)
  simp only [Act.put, List.setIfInBounds_toArray, List.set_cons_zero, List.set_cons_succ]
  refine wpList_plain rfl fun _ hK => op_run (mgV lvW (some ⟨W3.heap.size, 0, none⟩) 1) (by rw [lvW_v]; kernel_rfl) (hK _ _ ?_)
  simp only [Act.put, List.setIfInBounds_toArray, List.set_cons_zero, List.set_cons_succ]
  refine wpList_plain rfl fun _ hK => op_call 13 #[.pointer (some ⟨rb, 0, none⟩), mgV lvW (some ⟨W3.heap.size, 0, none⟩) 1] (by kernel_rfl) HQ2.out ?_
  rintro e w5 ⟨xa, xc, rfl, HR5, HS5, HV5, HH5⟩
  refine ⟨_, rfl, hK _ _ ?_⟩
  clear hK HQ2 HR2 HS2 HV2
  obtain ⟨W6, HA6, HVv6, HT6, HW6, HI6, HO6, HRo6, HSi6⟩ := hd_put w5 (wrG lvW 5 1) xa xc true true true
  rw [HVv6.out]
  simp only [Act.put, List.setIfInBounds_toArray, List.set_cons_zero, List.set_cons_succ]
  go_upto_region 6 with (refine wpList_store_mid rfl 46 _ _ rfl w5.heap.size 0 _ rfl rfl HT6.out HI6.out HO6.out ?_; rw [HW6.out])
  have HST := hide (stored_any (HR5.out.since HSi6.out))
  refine wp_region_lit ?_
  refine wpList_plain rfl fun _ hK => op_run (.pointer (some ⟨rb, 0, none⟩)) (by kernel_rfl) (hK _ _ ?_)
  simp only [Act.put, List.setIfInBounds_toArray, List.set_cons_zero, List.set_cons_succ]
  refine wpList_plain rfl fun _ hK => op_call 10 #[.pointer (some ⟨rb, 0, none⟩)] (by kernel_rfl) HST.out ?_
  rintro e w7 ⟨sg, sc, rfl, hsg, hsc, hsv, hs7⟩
  refine ⟨_, rfl, hK _ _ ?_⟩
  clear hK HST
  obtain ⟨W8, SA, HSA, HT8, HW8, HI8, HO8, HRo8, HSi8⟩ := st_put w7 [.int .u64 (5 : Nat), .int .u64 (5 : Nat), .int .u64 (1 : Nat), .slice (some ⟨sg, 0, none⟩) 1 sc] rfl (by simp [Value.oneCell'])
  rw [show stV ⟨5, 5, 1, [119], 3⟩ sg sc = .agg SA from congrArg Value.agg HSA.out]
  simp only [Act.put, List.setIfInBounds_toArray, List.set_cons_zero, List.set_cons_succ]
  have s68 : W6.Since W6.heap.size W8 := hs7.trans (since_mono HSi8.out hs7.size)
  have s58 : w5.Since w5.heap.size W8 := HSi6.out.trans (since_mono s68 HSi6.out.size)
  have HL8 : Hid (Lv w2.heap.size w5.heap.size w7.heap.size rb ga gc sg sc W8) := ⟨row_since HH5.out s58, ⟨xa, xc, row_since HRo6.out s68⟩, HRo8.out, HV5.out.since s58, fun j hj => by
    obtain ⟨b, o, e, hc⟩ := (hsv.since HSi8.out) j hj
    refine ⟨b, o, e, hc.trans ?_⟩
    have : j = 0 := by omega
    subst this
    rfl, HR5.out.since s58⟩
  have HE8 : Hid (w.Since w.heap.size W8) := HS5.out.trans (since_mono s58 HS5.out.size)
  go_upto_region 7 with (refine wpList_store_mid rfl 27 _ _ rfl w7.heap.size 0 _ rfl rfl HT8.out HI8.out HO8.out ?_; rw [HW8.out])
  clear s68 s58 hsg hsc hsv hs7 HR5 HS5 HV5 HH5 HVv6 HT6 HW6 HI6 HO6 HRo6 HSi6 HSA HT8 HW8 HI8 HO8 HRo8 HSi8 HB
  generalize w2.heap.size = hb at *
  generalize w5.heap.size = wb at *
  generalize w7.heap.size = sb at *
  refine wp_region_lit ?_
  refine wpList_plain rfl fun _ hK => op_run (.pointer (some ⟨hb, 22, none⟩)) (by first | kernel_rfl | go_simp) (hK _ _ ?_)
  simp only [Act.put, List.setIfInBounds_toArray, List.set_cons_zero, List.set_cons_succ]
  refine wpList_plain rfl fun _ hK => op_run (.bool true) (by have c : W8.cell? ⟨hb, 22, none⟩ = some (.bool true) := HL8.out.h.cell (i := 22) (by decide); go_simp) (hK _ _ ?_)
  simp only [Act.put, List.setIfInBounds_toArray, List.set_cons_zero, List.set_cons_succ]
  refine wpList_plain rfl fun _ hK => op_run (.bool true) (by first | kernel_rfl | go_simp) (hK _ _ ?_)
  simp only [Act.put, List.setIfInBounds_toArray, List.set_cons_zero, List.set_cons_succ]
  refine wpList_want rfl fun _ hK => op_run (.pointer (some ⟨hb, 0, none⟩)) (by first | kernel_rfl | go_simp) (hK _ _ ?_)
  simp only [Act.put, List.setIfInBounds_toArray, List.set_cons_zero, List.set_cons_succ]
  refine wpList_want rfl fun _ hK => op_run (.pointer (some ⟨hb, 0, none⟩)) (by first | kernel_rfl | go_simp) (hK _ _ ?_)
  simp only [Act.put, List.setIfInBounds_toArray, List.set_cons_zero, List.set_cons_succ]
  refine wpList_want rfl fun _ hK => op_run (.pointer (some ⟨hb, 0, none⟩)) (by first | kernel_rfl | go_simp) (hK _ _ ?_)
  simp only [Act.put, List.setIfInBounds_toArray, List.set_cons_zero, List.set_cons_succ]
  refine wpList_want rfl fun _ hK => op_run (.int .i64 2) (by have c : W8.cell? ⟨hb, 0, none⟩ = some (.int .i64 2) := HL8.out.h.cell (i := 0) (by decide); go_simp) (hK _ _ ?_)
  simp only [Act.put, List.setIfInBounds_toArray, List.set_cons_zero, List.set_cons_succ]
  refine wpList_want rfl fun _ hK => op_run (.bool true) (by first | kernel_rfl | go_simp) (hK _ _ ?_)
  simp only [Act.put, List.setIfInBounds_toArray, List.set_cons_zero, List.set_cons_succ]
  refine wpList_plain rfl fun _ hK => op_run (.bool true) (by first | kernel_rfl | go_simp) (hK _ _ ?_)
  simp only [Act.put, List.setIfInBounds_toArray, List.set_cons_zero, List.set_cons_succ]
  refine wpList_plain rfl fun _ hK => op_run (.bool true) (by first | kernel_rfl | go_simp) (hK _ _ ?_)
  simp only [Act.put, List.setIfInBounds_toArray, List.set_cons_zero, List.set_cons_succ]
  refine wpList_want rfl fun _ hK => op_run (.pointer (some ⟨hb, 0, none⟩)) (by first | kernel_rfl | go_simp) (hK _ _ ?_)
  simp only [Act.put, List.setIfInBounds_toArray, List.set_cons_zero, List.set_cons_succ]
  refine wpList_want rfl fun _ hK => op_run (.pointer (some ⟨hb, 10, none⟩)) (by first | kernel_rfl | go_simp) (hK _ _ ?_)
  simp only [Act.put, List.setIfInBounds_toArray, List.set_cons_zero, List.set_cons_succ]
  refine wpList_want rfl fun _ hK => op_run (.slice ga 1 gc) (by have c : W8.cell? ⟨hb, 10, none⟩ = some (.slice ga 1 gc) := HL8.out.h.cell (i := 10) (by decide); go_simp) (hK _ _ ?_)
  simp only [Act.put, List.setIfInBounds_toArray, List.set_cons_zero, List.set_cons_succ]
  have sw9 := byteW_since W8 118
  have HEQw9 : Hid (Calls Try.prog 24 #[.slice ga 1 gc, .slice (some ⟨W8.heap.size, 0, none⟩) 1 1] (byteW W8 118) fun e w' => e = .returned (.bool true) ∧ Hid (W8.Since W8.heap.size w')) := (eq_same _ _ 1 _ 1 (fun _ => 118) _ (HL8.out.hv.since sw9) (byteW_byt W8 118) (by decide)).mono fun e w' ⟨he, m, hm⟩ => ⟨he, by rw [hm]; exact since_drewN' sw9 m⟩
  refine wpList_want rfl fun _ hK => op_runW (w' := W8.alloc (.cells #[.int .u8 (118 : Nat)] 5)) (.slice (some ⟨W8.heap.size, 0, none⟩) 1 1) (by go_simp) (hK _ _ ?_)
  simp only [Act.put, List.setIfInBounds_toArray, List.set_cons_zero, List.set_cons_succ]
  refine wpList_want rfl fun _ hK => op_convert _ _ _ rfl _ _ rfl (conv_byte W8 118) (hK _ _ ?_)
  simp only [Act.put, List.setIfInBounds_toArray, List.set_cons_zero, List.set_cons_succ]
  refine wpList_want rfl fun _ hK => op_call 24 #[.slice ga 1 gc, .slice (some ⟨W8.heap.size, 0, none⟩) 1 1] (by kernel_rfl) HEQw9.out ?_
  rintro e w9 ⟨rfl, Hsw9⟩
  refine ⟨_, rfl, hK _ _ ?_⟩
  clear hK HEQw9 sw9
  simp only [Act.put, List.setIfInBounds_toArray, List.set_cons_zero, List.set_cons_succ]
  have HL9 := hide (HL8.out.since Hsw9.out)
  have HE9 : Hid (w.Since w.heap.size w9) := HE8.out.trans (since_mono Hsw9.out HE8.out.size)
  obtain ⟨xa', xc', hw9⟩ := HL9.out.w
  have HW9 := hide hw9
  clear hw9 HL8 HE8
  refine wpList_plain rfl fun _ hK => op_run (.bool true) (by first | kernel_rfl | go_simp) (hK _ _ ?_)
  simp only [Act.put, List.setIfInBounds_toArray, List.set_cons_zero, List.set_cons_succ]
  refine wpList_plain rfl fun _ hK => op_run (.bool true) (by first | kernel_rfl | go_simp) (hK _ _ ?_)
  simp only [Act.put, List.setIfInBounds_toArray, List.set_cons_zero, List.set_cons_succ]
  refine wpList_want rfl fun _ hK => op_run (.pointer (some ⟨wb, 23, none⟩)) (by first | kernel_rfl | go_simp) (hK _ _ ?_)
  simp only [Act.put, List.setIfInBounds_toArray, List.set_cons_zero, List.set_cons_succ]
  refine wpList_want rfl fun _ hK => op_run (.bool true) (by have c : w9.cell? ⟨wb, 23, none⟩ = some (.bool true) := HW9.out.cell (i := 23) (by decide); go_simp) (hK _ _ ?_)
  simp only [Act.put, List.setIfInBounds_toArray, List.set_cons_zero, List.set_cons_succ]
  refine wpList_plain rfl fun _ hK => op_run (.bool true) (by first | kernel_rfl | go_simp) (hK _ _ ?_)
  simp only [Act.put, List.setIfInBounds_toArray, List.set_cons_zero, List.set_cons_succ]
  refine wpList_plain rfl fun _ hK => op_run (.bool true) (by first | kernel_rfl | go_simp) (hK _ _ ?_)
  simp only [Act.put, List.setIfInBounds_toArray, List.set_cons_zero, List.set_cons_succ]
  refine wpList_want rfl fun _ hK => op_run (.pointer (some ⟨wb, 24, none⟩)) (by first | kernel_rfl | go_simp) (hK _ _ ?_)
  simp only [Act.put, List.setIfInBounds_toArray, List.set_cons_zero, List.set_cons_succ]
  refine wpList_want rfl fun _ hK => op_run (.bool true) (by have c : w9.cell? ⟨wb, 24, none⟩ = some (.bool true) := HW9.out.cell (i := 24) (by decide); go_simp) (hK _ _ ?_)
  simp only [Act.put, List.setIfInBounds_toArray, List.set_cons_zero, List.set_cons_succ]
  refine wpList_plain rfl fun _ hK => op_run (.bool true) (by first | kernel_rfl | go_simp) (hK _ _ ?_)
  simp only [Act.put, List.setIfInBounds_toArray, List.set_cons_zero, List.set_cons_succ]
  refine wpList_plain rfl fun _ hK => op_run (.bool true) (by first | kernel_rfl | go_simp) (hK _ _ ?_)
  simp only [Act.put, List.setIfInBounds_toArray, List.set_cons_zero, List.set_cons_succ]
  refine wpList_want rfl fun _ hK => op_run (.pointer (some ⟨wb, 0, none⟩)) (by first | kernel_rfl | go_simp) (hK _ _ ?_)
  simp only [Act.put, List.setIfInBounds_toArray, List.set_cons_zero, List.set_cons_succ]
  refine wpList_want rfl fun _ hK => op_run (.pointer (some ⟨wb, 0, none⟩)) (by first | kernel_rfl | go_simp) (hK _ _ ?_)
  simp only [Act.put, List.setIfInBounds_toArray, List.set_cons_zero, List.set_cons_succ]
  refine wpList_want rfl fun _ hK => op_run (.pointer (some ⟨wb, 0, none⟩)) (by first | kernel_rfl | go_simp) (hK _ _ ?_)
  simp only [Act.put, List.setIfInBounds_toArray, List.set_cons_zero, List.set_cons_succ]
  refine wpList_want rfl fun _ hK => op_run (.int .i64 5) (by have c : w9.cell? ⟨wb, 0, none⟩ = some (.int .i64 5) := HW9.out.cell (i := 0) (by decide); go_simp) (hK _ _ ?_)
  simp only [Act.put, List.setIfInBounds_toArray, List.set_cons_zero, List.set_cons_succ]
  refine wpList_want rfl fun _ hK => op_run (.bool true) (by first | kernel_rfl | go_simp) (hK _ _ ?_)
  simp only [Act.put, List.setIfInBounds_toArray, List.set_cons_zero, List.set_cons_succ]
  refine wpList_plain rfl fun _ hK => op_run (.bool true) (by first | kernel_rfl | go_simp) (hK _ _ ?_)
  simp only [Act.put, List.setIfInBounds_toArray, List.set_cons_zero, List.set_cons_succ]
  refine wpList_plain rfl fun _ hK => op_run (.bool true) (by first | kernel_rfl | go_simp) (hK _ _ ?_)
  simp only [Act.put, List.setIfInBounds_toArray, List.set_cons_zero, List.set_cons_succ]
  refine wpList_want rfl fun _ hK => op_run (.pointer (some ⟨sb, 0, none⟩)) (by first | kernel_rfl | go_simp) (hK _ _ ?_)
  simp only [Act.put, List.setIfInBounds_toArray, List.set_cons_zero, List.set_cons_succ]
  refine wpList_want rfl fun _ hK => op_run (.int .u64 5) (by have c : w9.cell? ⟨sb, 0, none⟩ = some (.int .u64 (5 : Nat)) := HL9.out.s.cell (i := 0) (by decide); go_simp) (hK _ _ ?_)
  simp only [Act.put, List.setIfInBounds_toArray, List.set_cons_zero, List.set_cons_succ]
  refine wpList_want rfl fun _ hK => op_run (.bool true) (by first | kernel_rfl | go_simp) (hK _ _ ?_)
  simp only [Act.put, List.setIfInBounds_toArray, List.set_cons_zero, List.set_cons_succ]
  refine wpList_plain rfl fun _ hK => op_run (.bool true) (by first | kernel_rfl | go_simp) (hK _ _ ?_)
  simp only [Act.put, List.setIfInBounds_toArray, List.set_cons_zero, List.set_cons_succ]
  refine wpList_plain rfl fun _ hK => op_run (.bool true) (by first | kernel_rfl | go_simp) (hK _ _ ?_)
  simp only [Act.put, List.setIfInBounds_toArray, List.set_cons_zero, List.set_cons_succ]
  refine wpList_want rfl fun _ hK => op_run (.pointer (some ⟨sb, 3, none⟩)) (by first | kernel_rfl | go_simp) (hK _ _ ?_)
  simp only [Act.put, List.setIfInBounds_toArray, List.set_cons_zero, List.set_cons_succ]
  refine wpList_want rfl fun _ hK => op_run (.slice (some ⟨sg, 0, none⟩) 1 sc) (by have c : w9.cell? ⟨sb, 3, none⟩ = some (.slice (some ⟨sg, 0, none⟩) 1 sc) := HL9.out.s.cell (i := 3) (by decide); go_simp) (hK _ _ ?_)
  simp only [Act.put, List.setIfInBounds_toArray, List.set_cons_zero, List.set_cons_succ]
  have swa := byteW_since w9 119
  have HEQwa : Hid (Calls Try.prog 24 #[.slice (some ⟨sg, 0, none⟩) 1 sc, .slice (some ⟨w9.heap.size, 0, none⟩) 1 1] (byteW w9 119) fun e w' => e = .returned (.bool true) ∧ Hid (w9.Since w9.heap.size w')) := (eq_same _ _ 1 _ 1 (fun _ => 119) _ (HL9.out.sv.since swa) (byteW_byt w9 119) (by decide)).mono fun e w' ⟨he, m, hm⟩ => ⟨he, by rw [hm]; exact since_drewN' swa m⟩
  refine wpList_want rfl fun _ hK => op_runW (w' := w9.alloc (.cells #[.int .u8 (119 : Nat)] 5)) (.slice (some ⟨w9.heap.size, 0, none⟩) 1 1) (by go_simp) (hK _ _ ?_)
  simp only [Act.put, List.setIfInBounds_toArray, List.set_cons_zero, List.set_cons_succ]
  refine wpList_want rfl fun _ hK => op_convert _ _ _ rfl _ _ rfl (conv_byte w9 119) (hK _ _ ?_)
  simp only [Act.put, List.setIfInBounds_toArray, List.set_cons_zero, List.set_cons_succ]
  refine wpList_want rfl fun _ hK => op_call 24 #[.slice (some ⟨sg, 0, none⟩) 1 sc, .slice (some ⟨w9.heap.size, 0, none⟩) 1 1] (by kernel_rfl) HEQwa.out ?_
  rintro e wa ⟨rfl, Hswa⟩
  refine ⟨_, rfl, hK _ _ ?_⟩
  clear hK HEQwa swa
  simp only [Act.put, List.setIfInBounds_toArray, List.set_cons_zero, List.set_cons_succ]
  have HWT := hide (wait_any (HL9.out.rp.since Hswa.out))
  have HEa : Hid (w.Since w.heap.size wa) := HE9.out.trans (since_mono Hswa.out HE9.out.size)
  refine wpList_plain rfl fun _ hK => op_run (.bool true) (by first | kernel_rfl | go_simp) (hK _ _ ?_)
  simp only [Act.put, List.setIfInBounds_toArray, List.set_cons_zero, List.set_cons_succ]
  refine wpList_plain rfl fun _ hK => op_run (.bool true) (by first | kernel_rfl | go_simp) (hK _ _ ?_)
  simp only [Act.put, List.setIfInBounds_toArray, List.set_cons_zero, List.set_cons_succ]
  refine wpList_want rfl fun _ hK => op_run (.pointer (some ⟨rb, 0, none⟩)) (by first | kernel_rfl | go_simp) (hK _ _ ?_)
  simp only [Act.put, List.setIfInBounds_toArray, List.set_cons_zero, List.set_cons_succ]
  refine wpList_want rfl fun _ hK => op_call 12 #[.pointer (some ⟨rb, 0, none⟩)] (by kernel_rfl) HWT.out ?_
  rintro e wz ⟨rfl, rfl⟩
  refine ⟨_, rfl, hK _ _ ?_⟩
  clear hK
  simp only [Act.put, List.setIfInBounds_toArray, List.set_cons_zero, List.set_cons_succ]
  refine wpList_want rfl fun _ hK => op_run (.bool true) (by first | kernel_rfl | go_simp) (hK _ _ ?_)
  simp only [Act.put, List.setIfInBounds_toArray, List.set_cons_zero, List.set_cons_succ]
  refine wpList_plain rfl fun _ hK => op_run (.bool true) (by first | kernel_rfl | go_simp) (hK _ _ ?_)
  simp only [Act.put, List.setIfInBounds_toArray, List.set_cons_zero, List.set_cons_succ]
  clear HWT HL9 HW9
  go_wp2_with fail
  go_ret
  exact ⟨rfl, HEa.out⟩
end Go.Proofs.Yteneaiaejdgpcaa

/- Stage 9's laws: a step of a life. -/
namespace Go.Proofs.Yteneaiaejdgpcaa
open Go.RowKit Go.Maps
set_option maxRecDepth 100000
set_option maxRecDepth 100000

/-- A call that is handed in. -/
structure Od where
  d : Int
  wh : Int
  sp : Int
  ep : Nat
  m : Mg
  va : Option Addr
  vc : Nat
  s1 : Nat
  s2 : Nat
  s3 : Nat
  sa : Option Addr
  sl : Nat
  sc : Nat
def opL (o : Od) : List Value := [.int .i64 o.d, .int .i64 o.wh, .int .i64 o.sp, .int .u64 (o.ep : Nat)] ++ mgL o.m o.va o.vc ++ [.int .u64 (o.s1 : Nat), .int .u64 (o.s2 : Nat), .int .u64 (o.s3 : Nat), .slice o.sa o.sl o.sc]
theorem opL_len (o : Od) : (opL o).length = 30 := by unfold opL; simp [mgL_len]
theorem opL_one (o : Od) : (opL o).toArray.all (·.oneCell') = true := all_oneCell_toArray (fun v hv => by
  unfold opL at hv
  rcases List.mem_append.1 hv with h | h
  · rcases List.mem_append.1 h with h | h
    · simp only [List.mem_cons, List.not_mem_nil, or_false] at h
      rcases h with rfl | rfl | rfl | rfl <;> rfl
    · exact mgL_one _ _ _ v h
  · simp only [List.mem_cons, List.not_mem_nil, or_false] at h
    rcases h with rfl | rfl | rfl | rfl <;> rfl)
theorem opL_m (o : Od) (i : Nat) (hi : i < 22) : (opL o)[4 + i]? = (mgL o.m o.va o.vc)[i]? := by
  unfold opL
  rw [List.append_assoc, List.getElem?_append_right (by simp), List.getElem?_append_left (by simp [mgL_len]; omega)]
  congr 1
  simp
theorem infoOp : (Try.prog.info? 43).map (·.size) = some 30 := by kernel_rfl
/-- The calls that are handed in. -/
structure OpsIn (w : World) (oa : Option Addr) (on : Nat) (O : Nat → Od) : Prop where
  at' : ∀ i, i < on → ∃ b o, oa = some ⟨b, o, none⟩ ∧ w.rangeAt b (o + i * 30) (opL (O i)) ∧ b < w.heap.size
  ok : ∀ i, i < on → MgA w (O i).m (O i).va (O i).vc ∧ MgN (O i).m ∧ (O i).ep < 18446744073709551616
theorem rangeS {w w' : World} {b o : Nat} {cs : List Value} (h : w.rangeAt b o cs) (hl : b < w.heap.size) (hs : w.Since w.heap.size w') : w'.rangeAt b o cs := fun j v hv => by
  rw [World.cell?_of_block (a := ⟨b, o + j, none⟩) (hs.block b hl)]
  exact h j v hv
theorem OpsIn.since {w w' : World} {oa : Option Addr} {on : Nat} {O : Nat → Od} (h : OpsIn w oa on O) (hs : w.Since w.heap.size w') : OpsIn w' oa on O :=
  ⟨fun i hi => by
    obtain ⟨b, o, e, h1, h2⟩ := h.at' i hi
    exact ⟨b, o, e, rangeS h1 h2 hs, Nat.lt_of_lt_of_le h2 hs.size⟩, fun i hi => ⟨(h.ok i hi).1.since hs, (h.ok i hi).2⟩⟩
theorem opZ_row (w : World) : ∃ f, (w.alloc (.cells #[.int .i64 0, .int .i64 0, .int .i64 0, .int .u64 0, .int .i64 0, .int .i64 0, .int .i64 0, .int .i64 0, .int .u64 0, .int .u64 0, .int .u64 0, .int .u64 0, .int .i64 0, .int .u64 0, .slice none 0 0, .int .i64 0, .int .u64 0, .string ⟨#[]⟩, .string ⟨#[]⟩, .int .u64 0, .int .u64 0, .int .u64 0, .int .i64 0, .int .i64 0, .int .i64 0, .int .i64 0, .int .u64 0, .int .u64 0, .int .u64 0, .slice none 0 0] 43)).rowIs w.heap.size 43 30 f :=
  ⟨_, World.rowIs_alloc w _ _ (fun i => (#[.int .i64 0, .int .i64 0, .int .i64 0, .int .u64 0, .int .i64 0, .int .i64 0, .int .i64 0, .int .i64 0, .int .u64 0, .int .u64 0, .int .u64 0, .int .u64 0, .int .i64 0, .int .u64 0, .slice none 0 0, .int .i64 0, .int .u64 0, .string ⟨#[]⟩, .string ⟨#[]⟩, .int .u64 0, .int .u64 0, .int .u64 0, .int .i64 0, .int .i64 0, .int .i64 0, .int .i64 0, .int .u64 0, .int .u64 0, .int .u64 0, .slice none 0 0] : Array Value).getD i undef) (fun i hi => by
    rw [Array.getElem?_eq_getElem hi, Array.getD_eq_getD_getElem?, Array.getElem?_eq_getElem hi]
    rfl)⟩
/-- A call is laid into new memory. -/
theorem op_put (w : World) (o : Od) : ∃ (W : World) (OA : Array Value), Hid ((opL o).toArray = OA) ∧ Hid ((w.alloc (.cells #[.int .i64 0, .int .i64 0, .int .i64 0, .int .u64 0, .int .i64 0, .int .i64 0, .int .i64 0, .int .i64 0, .int .u64 0, .int .u64 0, .int .u64 0, .int .u64 0, .int .i64 0, .int .u64 0, .slice none 0 0, .int .i64 0, .int .u64 0, .string ⟨#[]⟩, .string ⟨#[]⟩, .int .u64 0, .int .u64 0, .int .u64 0, .int .i64 0, .int .i64 0, .int .i64 0, .int .i64 0, .int .u64 0, .int .u64 0, .int .u64 0, .slice none 0 0] 43)).there w.heap.size 0 OA.size) ∧ Hid ((w.alloc (.cells #[.int .i64 0, .int .i64 0, .int .i64 0, .int .u64 0, .int .i64 0, .int .i64 0, .int .i64 0, .int .i64 0, .int .u64 0, .int .u64 0, .int .u64 0, .int .u64 0, .int .i64 0, .int .u64 0, .slice none 0 0, .int .i64 0, .int .u64 0, .string ⟨#[]⟩, .string ⟨#[]⟩, .int .u64 0, .int .u64 0, .int .u64 0, .int .i64 0, .int .i64 0, .int .i64 0, .int .i64 0, .int .u64 0, .int .u64 0, .int .u64 0, .slice none 0 0] 43)).setCells w.heap.size 0 OA.toList = W) ∧ Hid ((Try.prog.info? 43).map (·.size) = some OA.size) ∧ Hid (OA.all (·.oneCell') = true) ∧ Hid (W.rowIs w.heap.size 43 30 (fun i => (opL o).getD i undef)) ∧ Hid (w.Since w.heap.size W) := by
  obtain ⟨f, r0⟩ := opZ_row w
  obtain ⟨W, HW, h7, z7, b7, o7, t7, p7⟩ := cells_stored r0 (opL o) (opL_len o)
  have s6 : w.Since w.heap.size (w.alloc (.cells #[.int .i64 0, .int .i64 0, .int .i64 0, .int .u64 0, .int .i64 0, .int .i64 0, .int .i64 0, .int .i64 0, .int .u64 0, .int .u64 0, .int .u64 0, .int .u64 0, .int .i64 0, .int .u64 0, .slice none 0 0, .int .i64 0, .int .u64 0, .string ⟨#[]⟩, .string ⟨#[]⟩, .int .u64 0, .int .u64 0, .int .u64 0, .int .i64 0, .int .i64 0, .int .i64 0, .int .i64 0, .int .u64 0, .int .u64 0, .int .u64 0, .slice none 0 0] 43)) := (World.Since.refl _ _).alloc (Nat.le_refl _) _
  have hz : (opL o).toArray.size = 30 := by rw [List.size_toArray, opL_len]
  refine ⟨W, (opL o).toArray, rfl, ?_, HW, by rw [hz]; exact infoOp, opL_one o, ⟨(opL o).toArray, h7, hz, fun i hi => ?_⟩, o7.trans s6.os, t7.trans s6.tape, p7.trans s6.output, by rw [z7]; exact s6.size, fun k hk => (b7 k (by omega)).trans (s6.block k hk)⟩
  · show World.there _ _ _ _
    rw [hz]
    exact row_there r0
  · rw [List.getElem?_toArray]
    simp [List.getD, show i < (opL o).length by rw [opL_len]; exact hi]
theorem res_cc {P : Program} {fn : Func} {p q : Tmp} {ty tz : TypeId} (h : fn.results = #[.cell p ty, .cell q tz]) (tmps : Array Value) (w : World) (g k : Nat) (t u : TypeId) (cs ds : Array Value) (fr fs : Nat × Nat) (d e : TypeDesc)
    (hp : tmps.getD p undef = .pointer (some ⟨g, 0, none⟩)) (hg : w.heap[g]? = some (.cells cs t fr)) (hu : P.underlying ty = some d) (hd : (match d with | .struct _ | .array _ _ => true | _ => false) = true) (hi : (P.info? ty).map (·.size) = some cs.size)
    (hq : tmps.getD q undef = .pointer (some ⟨k, 0, none⟩)) (hk : w.heap[k]? = some (.cells ds u fs)) (hv : P.underlying tz = some e) (he : (match e with | .struct _ | .array _ _ => true | _ => false) = true) (hj : (P.info? tz).map (·.size) = some ds.size) :
    (results fn tmps).run P w = .ok (.tuple #[.agg cs, .agg ds]) w := by
  have hp' : tmps[p]?.getD undef = .pointer (some ⟨g, 0, none⟩) := by simpa using hp
  have hq' : tmps[q]?.getD undef = .pointer (some ⟨k, 0, none⟩) := by simpa using hq
  simp [results, h, hp', hq', asAddr, run_loadVar_row w g t ty cs fr d hg hu hd hi, run_loadVar_row w k u tz ds fs e hk hv he hj, Sem.run_bind, Result.andThen]
/-- What a step of a life makes of the copy, and what it tells. -/
def atM (o : Od) (r : Rp) : Mg × Hd := if o.d = 1 then (o.m, hearM r o.m) else (mg0, ⟨mg0, false, false, false, if o.d = 2 then { r with wt := wtM (r.wt - 1) } else if o.d = 3 then (if r.p < o.ep then { r with p := o.ep } else r) else r⟩)
/-- While a step of a life is made. -/
structure Az (w : World) (rb : Nat) (r : Rp) (o : Od) (f6 : Nat → Value) (W : World) : Prop where
  rp : RpIs W rb r
  mga : MgA W o.m o.va o.vc
  op : W.rowIs (w.heap.size + 3) 43 30 (fun i => (opL o).getD i undef)
  r6 : W.rowIs (w.heap.size + 1) 41 22 f6
  r7 : W.rowIs (w.heap.size + 2) 46 25 (hdCell mg0 none 0 false false false)
  but : But rb w W
  lt : rb < w.heap.size
theorem heap_setCells (b : Nat) : ∀ (vs : List Value) (o : Nat) (W : World) (k : Nat), k ≠ b → (W.setCells b o vs).heap[k]? = W.heap[k]?
  | [], _, _, _, _ => rfl
  | v :: vs, o, W, k, h => (heap_setCells b vs (o + 1) (W.setCell ⟨b, o, none⟩ v) k h).trans (Below.heap_setCell _ _ _ _ h)
section
variable {w W W' : World} {rb : Nat} {r r' : Rp} {o : Od} {f6 : Nat → Value}
theorem Az.since (h : Az w rb r o f6 W) (hs : W.Since W.heap.size W') : Az w rb r o f6 W' :=
  ⟨h.rp.since hs, h.mga.since hs, row_since h.op hs, row_since h.r6 hs, row_since h.r7 hs, h.but.sin hs, h.lt⟩
theorem mga_but {m : Mg} {va : Option Addr} {vc : Nat} (h : MgA W m va vc) (hr : RpIs W rb r) (hb : But rb W W') : MgA W' m va vc :=
  ⟨byt_but h.val hr hb, h.nil, fun q e h0 => Nat.lt_of_lt_of_le (h.lt q e h0) hb.size, h.len, h.byte⟩
theorem Az.turn (h : Az w rb r o f6 W) (hb : But rb W W') (hr : RpIs W' rb r') : Az w rb r' o f6 W' :=
  ⟨hr, mga_but h.mga h.rp hb, hb.row h.op (by have := h.lt; omega), hb.row h.r6 (by have := h.lt; omega), hb.row h.r7 (by have := h.lt; omega), h.but.trans hb, h.lt⟩
theorem mga_other {m : Mg} {va : Option Addr} {vc b t : Nat} {f : Nat → Value} (h : MgA W m va vc) (hr : W.rowIs b t 22 f) (hn : ∀ i, i < 22 → ∀ n, f i ≠ .int .u8 n) (hb : But b W W') : MgA W' m va vc := by
  refine ⟨fun j hj => ?_, h.nil, fun q e h0 => Nat.lt_of_lt_of_le (h.lt q e h0) hb.size, h.len, h.byte⟩
  obtain ⟨g, off, e, hc⟩ := h.val j hj
  refine ⟨g, off, e, ?_⟩
  have hl := World.block_lt_of_cell? _ _ hc
  have hne : g ≠ b := fun e => by
    subst e
    by_cases hi : off + j < 22
    · rw [hr.cell hi] at hc
      exact hn _ hi _ (Option.some.inj hc)
    · obtain ⟨cs, h1, h2, h3⟩ := hr
      simp only [World.cell?, h1] at hc
      rw [Array.getElem?_eq_none (by omega)] at hc
      exact absurd hc (by simp)
  rw [World.cell?_of_block (a := ⟨g, off + j, none⟩) (hb.block g hl hne)]
  exact hc
theorem mgCell_no8 (m : Mg) (va : Option Addr) (vc i : Nat) (n : Int) : mgCell m va vc i ≠ .int .u8 n := by
  unfold mgCell
  repeat' split
  all_goals simp
theorem Az.put (h : Az w rb r o (mgCell mg0 none 0) W) (m : Mg) (va : Option Addr) (vc : Nat) : Az w rb r o (mgCell m va vc) (W.setCells (w.heap.size + 1) 0 (mgL m va vc)) := by
  have hb : But (w.heap.size + 1) W (W.setCells (w.heap.size + 1) 0 (mgL m va vc)) := (But.of_since (World.Since.refl _ _)).setCells _ 0
  obtain ⟨W1, HW, r1, _⟩ := mg_stored h.r6 m va vc
  have hl := h.lt
  have hs := h.but.size
  rw [show W.setCells (w.heap.size + 1) 0 (mgL m va vc) = W1 from HW.out] at hb ⊢
  exact ⟨h.rp.but hb (by omega), mga_other h.mga h.r6 (fun i _ => mgCell_no8 _ _ _ i) hb, hb.row h.op (by omega), r1, hb.row h.r7 (by omega), ⟨hb.os.trans h.but.os, hb.tape.trans h.but.tape, hb.output.trans h.but.output, Nat.le_trans hs hb.size, fun k hk hn => (hb.block k (by omega) (by omega)).trans (h.but.block k hk hn)⟩, hl⟩
theorem Az.range (h : Az w rb r o f6 W) : W.rangeAt (w.heap.size + 3) 4 (mgL o.m o.va o.vc) := fun j v hv => by
  have hj : j < 22 := by have := (List.getElem?_eq_some_iff.1 hv).1; rwa [mgL_len] at this
  rw [h.op.cell (i := 4 + j) (by omega)]
  have := opL_m o j hj
  rw [hv] at this
  simp [List.getD, this]
/-- The end of a step: the second answer is laid. -/
theorem Az.fin (h : Az w rb r o f6 W) (a : Mg) (ga : Option Addr) (gc : Nat) (b1 b2 b3 : Bool) : ∃ (HL : Array Value) (WE : World), Hid (hdV a ga gc b1 b2 b3 = .agg HL) ∧ Hid (W.there (w.heap.size + 2) 0 HL.size) ∧ Hid ((Try.prog.info? 46).map (·.size) = some HL.size) ∧ Hid (HL.all (·.oneCell') = true) ∧ Hid (W.setCells (w.heap.size + 2) 0 HL.toList = WE) ∧ Hid (WE.heap[w.heap.size + 2]? = some (.cells HL 46 (0, 0))) ∧ Hid (WE.rowIs (w.heap.size + 1) 41 22 f6) ∧ Hid (RpIs WE rb r ∧ But rb w WE ∧ ∀ k, k ≠ w.heap.size + 2 → WE.heap[k]? = W.heap[k]?) := by
  obtain ⟨WE, HWE, hhE, zE, bE, oE, tE, pE⟩ := cells_stored h.r7 (hdL a ga gc b1 b2 b3) (hdL_len _ _ _ _ _ _)
  have hl := h.lt
  refine ⟨(hdL a ga gc b1 b2 b3).toArray, WE, rfl, ?_, infoHrA _ _ _ _ _ _, hd_all _ _ _ _ _ _, HWE, hhE, h.r6.of_block (bE _ (by omega)), h.rp.on (bE _ (by omega)), ⟨oE.trans h.but.os, tE.trans h.but.tape, pE.trans h.but.output, by rw [zE]; exact h.but.size, fun k hk hn => ?_⟩, bE⟩
  · have e : (hdL a ga gc b1 b2 b3).toArray.size = 25 := by rw [List.size_toArray, hdL_len]
    show World.there _ _ _ _
    rw [e]
    exact row_there h.r7
  · rw [bE k (by omega)]
    exact h.but.block k hk hn
end
def lfV (p te ts : Nat) (sa : Option Addr) (sn sc : Nat) (span : Int) (oa : Option Addr) (on oc : Nat) : Value := .agg #[.int .u64 (p : Nat), .int .u64 (te : Nat), .int .u64 (ts : Nat), .slice sa sn sc, .int .i64 span, .slice oa on oc]
set_option maxHeartbeats 8000000 in
theorem at_tick {rb : Nat} {r : Rp} {w : World} (h : RpIs w rb r) (p te ts : Nat) (sa : Option Addr) (sn sc : Nat) (span : Int) (oa : Option Addr) (on oc : Nat) (O : Nat → Od) (hO : OpsIn w oa on O) (i : Nat) (hi : i < on) (hon : on ≤ 1000000000000) (hd : (O i).d = 2) :
    Calls Try.prog 11 #[lfV p te ts sa sn sc span oa on oc, .pointer (some ⟨rb, 0, none⟩), .int .i64 (i : Nat)] w fun e w' => ∃ va vc ga gc, e = .returned (.tuple #[mgV (atM (O i) r).1 va vc, hdV (atM (O i) r).2.a ga gc (atM (O i) r).2.b1 (atM (O i) r).2.b2 (atM (O i) r).2.b3]) ∧ RpIs w' rb (atM (O i) r).2.r ∧ But rb w w' ∧ AnV w.heap.size w' (atM (O i) r).2.a ga gc ∧ ((O i).d = 1 → va = (O i).va ∧ vc = (O i).vc) := by
  obtain ⟨ob, oo, rfl, hrg, hob⟩ := hO.at' i hi
  have hok := hO.ok i hi
  obtain ⟨W1, HW1⟩ : ∃ W, Hid (w.alloc (.cells #[.int .u64 (p : Nat), .int .u64 (te : Nat), .int .u64 (ts : Nat), .slice sa sn sc, .int .i64 span, .slice (some ⟨ob, oo, none⟩) on oc] 30) = W) := ⟨_, rfl⟩
  have s1 : w.Since w.heap.size W1 := by rw [← HW1.out]; exact (World.Since.refl _ _).alloc (Nat.le_refl _) _
  have z1 : W1.heap.size = w.heap.size + 1 := by rw [← HW1.out]; simp
  have c5 : W1.cell? ⟨w.heap.size, 5, none⟩ = some (.slice (some ⟨ob, oo, none⟩) on oc) := by rw [← HW1.out]; simp
  obtain ⟨W2, HW2⟩ : ∃ W, Hid (W1.alloc mgZ = W) := ⟨_, rfl⟩
  have s2 : W1.Since W1.heap.size W2 := by rw [← HW2.out]; exact (World.Since.refl _ _).alloc (Nat.le_refl _) _
  have z2 : W2.heap.size = w.heap.size + 1 + 1 := by rw [← HW2.out, ← z1]; simp
  have r2 : W2.rowIs (w.heap.size + 1) 41 22 (mgCell mg0 none 0) := by rw [← z1, ← HW2.out]; exact mgZ_row W1
  obtain ⟨W3, HW3⟩ : ∃ W, Hid (W2.alloc hdZ = W) := ⟨_, rfl⟩
  have s3 : W2.Since W2.heap.size W3 := by rw [← HW3.out]; exact (World.Since.refl _ _).alloc (Nat.le_refl _) _
  have z3 : W3.heap.size = w.heap.size + 3 := by rw [← HW3.out]; have : (W2.alloc hdZ).heap.size = W2.heap.size + 1 := by simp
                                                 omega
  have r3 : W3.rowIs (w.heap.size + 2) 46 25 (hdCell mg0 none 0 false false false) := by
    have e : w.heap.size + 2 = W2.heap.size := by omega
    rw [e, ← HW3.out]; exact hdZ_row W2
  have s13 : W1.Since W1.heap.size W3 := s2.trans (since_mono s3 s2.size)
  have sw3 : w.Since w.heap.size W3 := s1.trans (since_mono s13 s1.size)
  replace c5 := cell_later s13 c5
  obtain ⟨W5, OA, HOA, HT5, HW5, HI5, HO5, HR5, HS5⟩ := op_put W3 (O i)
  rw [z3] at HT5 HW5 HR5
  have sw5 : w.Since w.heap.size W5 := sw3.trans (since_mono HS5.out sw3.size)
  have HZ : Hid (Az w rb r (O i) (mgCell mg0 none 0) W5) := ⟨h.since sw5, hok.1.since sw5, HR5.out, row_since (row_since r2 s3) HS5.out, row_since r3 HS5.out, But.of_since sw5, h.lt⟩
  have HRG : Hid (W3.rangeAt ob (oo + i * 30) (opL (O i))) := rangeS hrg hob sw3
  have HN := hide hok.2.1
  have HEP := hide hok.2.2
  have c0 : W5.cell? ⟨w.heap.size + 3, 0, none⟩ = some (.int .i64 (O i).d) := HZ.out.op.cell (i := 0) (by decide)
  have hiz : (i : Int) < (on : Int) := by omega
  have hion : (on : Int) ≤ 1000000000000 := by omega
  have hd1 : (O i).d ≠ 1 := by omega
  have HD1 := hide hd1
  clear hd1
  have HEQ : atM (O i) r = (mg0, ⟨mg0, false, false, false, { r with wt := wtM (r.wt - 1) }⟩) := by unfold atM; rw [if_neg (by omega), if_pos hd]
  rw [HEQ]
  clear HEQ
  have HII : Hid ((Try.prog.info? 43).map (·.size) = some (opL (O i)).length) := by rw [opL_len]; exact infoOp
  have q1 : ((O i).d == 1) = false := by simp; omega
  have q2 : ((O i).d == 2) = true := by simp; omega
  unfold mgZ at HW2
  unfold hdZ at HW3
  clear s1 s2 s3 s13 sw3 sw5 r2 r3 hrg hob hok hO h hd HR5 HS5 hon hi
  unfold lfV
  go_enter Try.func11, Try.ntmps11
  go_upto_region 1 with fail
  rw [HW1.out]
  try rw [z1]
  rw [HW2.out]
  try rw [z2]
  try rw [z1]
  rw [HW3.out]
  try rw [z2]
  try rw [z1]
  clear HW1 HW2 HW3 z1 z2
  refine wp_region_lit ?_
  refine wpList_plain rfl fun _ hK => op_run (.pointer (some ⟨w.heap.size, 5, none⟩)) (by kernel_rfl) (hK _ _ ?_)
  simp only [Act.put, List.setIfInBounds_toArray, List.set_cons_zero, List.set_cons_succ]
  refine wpList_plain rfl fun _ hK => op_run (.slice (some ⟨ob, oo, none⟩) on oc) (by go_simp) (hK _ _ ?_)
  simp only [Act.put, List.setIfInBounds_toArray, List.set_cons_zero, List.set_cons_succ]
  refine wpList_plain rfl fun _ hK => op_run (.int .i64 (i : Nat)) (by kernel_rfl) (hK _ _ ?_)
  simp only [Act.put, List.setIfInBounds_toArray, List.set_cons_zero, List.set_cons_succ]
  refine wpList_plain rfl fun _ hK => op_run (.pointer (some ⟨ob, oo + i * 30, none⟩)) (by go_simp) (hK _ _ ?_)
  simp only [Act.put, List.setIfInBounds_toArray, List.set_cons_zero, List.set_cons_succ]
  refine wpList_load_mid rfl 43 (.tmp 12) rfl ob (oo + i * 30) rfl (opL (O i)) _ HRG.out Try.underlying43 rfl HII.out ?_
  rw [HOA.out]
  simp only [Act.put, List.setIfInBounds_toArray, List.set_cons_zero, List.set_cons_succ]
  refine wpList_plain rfl fun _ hK => op_runW (w' := W3.alloc (.cells #[.int .i64 0, .int .i64 0, .int .i64 0, .int .u64 0, .int .i64 0, .int .i64 0, .int .i64 0, .int .i64 0, .int .u64 0, .int .u64 0, .int .u64 0, .int .u64 0, .int .i64 0, .int .u64 0, .slice none 0 0, .int .i64 0, .int .u64 0, .string ⟨#[]⟩, .string ⟨#[]⟩, .int .u64 0, .int .u64 0, .int .u64 0, .int .i64 0, .int .i64 0, .int .i64 0, .int .i64 0, .int .u64 0, .int .u64 0, .int .u64 0, .slice none 0 0] 43)) (.pointer (some ⟨w.heap.size + 3, 0, none⟩)) (by rw [← z3]; kernel_rfl) (hK _ _ ?_)
  simp only [Act.put, List.setIfInBounds_toArray, List.set_cons_zero, List.set_cons_succ]
  refine wpList_store_mid rfl 43 (.tmp 8) (.tmp 13) rfl (w.heap.size + 3) 0 OA rfl rfl HT5.out HI5.out HO5.out ?_
  rw [HW5.out]
  simp only [Act.put]
  clear hK HT5 HI5 HO5 HW5 HOA HRG HII c5 hiz hion z3
  have HTK : Hid (Calls Try.prog 14 #[.pointer (some ⟨rb, 0, none⟩)] W5 fun e w' => e = .returned (.tuple #[]) ∧ Hid (Az w rb { r with wt := wtM (r.wt - 1) } (O i) (mgCell mg0 none 0) w')) := (tick_any HZ.out.rp).mono fun e w' ⟨he, h1, h2⟩ => ⟨he, HZ.out.turn h2 h1⟩
  go_wp2_with fail
  refine HTK.out.mono ?_
  rintro e w6 ⟨rfl, HX⟩
  go_upto_region 9 with fail
  refine wp_region_lit ?_
  refine wpList_plain rfl fun _ hK => op_run (mgV mg0 none 0) (by kernel_rfl) (hK _ _ ?_)
  simp only [Act.put, List.setIfInBounds_toArray, List.set_cons_zero, List.set_cons_succ]
  refine wpList_plain rfl fun _ hK => op_run (hdV mg0 none 0 false false false) (by kernel_rfl) (hK _ _ ?_)
  simp only [Act.put, List.setIfInBounds_toArray, List.set_cons_zero, List.set_cons_succ]
  refine wpList_store_mid rfl 41 (.tmp 6) (.tmp 35) rfl (w.heap.size + 1) 0 (mgL mg0 none 0).toArray rfl rfl (fun j hj => ⟨by rw [HX.out.r6.cell (by rw [List.size_toArray, mgL_len] at hj; omega)]; rfl, HX.out.r6.frozen _⟩) (infoMgA _ _ _) (mg_all _ _ _) ?_
  simp only [Act.put]
  have HY := hide (HX.out.put mg0 none 0)
  generalize World.setCells _ (w.heap.size + 1) 0 (mgL mg0 none 0) = wy at *
  obtain ⟨HL, WE, HHL, HTE, HIR, HAL, HWE, HHE, HR6, HE⟩ := HY.out.fin mg0 none 0 false false false
  rw [HHL.out]
  refine wpList_store_mid rfl 46 (.tmp 7) (.tmp 36) rfl (w.heap.size + 2) 0 HL rfl rfl HTE.out HIR.out HAL.out ?_
  rw [HWE.out]
  have HH6 := hide (row_heap HR6.out)
  go_wp2_with fail
  exact bodyPost_ret_by (res_cc rfl _ _ (w.heap.size + 1) (w.heap.size + 2) 41 46 (mgL mg0 none 0).toArray _ (0, 0) (0, 0) _ _ rfl HH6.out Try.underlying41 rfl (infoMgA _ _ _) rfl HHE.out Try.underlying46 rfl HIR.out) rfl ⟨none, 0, none, 0, congrArg (fun x => Ending.returned (.tuple #[mgV mg0 none 0, x])) HHL.out.symm, HE.out.1, HE.out.2.1, AnV.nil _ _ rfl, fun h => absurd h HD1.out⟩
set_option maxHeartbeats 8000000 in
theorem at_own {rb : Nat} {r : Rp} {w : World} (h : RpIs w rb r) (p te ts : Nat) (sa : Option Addr) (sn sc : Nat) (span : Int) (oa : Option Addr) (on oc : Nat) (O : Nat → Od) (hO : OpsIn w oa on O) (i : Nat) (hi : i < on) (hon : on ≤ 1000000000000) (hd : (O i).d = 3) :
    Calls Try.prog 11 #[lfV p te ts sa sn sc span oa on oc, .pointer (some ⟨rb, 0, none⟩), .int .i64 (i : Nat)] w fun e w' => ∃ va vc ga gc, e = .returned (.tuple #[mgV (atM (O i) r).1 va vc, hdV (atM (O i) r).2.a ga gc (atM (O i) r).2.b1 (atM (O i) r).2.b2 (atM (O i) r).2.b3]) ∧ RpIs w' rb (atM (O i) r).2.r ∧ But rb w w' ∧ AnV w.heap.size w' (atM (O i) r).2.a ga gc ∧ ((O i).d = 1 → va = (O i).va ∧ vc = (O i).vc) := by
  obtain ⟨ob, oo, rfl, hrg, hob⟩ := hO.at' i hi
  have hok := hO.ok i hi
  obtain ⟨W1, HW1⟩ : ∃ W, Hid (w.alloc (.cells #[.int .u64 (p : Nat), .int .u64 (te : Nat), .int .u64 (ts : Nat), .slice sa sn sc, .int .i64 span, .slice (some ⟨ob, oo, none⟩) on oc] 30) = W) := ⟨_, rfl⟩
  have s1 : w.Since w.heap.size W1 := by rw [← HW1.out]; exact (World.Since.refl _ _).alloc (Nat.le_refl _) _
  have z1 : W1.heap.size = w.heap.size + 1 := by rw [← HW1.out]; simp
  have c5 : W1.cell? ⟨w.heap.size, 5, none⟩ = some (.slice (some ⟨ob, oo, none⟩) on oc) := by rw [← HW1.out]; simp
  obtain ⟨W2, HW2⟩ : ∃ W, Hid (W1.alloc mgZ = W) := ⟨_, rfl⟩
  have s2 : W1.Since W1.heap.size W2 := by rw [← HW2.out]; exact (World.Since.refl _ _).alloc (Nat.le_refl _) _
  have z2 : W2.heap.size = w.heap.size + 1 + 1 := by rw [← HW2.out, ← z1]; simp
  have r2 : W2.rowIs (w.heap.size + 1) 41 22 (mgCell mg0 none 0) := by rw [← z1, ← HW2.out]; exact mgZ_row W1
  obtain ⟨W3, HW3⟩ : ∃ W, Hid (W2.alloc hdZ = W) := ⟨_, rfl⟩
  have s3 : W2.Since W2.heap.size W3 := by rw [← HW3.out]; exact (World.Since.refl _ _).alloc (Nat.le_refl _) _
  have z3 : W3.heap.size = w.heap.size + 3 := by rw [← HW3.out]; have : (W2.alloc hdZ).heap.size = W2.heap.size + 1 := by simp
                                                 omega
  have r3 : W3.rowIs (w.heap.size + 2) 46 25 (hdCell mg0 none 0 false false false) := by
    have e : w.heap.size + 2 = W2.heap.size := by omega
    rw [e, ← HW3.out]; exact hdZ_row W2
  have s13 : W1.Since W1.heap.size W3 := s2.trans (since_mono s3 s2.size)
  have sw3 : w.Since w.heap.size W3 := s1.trans (since_mono s13 s1.size)
  replace c5 := cell_later s13 c5
  obtain ⟨W5, OA, HOA, HT5, HW5, HI5, HO5, HR5, HS5⟩ := op_put W3 (O i)
  rw [z3] at HT5 HW5 HR5
  have sw5 : w.Since w.heap.size W5 := sw3.trans (since_mono HS5.out sw3.size)
  have HZ : Hid (Az w rb r (O i) (mgCell mg0 none 0) W5) := ⟨h.since sw5, hok.1.since sw5, HR5.out, row_since (row_since r2 s3) HS5.out, row_since r3 HS5.out, But.of_since sw5, h.lt⟩
  have HRG : Hid (W3.rangeAt ob (oo + i * 30) (opL (O i))) := rangeS hrg hob sw3
  have HN := hide hok.2.1
  have HEP := hide hok.2.2
  have c0 : W5.cell? ⟨w.heap.size + 3, 0, none⟩ = some (.int .i64 (O i).d) := HZ.out.op.cell (i := 0) (by decide)
  have hiz : (i : Int) < (on : Int) := by omega
  have hion : (on : Int) ≤ 1000000000000 := by omega
  have hd1 : (O i).d ≠ 1 := by omega
  have HD1 := hide hd1
  clear hd1
  have HEQ : atM (O i) r = (mg0, ⟨mg0, false, false, false, if r.p < (O i).ep then { r with p := (O i).ep } else r⟩) := by unfold atM; rw [if_neg (by omega), if_neg (by omega), if_pos hd]
  rw [HEQ]
  clear HEQ
  obtain ⟨RO, HRO⟩ : ∃ x, Hid ((if r.p < (O i).ep then { r with p := (O i).ep } else r) = x) := ⟨_, rfl⟩
  rw [HRO.out]
  have HII : Hid ((Try.prog.info? 43).map (·.size) = some (opL (O i)).length) := by rw [opL_len]; exact infoOp
  have q1 : ((O i).d == 1) = false := by simp; omega
  have q2 : ((O i).d == 2) = false := by simp; omega
  have q3 : ((O i).d == 3) = true := by simp; omega
  unfold mgZ at HW2
  unfold hdZ at HW3
  clear s1 s2 s3 s13 sw3 sw5 r2 r3 hrg hob hok hO h hd HR5 HS5 hon hi
  unfold lfV
  go_enter Try.func11, Try.ntmps11
  go_upto_region 1 with fail
  rw [HW1.out]
  try rw [z1]
  rw [HW2.out]
  try rw [z2]
  try rw [z1]
  rw [HW3.out]
  try rw [z2]
  try rw [z1]
  clear HW1 HW2 HW3 z1 z2
  refine wp_region_lit ?_
  refine wpList_plain rfl fun _ hK => op_run (.pointer (some ⟨w.heap.size, 5, none⟩)) (by kernel_rfl) (hK _ _ ?_)
  simp only [Act.put, List.setIfInBounds_toArray, List.set_cons_zero, List.set_cons_succ]
  refine wpList_plain rfl fun _ hK => op_run (.slice (some ⟨ob, oo, none⟩) on oc) (by go_simp) (hK _ _ ?_)
  simp only [Act.put, List.setIfInBounds_toArray, List.set_cons_zero, List.set_cons_succ]
  refine wpList_plain rfl fun _ hK => op_run (.int .i64 (i : Nat)) (by kernel_rfl) (hK _ _ ?_)
  simp only [Act.put, List.setIfInBounds_toArray, List.set_cons_zero, List.set_cons_succ]
  refine wpList_plain rfl fun _ hK => op_run (.pointer (some ⟨ob, oo + i * 30, none⟩)) (by go_simp) (hK _ _ ?_)
  simp only [Act.put, List.setIfInBounds_toArray, List.set_cons_zero, List.set_cons_succ]
  refine wpList_load_mid rfl 43 (.tmp 12) rfl ob (oo + i * 30) rfl (opL (O i)) _ HRG.out Try.underlying43 rfl HII.out ?_
  rw [HOA.out]
  simp only [Act.put, List.setIfInBounds_toArray, List.set_cons_zero, List.set_cons_succ]
  refine wpList_plain rfl fun _ hK => op_runW (w' := W3.alloc (.cells #[.int .i64 0, .int .i64 0, .int .i64 0, .int .u64 0, .int .i64 0, .int .i64 0, .int .i64 0, .int .i64 0, .int .u64 0, .int .u64 0, .int .u64 0, .int .u64 0, .int .i64 0, .int .u64 0, .slice none 0 0, .int .i64 0, .int .u64 0, .string ⟨#[]⟩, .string ⟨#[]⟩, .int .u64 0, .int .u64 0, .int .u64 0, .int .i64 0, .int .i64 0, .int .i64 0, .int .i64 0, .int .u64 0, .int .u64 0, .int .u64 0, .slice none 0 0] 43)) (.pointer (some ⟨w.heap.size + 3, 0, none⟩)) (by rw [← z3]; kernel_rfl) (hK _ _ ?_)
  simp only [Act.put, List.setIfInBounds_toArray, List.set_cons_zero, List.set_cons_succ]
  refine wpList_store_mid rfl 43 (.tmp 8) (.tmp 13) rfl (w.heap.size + 3) 0 OA rfl rfl HT5.out HI5.out HO5.out ?_
  rw [HW5.out]
  simp only [Act.put]
  clear hK HT5 HI5 HO5 HW5 HOA HRG HII c5 hiz hion z3
  have HTK : Hid (Calls Try.prog 27 #[.pointer (some ⟨rb, 0, none⟩), .int .u64 ((O i).ep : Nat)] W5 fun e w' => e = .returned (.bool (decide (r.p < (O i).ep))) ∧ Hid (Az w rb RO (O i) (mgCell mg0 none 0) w')) := (own_any HZ.out.rp (O i).ep HEP.out).mono fun e w' ⟨he, h1, h2⟩ => ⟨he, by rw [← HRO.out]; exact HZ.out.turn h2 h1⟩
  have c3 : W5.cell? ⟨w.heap.size + 3, 3, none⟩ = some (.int .u64 ((O i).ep : Nat)) := HZ.out.op.cell (i := 3) (by decide)
  go_wp2_with fail
  refine HTK.out.mono ?_
  rintro e w6 ⟨rfl, HX⟩
  clear c3
  go_upto_region 9 with fail
  refine wp_region_lit ?_
  refine wpList_plain rfl fun _ hK => op_run (mgV mg0 none 0) (by kernel_rfl) (hK _ _ ?_)
  simp only [Act.put, List.setIfInBounds_toArray, List.set_cons_zero, List.set_cons_succ]
  refine wpList_plain rfl fun _ hK => op_run (hdV mg0 none 0 false false false) (by kernel_rfl) (hK _ _ ?_)
  simp only [Act.put, List.setIfInBounds_toArray, List.set_cons_zero, List.set_cons_succ]
  refine wpList_store_mid rfl 41 (.tmp 6) (.tmp 35) rfl (w.heap.size + 1) 0 (mgL mg0 none 0).toArray rfl rfl (fun j hj => ⟨by rw [HX.out.r6.cell (by rw [List.size_toArray, mgL_len] at hj; omega)]; rfl, HX.out.r6.frozen _⟩) (infoMgA _ _ _) (mg_all _ _ _) ?_
  simp only [Act.put]
  have HY := hide (HX.out.put mg0 none 0)
  generalize World.setCells _ (w.heap.size + 1) 0 (mgL mg0 none 0) = wy at *
  obtain ⟨HL, WE, HHL, HTE, HIR, HAL, HWE, HHE, HR6, HE⟩ := HY.out.fin mg0 none 0 false false false
  rw [HHL.out]
  refine wpList_store_mid rfl 46 (.tmp 7) (.tmp 36) rfl (w.heap.size + 2) 0 HL rfl rfl HTE.out HIR.out HAL.out ?_
  rw [HWE.out]
  have HH6 := hide (row_heap HR6.out)
  go_wp2_with fail
  exact bodyPost_ret_by (res_cc rfl _ _ (w.heap.size + 1) (w.heap.size + 2) 41 46 (mgL mg0 none 0).toArray _ (0, 0) (0, 0) _ _ rfl HH6.out Try.underlying41 rfl (infoMgA _ _ _) rfl HHE.out Try.underlying46 rfl HIR.out) rfl ⟨none, 0, none, 0, congrArg (fun x => Ending.returned (.tuple #[mgV mg0 none 0, x])) HHL.out.symm, HE.out.1, HE.out.2.1, AnV.nil _ _ rfl, fun h => absurd h HD1.out⟩
set_option maxHeartbeats 8000000 in
theorem at_none {rb : Nat} {r : Rp} {w : World} (h : RpIs w rb r) (p te ts : Nat) (sa : Option Addr) (sn sc : Nat) (span : Int) (oa : Option Addr) (on oc : Nat) (O : Nat → Od) (hO : OpsIn w oa on O) (i : Nat) (hi : i < on) (hon : on ≤ 1000000000000) (hd : (O i).d ≠ 1 ∧ (O i).d ≠ 2 ∧ (O i).d ≠ 3) :
    Calls Try.prog 11 #[lfV p te ts sa sn sc span oa on oc, .pointer (some ⟨rb, 0, none⟩), .int .i64 (i : Nat)] w fun e w' => ∃ va vc ga gc, e = .returned (.tuple #[mgV (atM (O i) r).1 va vc, hdV (atM (O i) r).2.a ga gc (atM (O i) r).2.b1 (atM (O i) r).2.b2 (atM (O i) r).2.b3]) ∧ RpIs w' rb (atM (O i) r).2.r ∧ But rb w w' ∧ AnV w.heap.size w' (atM (O i) r).2.a ga gc ∧ ((O i).d = 1 → va = (O i).va ∧ vc = (O i).vc) := by
  obtain ⟨ob, oo, rfl, hrg, hob⟩ := hO.at' i hi
  have hok := hO.ok i hi
  obtain ⟨W1, HW1⟩ : ∃ W, Hid (w.alloc (.cells #[.int .u64 (p : Nat), .int .u64 (te : Nat), .int .u64 (ts : Nat), .slice sa sn sc, .int .i64 span, .slice (some ⟨ob, oo, none⟩) on oc] 30) = W) := ⟨_, rfl⟩
  have s1 : w.Since w.heap.size W1 := by rw [← HW1.out]; exact (World.Since.refl _ _).alloc (Nat.le_refl _) _
  have z1 : W1.heap.size = w.heap.size + 1 := by rw [← HW1.out]; simp
  have c5 : W1.cell? ⟨w.heap.size, 5, none⟩ = some (.slice (some ⟨ob, oo, none⟩) on oc) := by rw [← HW1.out]; simp
  obtain ⟨W2, HW2⟩ : ∃ W, Hid (W1.alloc mgZ = W) := ⟨_, rfl⟩
  have s2 : W1.Since W1.heap.size W2 := by rw [← HW2.out]; exact (World.Since.refl _ _).alloc (Nat.le_refl _) _
  have z2 : W2.heap.size = w.heap.size + 1 + 1 := by rw [← HW2.out, ← z1]; simp
  have r2 : W2.rowIs (w.heap.size + 1) 41 22 (mgCell mg0 none 0) := by rw [← z1, ← HW2.out]; exact mgZ_row W1
  obtain ⟨W3, HW3⟩ : ∃ W, Hid (W2.alloc hdZ = W) := ⟨_, rfl⟩
  have s3 : W2.Since W2.heap.size W3 := by rw [← HW3.out]; exact (World.Since.refl _ _).alloc (Nat.le_refl _) _
  have z3 : W3.heap.size = w.heap.size + 3 := by rw [← HW3.out]; have : (W2.alloc hdZ).heap.size = W2.heap.size + 1 := by simp
                                                 omega
  have r3 : W3.rowIs (w.heap.size + 2) 46 25 (hdCell mg0 none 0 false false false) := by
    have e : w.heap.size + 2 = W2.heap.size := by omega
    rw [e, ← HW3.out]; exact hdZ_row W2
  have s13 : W1.Since W1.heap.size W3 := s2.trans (since_mono s3 s2.size)
  have sw3 : w.Since w.heap.size W3 := s1.trans (since_mono s13 s1.size)
  replace c5 := cell_later s13 c5
  obtain ⟨W5, OA, HOA, HT5, HW5, HI5, HO5, HR5, HS5⟩ := op_put W3 (O i)
  rw [z3] at HT5 HW5 HR5
  have sw5 : w.Since w.heap.size W5 := sw3.trans (since_mono HS5.out sw3.size)
  have HZ : Hid (Az w rb r (O i) (mgCell mg0 none 0) W5) := ⟨h.since sw5, hok.1.since sw5, HR5.out, row_since (row_since r2 s3) HS5.out, row_since r3 HS5.out, But.of_since sw5, h.lt⟩
  have HRG : Hid (W3.rangeAt ob (oo + i * 30) (opL (O i))) := rangeS hrg hob sw3
  have HN := hide hok.2.1
  have HEP := hide hok.2.2
  have c0 : W5.cell? ⟨w.heap.size + 3, 0, none⟩ = some (.int .i64 (O i).d) := HZ.out.op.cell (i := 0) (by decide)
  have hiz : (i : Int) < (on : Int) := by omega
  have hion : (on : Int) ≤ 1000000000000 := by omega
  have hd1 : (O i).d ≠ 1 := by omega
  have HD1 := hide hd1
  clear hd1
  have HEQ : atM (O i) r = (mg0, ⟨mg0, false, false, false, r⟩) := by unfold atM; rw [if_neg (by omega), if_neg (by omega), if_neg (by omega)]
  rw [HEQ]
  clear HEQ
  have HII : Hid ((Try.prog.info? 43).map (·.size) = some (opL (O i)).length) := by rw [opL_len]; exact infoOp
  have q1 : ((O i).d == 1) = false := by simp; omega
  have q2 : ((O i).d == 2) = false := by simp; omega
  have q3 : ((O i).d == 3) = false := by simp; omega
  unfold mgZ at HW2
  unfold hdZ at HW3
  clear s1 s2 s3 s13 sw3 sw5 r2 r3 hrg hob hok hO h hd HR5 HS5 hon hi
  unfold lfV
  go_enter Try.func11, Try.ntmps11
  go_upto_region 1 with fail
  rw [HW1.out]
  try rw [z1]
  rw [HW2.out]
  try rw [z2]
  try rw [z1]
  rw [HW3.out]
  try rw [z2]
  try rw [z1]
  clear HW1 HW2 HW3 z1 z2
  refine wp_region_lit ?_
  refine wpList_plain rfl fun _ hK => op_run (.pointer (some ⟨w.heap.size, 5, none⟩)) (by kernel_rfl) (hK _ _ ?_)
  simp only [Act.put, List.setIfInBounds_toArray, List.set_cons_zero, List.set_cons_succ]
  refine wpList_plain rfl fun _ hK => op_run (.slice (some ⟨ob, oo, none⟩) on oc) (by go_simp) (hK _ _ ?_)
  simp only [Act.put, List.setIfInBounds_toArray, List.set_cons_zero, List.set_cons_succ]
  refine wpList_plain rfl fun _ hK => op_run (.int .i64 (i : Nat)) (by kernel_rfl) (hK _ _ ?_)
  simp only [Act.put, List.setIfInBounds_toArray, List.set_cons_zero, List.set_cons_succ]
  refine wpList_plain rfl fun _ hK => op_run (.pointer (some ⟨ob, oo + i * 30, none⟩)) (by go_simp) (hK _ _ ?_)
  simp only [Act.put, List.setIfInBounds_toArray, List.set_cons_zero, List.set_cons_succ]
  refine wpList_load_mid rfl 43 (.tmp 12) rfl ob (oo + i * 30) rfl (opL (O i)) _ HRG.out Try.underlying43 rfl HII.out ?_
  rw [HOA.out]
  simp only [Act.put, List.setIfInBounds_toArray, List.set_cons_zero, List.set_cons_succ]
  refine wpList_plain rfl fun _ hK => op_runW (w' := W3.alloc (.cells #[.int .i64 0, .int .i64 0, .int .i64 0, .int .u64 0, .int .i64 0, .int .i64 0, .int .i64 0, .int .i64 0, .int .u64 0, .int .u64 0, .int .u64 0, .int .u64 0, .int .i64 0, .int .u64 0, .slice none 0 0, .int .i64 0, .int .u64 0, .string ⟨#[]⟩, .string ⟨#[]⟩, .int .u64 0, .int .u64 0, .int .u64 0, .int .i64 0, .int .i64 0, .int .i64 0, .int .i64 0, .int .u64 0, .int .u64 0, .int .u64 0, .slice none 0 0] 43)) (.pointer (some ⟨w.heap.size + 3, 0, none⟩)) (by rw [← z3]; kernel_rfl) (hK _ _ ?_)
  simp only [Act.put, List.setIfInBounds_toArray, List.set_cons_zero, List.set_cons_succ]
  refine wpList_store_mid rfl 43 (.tmp 8) (.tmp 13) rfl (w.heap.size + 3) 0 OA rfl rfl HT5.out HI5.out HO5.out ?_
  rw [HW5.out]
  simp only [Act.put]
  clear hK HT5 HI5 HO5 HW5 HOA HRG HII c5 hiz hion z3
  go_upto_region 9 with fail
  refine wp_region_lit ?_
  refine wpList_plain rfl fun _ hK => op_run (mgV mg0 none 0) (by kernel_rfl) (hK _ _ ?_)
  simp only [Act.put, List.setIfInBounds_toArray, List.set_cons_zero, List.set_cons_succ]
  refine wpList_plain rfl fun _ hK => op_run (hdV mg0 none 0 false false false) (by kernel_rfl) (hK _ _ ?_)
  simp only [Act.put, List.setIfInBounds_toArray, List.set_cons_zero, List.set_cons_succ]
  refine wpList_store_mid rfl 41 (.tmp 6) (.tmp 35) rfl (w.heap.size + 1) 0 (mgL mg0 none 0).toArray rfl rfl (fun j hj => ⟨by rw [HZ.out.r6.cell (by rw [List.size_toArray, mgL_len] at hj; omega)]; rfl, HZ.out.r6.frozen _⟩) (infoMgA _ _ _) (mg_all _ _ _) ?_
  simp only [Act.put]
  have HY := hide (HZ.out.put mg0 none 0)
  generalize World.setCells _ (w.heap.size + 1) 0 (mgL mg0 none 0) = wy at *
  obtain ⟨HL, WE, HHL, HTE, HIR, HAL, HWE, HHE, HR6, HE⟩ := HY.out.fin mg0 none 0 false false false
  rw [HHL.out]
  refine wpList_store_mid rfl 46 (.tmp 7) (.tmp 36) rfl (w.heap.size + 2) 0 HL rfl rfl HTE.out HIR.out HAL.out ?_
  rw [HWE.out]
  have HH6 := hide (row_heap HR6.out)
  go_wp2_with fail
  exact bodyPost_ret_by (res_cc rfl _ _ (w.heap.size + 1) (w.heap.size + 2) 41 46 (mgL mg0 none 0).toArray _ (0, 0) (0, 0) _ _ rfl HH6.out Try.underlying41 rfl (infoMgA _ _ _) rfl HHE.out Try.underlying46 rfl HIR.out) rfl ⟨none, 0, none, 0, congrArg (fun x => Ending.returned (.tuple #[mgV mg0 none 0, x])) HHL.out.symm, HE.out.1, HE.out.2.1, AnV.nil _ _ rfl, fun h => absurd h HD1.out⟩
set_option maxHeartbeats 8000000 in
theorem at_hear {rb : Nat} {r : Rp} {w : World} (h : RpIs w rb r) (p te ts : Nat) (sa : Option Addr) (sn sc : Nat) (span : Int) (oa : Option Addr) (on oc : Nat) (O : Nat → Od) (hO : OpsIn w oa on O) (i : Nat) (hi : i < on) (hon : on ≤ 1000000000000) (hd : (O i).d = 1) :
    Calls Try.prog 11 #[lfV p te ts sa sn sc span oa on oc, .pointer (some ⟨rb, 0, none⟩), .int .i64 (i : Nat)] w fun e w' => ∃ va vc ga gc, e = .returned (.tuple #[mgV (atM (O i) r).1 va vc, hdV (atM (O i) r).2.a ga gc (atM (O i) r).2.b1 (atM (O i) r).2.b2 (atM (O i) r).2.b3]) ∧ RpIs w' rb (atM (O i) r).2.r ∧ But rb w w' ∧ AnV w.heap.size w' (atM (O i) r).2.a ga gc ∧ ((O i).d = 1 → va = (O i).va ∧ vc = (O i).vc) := by
  obtain ⟨ob, oo, rfl, hrg, hob⟩ := hO.at' i hi
  have hok := hO.ok i hi
  obtain ⟨W1, HW1⟩ : ∃ W, Hid (w.alloc (.cells #[.int .u64 (p : Nat), .int .u64 (te : Nat), .int .u64 (ts : Nat), .slice sa sn sc, .int .i64 span, .slice (some ⟨ob, oo, none⟩) on oc] 30) = W) := ⟨_, rfl⟩
  have s1 : w.Since w.heap.size W1 := by rw [← HW1.out]; exact (World.Since.refl _ _).alloc (Nat.le_refl _) _
  have z1 : W1.heap.size = w.heap.size + 1 := by rw [← HW1.out]; simp
  have c5 : W1.cell? ⟨w.heap.size, 5, none⟩ = some (.slice (some ⟨ob, oo, none⟩) on oc) := by rw [← HW1.out]; simp
  obtain ⟨W2, HW2⟩ : ∃ W, Hid (W1.alloc mgZ = W) := ⟨_, rfl⟩
  have s2 : W1.Since W1.heap.size W2 := by rw [← HW2.out]; exact (World.Since.refl _ _).alloc (Nat.le_refl _) _
  have z2 : W2.heap.size = w.heap.size + 1 + 1 := by rw [← HW2.out, ← z1]; simp
  have r2 : W2.rowIs (w.heap.size + 1) 41 22 (mgCell mg0 none 0) := by rw [← z1, ← HW2.out]; exact mgZ_row W1
  obtain ⟨W3, HW3⟩ : ∃ W, Hid (W2.alloc hdZ = W) := ⟨_, rfl⟩
  have s3 : W2.Since W2.heap.size W3 := by rw [← HW3.out]; exact (World.Since.refl _ _).alloc (Nat.le_refl _) _
  have z3 : W3.heap.size = w.heap.size + 3 := by rw [← HW3.out]; have : (W2.alloc hdZ).heap.size = W2.heap.size + 1 := by simp
                                                 omega
  have r3 : W3.rowIs (w.heap.size + 2) 46 25 (hdCell mg0 none 0 false false false) := by
    have e : w.heap.size + 2 = W2.heap.size := by omega
    rw [e, ← HW3.out]; exact hdZ_row W2
  have s13 : W1.Since W1.heap.size W3 := s2.trans (since_mono s3 s2.size)
  have sw3 : w.Since w.heap.size W3 := s1.trans (since_mono s13 s1.size)
  replace c5 := cell_later s13 c5
  obtain ⟨W5, OA, HOA, HT5, HW5, HI5, HO5, HR5, HS5⟩ := op_put W3 (O i)
  rw [z3] at HT5 HW5 HR5
  have sw5 : w.Since w.heap.size W5 := sw3.trans (since_mono HS5.out sw3.size)
  have HZ : Hid (Az w rb r (O i) (mgCell mg0 none 0) W5) := ⟨h.since sw5, hok.1.since sw5, HR5.out, row_since (row_since r2 s3) HS5.out, row_since r3 HS5.out, But.of_since sw5, h.lt⟩
  have HRG : Hid (W3.rangeAt ob (oo + i * 30) (opL (O i))) := rangeS hrg hob sw3
  have HN := hide hok.2.1
  have HEP := hide hok.2.2
  have c0 : W5.cell? ⟨w.heap.size + 3, 0, none⟩ = some (.int .i64 (O i).d) := HZ.out.op.cell (i := 0) (by decide)
  have hiz : (i : Int) < (on : Int) := by omega
  have hion : (on : Int) ≤ 1000000000000 := by omega
  have hd1 : (O i).d = 1 := by omega
  have HD1 := hide hd1
  clear hd1
  have HEQ : atM (O i) r = ((O i).m, hearM r (O i).m) := if_pos hd
  rw [HEQ]
  clear HEQ
  have HII : Hid ((Try.prog.info? 43).map (·.size) = some (opL (O i)).length) := by rw [opL_len]; exact infoOp
  have q1 : ((O i).d == 1) = true := by simp; omega
  unfold mgZ at HW2
  unfold hdZ at HW3
  clear s1 s2 s3 s13 sw3 sw5 r2 r3 hrg hob hok hO h hd HR5 HS5 hon hi
  unfold lfV
  go_enter Try.func11, Try.ntmps11
  go_upto_region 1 with fail
  rw [HW1.out]
  try rw [z1]
  rw [HW2.out]
  try rw [z2]
  try rw [z1]
  rw [HW3.out]
  try rw [z2]
  try rw [z1]
  clear HW1 HW2 HW3 z1 z2
  refine wp_region_lit ?_
  refine wpList_plain rfl fun _ hK => op_run (.pointer (some ⟨w.heap.size, 5, none⟩)) (by kernel_rfl) (hK _ _ ?_)
  simp only [Act.put, List.setIfInBounds_toArray, List.set_cons_zero, List.set_cons_succ]
  refine wpList_plain rfl fun _ hK => op_run (.slice (some ⟨ob, oo, none⟩) on oc) (by go_simp) (hK _ _ ?_)
  simp only [Act.put, List.setIfInBounds_toArray, List.set_cons_zero, List.set_cons_succ]
  refine wpList_plain rfl fun _ hK => op_run (.int .i64 (i : Nat)) (by kernel_rfl) (hK _ _ ?_)
  simp only [Act.put, List.setIfInBounds_toArray, List.set_cons_zero, List.set_cons_succ]
  refine wpList_plain rfl fun _ hK => op_run (.pointer (some ⟨ob, oo + i * 30, none⟩)) (by go_simp) (hK _ _ ?_)
  simp only [Act.put, List.setIfInBounds_toArray, List.set_cons_zero, List.set_cons_succ]
  refine wpList_load_mid rfl 43 (.tmp 12) rfl ob (oo + i * 30) rfl (opL (O i)) _ HRG.out Try.underlying43 rfl HII.out ?_
  rw [HOA.out]
  simp only [Act.put, List.setIfInBounds_toArray, List.set_cons_zero, List.set_cons_succ]
  refine wpList_plain rfl fun _ hK => op_runW (w' := W3.alloc (.cells #[.int .i64 0, .int .i64 0, .int .i64 0, .int .u64 0, .int .i64 0, .int .i64 0, .int .i64 0, .int .i64 0, .int .u64 0, .int .u64 0, .int .u64 0, .int .u64 0, .int .i64 0, .int .u64 0, .slice none 0 0, .int .i64 0, .int .u64 0, .string ⟨#[]⟩, .string ⟨#[]⟩, .int .u64 0, .int .u64 0, .int .u64 0, .int .i64 0, .int .i64 0, .int .i64 0, .int .i64 0, .int .u64 0, .int .u64 0, .int .u64 0, .slice none 0 0] 43)) (.pointer (some ⟨w.heap.size + 3, 0, none⟩)) (by rw [← z3]; kernel_rfl) (hK _ _ ?_)
  simp only [Act.put, List.setIfInBounds_toArray, List.set_cons_zero, List.set_cons_succ]
  refine wpList_store_mid rfl 43 (.tmp 8) (.tmp 13) rfl (w.heap.size + 3) 0 OA rfl rfl HT5.out HI5.out HO5.out ?_
  rw [HW5.out]
  simp only [Act.put]
  clear hK HT5 HI5 HO5 HW5 HOA HRG HII c5 hiz hion z3
  have HZd := hide (HZ.out.since ((World.Since.refl _ _).drew))
  go_upto_region 4 with fail
  refine wp_region_held_drew (S := fun W => W.rangeAt (w.heap.size + 3) 4 (mgL (O i).m (O i).va (O i).vc)) (by kernel_rfl) HZd.out.range fun _ => ?_
  refine wpAnyH_take (i := 0) (v := .pointer (some ⟨w.heap.size + 3, 4, none⟩)) rfl (by kernel_rfl) (by kernel_rfl) (by kernel_rfl) (fun _ _ _ h => h) (.inl ⟨rfl, fun W hW => by kernel_rfl⟩) HZd.out.range ?_
  simp only [List.getElem_toArray, List.getElem_cons_zero, Act.put, List.setIfInBounds_toArray, List.set_cons_zero, List.set_cons_succ]
  refine wpAnyH_take (i := 1) (v := .agg (mgL (O i).m (O i).va (O i).vc).toArray) rfl (by kernel_rfl) (by kernel_rfl) (by kernel_rfl) (fun _ _ _ h => h) (yieldsIf_load_mid rfl 41 (.tmp 18) rfl (w.heap.size + 3) 4 rfl (mgL (O i).m (O i).va (O i).vc) _ (fun _ h => h) Try.underlying41 rfl (infoMg' _ _ _)) HZd.out.range ?_
  simp only [List.getElem_toArray, List.getElem_cons_zero, List.getElem_cons_succ, Act.put, List.setIfInBounds_toArray, List.set_cons_zero, List.set_cons_succ]
  refine wpAnyH_take (i := 2) (v := .pointer (some ⟨rb, 0, none⟩)) rfl (by kernel_rfl) (by kernel_rfl) (by kernel_rfl) (fun _ _ _ h => h) (.inl ⟨rfl, fun W hW => by kernel_rfl⟩) HZd.out.range ?_
  simp only [List.getElem_toArray, List.getElem_cons_zero, List.getElem_cons_succ, Act.put, List.setIfInBounds_toArray, List.set_cons_zero, List.set_cons_succ]
  refine wpAnyH_take (i := 3) (v := .pointer (some ⟨w.heap.size + 3, 4, none⟩)) rfl (by kernel_rfl) (by kernel_rfl) (by kernel_rfl) (fun _ _ _ h => h) (.inl ⟨rfl, fun W hW => by kernel_rfl⟩) HZd.out.range ?_
  simp only [List.getElem_toArray, List.getElem_cons_zero, List.getElem_cons_succ, Act.put, List.setIfInBounds_toArray, List.set_cons_zero, List.set_cons_succ]
  refine wpAnyH_take (i := 4) (v := .agg (mgL (O i).m (O i).va (O i).vc).toArray) rfl (by kernel_rfl) (by kernel_rfl) (by kernel_rfl) (fun _ _ _ h => h) (yieldsIf_load_mid rfl 41 (.tmp 21) rfl (w.heap.size + 3) 4 rfl (mgL (O i).m (O i).va (O i).vc) _ (fun _ h => h) Try.underlying41 rfl (infoMg' _ _ _)) HZd.out.range ?_
  simp only [List.getElem_toArray, List.getElem_cons_zero, List.getElem_cons_succ, Act.put, List.setIfInBounds_toArray, List.set_cons_zero, List.set_cons_succ]
  refine wpAnyH_ready (rs := [5]) (by kernel_rfl) (by simp) ?_
  refine AllReadyH.cons rfl (fun K hK => ?_) AllReadyH.nil
  have HCP := hide (copyMsg_any (O i).m (O i).va (O i).vc _ HZd.out.mga)
  refine step_callW rfl 17 #[.agg (mgL (O i).m (O i).va (O i).vc).toArray] (by kernel_rfl) HCP.out ?_
  rintro e w6 ⟨cg, rfl, hAw6, hsw6, _⟩
  have HZ6 := hide (HZd.out.since hsw6)
  have HAw6 := hide hAw6
  clear hAw6 hsw6 HCP
  refine ⟨_, rfl, hK.out _ _ HZ6.out.range fun _ => ?_⟩
  clear hK
  simp only [List.getElem_toArray, List.getElem_cons_zero, List.getElem_cons_succ, Act.put, List.setIfInBounds_toArray, List.set_cons_zero, List.set_cons_succ]
  refine wpAnyH_ready (rs := [6]) (by kernel_rfl) (by simp) ?_
  refine AllReadyH.cons rfl (fun K hK => ?_) AllReadyH.nil
  have HHR := hide (hear_any HZ6.out.rp (O i).m (some ⟨cg, 0, none⟩) ((O i).m.s 10).length HAw6.out HN.out)
  refine step_callW rfl 13 #[.pointer (some ⟨rb, 0, none⟩), mgV (O i).m (some ⟨cg, 0, none⟩) ((O i).m.s 10).length] (by kernel_rfl) HHR.out ?_
  rintro e w7 ⟨ga, gc, rfl, hrw7, hbw7, hvw7⟩
  have HZ7 := hide (HZ6.out.turn hbw7 hrw7)
  have HVw7 : Hid (AnV (w.heap.size + 4) w7 (hearM r (O i).m).a ga gc) := hvw7.on (by have := HZ6.out.op.lt; omega) (fun _ _ => rfl)
  clear hrw7 hbw7 hvw7 HHR
  refine ⟨_, rfl, hK.out _ _ HZ7.out.range fun _ => ?_⟩
  clear hK
  simp only [List.getElem_toArray, List.getElem_cons_zero, List.getElem_cons_succ, Act.put, List.setIfInBounds_toArray, List.set_cons_zero, List.set_cons_succ]
  refine wpAnyH_ready (rs := [7]) (by kernel_rfl) (by simp) ?_
  refine AllReadyH.cons rfl (fun K hK => ?_) AllReadyH.nil
  refine step_storeM rfl (wp_store_mid 41 (.tmp 6) (.tmp 19) rfl (w.heap.size + 1) 0 (mgL (O i).m (O i).va (O i).vc).toArray rfl rfl (fun j hj => ⟨by rw [HZ7.out.r6.cell (by rw [List.size_toArray, mgL_len] at hj; omega)]; rfl, HZ7.out.r6.frozen _⟩) (infoMgA _ _ _) (mg_all _ _ _) ?_)
  have HZ8 := hide (HZ7.out.put (O i).m (O i).va (O i).vc)
  have HVw8 : Hid (AnV (w.heap.size + 4) (World.setCells w7 (w.heap.size + 1) 0 (mgL (O i).m (O i).va (O i).vc)) (hearM r (O i).m).a ga gc) := HVw7.out.on (Nat.le_refl _) (fun g hg => heap_setCells _ _ _ _ g (by omega))
  generalize World.setCells _ (w.heap.size + 1) 0 (mgL (O i).m (O i).va (O i).vc) = w8 at *
  refine hK.out _ _ HZ8.out.range fun _ => ?_
  clear hK
  simp only [List.getElem_toArray, List.getElem_cons_zero, List.getElem_cons_succ, Act.put]
  refine wpAnyH_ready (rs := [8]) (by kernel_rfl) (by simp) ?_
  refine AllReadyH.cons rfl (fun K hK => ?_) AllReadyH.nil
  obtain ⟨HL, WE, HHL, HTE, HIR, HAL, HWE, HHE, HR6, HE⟩ := HZ8.out.fin (hearM r (O i).m).a ga gc (hearM r (O i).m).b1 (hearM r (O i).m).b2 (hearM r (O i).m).b3
  rw [HHL.out]
  refine step_storeM rfl (wp_store_mid 46 (.tmp 7) (.tmp 24) rfl (w.heap.size + 2) 0 HL rfl rfl HTE.out HIR.out HAL.out ?_)
  rw [HWE.out]
  have HQ : Hid (WE.rangeAt (w.heap.size + 3) 4 (mgL (O i).m (O i).va (O i).vc)) := fun j v hv => by
    rw [World.cell?_of_block (a := ⟨w.heap.size + 3, 4 + j, none⟩) (HE.out.2.2 _ (by show w.heap.size + 3 ≠ _; omega))]
    exact HZ8.out.range j v hv
  refine hK.out _ _ HQ.out fun _ => ?_
  clear hK
  simp only [List.getElem_toArray, List.getElem_cons_zero, List.getElem_cons_succ, Act.put]
  refine wpAnyH_done (by kernel_rfl) ?_ _
  have HH6 := hide (row_heap HR6.out)
  have HAV : Hid (AnV w.heap.size WE (hearM r (O i).m).a ga gc) := HVw8.out.on (by omega) (fun g hg => HE.out.2.2 g (by omega))
  go_wp2_with fail
  exact bodyPost_ret_by (res_cc rfl _ _ (w.heap.size + 1) (w.heap.size + 2) 41 46 (mgL (O i).m (O i).va (O i).vc).toArray _ (0, 0) (0, 0) _ _ rfl HH6.out Try.underlying41 rfl (infoMgA _ _ _) rfl HHE.out Try.underlying46 rfl HIR.out) rfl ⟨(O i).va, (O i).vc, ga, gc, congrArg (fun x => Ending.returned (.tuple #[mgV (O i).m (O i).va (O i).vc, x])) HHL.out.symm, HE.out.1, HE.out.2.1, HAV.out, fun _ => ⟨rfl, rfl⟩⟩
theorem at_any {rb : Nat} {r : Rp} {w : World} (h : RpIs w rb r) (p te ts : Nat) (sa : Option Addr) (sn sc : Nat) (span : Int) (oa : Option Addr) (on oc : Nat) (O : Nat → Od) (hO : OpsIn w oa on O) (i : Nat) (hi : i < on) (hon : on ≤ 1000000000000) :
    Calls Try.prog 11 #[lfV p te ts sa sn sc span oa on oc, .pointer (some ⟨rb, 0, none⟩), .int .i64 (i : Nat)] w fun e w' => ∃ va vc ga gc, e = .returned (.tuple #[mgV (atM (O i) r).1 va vc, hdV (atM (O i) r).2.a ga gc (atM (O i) r).2.b1 (atM (O i) r).2.b2 (atM (O i) r).2.b3]) ∧ RpIs w' rb (atM (O i) r).2.r ∧ But rb w w' ∧ AnV w.heap.size w' (atM (O i) r).2.a ga gc ∧ ((O i).d = 1 → va = (O i).va ∧ vc = (O i).vc) := by
  by_cases h1 : (O i).d = 1
  · exact at_hear h p te ts sa sn sc span oa on oc O hO i hi hon h1
  by_cases h2 : (O i).d = 2
  · exact at_tick h p te ts sa sn sc span oa on oc O hO i hi hon h2
  by_cases h3 : (O i).d = 3
  · exact at_own h p te ts sa sn sc span oa on oc O hO i hi hon h3
  exact at_none h p te ts sa sn sc span oa on oc O hO i hi hon ⟨h1, h2, h3⟩
end Go.Proofs.Yteneaiaejdgpcaa

/- The document's EqStored. -/
namespace Go.Proofs.Yteneaiaejdgpcaa
open Go.RowKit Go.Maps
set_option maxRecDepth 100000
set_option maxRecDepth 100000

set_option maxHeartbeats 4000000 in
theorem eqSt_any (p te ts p' te' ts' : Nat) (a b : Option Addr) (n m c d : Nat) (x y : Nat → Nat) (w : World) (ha : Byt w a n x) (hb : Byt w b m y) (hn : n ≤ 140737488355328) (hm : m ≤ 140737488355328) :
    Calls Try.prog 16 #[.agg #[.int .u64 (p : Nat), .int .u64 (te : Nat), .int .u64 (ts : Nat), .slice a n c], .agg #[.int .u64 (p' : Nat), .int .u64 (te' : Nat), .int .u64 (ts' : Nat), .slice b m d]] w fun e w' => e = .returned (.bool (decide (p = p' ∧ te = te' ∧ ts = ts' ∧ (List.range n).map x = (List.range m).map y))) ∧ w.Since w.heap.size w' := by
  obtain ⟨W1, HW1⟩ : ∃ W, Hid (w.alloc (.cells #[.int .u64 (p : Nat), .int .u64 (te : Nat), .int .u64 (ts : Nat), .slice a n c] 27) = W) := ⟨_, rfl⟩
  have s1 : w.Since w.heap.size W1 := by rw [← HW1.out]; exact (World.Since.refl _ _).alloc (Nat.le_refl _) _
  have z1 : W1.heap.size = w.heap.size + 1 := by rw [← HW1.out]; simp
  have a0 : W1.cell? ⟨w.heap.size, 0, none⟩ = some (.int .u64 (p : Nat)) := by rw [← HW1.out]; simp
  have a1 : W1.cell? ⟨w.heap.size, 1, none⟩ = some (.int .u64 (te : Nat)) := by rw [← HW1.out]; simp
  have a2 : W1.cell? ⟨w.heap.size, 2, none⟩ = some (.int .u64 (ts : Nat)) := by rw [← HW1.out]; simp
  have a3 : W1.cell? ⟨w.heap.size, 3, none⟩ = some (.slice a n c) := by rw [← HW1.out]; simp
  obtain ⟨W2, HW2⟩ : ∃ W, Hid (W1.alloc (.cells #[.int .u64 (p' : Nat), .int .u64 (te' : Nat), .int .u64 (ts' : Nat), .slice b m d] 27) = W) := ⟨_, rfl⟩
  have s2 : W1.Since W1.heap.size W2 := by rw [← HW2.out]; exact (World.Since.refl _ _).alloc (Nat.le_refl _) _
  have b0 : W2.cell? ⟨w.heap.size + 1, 0, none⟩ = some (.int .u64 (p' : Nat)) := by rw [← z1, ← HW2.out]; simp
  have b1 : W2.cell? ⟨w.heap.size + 1, 1, none⟩ = some (.int .u64 (te' : Nat)) := by rw [← z1, ← HW2.out]; simp
  have b2 : W2.cell? ⟨w.heap.size + 1, 2, none⟩ = some (.int .u64 (ts' : Nat)) := by rw [← z1, ← HW2.out]; simp
  have b3 : W2.cell? ⟨w.heap.size + 1, 3, none⟩ = some (.slice b m d) := by rw [← z1, ← HW2.out]; simp
  replace a0 := cell_later s2 a0
  replace a1 := cell_later s2 a1
  replace a2 := cell_later s2 a2
  replace a3 := cell_later s2 a3
  have hs := s1.trans (since_mono s2 s1.size)
  have HS : Hid (w.Since w.heap.size W2) := hs
  have HCM : Hid (Calls Try.prog 29 #[.slice a n c, .slice b m d] W2 fun e w' => ∃ k : Int, e = .returned (.int .i64 k) ∧ (k == 0) = decide ((List.range n).map x = (List.range m).map y) ∧ Hid (w.Since w.heap.size w')) := (cmpB_any a b n m c d x y W2 (ha.since hs) (hb.since hs) hn hm).mono fun e w' ⟨k, he, hk, q, hq⟩ => ⟨k, he, hk, by subst hq; exact ⟨hs.os, hs.tape, hs.output, hs.size, hs.block⟩⟩
  clear s1 s2 hs ha hb hn hm
  by_cases h1 : p = p'
  · have q1 : ((p : Int) == (p' : Int)) = true := by simp [h1]
    by_cases h2 : te = te'
    · have q2 : ((te : Int) == (te' : Int)) = true := by simp [h2]
      by_cases h3 : ts = ts'
      · have q3 : ((ts : Int) == (ts' : Int)) = true := by simp [h3]
        have HE : decide (p = p' ∧ te = te' ∧ ts = ts' ∧ (List.range n).map x = (List.range m).map y) = decide ((List.range n).map x = (List.range m).map y) := by simp [h1, h2, h3]
        rw [HE]
        generalize decide ((List.range n).map x = (List.range m).map y) = B at *
        clear h1 h2 h3
        cases B with
        | true =>
          clear HE
          go_enter Try.func16, Try.ntmps16
          go_upto_region 1 with fail
          rw [HW1.out]
          try rw [z1]
          rw [HW2.out]
          try rw [z1]
          clear HW1 HW2 z1
          go_wp2_with (go_at_call 29; refine HCM.out.mono ?_; rintro e w3 ⟨k, rfl, hk, HS⟩)
          go_ret
          exact ⟨rfl, HS.out⟩
        | false =>
          clear HE
          go_enter Try.func16, Try.ntmps16
          go_upto_region 1 with fail
          rw [HW1.out]
          try rw [z1]
          rw [HW2.out]
          try rw [z1]
          clear HW1 HW2 z1
          go_wp2_with (go_at_call 29; refine HCM.out.mono ?_; rintro e w3 ⟨k, rfl, hk, HS⟩)
          go_ret
          exact ⟨rfl, HS.out⟩
      · have q3 : ((ts : Int) == (ts' : Int)) = false := by simp; omega
        have HE : decide (p = p' ∧ te = te' ∧ ts = ts' ∧ (List.range n).map x = (List.range m).map y) = false := by simp [h3]
        rw [HE]
        clear h1 h2 h3 HCM
        clear HE
        go_enter Try.func16, Try.ntmps16
        go_upto_region 1 with fail
        rw [HW1.out]
        try rw [z1]
        rw [HW2.out]
        try rw [z1]
        clear HW1 HW2 z1
        go_wp2_with fail
        go_ret
        exact ⟨rfl, HS.out⟩
    · have q2 : ((te : Int) == (te' : Int)) = false := by simp; omega
      have HE : decide (p = p' ∧ te = te' ∧ ts = ts' ∧ (List.range n).map x = (List.range m).map y) = false := by simp [h2]
      rw [HE]
      clear h1 h2 HCM
      clear HE
      go_enter Try.func16, Try.ntmps16
      go_upto_region 1 with fail
      rw [HW1.out]
      try rw [z1]
      rw [HW2.out]
      try rw [z1]
      clear HW1 HW2 z1
      go_wp2_with fail
      go_ret
      exact ⟨rfl, HS.out⟩
  · have q1 : ((p : Int) == (p' : Int)) = false := by simp; omega
    have HE : decide (p = p' ∧ te = te' ∧ ts = ts' ∧ (List.range n).map x = (List.range m).map y) = false := by simp [h1]
    rw [HE]
    clear h1 HCM
    clear HE
    go_enter Try.func16, Try.ntmps16
    go_upto_region 1 with fail
    rw [HW1.out]
    try rw [z1]
    rw [HW2.out]
    try rw [z1]
    clear HW1 HW2 z1
    go_wp2_with fail
    go_ret
    exact ⟨rfl, HS.out⟩
end Go.Proofs.Yteneaiaejdgpcaa

/- ReplicaFences: what a step tells, as plain facts. -/
namespace Go.Proofs.Yteneaiaejdgpcaa
open Go.RowKit Go.Maps
set_option maxRecDepth 100000
set_option maxRecDepth 100000

theorem cmT_pos {a b c d : Nat} (h : 0 < cmT a b c d) : c < a ∨ (a = c ∧ d < b) := by
  unfold cmT orM cmN at h
  by_cases h1 : a < c
  · rw [if_pos h1] at h; simp at h
  · rw [if_neg h1] at h
    by_cases h2 : c < a
    · exact .inl h2
    · rw [if_neg h2] at h
      simp at h
      by_cases h3 : b < d
      · rw [if_pos h3] at h; simp at h
      · rw [if_neg h3] at h
        by_cases h4 : d < b
        · exact .inr ⟨by omega, h4⟩
        · rw [if_neg h4] at h; simp at h
theorem cmT_zero {a b c d : Nat} (h : cmT a b c d = 0) : a = c ∧ b = d := by
  unfold cmT orM cmN at h
  by_cases h1 : a < c
  · rw [if_pos h1] at h; simp at h
  · rw [if_neg h1] at h
    by_cases h2 : c < a
    · rw [if_pos h2] at h; simp at h
    · rw [if_neg h2] at h
      simp at h
      by_cases h3 : b < d
      · rw [if_pos h3] at h; simp at h
      · rw [if_neg h3] at h
        by_cases h4 : d < b
        · rw [if_pos h4] at h; simp at h
        · omega
theorem ctM_ge {a b c d : Nat} (h : c < a ∨ (a = c ∧ d ≤ b)) : ¬ (ctM a b c d < 0) := by
  unfold ctM
  rw [if_neg (by omega)]
  split <;> omega
structure FN (r : Rp) (M : Mg) (H : Hd) : Prop where
  pr : r.p ≤ H.r.p
  tg : ¬ (ctM H.r.te H.r.ts r.te r.ts < 0)
  vl : H.r.te = r.te → H.r.ts = r.ts → H.r.v = r.v
  ch : M.n 0 ≠ 0 → (H.b3 = true ↔ ¬ (H.r.p = r.p ∧ H.r.te = r.te ∧ H.r.ts = r.ts ∧ H.r.v = r.v))
  tk : H.b2 = true → ((r.p : Nat) : Int) ≤ epM M
  pm : H.b1 = true → H.a.n 0 = 2 → ∃ E : Nat, H.a.n 4 = (E : Nat) ∧ r.p ≤ E ∧ H.a.n 5 = (r.te : Nat) ∧ H.a.n 6 = (r.ts : Nat) ∧ H.a.s 10 = H.r.v ∧ M.n 4 = (E : Nat) ∧ H.r.p = E ∧ H.r.te = r.te ∧ H.r.ts = r.ts
  wr : H.b1 = true → H.a.n 0 = 5 → ∃ E Q : Nat, H.a.n 5 = (E : Nat) ∧ H.a.n 6 = (Q : Nat) ∧ M.n 5 = (E : Nat) ∧ M.n 6 = (Q : Nat) ∧ H.r.te = E ∧ H.r.ts = Q ∧ ¬ (ctM E Q r.te r.ts < 0)
  ot : H.b1 = false ∨ (H.a.n 0 ≠ 2 ∧ H.a.n 0 ≠ 5) → H.r.te = r.te ∧ H.r.ts = r.ts
theorem FN.still {r r' : Rp} {M a : Mg} {b1 : Bool} (hp : r'.p = r.p) (ht : r'.te = r.te) (hs : r'.ts = r.ts) (hv : r'.v = r.v) (ha : b1 = false ∨ (a.n 0 ≠ 2 ∧ a.n 0 ≠ 5)) : FN r M ⟨a, b1, false, false, r'⟩ :=
  ⟨by show r.p ≤ r'.p; omega, by show ¬ (ctM r'.te r'.ts r.te r.ts < 0); exact ctM_ge (by omega), fun _ _ => hv, fun _ => ⟨fun e => by simp at e, fun e => absurd ⟨hp, ht, hs, hv⟩ e⟩, fun e => by simp at e, fun e k => by
    have e : b1 = true := e
    have k : a.n 0 = 2 := k
    rcases ha with h | h
    · rw [h] at e; simp at e
    · exact absurd k h.1, fun e k => by
    have e : b1 = true := e
    have k : a.n 0 = 5 := k
    rcases ha with h | h
    · rw [h] at e; simp at e
    · exact absurd k h.2, fun _ => ⟨ht, hs⟩⟩
theorem fenceFacts (o : Od) (r : Rp) (hN : MgN o.m) : FN r (atM o r).1 (atM o r).2 := by
  have h4 := hN.nat 4 rfl
  have h5 := hN.nat 5 rfl
  have h6 := hN.nat 6 rfl
  by_cases d1 : o.d = 1
  · have ea : atM o r = (o.m, hearM r o.m) := if_pos d1
    rw [ea]
    show FN r o.m (hearM r o.m)
    unfold hearM
    by_cases k1 : o.m.n 0 = 1
    · rw [if_pos k1]
      unfold hearP
      by_cases q : (o.m.n 4).toNat < r.p ∨ (r.p < (o.m.n 4).toNat ∧ 0 < r.wt)
      · rw [if_pos q]
        exact FN.still rfl rfl rfl rfl (.inr ⟨by show (3 : Int) ≠ 2; decide, by show (3 : Int) ≠ 5; decide⟩)
      · rw [if_neg q]
        refine ⟨by show r.p ≤ (o.m.n 4).toNat; omega, by show ¬ (ctM r.te r.ts r.te r.ts < 0); exact ctM_ge (by omega), fun _ _ => rfl, fun _ => ?_, fun e => by simp at e, fun _ _ => ⟨(o.m.n 4).toNat, rfl, by omega, rfl, rfl, rfl, h4.1, rfl, rfl, rfl⟩, fun _ k => ?_, fun _ => ⟨rfl, rfl⟩⟩
        · show decide (r.p ≠ (o.m.n 4).toNat) = true ↔ ¬ ((o.m.n 4).toNat = r.p ∧ r.te = r.te ∧ r.ts = r.ts ∧ r.v = r.v)
          simp; omega
        · have k : (2 : Int) = 5 := k
          exact absurd k (by decide)
    · rw [if_neg k1]
      by_cases k4 : o.m.n 0 = 4
      · rw [if_pos k4]
        have hep : epM o.m = o.m.n 5 := if_pos k4
        unfold hearW
        by_cases q : (o.m.n 5).toNat < r.p
        · rw [if_pos q]
          exact FN.still rfl rfl rfl rfl (.inr ⟨by show (3 : Int) ≠ 2; decide, by show (3 : Int) ≠ 5; decide⟩)
        · rw [if_neg q]
          by_cases q1 : 0 < cmT (o.m.n 5).toNat (o.m.n 6).toNat r.te r.ts
          · rw [if_pos q1]
            have hc := cmT_pos q1
            refine ⟨by show r.p ≤ (o.m.n 5).toNat; omega, by show ¬ (ctM (o.m.n 5).toNat (o.m.n 6).toNat r.te r.ts < 0); exact ctM_ge (by omega), fun e1 e2 => ?_, fun _ => ?_, fun _ => by rw [hep]; omega, fun _ k => ?_, fun _ _ => ⟨(o.m.n 5).toNat, (o.m.n 6).toNat, rfl, rfl, h5.1, h6.1, rfl, rfl, ctM_ge (by omega)⟩, fun e => ?_⟩
            · have e1 : (o.m.n 5).toNat = r.te := e1
              have e2 : (o.m.n 6).toNat = r.ts := e2
              omega
            · show true = true ↔ ¬ ((o.m.n 5).toNat = r.p ∧ (o.m.n 5).toNat = r.te ∧ (o.m.n 6).toNat = r.ts ∧ _)
              exact ⟨fun _ e => by omega, fun _ => rfl⟩
            · have k : (5 : Int) = 2 := k
              exact absurd k (by decide)
            · rcases e with e | e
              · simp at e
              · exact absurd rfl e.2
          · rw [if_neg q1]
            have hch : ∀ x : Nat, (decide (r.p ≠ x) = true ↔ ¬ (x = r.p ∧ r.te = r.te ∧ r.ts = r.ts ∧ r.v = r.v)) := fun x => by simp; omega
            by_cases q2 : cmT (o.m.n 5).toNat (o.m.n 6).toNat r.te r.ts = 0
            · rw [if_pos q2]
              have hc := cmT_zero q2
              refine ⟨by show r.p ≤ (o.m.n 5).toNat; omega, by show ¬ (ctM r.te r.ts r.te r.ts < 0); exact ctM_ge (by omega), fun _ _ => rfl, fun _ => hch _, fun _ => by rw [hep]; omega, fun _ k => ?_, fun _ _ => ⟨(o.m.n 5).toNat, (o.m.n 6).toNat, rfl, rfl, h5.1, h6.1, hc.1.symm, hc.2.symm, ctM_ge (by omega)⟩, fun _ => ⟨rfl, rfl⟩⟩
              have k : (5 : Int) = 2 := k
              exact absurd k (by decide)
            · rw [if_neg q2]
              refine ⟨by show r.p ≤ (o.m.n 5).toNat; omega, by show ¬ (ctM r.te r.ts r.te r.ts < 0); exact ctM_ge (by omega), fun _ _ => rfl, fun _ => hch _, fun _ => by rw [hep]; omega, fun e => by simp at e, fun e => by simp at e, fun _ => ⟨rfl, rfl⟩⟩
      · rw [if_neg k4]
        by_cases k6 : o.m.n 0 = 6
        · rw [if_pos k6]
          have hep : epM o.m = o.m.n 4 := if_neg k4
          unfold hearB
          by_cases q : (o.m.n 4).toNat < r.p
          · rw [if_pos q]
            exact FN.still rfl rfl rfl rfl (.inr ⟨by show (3 : Int) ≠ 2; decide, by show (3 : Int) ≠ 5; decide⟩)
          · rw [if_neg q]
            refine ⟨by show r.p ≤ (o.m.n 4).toNat; omega, by show ¬ (ctM r.te r.ts r.te r.ts < 0); exact ctM_ge (by omega), fun _ _ => rfl, fun _ => ?_, fun _ => by rw [hep]; omega, fun _ k => ?_, fun _ k => ?_, fun _ => ⟨rfl, rfl⟩⟩
            · show decide (r.p ≠ (o.m.n 4).toNat) = true ↔ ¬ ((o.m.n 4).toNat = r.p ∧ r.te = r.te ∧ r.ts = r.ts ∧ r.v = r.v)
              simp; omega
            · have k : (7 : Int) = 2 := k
              exact absurd k (by decide)
            · have k : (7 : Int) = 5 := k
              exact absurd k (by decide)
        · rw [if_neg k6]
          exact FN.still rfl rfl rfl rfl (.inl rfl)
  · have ea : atM o r = (mg0, ⟨mg0, false, false, false, if o.d = 2 then { r with wt := wtM (r.wt - 1) } else if o.d = 3 then (if r.p < o.ep then { r with p := o.ep } else r) else r⟩) := if_neg d1
    rw [ea]
    by_cases d2 : o.d = 2
    · rw [if_pos d2]
      exact FN.still rfl rfl rfl rfl (.inl rfl)
    · rw [if_neg d2]
      by_cases d3 : o.d = 3
      · rw [if_pos d3]
        by_cases d4 : r.p < o.ep
        · rw [if_pos d4]
          refine ⟨by show r.p ≤ o.ep; omega, by show ¬ (ctM r.te r.ts r.te r.ts < 0); exact ctM_ge (by omega), fun _ _ => rfl, fun e => absurd rfl e, fun e => by simp at e, fun e => by simp at e, fun e => by simp at e, fun _ => ⟨rfl, rfl⟩⟩
        · rw [if_neg d4]
          exact FN.still rfl rfl rfl rfl (.inl rfl)
      · rw [if_neg d3]
        exact FN.still rfl rfl rfl rfl (.inl rfl)
end Go.Proofs.Yteneaiaejdgpcaa

/- ReplicaTwice: what is heard twice, as plain facts. -/
namespace Go.Proofs.Yteneaiaejdgpcaa
open Go.RowKit Go.Maps
set_option maxRecDepth 100000
set_option maxRecDepth 100000

theorem cmT_self (a b : Nat) : cmT a b a b = 0 := by
  unfold cmT orM cmN
  simp
/-- What comes twice is answered the same, and changes nothing more. -/
structure TW (H G : Hd) : Prop where
  a : G.a = H.a
  b2 : G.b2 = H.b2
  b3 : G.b3 = false
  p : G.r.p = H.r.p
  te : G.r.te = H.r.te
  ts : G.r.ts = H.r.ts
  v : G.r.v = H.r.v
theorem hear_twice (r : Rp) (m : Mg) : TW (hearM r m) (hearM (hearM r m).r m) := by
  unfold hearM
  by_cases k1 : m.n 0 = 1
  · simp only [if_pos k1]
    unfold hearP
    by_cases q : (m.n 4).toNat < r.p ∨ (r.p < (m.n 4).toNat ∧ 0 < r.wt)
    · simp only [if_pos q]
      exact ⟨rfl, rfl, rfl, rfl, rfl, rfl, rfl⟩
    · simp only [if_neg q]
      have q2 : ¬ ((m.n 4).toNat < (m.n 4).toNat ∨ ((m.n 4).toNat < (m.n 4).toNat ∧ 0 < r.wt)) := by omega
      rw [if_neg q2]
      exact ⟨rfl, rfl, by simp, rfl, rfl, rfl, rfl⟩
  · simp only [if_neg k1]
    by_cases k4 : m.n 0 = 4
    · simp only [if_pos k4]
      unfold hearW
      by_cases q : (m.n 5).toNat < r.p
      · simp only [if_pos q]
        exact ⟨rfl, rfl, rfl, rfl, rfl, rfl, rfl⟩
      · simp only [if_neg q]
        by_cases q1 : 0 < cmT (m.n 5).toNat (m.n 6).toNat r.te r.ts
        · simp only [if_pos q1]
          rw [if_neg (Nat.lt_irrefl _), cmT_self, if_neg (by decide), if_pos rfl]
          exact ⟨rfl, rfl, by simp, rfl, rfl, rfl, rfl⟩
        · simp only [if_neg q1]
          by_cases q2 : cmT (m.n 5).toNat (m.n 6).toNat r.te r.ts = 0
          · simp only [if_pos q2]
            rw [if_neg (Nat.lt_irrefl _), if_neg q1]
            exact ⟨rfl, rfl, by simp, rfl, rfl, rfl, rfl⟩
          · simp only [if_neg q2]
            rw [if_neg (Nat.lt_irrefl _), if_neg q1]
            exact ⟨rfl, rfl, by simp, rfl, rfl, rfl, rfl⟩
    · simp only [if_neg k4]
      by_cases k6 : m.n 0 = 6
      · simp only [if_pos k6]
        unfold hearB
        by_cases q : (m.n 4).toNat < r.p
        · simp only [if_pos q]
          exact ⟨rfl, rfl, rfl, rfl, rfl, rfl, rfl⟩
        · simp only [if_neg q]
          rw [if_neg (Nat.lt_irrefl _)]
          exact ⟨rfl, rfl, by simp, rfl, rfl, rfl, rfl⟩
      · simp only [if_neg k6]
        exact ⟨rfl, rfl, rfl, rfl, rfl, rfl, rfl⟩
theorem kind_hears {o : Od} {r : Rp} (h : (atM o r).1.n 0 ≠ 0) : o.d = 1 ∧ atM o r = (o.m, hearM r o.m) := by
  by_cases d1 : o.d = 1
  · exact ⟨d1, if_pos d1⟩
  · exfalso
    apply h
    unfold atM
    rw [if_neg d1]
    rfl
end Go.Proofs.Yteneaiaejdgpcaa

/- A life that is handed in; an answer beside a message, laid into new memory. -/
namespace Go.Proofs.Yteneaiaejdgpcaa
open Go.RowKit Go.Maps
set_option maxRecDepth 100000
set_option maxRecDepth 100000

/-- A life that is handed in. -/
structure LifeIn (w : World) (p te ts : Nat) (sa : Option Addr) (sn sc : Nat) (x : Nat → Nat) (span : Int) (oa : Option Addr) (on oc : Nat) (O : Nat → Od) : Prop where
  p : p < 18446744073709551616
  te : te < 18446744073709551616
  ts : ts < 18446744073709551616
  val : Byt w sa sn x
  byte : ∀ j, x j < 256
  nil : sa = none → sn = 0
  sn : sn ≤ 140737488351232
  sp : -9223372036854775808 ≤ span ∧ span ≤ 9223372036854775807
  ops : OpsIn w oa on O
  on : on ≤ 1000000000000
/-- An answer beside a message, laid into new memory. -/
theorem two_put (w : World) (m : Mg) (va : Option Addr) (vc : Nat) (a : Mg) (ga : Option Addr) (gc : Nat) (b1 b2 b3 : Bool) : ∃ (W WE : World) (ML HL : Array Value), Hid (mgV m va vc = .agg ML) ∧ Hid (hdV a ga gc b1 b2 b3 = .agg HL) ∧ Hid (((w.alloc (.cells #[.int .i64 0, .int .i64 0, .int .i64 0, .int .i64 0, .int .u64 0, .int .u64 0, .int .u64 0, .int .u64 0, .int .i64 0, .int .u64 0, .slice none 0 0, .int .i64 0, .int .u64 0, .string ⟨#[]⟩, .string ⟨#[]⟩, .int .u64 0, .int .u64 0, .int .u64 0, .int .i64 0, .int .i64 0, .int .i64 0, .int .i64 0] 41)).alloc (.cells #[.int .i64 0, .int .i64 0, .int .i64 0, .int .i64 0, .int .u64 0, .int .u64 0, .int .u64 0, .int .u64 0, .int .i64 0, .int .u64 0, .slice none 0 0, .int .i64 0, .int .u64 0, .string ⟨#[]⟩, .string ⟨#[]⟩, .int .u64 0, .int .u64 0, .int .u64 0, .int .i64 0, .int .i64 0, .int .i64 0, .int .i64 0, .bool false, .bool false, .bool false] 46)).there w.heap.size 0 ML.size) ∧ Hid (((w.alloc (.cells #[.int .i64 0, .int .i64 0, .int .i64 0, .int .i64 0, .int .u64 0, .int .u64 0, .int .u64 0, .int .u64 0, .int .i64 0, .int .u64 0, .slice none 0 0, .int .i64 0, .int .u64 0, .string ⟨#[]⟩, .string ⟨#[]⟩, .int .u64 0, .int .u64 0, .int .u64 0, .int .i64 0, .int .i64 0, .int .i64 0, .int .i64 0] 41)).alloc (.cells #[.int .i64 0, .int .i64 0, .int .i64 0, .int .i64 0, .int .u64 0, .int .u64 0, .int .u64 0, .int .u64 0, .int .i64 0, .int .u64 0, .slice none 0 0, .int .i64 0, .int .u64 0, .string ⟨#[]⟩, .string ⟨#[]⟩, .int .u64 0, .int .u64 0, .int .u64 0, .int .i64 0, .int .i64 0, .int .i64 0, .int .i64 0, .bool false, .bool false, .bool false] 46)).setCells w.heap.size 0 ML.toList = W) ∧ Hid (W.there (w.heap.size + 1) 0 HL.size) ∧ Hid (W.setCells (w.heap.size + 1) 0 HL.toList = WE) ∧ Hid ((Try.prog.info? 41).map (·.size) = some ML.size) ∧ Hid (ML.all (·.oneCell') = true) ∧ Hid ((Try.prog.info? 46).map (·.size) = some HL.size) ∧ Hid (HL.all (·.oneCell') = true) ∧ Hid (WE.rowIs w.heap.size 41 22 (mgCell m va vc)) ∧ Hid (WE.rowIs (w.heap.size + 1) 46 25 (hdCell a ga gc b1 b2 b3)) ∧ Hid (w.Since w.heap.size WE) := by
  have s1 : w.Since w.heap.size (w.alloc mgZ) := (World.Since.refl _ _).alloc (Nat.le_refl _) _
  have z1 : (w.alloc mgZ).heap.size = w.heap.size + 1 := by simp
  have s2 : (w.alloc mgZ).Since (w.alloc mgZ).heap.size ((w.alloc mgZ).alloc hdZ) := (World.Since.refl _ _).alloc (Nat.le_refl _) _
  have r1 := row_since (mgZ_row w) s2
  have r2 := hdZ_row (w.alloc mgZ)
  rw [z1] at r2
  have sw : w.Since w.heap.size ((w.alloc mgZ).alloc hdZ) := s1.trans (since_mono s2 s1.size)
  obtain ⟨W, HW, rW, hW, zW, bW, oW, tW, pW⟩ := mg_stored r1 m va vc
  have r2W := r2.of_block (bW _ (by omega))
  obtain ⟨WE, HWE, hhE, zE, bE, oE, tE, pE⟩ := cells_stored r2W (hdL a ga gc b1 b2 b3) (hdL_len _ _ _ _ _ _)
  have e1 : (mgL m va vc).toArray.size = 22 := by rw [List.size_toArray, mgL_len]
  have e2 : (hdL a ga gc b1 b2 b3).toArray.size = 25 := by rw [List.size_toArray, hdL_len]
  refine ⟨W, WE, (mgL m va vc).toArray, (hdL a ga gc b1 b2 b3).toArray, rfl, rfl, ?_, HW, ?_, HWE, infoMgA _ _ _, mg_all _ _ _, infoHrA _ _ _ _ _ _, hd_all _ _ _ _ _ _, rW.of_block (bE _ (by omega)), hd_cells hhE rfl, oE.trans (oW.trans sw.os), tE.trans (tW.trans sw.tape), pE.trans (pW.trans sw.output), by rw [zE, zW]; exact sw.size, fun k hk => (bE k (by omega)).trans ((bW k (by omega)).trans (sw.block k hk))⟩
  · show World.there _ _ _ _
    rw [e1]
    exact row_there r1
  · show World.there _ _ _ _
    rw [e2]
    exact row_there r2W
/-- What an answer bears, as bytes. -/
theorem anv_byt {lo : Nat} {w : World} {a : Mg} {ga : Option Addr} {gc : Nat} (h : AnV lo w a ga gc) (hb : ∀ v ∈ a.s 10, v < 256) : Byt w ga (a.s 10).length (fun j => (a.s 10).getD j 0) := by
  rcases h with ⟨_, _, h⟩ | ⟨g, rfl, _, h⟩
  · rw [h]; exact fun j hj => absurd hj (Nat.not_lt_zero _)
  · intro j hj
    obtain ⟨b, o, e, hc⟩ := h.byt j (by rw [strL_size]; exact hj)
    exact ⟨b, o, e, by rw [hc, bx_strL hb]⟩
theorem mgL_get (m : Mg) (va : Option Addr) (vc j : Nat) (hj : j < 22) : (mgL m va vc)[j]? = some (mgCell m va vc j) := by
  unfold mgL
  rw [List.getElem?_map, List.getElem?_range hj]
  rfl
end Go.Proofs.Yteneaiaejdgpcaa

/- The document's EqMsg, of messages that are the same. -/
namespace Go.Proofs.Yteneaiaejdgpcaa
open Go.RowKit
set_option maxRecDepth 100000
set_option maxRecDepth 100000

set_option maxHeartbeats 4000000 in
theorem eqm22 (a b : Mg) (va vb : Option Addr) (vc vd : Nat) (w : World) (h0 : b.n 0 = a.n 0) (h1 : b.n 1 = a.n 1) (h2 : b.n 2 = a.n 2) (h3 : b.n 3 = a.n 3) (h4 : b.n 4 = a.n 4) (h5 : b.n 5 = a.n 5) (h6 : b.n 6 = a.n 6) (h7 : b.n 7 = a.n 7) (h8 : b.n 8 = a.n 8) (h9 : b.n 9 = a.n 9) (h11 : b.n 11 = a.n 11) (h12 : b.n 12 = a.n 12) (h13 : b.s 13 = a.s 13) (h14 : b.s 14 = a.s 14) (h15 : b.n 15 = a.n 15) (h16 : b.n 16 = a.n 16) (h17 : b.n 17 = a.n 17) (h18 : b.n 18 = a.n 18) (h19 : b.n 19 = a.n 19) (h20 : b.n 20 = a.n 20) (h21 : b.n 21 = a.n 21) (hcm : ∀ W, w.Since w.heap.size W → Calls Try.prog 29 #[.slice va (a.s 10).length vc, .slice vb (b.s 10).length vd] W fun e w' => e = .returned (.int .i64 0) ∧ ∃ m, w' = W.drewN m) :
    Calls Try.prog 15 #[mgV a va vc, mgV b vb vd] w fun e w' => e = .returned (.bool true) ∧ w.Since w.heap.size w' := by
  obtain ⟨MA, HMA⟩ : ∃ x, Hid ((mgL a va vc).toArray = x) := ⟨_, rfl⟩
  obtain ⟨MB, HMB⟩ : ∃ x, Hid ((mgL b vb vd).toArray = x) := ⟨_, rfl⟩
  have sw : w.Since w.heap.size ((w.alloc (.cells MA 41)).alloc (.cells MB 41)) := ((World.Since.refl _ _).alloc (Nat.le_refl _) _).alloc (by simp) _
  have gA : ∀ i, i < 22 → MA[i]? = some (mgCell a va vc i) := fun i hi => by rw [← HMA.out, List.getElem?_toArray]; exact mgL_get a va vc i hi
  have gB : ∀ i, i < 22 → MB[i]? = some (mgCell b vb vd i) := fun i hi => by rw [← HMB.out, List.getElem?_toArray]; exact mgL_get b vb vd i hi
  have a0 : MA[0]? = some (.int .i64 (a.n 0)) := gA 0 (by decide)
  have b0 : MB[0]? = some (.int .i64 (b.n 0)) := gB 0 (by decide)
  rw [h0] at b0
  have a1 : MA[1]? = some (.int .i64 (a.n 1)) := gA 1 (by decide)
  have b1 : MB[1]? = some (.int .i64 (b.n 1)) := gB 1 (by decide)
  rw [h1] at b1
  have a2 : MA[2]? = some (.int .i64 (a.n 2)) := gA 2 (by decide)
  have b2 : MB[2]? = some (.int .i64 (b.n 2)) := gB 2 (by decide)
  rw [h2] at b2
  have a3 : MA[3]? = some (.int .i64 (a.n 3)) := gA 3 (by decide)
  have b3 : MB[3]? = some (.int .i64 (b.n 3)) := gB 3 (by decide)
  rw [h3] at b3
  have a4 : MA[4]? = some (.int .u64 (a.n 4)) := gA 4 (by decide)
  have b4 : MB[4]? = some (.int .u64 (b.n 4)) := gB 4 (by decide)
  rw [h4] at b4
  have a5 : MA[5]? = some (.int .u64 (a.n 5)) := gA 5 (by decide)
  have b5 : MB[5]? = some (.int .u64 (b.n 5)) := gB 5 (by decide)
  rw [h5] at b5
  have a6 : MA[6]? = some (.int .u64 (a.n 6)) := gA 6 (by decide)
  have b6 : MB[6]? = some (.int .u64 (b.n 6)) := gB 6 (by decide)
  rw [h6] at b6
  have a7 : MA[7]? = some (.int .u64 (a.n 7)) := gA 7 (by decide)
  have b7 : MB[7]? = some (.int .u64 (b.n 7)) := gB 7 (by decide)
  rw [h7] at b7
  have a8 : MA[8]? = some (.int .i64 (a.n 8)) := gA 8 (by decide)
  have b8 : MB[8]? = some (.int .i64 (b.n 8)) := gB 8 (by decide)
  rw [h8] at b8
  have a9 : MA[9]? = some (.int .u64 (a.n 9)) := gA 9 (by decide)
  have b9 : MB[9]? = some (.int .u64 (b.n 9)) := gB 9 (by decide)
  rw [h9] at b9
  have a10 : MA[10]? = some (.slice va (a.s 10).length vc) := gA 10 (by decide)
  have b10 : MB[10]? = some (.slice vb (b.s 10).length vd) := gB 10 (by decide)
  have a11 : MA[11]? = some (.int .i64 (a.n 11)) := gA 11 (by decide)
  have b11 : MB[11]? = some (.int .i64 (b.n 11)) := gB 11 (by decide)
  rw [h11] at b11
  have a12 : MA[12]? = some (.int .u64 (a.n 12)) := gA 12 (by decide)
  have b12 : MB[12]? = some (.int .u64 (b.n 12)) := gB 12 (by decide)
  rw [h12] at b12
  have a13 : MA[13]? = some (.string (strL (a.s 13))) := gA 13 (by decide)
  have b13 : MB[13]? = some (.string (strL (b.s 13))) := gB 13 (by decide)
  rw [h13] at b13
  have a14 : MA[14]? = some (.string (strL (a.s 14))) := gA 14 (by decide)
  have b14 : MB[14]? = some (.string (strL (b.s 14))) := gB 14 (by decide)
  rw [h14] at b14
  have a15 : MA[15]? = some (.int .u64 (a.n 15)) := gA 15 (by decide)
  have b15 : MB[15]? = some (.int .u64 (b.n 15)) := gB 15 (by decide)
  rw [h15] at b15
  have a16 : MA[16]? = some (.int .u64 (a.n 16)) := gA 16 (by decide)
  have b16 : MB[16]? = some (.int .u64 (b.n 16)) := gB 16 (by decide)
  rw [h16] at b16
  have a17 : MA[17]? = some (.int .u64 (a.n 17)) := gA 17 (by decide)
  have b17 : MB[17]? = some (.int .u64 (b.n 17)) := gB 17 (by decide)
  rw [h17] at b17
  have a18 : MA[18]? = some (.int .i64 (a.n 18)) := gA 18 (by decide)
  have b18 : MB[18]? = some (.int .i64 (b.n 18)) := gB 18 (by decide)
  rw [h18] at b18
  have a19 : MA[19]? = some (.int .i64 (a.n 19)) := gA 19 (by decide)
  have b19 : MB[19]? = some (.int .i64 (b.n 19)) := gB 19 (by decide)
  rw [h19] at b19
  have a20 : MA[20]? = some (.int .i64 (a.n 20)) := gA 20 (by decide)
  have b20 : MB[20]? = some (.int .i64 (b.n 20)) := gB 20 (by decide)
  rw [h20] at b20
  have a21 : MA[21]? = some (.int .i64 (a.n 21)) := gA 21 (by decide)
  have b21 : MB[21]? = some (.int .i64 (b.n 21)) := gB 21 (by decide)
  rw [h21] at b21
  clear h0 h1 h2 h3 h4 h5 h6 h7 h8 h9 h11 h12 h13 h14 h15 h16 h17 h18 h19 h20 h21
  generalize a.n 0 = x0 at *
  generalize a.n 1 = x1 at *
  generalize a.n 2 = x2 at *
  generalize a.n 3 = x3 at *
  generalize a.n 4 = x4 at *
  generalize a.n 5 = x5 at *
  generalize a.n 6 = x6 at *
  generalize a.n 7 = x7 at *
  generalize a.n 8 = x8 at *
  generalize a.n 9 = x9 at *
  generalize a.n 11 = x11 at *
  generalize a.n 12 = x12 at *
  generalize strL (a.s 13) = s13 at *
  generalize strL (a.s 14) = s14 at *
  generalize a.n 15 = x15 at *
  generalize a.n 16 = x16 at *
  generalize a.n 17 = x17 at *
  generalize a.n 18 = x18 at *
  generalize a.n 19 = x19 at *
  generalize a.n 20 = x20 at *
  generalize a.n 21 = x21 at *
  have HCM := hide (hcm _ sw)
  clear hcm
  have HS := hide sw
  clear sw gA gB
  unfold mgV
  rw [HMA.out, HMB.out]
  go_enter Try.func15, Try.ntmps15
  go_wp2_with fail
  refine HCM.out.mono ?_
  rintro e w3 ⟨rfl, q, e3⟩
  subst e3
  have HS3 : Hid (w.Since w.heap.size (((w.alloc (.cells MA 41)).alloc (.cells MB 41)).drewN q)) := since_drewN' HS.out q
  clear HCM
  go_wp2_with fail
  go_ret
  exact ⟨rfl, HS3.out⟩
theorem eqMsg_same (m : Mg) (va vb : Option Addr) (vc vd : Nat) (w : World) (ha : Byt w va (m.s 10).length (fun j => (m.s 10).getD j 0)) (hb : Byt w vb (m.s 10).length (fun j => (m.s 10).getD j 0)) (hl : (m.s 10).length ≤ 140737488355328) :
    Calls Try.prog 15 #[mgV m va vc, mgV m vb vd] w fun e w' => e = .returned (.bool true) ∧ w.Since w.heap.size w' :=
  eqm22 m m va vb vc vd w rfl rfl rfl rfl rfl rfl rfl rfl rfl rfl rfl rfl rfl rfl rfl rfl rfl rfl rfl rfl rfl fun W hW => (cmpB_any va vb _ _ vc vd _ _ W (ha.since hW) (hb.since hW) hl hl).mono fun e w' ⟨k, he, hk, q, hq⟩ => ⟨by
    have : (k == 0) = true := by rw [hk]; simp
    have k0 : k = 0 := by simpa using this
    rw [he, k0], q, hq⟩
end Go.Proofs.Yteneaiaejdgpcaa

/- ReplicaTwice: the walk. -/
namespace Go.Proofs.Yteneaiaejdgpcaa
open Go.RowKit Go.Maps
set_option maxRecDepth 100000
set_option maxRecDepth 100000

theorem ans_val (o : Od) (r : Rp) : (atM o r).2.a.s 10 = [] ∨ (atM o r).2.a.s 10 = r.v := by
  unfold atM
  by_cases d1 : o.d = 1
  · rw [if_pos d1]
    show (hearM r o.m).a.s 10 = [] ∨ (hearM r o.m).a.s 10 = r.v
    unfold hearM
    split
    · unfold hearP
      split
      · exact .inl rfl
      · exact .inr rfl
    · split
      · unfold hearW
        split
        · exact .inl rfl
        · split
          · exact .inl rfl
          · split
            · exact .inl rfl
            · exact .inl rfl
      · split
        · unfold hearB
          split
          · exact .inl rfl
          · exact .inl rfl
        · exact .inl rfl
  · rw [if_neg d1]
    exact .inl rfl
theorem hd_range {w : World} {hb : Nat} {a : Mg} {ga : Option Addr} {gc : Nat} {b1 b2 b3 : Bool} (h : w.rowIs hb 46 25 (hdCell a ga gc b1 b2 b3)) : w.rangeAt hb 0 (mgL a ga gc) := fun j v hv => by
  have hj : j < 22 := by have := (List.getElem?_eq_some_iff.1 hv).1; rw [mgL_len] at this; exact this
  rw [mgL_get a ga gc j hj] at hv
  have := h.cell (i := j) (by omega)
  rw [Nat.zero_add, this, ← hv]
  unfold hdCell
  rw [if_pos hj]
set_option maxHeartbeats 16000000 in
theorem twice_any {w : World} {p te ts : Nat} {sa : Option Addr} {sn sc : Nat} {x : Nat → Nat} {span : Int} {oa : Option Addr} {on oc : Nat} {O : Nat → Od} (h : LifeIn w p te ts sa sn sc x span oa on oc O) :
    Calls Try.prog 4 #[lfV p te ts sa sn sc span oa on oc] w fun e w' => e = .returned (.bool true) ∧ w.Since w.heap.size w' := by
  obtain ⟨LA, HLA⟩ : ∃ x : Array Value, Hid (#[.int .u64 (p : Nat), .int .u64 (te : Nat), .int .u64 (ts : Nat), .slice sa sn sc, .int .i64 span, .slice oa on oc] = x) := ⟨_, rfl⟩
  obtain ⟨W1, HW1⟩ : ∃ W, Hid (w.alloc (.cells LA 30) = W) := ⟨_, rfl⟩
  have s1 : w.Since w.heap.size W1 := by rw [← HW1.out]; exact (World.Since.refl _ _).alloc (Nat.le_refl _) _
  have z1 : W1.heap.size = w.heap.size + 1 := by rw [← HW1.out]; simp
  have g1 : W1.heap[w.heap.size]? = some (.cells LA 30 (0, 0)) := by rw [← HW1.out]; exact heap_alloc_new w _
  have HLI : Hid ((Try.prog.info? 30).map (·.size) = some LA.size) := by rw [← HLA.out]; show _ = some 6; kernel_rfl
  have HL := hide h
  have HG : Hid (∀ W : World, W1.Since W1.heap.size W → W.heap[w.heap.size]? = some (.cells LA 30 (0, 0))) := fun W hW => by rw [hW.block _ (by omega)]; exact g1
  have HC : Hid (∀ W : World, W1.Since W1.heap.size W → ∀ i v, #[.int .u64 (p : Nat), .int .u64 (te : Nat), .int .u64 (ts : Nat), .slice sa sn sc, .int .i64 span, .slice oa on oc][i]? = some v → W.cell? ⟨w.heap.size, i, none⟩ = some v) := fun W hW i v hv => by
    have := HG.out W hW
    simp only [World.cell?, this]
    rw [← HLA.out]
    exact hv
  have HS1 := hide s1
  have Hz1 := hide z1
  have HD1 : Hid (W1.Since W1.heap.size W1.drew) := (World.Since.refl _ _).drew
  have HCP : Hid (Calls Try.prog 8 #[.slice sa sn sc] W1.drew fun e w' => e = .returned (.slice (some ⟨W1.heap.size, 0, none⟩) sn sn) ∧ Hid (W1.Since W1.heap.size w') ∧ Hid (Byt w' (some ⟨W1.heap.size, 0, none⟩) sn x)) := (copy_any sa sn sc x W1.drew (by have := h.sn; omega) ((h.val.since s1).since ((World.Since.refl _ _).drew))).mono fun e w' ⟨he, h1, _, h2⟩ => ⟨he, ((World.Since.refl _ _).drew).trans h1, row_byt h2⟩
  have HLV := hide lives_any
  clear s1 z1 g1 h
  unfold lfV
  rw [HLA.out]
  go_enter Try.func4, Try.ntmps4
  go_upto_region 1 with fail
  rw [HW1.out]
  refine wp_region_held_drew (S := fun W => W1.Since W1.heap.size W) (by kernel_rfl) HD1.out fun _ => ?_
  refine wpAnyH_take (i := 0) (v := .pointer (some ⟨w.heap.size, 0, none⟩)) rfl (by kernel_rfl) (by kernel_rfl) (by kernel_rfl) (fun _ _ _ h => h) (.inl ⟨rfl, fun W hW => by kernel_rfl⟩) HD1.out ?_
  simp only [List.getElem_toArray, List.getElem_cons_zero, Act.put, List.setIfInBounds_toArray, List.set_cons_zero, List.set_cons_succ]
  refine wpAnyH_take (i := 1) (v := .pointer (some ⟨w.heap.size, 0, none⟩)) rfl (by kernel_rfl) (by kernel_rfl) (by kernel_rfl) (fun _ _ _ h => h) (.inl ⟨rfl, fun W hW => by kernel_rfl⟩) HD1.out ?_
  simp only [List.getElem_toArray, List.getElem_cons_zero, List.getElem_cons_succ, Act.put, List.setIfInBounds_toArray, List.set_cons_zero, List.set_cons_succ]
  refine wpAnyH_take (i := 2) (v := .int .u64 (p : Nat)) rfl (by kernel_rfl) (by kernel_rfl) (by kernel_rfl) (fun _ _ _ h => h) (.inl ⟨rfl, fun W hW => by have c := HC.out W hW 0 _ rfl; go_simp⟩) HD1.out ?_
  simp only [List.getElem_toArray, List.getElem_cons_zero, List.getElem_cons_succ, Act.put, List.setIfInBounds_toArray, List.set_cons_zero, List.set_cons_succ]
  refine wpAnyH_take (i := 3) (v := .pointer (some ⟨w.heap.size, 0, none⟩)) rfl (by kernel_rfl) (by kernel_rfl) (by kernel_rfl) (fun _ _ _ h => h) (.inl ⟨rfl, fun W hW => by kernel_rfl⟩) HD1.out ?_
  simp only [List.getElem_toArray, List.getElem_cons_zero, List.getElem_cons_succ, Act.put, List.setIfInBounds_toArray, List.set_cons_zero, List.set_cons_succ]
  refine wpAnyH_take (i := 4) (v := .pointer (some ⟨w.heap.size, 1, none⟩)) rfl (by kernel_rfl) (by kernel_rfl) (by kernel_rfl) (fun _ _ _ h => h) (.inl ⟨rfl, fun W hW => by kernel_rfl⟩) HD1.out ?_
  simp only [List.getElem_toArray, List.getElem_cons_zero, List.getElem_cons_succ, Act.put, List.setIfInBounds_toArray, List.set_cons_zero, List.set_cons_succ]
  refine wpAnyH_take (i := 5) (v := .agg #[.int .u64 (te : Nat), .int .u64 (ts : Nat)]) rfl (by kernel_rfl) (by kernel_rfl) (by kernel_rfl) (fun _ _ _ h => h) (.inl ⟨rfl, fun W hW => by have c := HC.out W hW 1 _ rfl; have c2 := HC.out W hW 2 _ rfl; go_simp⟩) HD1.out ?_
  simp only [List.getElem_toArray, List.getElem_cons_zero, List.getElem_cons_succ, Act.put, List.setIfInBounds_toArray, List.set_cons_zero, List.set_cons_succ]
  refine wpAnyH_take (i := 6) (v := .pointer (some ⟨w.heap.size, 0, none⟩)) rfl (by kernel_rfl) (by kernel_rfl) (by kernel_rfl) (fun _ _ _ h => h) (.inl ⟨rfl, fun W hW => by kernel_rfl⟩) HD1.out ?_
  simp only [List.getElem_toArray, List.getElem_cons_zero, List.getElem_cons_succ, Act.put, List.setIfInBounds_toArray, List.set_cons_zero, List.set_cons_succ]
  refine wpAnyH_take (i := 7) (v := .pointer (some ⟨w.heap.size, 3, none⟩)) rfl (by kernel_rfl) (by kernel_rfl) (by kernel_rfl) (fun _ _ _ h => h) (.inl ⟨rfl, fun W hW => by kernel_rfl⟩) HD1.out ?_
  simp only [List.getElem_toArray, List.getElem_cons_zero, List.getElem_cons_succ, Act.put, List.setIfInBounds_toArray, List.set_cons_zero, List.set_cons_succ]
  refine wpAnyH_take (i := 8) (v := .slice sa sn sc) rfl (by kernel_rfl) (by kernel_rfl) (by kernel_rfl) (fun _ _ _ h => h) (.inl ⟨rfl, fun W hW => by have c := HC.out W hW 3 _ rfl; go_simp⟩) HD1.out ?_
  simp only [List.getElem_toArray, List.getElem_cons_zero, List.getElem_cons_succ, Act.put, List.setIfInBounds_toArray, List.set_cons_zero, List.set_cons_succ]
  refine wpAnyH_take (i := 11) (v := .pointer (some ⟨w.heap.size, 4, none⟩)) rfl (by kernel_rfl) (by kernel_rfl) (by kernel_rfl) (fun _ _ _ h => h) (.inl ⟨rfl, fun W hW => by kernel_rfl⟩) HD1.out ?_
  simp only [List.getElem_toArray, List.getElem_cons_zero, List.getElem_cons_succ, Act.put, List.setIfInBounds_toArray, List.set_cons_zero, List.set_cons_succ]
  refine wpAnyH_take (i := 12) (v := .int .i64 span) rfl (by kernel_rfl) (by kernel_rfl) (by kernel_rfl) (fun _ _ _ h => h) (.inl ⟨rfl, fun W hW => by have c := HC.out W hW 4 _ rfl; go_simp⟩) HD1.out ?_
  simp only [List.getElem_toArray, List.getElem_cons_zero, List.getElem_cons_succ, Act.put, List.setIfInBounds_toArray, List.set_cons_zero, List.set_cons_succ]
  refine wpAnyH_ready (rs := [9]) (by kernel_rfl) (by simp) ?_
  refine AllReadyH.cons rfl (fun K hK => ?_) AllReadyH.nil
  refine step_callW rfl 8 #[.slice sa sn sc] (by kernel_rfl) HCP.out ?_
  rintro e w2 ⟨rfl, HS2, HB2⟩
  refine ⟨_, rfl, hK.out _ _ HS2.out fun _ => ?_⟩
  clear hK HCP
  simp only [List.getElem_toArray, List.getElem_cons_zero, List.getElem_cons_succ, Act.put, List.setIfInBounds_toArray, List.set_cons_zero, List.set_cons_succ]
  refine wpAnyH_take (i := 10) (v := .agg #[.int .u64 (p : Nat), .int .u64 (te : Nat), .int .u64 (ts : Nat), .slice (some ⟨W1.heap.size, 0, none⟩) sn sn]) rfl (by kernel_rfl) (by kernel_rfl) (by kernel_rfl) (fun _ _ _ h => h) (.inl ⟨rfl, fun W hW => by kernel_rfl⟩) HS2.out ?_
  simp only [List.getElem_toArray, List.getElem_cons_zero, List.getElem_cons_succ, Act.put, List.setIfInBounds_toArray, List.set_cons_zero, List.set_cons_succ]
  have HLD : Hid (Calls Try.prog 7 #[.agg #[.int .u64 (p : Nat), .int .u64 (te : Nat), .int .u64 (ts : Nat), .slice (some ⟨W1.heap.size, 0, none⟩) sn sn], .int .i64 span] w2 fun e w' => ∃ rb, e = .returned (.pointer (some ⟨rb, 0, none⟩)) ∧ Hid (w.heap.size < rb) ∧ Hid (RpIs w' rb ⟨p, te, ts, (List.range sn).map x, wtM span⟩) ∧ Hid (W1.Since W1.heap.size w')) := (load_any p te ts (some ⟨W1.heap.size, 0, none⟩) sn sn x span w2 HL.out.p HL.out.te HL.out.ts HB2.out HL.out.byte (fun e => by cases e) HL.out.sn HL.out.sp.2).mono fun e w' ⟨rb, he, h1, h2, h3⟩ => ⟨rb, he, by
    have := HS2.out.size
    have := Hz1.out
    show w.heap.size < rb
    omega, h2, HS2.out.trans (since_mono h3 HS2.out.size)⟩
  refine wpAnyH_ready (rs := [13]) (by kernel_rfl) (by simp) ?_
  refine AllReadyH.cons rfl (fun K hK => ?_) AllReadyH.nil
  refine step_callW rfl 7 #[.agg #[.int .u64 (p : Nat), .int .u64 (te : Nat), .int .u64 (ts : Nat), .slice (some ⟨W1.heap.size, 0, none⟩) sn sn], .int .i64 span] (by kernel_rfl) HLD.out ?_
  rintro e w3 ⟨rb, rfl, HRB, HR3, HS3⟩
  refine ⟨_, rfl, hK.out _ _ HS3.out fun _ => ?_⟩
  clear hK HLD HB2 HS2 HD1
  simp only [List.getElem_toArray, List.getElem_cons_zero, List.getElem_cons_succ, Act.put, List.setIfInBounds_toArray, List.set_cons_zero, List.set_cons_succ]
  refine wpAnyH_take (i := 14) (v := .pointer (some ⟨rb, 0, none⟩)) rfl (by kernel_rfl) (by kernel_rfl) (by kernel_rfl) (fun _ _ _ h => h) (.inl ⟨rfl, fun W hW => by kernel_rfl⟩) HS3.out ?_
  simp only [List.getElem_toArray, List.getElem_cons_zero, List.getElem_cons_succ, Act.put, List.setIfInBounds_toArray, List.set_cons_zero, List.set_cons_succ]
  refine wpAnyH_done (by kernel_rfl) ?_ _
  have hne : (Value.pointer (some ⟨rb, 0, none⟩) : Value) = .pointer (some ⟨rb, 0, none⟩) := rfl
  clear hne
  go_upto_region 4 with (go_at_call 9; refine (HLV.out _).mono ?_; rintro e w4 ⟨rfl, hs4⟩)
  have HS4 : Hid (W1.Since W1.heap.size w4) := HS3.out.trans (since_mono hs4 HS3.out.size)
  have HR4 := hide (HR3.out.since hs4)
  clear HS3 HR3 hs4 HLV
  go_wp2_with fail
  go_loopg [4, 5, 6, 7, 8, 9, 10] on (fun q s4 s5 s6 s7 s8 s9 s10 wr => ∃ (i : Nat) (r : Rp), i ≤ on ∧ i ≤ 500 ∧ q = on - i ∧ s4 = .int .i64 (i : Nat) ∧ Hid (RpIs wr rb r) ∧ Hid (W1.Since W1.heap.size wr))
  case atStart => exact ⟨0, _, Nat.zero_le _, Nat.zero_le _, rfl, rfl, HR4, HS4⟩
  case round =>
    obtain ⟨i, r, hi, hi5, rfl, rfl, HRr, HSr⟩ := hrel
    clear HR4 HS4
    by_cases hlt : i < on ∧ i < 500
    · obtain ⟨hlt, hl5⟩ := hlt
      obtain ⟨ob, oo, rfl, hrg, hob⟩ := (HL.out.ops.since (HS1.out.trans (since_mono HSr.out HS1.out.size))).at' i hlt
      clear hrg hob
      have c5 : wr.cell? ⟨w.heap.size, 5, none⟩ = some (.slice (some ⟨ob, oo, none⟩) on oc) := HC.out wr HSr.out 5 _ rfl
      have hiz : (i : Int) < (on : Int) := by omega
      have hi5z : (i : Int) < 500 := by omega
      have HON := hide HL.out.on
      have HST := hide (stored_any HRr.out)
      go_upto_region 7 with fail
      clear c5
      refine wp_region_lit ?_
      refine wpList_plain rfl fun _ hK => op_run (.pointer (some ⟨rb, 0, none⟩)) (by kernel_rfl) (hK _ _ ?_)
      simp only [Act.put, List.setIfInBounds_toArray, List.set_cons_zero, List.set_cons_succ]
      refine wpList_plain rfl fun _ hK => op_call 10 #[.pointer (some ⟨rb, 0, none⟩)] (by kernel_rfl) HST.out ?_
      rintro e w6 ⟨sg, sgc, rfl, _, _, hsB, hs6⟩
      refine ⟨_, rfl, hK _ _ ?_⟩
      clear hK HST
      obtain ⟨SV, HSV⟩ : ∃ x, Hid (stV r sg sgc = x) := ⟨_, rfl⟩
      have HWA := hide (wait_any (HRr.out.since hs6))
      have HLD : Hid (Calls Try.prog 7 #[SV, .int .i64 r.wt] w6 fun e w' => ∃ tb, e = .returned (.pointer (some ⟨tb, 0, none⟩)) ∧ Hid (wr.heap.size ≤ tb) ∧ Hid (RpIs w' tb r) ∧ Hid (wr.Since wr.heap.size w')) := by
        rw [← HSV.out]
        have hok := HRr.out.ok
        refine (load_any r.p r.te r.ts (some ⟨sg, 0, none⟩) r.v.length sgc (fun j => r.v.getD j 0) r.wt w6 hok.p hok.te hok.ts hsB (fun j => by
          by_cases hj : j < r.v.length
          · rw [List.getD_eq_getElem?_getD, List.getElem?_eq_getElem hj]
            exact hok.byte _ (List.getElem_mem hj)
          · simp [hj]) (fun e => by cases e) hok.len hok.w1).mono fun e w' ⟨tb, he, h1, h2, h3⟩ => ⟨tb, he, Nat.le_trans hs6.size h1, ?_, hs6.trans (since_mono h3 hs6.size)⟩
        have e1 : (⟨r.p, r.te, r.ts, (List.range r.v.length).map (fun j => r.v.getD j 0), wtM r.wt⟩ : Rp) = r := by
          rw [range_getD]
          have : wtM r.wt = r.wt := by have := hok.w0; unfold wtM; omega
          rw [this]
        rw [e1] at h2
        exact h2
      rw [HSV.out]
      simp only [Act.put, List.setIfInBounds_toArray, List.set_cons_zero, List.set_cons_succ]
      clear HSV hsB
      refine wpList_plain rfl fun _ hK => op_run (.pointer (some ⟨rb, 0, none⟩)) (by kernel_rfl) (hK _ _ ?_)
      simp only [Act.put, List.setIfInBounds_toArray, List.set_cons_zero, List.set_cons_succ]
      refine wpList_plain rfl fun _ hK => op_call 12 #[.pointer (some ⟨rb, 0, none⟩)] (by kernel_rfl) HWA.out ?_
      rintro e w6' ⟨rfl, e6⟩
      subst e6
      refine ⟨_, rfl, hK _ _ ?_⟩
      simp only [Act.put, List.setIfInBounds_toArray, List.set_cons_zero, List.set_cons_succ]
      clear hK HWA
      refine wpList_plain rfl fun _ hK => op_call 7 #[SV, .int .i64 r.wt] (by kernel_rfl) HLD.out ?_
      rintro e W7 ⟨tb, rfl, HTB, HRT, HS7⟩
      refine ⟨_, rfl, hK _ _ ?_⟩
      simp only [Act.put, List.setIfInBounds_toArray, List.set_cons_zero, List.set_cons_succ]
      clear hK HLD hs6
      go_upto_region 10 with fail
      have hrw := HRr.out.lt
      have htb := HTB.out
      have s17 : W1.Since W1.heap.size W7 := HSr.out.trans (since_mono HS7.out HSr.out.size)
      have sw7 : w.Since w.heap.size W7 := HS1.out.trans (since_mono s17 HS1.out.size)
      have HAT1 : Hid (Calls Try.prog 11 #[.agg LA, .pointer (some ⟨rb, 0, none⟩), .int .i64 (i : Nat)] W7 fun e w' => ∃ va vc ga gc, e = .returned (.tuple #[mgV (atM (O i) r).1 va vc, hdV (atM (O i) r).2.a ga gc (atM (O i) r).2.b1 (atM (O i) r).2.b2 (atM (O i) r).2.b3]) ∧ Hid (RpIs w' rb (atM (O i) r).2.r) ∧ Hid (But rb W7 w') ∧ Hid (AnV W7.heap.size w' (atM (O i) r).2.a ga gc) ∧ Hid ((O i).d = 1 → va = (O i).va ∧ vc = (O i).vc)) := by
        have q := at_any (HRr.out.since HS7.out) p te ts sa sn sc span (some ⟨ob, oo, none⟩) on oc O (HL.out.ops.since sw7) i hlt HON.out
        unfold lfV at q
        rw [HLA.out] at q
        exact q.mono fun e w' ⟨va, vc, ga, gc, he, h1, h2, h3, h4⟩ => ⟨va, vc, ga, gc, he, h1, h2, h3, h4⟩
      have HGL1 := hide (HG.out W7 s17)
      have HS17 := hide s17
      clear s17 sw7
      refine wp_region_lit ?_
      refine wpList_load_row rfl 30 (.tmp 1) rfl w.heap.size rfl _ LA (0, 0) _ HGL1.out Try.underlying30 rfl HLI.out ?_
      simp only [Act.put, List.setIfInBounds_toArray, List.set_cons_zero, List.set_cons_succ]
      refine wpList_plain rfl fun _ hK => op_run (.pointer (some ⟨rb, 0, none⟩)) (by kernel_rfl) (hK _ _ ?_)
      simp only [Act.put, List.setIfInBounds_toArray, List.set_cons_zero, List.set_cons_succ]
      refine wpList_plain rfl fun _ hK => op_run (.int .i64 (i : Nat)) (by kernel_rfl) (hK _ _ ?_)
      simp only [Act.put, List.setIfInBounds_toArray, List.set_cons_zero, List.set_cons_succ]
      refine wpList_plain rfl fun _ hK => op_call 11 #[.agg LA, .pointer (some ⟨rb, 0, none⟩), .int .i64 (i : Nat)] (by kernel_rfl) HAT1.out ?_
      rintro e v1 ⟨va1, vc1, ga1, gc1, rfl, HQ1, HB1, HAN1, HVA1⟩
      refine ⟨_, rfl, hK _ _ ?_⟩
      clear hK HAT1 HGL1
      obtain ⟨X1, WE1, ML1, HL1, HML1, HHL1, HT1, HW1, HTE1, HWE1, HIM1, HOM1, HIH1, HOH1, HRM1, HRH1, HSE1⟩ := two_put v1 (atM (O i) r).1 va1 vc1 (atM (O i) r).2.a ga1 gc1 (atM (O i) r).2.b1 (atM (O i) r).2.b2 (atM (O i) r).2.b3
      rw [HML1.out, HHL1.out]
      simp only [Act.put, List.setIfInBounds_toArray, List.set_cons_zero, List.set_cons_succ]
      refine wpList_plain rfl fun _ hK => op_run (.tuple #[.agg ML1, .agg HL1]) (by kernel_rfl) (hK _ _ ?_)
      simp only [Act.put, List.setIfInBounds_toArray, List.set_cons_zero, List.set_cons_succ]
      refine wpList_plain rfl fun _ hK => op_run (.agg ML1) (by kernel_rfl) (hK _ _ ?_)
      simp only [Act.put, List.setIfInBounds_toArray, List.set_cons_zero, List.set_cons_succ]
      refine wpList_plain rfl fun _ hK => op_run (.agg HL1) (by kernel_rfl) (hK _ _ ?_)
      simp only [Act.put, List.setIfInBounds_toArray, List.set_cons_zero, List.set_cons_succ]
      refine wpList_plain rfl fun _ hK => op_runW (w' := v1.alloc (.cells #[.int .i64 0, .int .i64 0, .int .i64 0, .int .i64 0, .int .u64 0, .int .u64 0, .int .u64 0, .int .u64 0, .int .i64 0, .int .u64 0, .slice none 0 0, .int .i64 0, .int .u64 0, .string ⟨#[]⟩, .string ⟨#[]⟩, .int .u64 0, .int .u64 0, .int .u64 0, .int .i64 0, .int .i64 0, .int .i64 0, .int .i64 0] 41)) (.pointer (some ⟨v1.heap.size, 0, none⟩)) (by kernel_rfl) (hK _ _ ?_)
      simp only [Act.put, List.setIfInBounds_toArray, List.set_cons_zero, List.set_cons_succ]
      have e10 : (v1.alloc (.cells #[.int .i64 0, .int .i64 0, .int .i64 0, .int .i64 0, .int .u64 0, .int .u64 0, .int .u64 0, .int .u64 0, .int .i64 0, .int .u64 0, .slice none 0 0, .int .i64 0, .int .u64 0, .string ⟨#[]⟩, .string ⟨#[]⟩, .int .u64 0, .int .u64 0, .int .u64 0, .int .i64 0, .int .i64 0, .int .i64 0, .int .i64 0] 41)).heap.size = v1.heap.size + 1 := by simp
      refine wpList_plain rfl fun _ hK => op_runW (w' := (v1.alloc (.cells #[.int .i64 0, .int .i64 0, .int .i64 0, .int .i64 0, .int .u64 0, .int .u64 0, .int .u64 0, .int .u64 0, .int .i64 0, .int .u64 0, .slice none 0 0, .int .i64 0, .int .u64 0, .string ⟨#[]⟩, .string ⟨#[]⟩, .int .u64 0, .int .u64 0, .int .u64 0, .int .i64 0, .int .i64 0, .int .i64 0, .int .i64 0] 41)).alloc (.cells #[.int .i64 0, .int .i64 0, .int .i64 0, .int .i64 0, .int .u64 0, .int .u64 0, .int .u64 0, .int .u64 0, .int .i64 0, .int .u64 0, .slice none 0 0, .int .i64 0, .int .u64 0, .string ⟨#[]⟩, .string ⟨#[]⟩, .int .u64 0, .int .u64 0, .int .u64 0, .int .i64 0, .int .i64 0, .int .i64 0, .int .i64 0, .bool false, .bool false, .bool false] 46)) (.pointer (some ⟨(v1.alloc (.cells #[.int .i64 0, .int .i64 0, .int .i64 0, .int .i64 0, .int .u64 0, .int .u64 0, .int .u64 0, .int .u64 0, .int .i64 0, .int .u64 0, .slice none 0 0, .int .i64 0, .int .u64 0, .string ⟨#[]⟩, .string ⟨#[]⟩, .int .u64 0, .int .u64 0, .int .u64 0, .int .i64 0, .int .i64 0, .int .i64 0, .int .i64 0] 41)).heap.size, 0, none⟩)) (by kernel_rfl) (hK _ _ ?_)
      rw [e10]
      clear e10
      simp only [Act.put, List.setIfInBounds_toArray, List.set_cons_zero, List.set_cons_succ]
      refine wpList_store_mid rfl 41 (.tmp 6) (.tmp 54) rfl v1.heap.size 0 ML1 rfl rfl HT1.out HIM1.out HOM1.out ?_
      rw [HW1.out]
      simp only [Act.put]
      refine wpList_store_mid rfl 46 (.tmp 7) (.tmp 55) rfl (v1.heap.size + 1) 0 HL1 rfl rfl HTE1.out HIH1.out HOH1.out ?_
      rw [HWE1.out]
      simp only [Act.put]
      clear hK HT1 HW1 HTE1 HWE1 HIM1 HOM1 HIH1 HOH1 HML1 HHL1
      obtain ⟨mb1, Hmb1⟩ : ∃ x, Hid (v1.heap.size = x) := ⟨_, rfl⟩
      rw [Hmb1.out] at HRM1 HRH1 ⊢
      obtain ⟨hb1, Hhb1⟩ : ∃ x, Hid (mb1 + 1 = x) := ⟨_, rfl⟩
      rw [Hhb1.out] at HRH1 ⊢
      have hrb1 : w.heap.size < rb := HRB.out
      have hz1 := Hz1.out
      have s18 : W1.Since W1.heap.size v1 := HB1.out.since HS17.out (by omega) HS17.out.size
      have s19 : W1.Since W1.heap.size WE1 := s18.trans (since_mono HSE1.out s18.size)
      have sw9 : w.Since w.heap.size WE1 := HS1.out.trans (since_mono s19 HS1.out.size)
      have hne : tb ≠ rb := by omega
      have HT9 : Hid (RpIs WE1 tb r) := (HRT.out.but HB1.out hne).since HSE1.out
      have HR9 : Hid (RpIs WE1 rb (atM (O i) r).2.r) := HQ1.out.since HSE1.out
      have HAT2 : Hid (Calls Try.prog 11 #[.agg LA, .pointer (some ⟨tb, 0, none⟩), .int .i64 (i : Nat)] WE1 fun e w' => ∃ va vc ga gc, e = .returned (.tuple #[mgV (atM (O i) r).1 va vc, hdV (atM (O i) r).2.a ga gc (atM (O i) r).2.b1 (atM (O i) r).2.b2 (atM (O i) r).2.b3]) ∧ Hid (RpIs w' tb (atM (O i) r).2.r) ∧ Hid (But tb WE1 w') ∧ Hid (AnV WE1.heap.size w' (atM (O i) r).2.a ga gc) ∧ Hid ((O i).d = 1 → va = (O i).va ∧ vc = (O i).vc)) := by
        have q := at_any HT9.out p te ts sa sn sc span (some ⟨ob, oo, none⟩) on oc O (HL.out.ops.since sw9) i hlt HON.out
        unfold lfV at q
        rw [HLA.out] at q
        exact q.mono fun e w' ⟨va, vc, ga, gc, he, h1, h2, h3, h4⟩ => ⟨va, vc, ga, gc, he, h1, h2, h3, h4⟩
      have HGL2 := hide (HG.out WE1 s19)
      have HS19 := hide s19
      have HZV := hide s18.size
      have HZW := hide HS17.out.size
      clear s18 s19 sw9 hrb1 hz1 HQ1
      go_upto_region 11 with fail
      refine wp_region_lit ?_
      refine wpList_load_row rfl 30 (.tmp 1) rfl w.heap.size rfl _ LA (0, 0) _ HGL2.out Try.underlying30 rfl HLI.out ?_
      simp only [Act.put, List.setIfInBounds_toArray, List.set_cons_zero, List.set_cons_succ]
      refine wpList_plain rfl fun _ hK => op_run (.pointer (some ⟨tb, 0, none⟩)) (by kernel_rfl) (hK _ _ ?_)
      simp only [Act.put, List.setIfInBounds_toArray, List.set_cons_zero, List.set_cons_succ]
      refine wpList_plain rfl fun _ hK => op_run (.int .i64 (i : Nat)) (by kernel_rfl) (hK _ _ ?_)
      simp only [Act.put, List.setIfInBounds_toArray, List.set_cons_zero, List.set_cons_succ]
      refine wpList_plain rfl fun _ hK => op_call 11 #[.agg LA, .pointer (some ⟨tb, 0, none⟩), .int .i64 (i : Nat)] (by kernel_rfl) HAT2.out ?_
      rintro e v2 ⟨va2, vc2, ga2, gc2, rfl, HQ2, HB2, HAN2, HVA2⟩
      refine ⟨_, rfl, hK _ _ ?_⟩
      clear hK HAT2 HGL2
      obtain ⟨X2, WE2, ML2, HL2, HML2, HHL2, HT2, HW2, HTE2, HWE2, HIM2, HOM2, HIH2, HOH2, HRM2, HRH2, HSE2⟩ := two_put v2 (atM (O i) r).1 va2 vc2 (atM (O i) r).2.a ga2 gc2 (atM (O i) r).2.b1 (atM (O i) r).2.b2 (atM (O i) r).2.b3
      rw [HML2.out, HHL2.out]
      simp only [Act.put, List.setIfInBounds_toArray, List.set_cons_zero, List.set_cons_succ]
      refine wpList_plain rfl fun _ hK => op_run (.tuple #[.agg ML2, .agg HL2]) (by kernel_rfl) (hK _ _ ?_)
      simp only [Act.put, List.setIfInBounds_toArray, List.set_cons_zero, List.set_cons_succ]
      refine wpList_plain rfl fun _ hK => op_run (.agg ML2) (by kernel_rfl) (hK _ _ ?_)
      simp only [Act.put, List.setIfInBounds_toArray, List.set_cons_zero, List.set_cons_succ]
      refine wpList_plain rfl fun _ hK => op_run (.agg HL2) (by kernel_rfl) (hK _ _ ?_)
      simp only [Act.put, List.setIfInBounds_toArray, List.set_cons_zero, List.set_cons_succ]
      refine wpList_plain rfl fun _ hK => op_runW (w' := v2.alloc (.cells #[.int .i64 0, .int .i64 0, .int .i64 0, .int .i64 0, .int .u64 0, .int .u64 0, .int .u64 0, .int .u64 0, .int .i64 0, .int .u64 0, .slice none 0 0, .int .i64 0, .int .u64 0, .string ⟨#[]⟩, .string ⟨#[]⟩, .int .u64 0, .int .u64 0, .int .u64 0, .int .i64 0, .int .i64 0, .int .i64 0, .int .i64 0] 41)) (.pointer (some ⟨v2.heap.size, 0, none⟩)) (by kernel_rfl) (hK _ _ ?_)
      simp only [Act.put, List.setIfInBounds_toArray, List.set_cons_zero, List.set_cons_succ]
      have e10 : (v2.alloc (.cells #[.int .i64 0, .int .i64 0, .int .i64 0, .int .i64 0, .int .u64 0, .int .u64 0, .int .u64 0, .int .u64 0, .int .i64 0, .int .u64 0, .slice none 0 0, .int .i64 0, .int .u64 0, .string ⟨#[]⟩, .string ⟨#[]⟩, .int .u64 0, .int .u64 0, .int .u64 0, .int .i64 0, .int .i64 0, .int .i64 0, .int .i64 0] 41)).heap.size = v2.heap.size + 1 := by simp
      refine wpList_plain rfl fun _ hK => op_runW (w' := (v2.alloc (.cells #[.int .i64 0, .int .i64 0, .int .i64 0, .int .i64 0, .int .u64 0, .int .u64 0, .int .u64 0, .int .u64 0, .int .i64 0, .int .u64 0, .slice none 0 0, .int .i64 0, .int .u64 0, .string ⟨#[]⟩, .string ⟨#[]⟩, .int .u64 0, .int .u64 0, .int .u64 0, .int .i64 0, .int .i64 0, .int .i64 0, .int .i64 0] 41)).alloc (.cells #[.int .i64 0, .int .i64 0, .int .i64 0, .int .i64 0, .int .u64 0, .int .u64 0, .int .u64 0, .int .u64 0, .int .i64 0, .int .u64 0, .slice none 0 0, .int .i64 0, .int .u64 0, .string ⟨#[]⟩, .string ⟨#[]⟩, .int .u64 0, .int .u64 0, .int .u64 0, .int .i64 0, .int .i64 0, .int .i64 0, .int .i64 0, .bool false, .bool false, .bool false] 46)) (.pointer (some ⟨(v2.alloc (.cells #[.int .i64 0, .int .i64 0, .int .i64 0, .int .i64 0, .int .u64 0, .int .u64 0, .int .u64 0, .int .u64 0, .int .i64 0, .int .u64 0, .slice none 0 0, .int .i64 0, .int .u64 0, .string ⟨#[]⟩, .string ⟨#[]⟩, .int .u64 0, .int .u64 0, .int .u64 0, .int .i64 0, .int .i64 0, .int .i64 0, .int .i64 0] 41)).heap.size, 0, none⟩)) (by kernel_rfl) (hK _ _ ?_)
      rw [e10]
      clear e10
      simp only [Act.put, List.setIfInBounds_toArray, List.set_cons_zero, List.set_cons_succ]
      refine wpList_store_mid rfl 41 (.tmp 8) (.tmp 61) rfl v2.heap.size 0 ML2 rfl rfl HT2.out HIM2.out HOM2.out ?_
      rw [HW2.out]
      simp only [Act.put]
      refine wpList_store_mid rfl 46 (.tmp 9) (.tmp 62) rfl (v2.heap.size + 1) 0 HL2 rfl rfl HTE2.out HIH2.out HOH2.out ?_
      rw [HWE2.out]
      simp only [Act.put]
      clear hK HT2 HW2 HTE2 HWE2 HIM2 HOM2 HIH2 HOH2 HML2 HHL2
      obtain ⟨mb2, Hmb2⟩ : ∃ x, Hid (v2.heap.size = x) := ⟨_, rfl⟩
      rw [Hmb2.out] at HRM2 HRH2 ⊢
      obtain ⟨hb2, Hhb2⟩ : ∃ x, Hid (mb2 + 1 = x) := ⟨_, rfl⟩
      rw [Hhb2.out] at HRH2 ⊢
      have hrb1 : w.heap.size < rb := HRB.out
      have hz1 := Hz1.out
      have htl := HRT.out.lt
      have hm1 : W7.heap.size ≤ mb1 := by rw [← Hmb1.out]; exact HB1.out.size
      have hh1 : mb1 + 1 = hb1 := Hhb1.out
      have hs2 : W1.Since W1.heap.size v2 := HB2.out.since HS19.out (by have := HSr.out.size; omega) HS19.out.size
      have hs3 : W1.Since W1.heap.size WE2 := hs2.trans (since_mono HSE2.out hs2.size)
      have hok := HRr.out.ok
      have hval : (∀ v ∈ (atM (O i) r).2.a.s 10, v < 256) ∧ ((atM (O i) r).2.a.s 10).length ≤ 140737488351232 := by
        rcases ans_val (O i) r with e | e
        · rw [e]; exact ⟨fun v hv => absurd hv List.not_mem_nil, Nat.zero_le _⟩
        · rw [e]; exact ⟨hok.byte, hok.len⟩
      have HB1E : Byt WE2 ga1 ((atM (O i) r).2.a.s 10).length (fun j => ((atM (O i) r).2.a.s 10).getD j 0) := (byt_but ((anv_byt HAN1.out hval.1).since HSE1.out) HT9.out HB2.out).since HSE2.out
      have HB2E : Byt WE2 ga2 ((atM (O i) r).2.a.s 10).length (fun j => ((atM (O i) r).2.a.s 10).getD j 0) := (anv_byt HAN2.out hval.1).since HSE2.out
      have HRW : Hid (∀ W : World, WE2.Since WE2.heap.size W → RpIs W rb (atM (O i) r).2.r ∧ RpIs W tb (atM (O i) r).2.r ∧ W.rowIs mb1 41 22 (mgCell (atM (O i) r).1 va1 vc1) ∧ W.rowIs hb1 46 25 (hdCell (atM (O i) r).2.a ga1 gc1 (atM (O i) r).2.b1 (atM (O i) r).2.b2 (atM (O i) r).2.b3) ∧ W.rowIs hb2 46 25 (hdCell (atM (O i) r).2.a ga2 gc2 (atM (O i) r).2.b1 (atM (O i) r).2.b2 (atM (O i) r).2.b3) ∧ W1.Since W1.heap.size W) := fun W hW =>
        ⟨((HR9.out.but HB2.out (fun e => hne e.symm)).since HSE2.out).since hW, (HQ2.out.since HSE2.out).since hW, row_since (row_since (HB2.out.row HRM1.out (by omega)) HSE2.out) hW, row_since (row_since (HB2.out.row HRH1.out (by omega)) HSE2.out) hW, row_since HRH2.out hW, hs3.trans (since_mono hW hs3.size)⟩
      obtain ⟨AA, HAA⟩ : ∃ x, Hid ((mgL (atM (O i) r).2.a ga1 gc1).toArray = x) := ⟨_, rfl⟩
      obtain ⟨BB, HBB⟩ : ∃ x, Hid ((mgL (atM (O i) r).2.a ga2 gc2).toArray = x) := ⟨_, rfl⟩
      have HEM : Hid (Calls Try.prog 15 #[.agg AA, .agg BB] WE2 fun e w' => e = .returned (.bool true) ∧ Hid (WE2.Since WE2.heap.size w')) := by
        have q := eqMsg_same (atM (O i) r).2.a ga1 ga2 gc1 gc2 WE2 HB1E HB2E (by have := hval.2; omega)
        unfold mgV at q
        rw [HAA.out, HBB.out] at q
        exact q
      have HA1 : Hid (WE2.rangeAt hb1 0 (mgL (atM (O i) r).2.a ga1 gc1)) := hd_range (HRW.out WE2 (World.Since.refl _ _)).2.2.2.1
      have HA2 : Hid (WE2.rangeAt hb2 0 (mgL (atM (O i) r).2.a ga2 gc2)) := hd_range (HRW.out WE2 (World.Since.refl _ _)).2.2.2.2.1
      have HI1' : Hid ((Try.prog.info? 41).map (·.size) = some (mgL (atM (O i) r).2.a ga1 gc1).length) := infoMg' _ _ _
      have HI2' : Hid ((Try.prog.info? 41).map (·.size) = some (mgL (atM (O i) r).2.a ga2 gc2).length) := infoMg' _ _ _
      have HMG : Hid ((atM (O i) r).1.n 0 ≠ 0 → ∀ W : World, WE2.Since WE2.heap.size W → MgA W (atM (O i) r).1 va1 vc1 ∧ MgN (atM (O i) r).1) := fun hk W hW => by
        obtain ⟨d1, ea⟩ := kind_hears hk
        obtain ⟨e1, e2⟩ := HVA1.out d1
        rw [ea, e1, e2]
        have hwW : w.Since w.heap.size W := by
          have a := (HRW.out W hW).2.2.2.2.2
          exact HS1.out.trans (since_mono a HS1.out.size)
        exact ⟨(HL.out.ops.ok i hlt).1.since hwW, (HL.out.ops.ok i hlt).2.1⟩
      have HTW : Hid ((atM (O i) r).1.n 0 ≠ 0 → TW (atM (O i) r).2 (hearM (atM (O i) r).2.r (atM (O i) r).1)) := fun hk => by
        obtain ⟨_, ea⟩ := kind_hears hk
        rw [ea]
        exact hear_twice r (O i).m
      have HOK := hide hok
      have HVL : Hid ((∀ v ∈ (atM (O i) r).2.a.s 10, v < 256) ∧ ((atM (O i) r).2.a.s 10).length ≤ 140737488351232) := hval
      have HNE : Hid (hb1 ≠ hb2) := by
        have h1 := HRH1.out.lt
        have h2 := HB2.out.size
        have h3 := Hmb2.out
        have h4 := Hhb2.out
        show hb1 ≠ hb2
        omega
      have HBL : Hid (hb1 < WE2.heap.size) := by
        have h1 := HRH1.out.lt
        have h2 := HB2.out.size
        have h3 := HSE2.out.size
        show hb1 < _
        omega
      have HGV2 : Hid (∀ W W' : World, WE2.Since WE2.heap.size W → (∀ k, k ≠ rb → k ≠ hb1 → k < W.heap.size → W'.heap[k]? = W.heap[k]?) → Byt W' ga2 ((atM (O i) r).2.a.s 10).length (fun j => ((atM (O i) r).2.a.s 10).getD j 0)) := fun W W' hW hb => by
        intro j hj
        obtain ⟨b, off, e, hc⟩ := HB2E.since hW j hj
        refine ⟨b, off, e, ?_⟩
        have hge : WE1.heap.size ≤ b := by
          rcases HAN2.out with ⟨_, _, h⟩ | ⟨g, hg, hlo, _⟩
          · rw [h] at hj; exact absurd hj (Nat.not_lt_zero _)
          · rw [hg] at e
            have : g = b := by simpa using congrArg (Option.map Addr.block) e
            omega
        have h1 := HRH1.out.lt
        have h2 := HR9.out.lt
        rw [World.cell?_of_block (a := ⟨b, off + j, none⟩) (hb b (by omega) (by omega) (World.block_lt_of_cell? _ _ hc))]
        exact hc
      have HI1 : Hid (i + 1 ≤ on ∧ i + 1 ≤ 500) := ⟨by omega, by omega⟩
      have hme : on - (i + 1) < on - i := by omega
      have hwi : IntKind.i64.wrap ((i : Int) + 1) = (i : Int) + 1 := by rw [IntKind.wrap_i64]; omega
      have HHB : Hid (W1.heap.size ≤ hb1) := by have := HS17.out.size; show _ ≤ _; omega
      clear hrb1 hz1 htl hm1 hh1 hs2 hs3 hok hval HB1E HB2E HB1 HB2 HSE1 HSE2 HRM1 HRH1 HRM2 HRH2 HAN1 HAN2 HQ2 HR9 HT9 HS19 HS17 HRT HS7 HTB hrw htb HZV HZW HVA1 HVA2 HRr HSr hiz hi5z hi hi5 hl5 Hmb1 Hhb1 Hmb2 Hhb2 HON
      obtain ⟨M, HM⟩ : ∃ x, Hid ((atM (O i) r).1 = x) := ⟨_, rfl⟩
      obtain ⟨HH, HHH⟩ : ∃ x, Hid ((atM (O i) r).2 = x) := ⟨_, rfl⟩
      rw [HM.out] at HRW HMG HTW
      rw [HHH.out] at HRW HA1 HA2 HI1' HI2' HAA HBB HTW HVL HGV2
      clear HM HHH
      go_upto_region 12 with fail
      refine wp_region_lit ?_
      refine wpList_plain rfl fun _ hK => op_run (.pointer (some ⟨hb1, 0, none⟩)) (by kernel_rfl) (hK _ _ ?_)
      simp only [Act.put, List.setIfInBounds_toArray, List.set_cons_zero, List.set_cons_succ]
      refine wpList_load_mid rfl 41 (.tmp 63) rfl hb1 0 rfl (mgL HH.a ga1 gc1) _ HA1.out Try.underlying41 rfl HI1'.out ?_
      rw [HAA.out]
      simp only [Act.put, List.setIfInBounds_toArray, List.set_cons_zero, List.set_cons_succ]
      refine wpList_plain rfl fun _ hK => op_run (.pointer (some ⟨hb2, 0, none⟩)) (by kernel_rfl) (hK _ _ ?_)
      simp only [Act.put, List.setIfInBounds_toArray, List.set_cons_zero, List.set_cons_succ]
      refine wpList_load_mid rfl 41 (.tmp 65) rfl hb2 0 rfl (mgL HH.a ga2 gc2) _ HA2.out Try.underlying41 rfl HI2'.out ?_
      rw [HBB.out]
      simp only [Act.put, List.setIfInBounds_toArray, List.set_cons_zero, List.set_cons_succ]
      refine wpList_plain rfl fun _ hK => op_call 15 #[.agg AA, .agg BB] (by kernel_rfl) HEM.out ?_
      rintro e w13 ⟨rfl, HS13⟩
      refine ⟨_, rfl, hK _ _ ?_⟩
      simp only [Act.put, List.setIfInBounds_toArray, List.set_cons_zero, List.set_cons_succ]
      clear hK HEM HA1 HA2 HI1' HI2'
      obtain ⟨_, _, _, rh1, rh2, _⟩ := HRW.out w13 HS13.out
      have c1 : w13.cell? ⟨hb1, 22, none⟩ = some (.bool HH.b1) := rh1.cell (i := 22) (by decide)
      have c2 : w13.cell? ⟨hb1, 23, none⟩ = some (.bool HH.b2) := rh1.cell (i := 23) (by decide)
      have c3 : w13.cell? ⟨hb1, 24, none⟩ = some (.bool HH.b3) := rh1.cell (i := 24) (by decide)
      have d1 : w13.cell? ⟨hb2, 22, none⟩ = some (.bool HH.b1) := rh2.cell (i := 22) (by decide)
      have d2 : w13.cell? ⟨hb2, 23, none⟩ = some (.bool HH.b2) := rh2.cell (i := 23) (by decide)
      have d3 : w13.cell? ⟨hb2, 24, none⟩ = some (.bool HH.b3) := rh2.cell (i := 24) (by decide)
      clear rh1 rh2
      refine wpList_plain rfl fun _ hK => op_run (.bool false) (by kernel_rfl) (hK _ _ ?_)
      simp only [Act.put, List.setIfInBounds_toArray, List.set_cons_zero, List.set_cons_succ]
      refine wpList_plain rfl fun _ hK => op_run (.bool false) (by kernel_rfl) (hK _ _ ?_)
      simp only [Act.put, List.setIfInBounds_toArray, List.set_cons_zero, List.set_cons_succ]
      refine wpList_want rfl fun _ hK => op_run (.pointer (some ⟨hb1, 22, none⟩)) (by kernel_rfl) (hK _ _ ?_)
      simp only [Act.put, List.setIfInBounds_toArray, List.set_cons_zero, List.set_cons_succ]
      refine wpList_want rfl fun _ hK => op_run (.bool HH.b1) (by go_simp) (hK _ _ ?_)
      simp only [Act.put, List.setIfInBounds_toArray, List.set_cons_zero, List.set_cons_succ]
      refine wpList_want rfl fun _ hK => op_run (.pointer (some ⟨hb2, 22, none⟩)) (by kernel_rfl) (hK _ _ ?_)
      simp only [Act.put, List.setIfInBounds_toArray, List.set_cons_zero, List.set_cons_succ]
      refine wpList_want rfl fun _ hK => op_run (.bool HH.b1) (by go_simp) (hK _ _ ?_)
      simp only [Act.put, List.setIfInBounds_toArray, List.set_cons_zero, List.set_cons_succ]
      refine wpList_want rfl fun _ hK => op_run (.bool false) (by go_simp) (hK _ _ ?_)
      simp only [Act.put, List.setIfInBounds_toArray, List.set_cons_zero, List.set_cons_succ]
      refine wpList_plain rfl fun _ hK => op_run (.bool false) (by kernel_rfl) (hK _ _ ?_)
      simp only [Act.put, List.setIfInBounds_toArray, List.set_cons_zero, List.set_cons_succ]
      refine wpList_plain rfl fun _ hK => op_run (.bool false) (by kernel_rfl) (hK _ _ ?_)
      simp only [Act.put, List.setIfInBounds_toArray, List.set_cons_zero, List.set_cons_succ]
      refine wpList_want rfl fun _ hK => op_run (.pointer (some ⟨hb1, 23, none⟩)) (by kernel_rfl) (hK _ _ ?_)
      simp only [Act.put, List.setIfInBounds_toArray, List.set_cons_zero, List.set_cons_succ]
      refine wpList_want rfl fun _ hK => op_run (.bool HH.b2) (by go_simp) (hK _ _ ?_)
      simp only [Act.put, List.setIfInBounds_toArray, List.set_cons_zero, List.set_cons_succ]
      refine wpList_want rfl fun _ hK => op_run (.pointer (some ⟨hb2, 23, none⟩)) (by kernel_rfl) (hK _ _ ?_)
      simp only [Act.put, List.setIfInBounds_toArray, List.set_cons_zero, List.set_cons_succ]
      refine wpList_want rfl fun _ hK => op_run (.bool HH.b2) (by go_simp) (hK _ _ ?_)
      simp only [Act.put, List.setIfInBounds_toArray, List.set_cons_zero, List.set_cons_succ]
      refine wpList_want rfl fun _ hK => op_run (.bool false) (by go_simp) (hK _ _ ?_)
      simp only [Act.put, List.setIfInBounds_toArray, List.set_cons_zero, List.set_cons_succ]
      refine wpList_plain rfl fun _ hK => op_run (.bool false) (by kernel_rfl) (hK _ _ ?_)
      simp only [Act.put, List.setIfInBounds_toArray, List.set_cons_zero, List.set_cons_succ]
      refine wpList_plain rfl fun _ hK => op_run (.bool false) (by kernel_rfl) (hK _ _ ?_)
      simp only [Act.put, List.setIfInBounds_toArray, List.set_cons_zero, List.set_cons_succ]
      refine wpList_want rfl fun _ hK => op_run (.pointer (some ⟨hb1, 24, none⟩)) (by kernel_rfl) (hK _ _ ?_)
      simp only [Act.put, List.setIfInBounds_toArray, List.set_cons_zero, List.set_cons_succ]
      refine wpList_want rfl fun _ hK => op_run (.bool HH.b3) (by go_simp) (hK _ _ ?_)
      simp only [Act.put, List.setIfInBounds_toArray, List.set_cons_zero, List.set_cons_succ]
      refine wpList_want rfl fun _ hK => op_run (.pointer (some ⟨hb2, 24, none⟩)) (by kernel_rfl) (hK _ _ ?_)
      simp only [Act.put, List.setIfInBounds_toArray, List.set_cons_zero, List.set_cons_succ]
      refine wpList_want rfl fun _ hK => op_run (.bool HH.b3) (by go_simp) (hK _ _ ?_)
      simp only [Act.put, List.setIfInBounds_toArray, List.set_cons_zero, List.set_cons_succ]
      refine wpList_want rfl fun _ hK => op_run (.bool false) (by go_simp) (hK _ _ ?_)
      simp only [Act.put, List.setIfInBounds_toArray, List.set_cons_zero, List.set_cons_succ]
      refine wpList_plain rfl fun _ hK => op_run (.bool false) (by kernel_rfl) (hK _ _ ?_)
      simp only [Act.put, List.setIfInBounds_toArray, List.set_cons_zero, List.set_cons_succ]
      refine wpList_plain rfl fun _ hK => op_run (.bool false) (by kernel_rfl) (hK _ _ ?_)
      simp only [Act.put, List.setIfInBounds_toArray, List.set_cons_zero, List.set_cons_succ]
      clear c1 c2 c3 d1 d2 d3
      have HST1 := hide (stored_any (HRW.out w13 HS13.out).1)
      refine wpList_want rfl fun _ hK => op_run (.pointer (some ⟨rb, 0, none⟩)) (by kernel_rfl) (hK _ _ ?_)
      simp only [Act.put, List.setIfInBounds_toArray, List.set_cons_zero, List.set_cons_succ]
      refine wpList_want rfl fun _ hK => op_call 10 #[.pointer (some ⟨rb, 0, none⟩)] (by kernel_rfl) HST1.out ?_
      rintro e w14 ⟨x1, y1, rfl, _, _, hx1, hs14⟩
      refine ⟨_, rfl, hK _ _ ?_⟩
      clear hK HST1
      have HS14 : Hid (WE2.Since WE2.heap.size w14) := HS13.out.trans (since_mono hs14 HS13.out.size)
      obtain ⟨SV1, HSV1⟩ : ∃ x, Hid (stV HH.r x1 y1 = x) := ⟨_, rfl⟩
      rw [HSV1.out]
      simp only [Act.put, List.setIfInBounds_toArray, List.set_cons_zero, List.set_cons_succ]
      have HST2 := hide (stored_any (HRW.out w14 HS14.out).2.1)
      refine wpList_want rfl fun _ hK => op_run (.pointer (some ⟨tb, 0, none⟩)) (by kernel_rfl) (hK _ _ ?_)
      simp only [Act.put, List.setIfInBounds_toArray, List.set_cons_zero, List.set_cons_succ]
      refine wpList_want rfl fun _ hK => op_call 10 #[.pointer (some ⟨tb, 0, none⟩)] (by kernel_rfl) HST2.out ?_
      rintro e w15 ⟨x2, y2, rfl, _, _, hx2, hs15⟩
      refine ⟨_, rfl, hK _ _ ?_⟩
      clear hK HST2
      have HS15 : Hid (WE2.Since WE2.heap.size w15) := HS14.out.trans (since_mono hs15 HS14.out.size)
      obtain ⟨SV2, HSV2⟩ : ∃ x, Hid (stV HH.r x2 y2 = x) := ⟨_, rfl⟩
      rw [HSV2.out]
      simp only [Act.put, List.setIfInBounds_toArray, List.set_cons_zero, List.set_cons_succ]
      have HES : Hid (Calls Try.prog 16 #[SV1, SV2] w15 fun e w' => e = .returned (.bool true) ∧ Hid (WE2.Since WE2.heap.size w')) := by
        rw [← HSV1.out, ← HSV2.out]
        have hl := (HRW.out w15 HS15.out).1.ok.len
        have q := eqSt_any HH.r.p HH.r.te HH.r.ts HH.r.p HH.r.te HH.r.ts (some ⟨x1, 0, none⟩) (some ⟨x2, 0, none⟩) HH.r.v.length HH.r.v.length y1 y2 _ _ w15 (hx1.since hs15) hx2 (by omega) (by omega)
        exact q.mono fun e w' ⟨he, hs⟩ => ⟨by rw [he]; simp, HS15.out.trans (since_mono hs HS15.out.size)⟩
      refine wpList_want rfl fun _ hK => op_call 16 #[SV1, SV2] (by kernel_rfl) HES.out ?_
      rintro e w16 ⟨rfl, HS16⟩
      refine ⟨_, rfl, hK _ _ ?_⟩
      simp only [Act.put, List.setIfInBounds_toArray, List.set_cons_zero, List.set_cons_succ]
      clear hK HES HSV1 HSV2 hx1 hx2 hs14 hs15
      refine wpList_want rfl fun _ hK => op_run (.bool false) (by kernel_rfl) (hK _ _ ?_)
      simp only [Act.put, List.setIfInBounds_toArray, List.set_cons_zero, List.set_cons_succ]
      refine wpList_plain rfl fun _ hK => op_run (.bool false) (by kernel_rfl) (hK _ _ ?_)
      simp only [Act.put, List.setIfInBounds_toArray, List.set_cons_zero, List.set_cons_succ]
      refine wpList_plain rfl fun _ hK => op_run (.bool false) (by kernel_rfl) (hK _ _ ?_)
      simp only [Act.put, List.setIfInBounds_toArray, List.set_cons_zero, List.set_cons_succ]
      have HWA1 : Hid (Calls Try.prog 12 #[.pointer (some ⟨rb, 0, none⟩)] w16 fun e w' => e = .returned (.int .i64 HH.r.wt) ∧ w16 = w') := (wait_any (HRW.out w16 HS16.out).1).mono fun e w' ⟨h1, h2⟩ => ⟨h1, h2.symm⟩
      have HWA2 : Hid (Calls Try.prog 12 #[.pointer (some ⟨tb, 0, none⟩)] w16 fun e w' => e = .returned (.int .i64 HH.r.wt) ∧ w16 = w') := (wait_any (HRW.out w16 HS16.out).2.1).mono fun e w' ⟨h1, h2⟩ => ⟨h1, h2.symm⟩
      refine wpList_want rfl fun _ hK => op_run (.pointer (some ⟨rb, 0, none⟩)) (by kernel_rfl) (hK _ _ ?_)
      simp only [Act.put, List.setIfInBounds_toArray, List.set_cons_zero, List.set_cons_succ]
      refine wpList_want rfl fun _ hK => op_call 12 #[.pointer (some ⟨rb, 0, none⟩)] (by kernel_rfl) HWA1.out ?_
      rintro e _ ⟨rfl, rfl⟩
      refine ⟨_, rfl, hK _ _ ?_⟩
      simp only [Act.put, List.setIfInBounds_toArray, List.set_cons_zero, List.set_cons_succ]
      clear hK HWA1
      refine wpList_want rfl fun _ hK => op_run (.pointer (some ⟨tb, 0, none⟩)) (by kernel_rfl) (hK _ _ ?_)
      simp only [Act.put, List.setIfInBounds_toArray, List.set_cons_zero, List.set_cons_succ]
      refine wpList_want rfl fun _ hK => op_call 12 #[.pointer (some ⟨tb, 0, none⟩)] (by kernel_rfl) HWA2.out ?_
      rintro e _ ⟨rfl, rfl⟩
      refine ⟨_, rfl, hK _ _ ?_⟩
      simp only [Act.put, List.setIfInBounds_toArray, List.set_cons_zero, List.set_cons_succ]
      clear hK HWA2
      refine wpList_want rfl fun _ hK => op_run (.bool false) (by go_simp) (hK _ _ ?_)
      simp only [Act.put, List.setIfInBounds_toArray, List.set_cons_zero, List.set_cons_succ]
      refine wpList_plain rfl fun _ hK => op_run (.bool false) (by kernel_rfl) (hK _ _ ?_)
      simp only [Act.put, List.setIfInBounds_toArray, List.set_cons_zero, List.set_cons_succ]
      obtain ⟨hr16, _, rm16, _, _, hw16⟩ := HRW.out w16 HS16.out
      have ck : w16.cell? ⟨mb1, 0, none⟩ = some (.int .i64 (M.n 0)) := rm16.cell (i := 0) (by decide)
      have HQ : Hid (RpIs w16 rb HH.r ∧ W1.Since W1.heap.size w16) := ⟨hr16, hw16⟩
      clear hr16 rm16 hw16 HS13 HS14 HS15
      by_cases hk0 : M.n 0 = 0
      · have ek : (M.n 0 == 0) = true := by simp [hk0]
        clear hk0 HMG HTW
        generalize M.n 0 = mk at *
        go_wp2_with fail
        go_roundg (on - (i + 1))
        case measure => go_light; exact hme
        case rel => go_light; exact ⟨i + 1, HH.r, HI1.out.1, HI1.out.2, rfl, by simp, HQ.out.1, HQ.out.2⟩
      · skip
        have ek : (M.n 0 == 0) = false := by simp [hk0]
        have HST := hide (stored_any HQ.out.1)
        have htw := HTW.out hk0
        have HMG2 := hide (HMG.out hk0)
        go_upto_region 15 with fail
        clear ek ck
        refine wp_region_lit ?_
        refine wpList_plain rfl fun _ hK => op_run (.pointer (some ⟨rb, 0, none⟩)) (by kernel_rfl) (hK _ _ ?_)
        simp only [Act.put, List.setIfInBounds_toArray, List.set_cons_zero, List.set_cons_succ]
        refine wpList_plain rfl fun _ hK => op_call 10 #[.pointer (some ⟨rb, 0, none⟩)] (by kernel_rfl) HST.out ?_
        rintro e w20 ⟨ng, ngc, rfl, hng, _, hnB, hs20⟩
        refine ⟨_, rfl, hK _ _ ?_⟩
        clear hK HST
        obtain ⟨W21, SB, HSB, HT21, HW21, HI21, HO21, HR21, HS21⟩ := st_put w20 [.int .u64 (HH.r.p : Nat), .int .u64 (HH.r.te : Nat), .int .u64 (HH.r.ts : Nat), .slice (some ⟨ng, 0, none⟩) HH.r.v.length ngc] rfl (by simp [Value.oneCell'])
        rw [show stV HH.r ng ngc = .agg SB from congrArg Value.agg HSB.out]
        simp only [Act.put, List.setIfInBounds_toArray, List.set_cons_zero, List.set_cons_succ]
        go_upto_region 16 with (refine wpList_store_mid rfl 27 _ _ rfl w20.heap.size 0 _ rfl rfl HT21.out HI21.out HO21.out ?_; rw [HW21.out])
        have s21 : WE2.Since WE2.heap.size W21 := by
          have a := HS16.out.trans (since_mono hs20 HS16.out.size)
          exact a.trans (since_mono HS21.out a.size)
        obtain ⟨hr21, _, rm21, _, _, _⟩ := HRW.out W21 s21
        obtain ⟨hA21, hN21⟩ := HMG2.out W21 s21
        obtain ⟨MM, HMM⟩ : ∃ x, Hid (mgV M va1 vc1 = .agg x) := ⟨_, rfl⟩
        have hMM : (mgL M va1 vc1).toArray = MM := Value.agg.inj HMM.out
        have HMR : Hid (W21.heap[mb1]? = some (.cells MM 41 (0, 0))) := by
          obtain ⟨cs, h1, h2, h3⟩ := rm21
          have : cs = MM := by
            rw [← hMM]
            apply Array.ext_getElem?
            intro j
            by_cases hj : j < 22
            · rw [h3 j hj, List.getElem?_toArray]
              exact (mgL_get M va1 vc1 j hj).symm
            · rw [Array.getElem?_eq_none (by omega), Array.getElem?_eq_none (by rw [List.size_toArray, mgL_len]; omega)]
          rw [← this]; exact h1
        have HMI : Hid ((Try.prog.info? 41).map (·.size) = some MM.size) := by rw [← hMM]; exact infoMgA _ _ _
        have HCM : Hid (Calls Try.prog 17 #[.agg MM] W21 fun e w' => ∃ CC, e = .returned (.agg CC) ∧ Hid (W21.Since W21.heap.size w') ∧ Hid (Calls Try.prog 13 #[.pointer (some ⟨rb, 0, none⟩), .agg CC] w' fun e w'' => ∃ ga gc, e = .returned (hdV (hearM HH.r M).a ga gc (hearM HH.r M).b1 (hearM HH.r M).b2 (hearM HH.r M).b3) ∧ Hid (RpIs w'' rb (hearM HH.r M).r) ∧ Hid (But rb w' w'') ∧ Hid (AnV w'.heap.size w'' (hearM HH.r M).a ga gc))) := by
          have q := copyMsg_any M va1 vc1 W21 hA21
          rw [HMM.out] at q
          refine q.mono fun e w' ⟨g, he, hA, hs, _⟩ => ⟨(mgL M (some ⟨g, 0, none⟩) (M.s 10).length).toArray, he, hs, ?_⟩
          exact (hear_any (hr21.since hs) M (some ⟨g, 0, none⟩) (M.s 10).length hA hN21).mono fun e w'' ⟨ga, gc, he2, h1, h2, h3⟩ => ⟨ga, gc, he2, h1, h2, h3⟩
        clear HMM hMM rm21 hA21 hN21 HMG HMG2 HSB HT21 HW21 HI21 HO21
        refine wp_region_lit ?_
        refine wpList_plain rfl fun _ hK => op_run (.pointer (some ⟨rb, 0, none⟩)) (by kernel_rfl) (hK _ _ ?_)
        simp only [Act.put, List.setIfInBounds_toArray, List.set_cons_zero, List.set_cons_succ]
        refine wpList_load_row rfl 41 (.tmp 6) rfl mb1 rfl _ MM (0, 0) _ HMR.out Try.underlying41 rfl HMI.out ?_
        simp only [Act.put, List.setIfInBounds_toArray, List.set_cons_zero, List.set_cons_succ]
        refine wpList_plain rfl fun _ hK => op_call 17 #[.agg MM] (by kernel_rfl) HCM.out ?_
        rintro e w22 ⟨CC, rfl, HS22, HHR⟩
        refine ⟨_, rfl, hK _ _ ?_⟩
        simp only [Act.put, List.setIfInBounds_toArray, List.set_cons_zero, List.set_cons_succ]
        clear hK HCM HMR HMI
        refine wpList_plain rfl fun _ hK => op_call 13 #[.pointer (some ⟨rb, 0, none⟩), .agg CC] (by kernel_rfl) HHR.out ?_
        rintro e w23 ⟨g3, c3, rfl, HR23, HB23, HAN⟩
        refine ⟨_, rfl, hK _ _ ?_⟩
        clear hK HHR
        have s22 : WE2.Since WE2.heap.size w22 := s21.trans (since_mono HS22.out s21.size)
        obtain ⟨hr22, _, _, rh22, rg22, hw22⟩ := HRW.out w22 s22
        have hne1 : hb1 ≠ rb := fun e => by
          have h1 := hr22.row
          rw [← e] at h1
          obtain ⟨q1, g1, _⟩ := h1
          obtain ⟨q2, g2, _⟩ := rh22
          rw [g1] at g2
          simp only [Option.some.injEq, Obj.cells.injEq] at g2
          exact absurd g2.2.1 (by decide)
        have hne2 : hb2 ≠ rb := fun e => by
          have h1 := hr22.row
          rw [← e] at h1
          obtain ⟨q1, g1, _⟩ := h1
          obtain ⟨q2, g2, _⟩ := rg22
          rw [g1] at g2
          simp only [Option.some.injEq, Obj.cells.injEq] at g2
          exact absurd g2.2.1 (by decide)
        have rh23 := HB23.out.row rh22 hne1
        obtain ⟨W24, HW24, hh24, z24, b24, o24, t24, p24⟩ := cells_stored rh23 (hdL (hearM HH.r M).a g3 c3 (hearM HH.r M).b1 (hearM HH.r M).b2 (hearM HH.r M).b3) (hdL_len _ _ _ _ _ _)
        have HT24 : Hid (w23.there hb1 0 (hdL (hearM HH.r M).a g3 c3 (hearM HH.r M).b1 (hearM HH.r M).b2 (hearM HH.r M).b3).toArray.size) := by
          show World.there _ _ _ _
          rw [List.size_toArray, hdL_len]
          exact row_there rh23
        have HI24 := hide (infoHrA (hearM HH.r M).a g3 c3 (hearM HH.r M).b1 (hearM HH.r M).b2 (hearM HH.r M).b3)
        have HO24 := hide (hd_all (hearM HH.r M).a g3 c3 (hearM HH.r M).b1 (hearM HH.r M).b2 (hearM HH.r M).b3)
        have rh24 : W24.rowIs hb1 46 25 (hdCell (hearM HH.r M).a g3 c3 (hearM HH.r M).b1 (hearM HH.r M).b2 (hearM HH.r M).b3) := hd_cells hh24 rfl
        have rg24 : W24.rowIs hb2 46 25 (hdCell HH.a ga2 gc2 HH.b1 HH.b2 HH.b3) := (HB23.out.row rg22 hne2).of_block (b24 _ (fun e => HNE.out e.symm))
        have hr24 : RpIs W24 rb (hearM HH.r M).r := HR23.out.on (b24 rb (fun e => hne1 e.symm))
        have hl16 : w16.heap.size ≤ w20.heap.size := hs20.size
        have hl21 := HS21.out.size
        have hl22 := HS22.out.size
        have hl23 := HB23.out.size
        have hlb := HBL.out
        have hle2 := HS16.out.size
        have r22 : w22.rowIs w20.heap.size 27 4 (fun i => [.int .u64 (HH.r.p : Nat), .int .u64 (HH.r.te : Nat), .int .u64 (HH.r.ts : Nat), .slice (some ⟨ng, 0, none⟩) HH.r.v.length ngc].getD i undef) := row_since HR21.out HS22.out
        have hrl := HQ.out.1.lt
        have r24 : W24.rowIs w20.heap.size 27 4 (fun i => [.int .u64 (HH.r.p : Nat), .int .u64 (HH.r.te : Nat), .int .u64 (HH.r.ts : Nat), .slice (some ⟨ng, 0, none⟩) HH.r.v.length ngc].getD i undef) := (HB23.out.row r22 (by omega)).of_block (b24 _ (by omega))
        have hn23 : Byt w23 (some ⟨ng, 0, none⟩) HH.r.v.length (fun j => HH.r.v.getD j 0) := byt_but ((hnB.since HS21.out).since HS22.out) hr22 HB23.out
        have hn24 : Byt W24 (some ⟨ng, 0, none⟩) HH.r.v.length (fun j => HH.r.v.getD j 0) := fun j hj => by
          obtain ⟨b, off, e, hc⟩ := hn23 j hj
          refine ⟨b, off, e, ?_⟩
          have hbb : ng = b := by simpa using congrArg (Option.map Addr.block) e
          rw [World.cell?_of_block (a := ⟨b, off + j, none⟩) (b24 b (by omega))]
          exact hc
        have hga : Byt W24 ga2 (HH.a.s 10).length (fun j => (HH.a.s 10).getD j 0) := HGV2.out w22 W24 s22 (fun k h1 h2 h3 => (b24 k h2).trans (HB23.out.block k h3 h1))
        have han : AnV w22.heap.size W24 (hearM HH.r M).a g3 c3 := HAN.out.on (Nat.le_refl _) (fun g hg => b24 g (by omega))
        have hg3 : Byt W24 g3 (HH.a.s 10).length (fun j => (HH.a.s 10).getD j 0) := by
          have q := anv_byt han (by rw [htw.a]; exact HVL.out.1)
          rw [htw.a] at q
          exact q
        have hrb9 : w.heap.size < rb := HRB.out
        have hz9 := Hz1.out
        have hw23 : W1.Since W1.heap.size w23 := HB23.out.since hw22 (by omega) hw22.size
        have hw24 : W1.Since W1.heap.size W24 := ⟨o24.trans hw23.os, t24.trans hw23.tape, p24.trans hw23.output, by rw [z24]; exact hw23.size, fun k hk => (b24 k (fun e => by have := HHB.out; omega)).trans (hw23.block k hk)⟩
        obtain ⟨L1, HL1⟩ : ∃ x, Hid (mgL HH.a g3 c3 = x) := ⟨_, rfl⟩
        obtain ⟨L2, HL2⟩ : ∃ x, Hid (mgL HH.a ga2 gc2 = x) := ⟨_, rfl⟩
        obtain ⟨L3, HL3⟩ : ∃ x : List Value, Hid ([.int .u64 (HH.r.p : Nat), .int .u64 (HH.r.te : Nat), .int .u64 (HH.r.ts : Nat), .slice (some ⟨ng, 0, none⟩) HH.r.v.length ngc] = x) := ⟨_, rfl⟩
        rw [htw.a, htw.b2, htw.b3] at rh24
        have HA1 : Hid (∀ W : World, W24.Since W24.heap.size W → W.rangeAt hb1 0 L1) := fun W hW => by rw [← HL1.out]; exact hd_range (row_since rh24 hW)
        have HA2 : Hid (∀ W : World, W24.Since W24.heap.size W → W.rangeAt hb2 0 L2) := fun W hW => by rw [← HL2.out]; exact hd_range (row_since rg24 hW)
        have HA3 : Hid (∀ W : World, W24.Since W24.heap.size W → W.rangeAt w20.heap.size 0 L3) := fun W hW j v hv => by
          rw [← HL3.out] at hv
          have hj : j < 4 := (List.getElem?_eq_some_iff.1 hv).1
          have := (row_since r24 hW).cell (i := j) hj
          rw [Nat.zero_add, this, List.getD_eq_getElem?_getD, hv]
          rfl
        have HN1 : Hid ((Try.prog.info? 41).map (·.size) = some L1.length) := by rw [← HL1.out]; exact infoMg' _ _ _
        have HN2 : Hid ((Try.prog.info? 41).map (·.size) = some L2.length) := by rw [← HL2.out]; exact infoMg' _ _ _
        have HN3 : Hid ((Try.prog.info? 27).map (·.size) = some L3.length) := by rw [← HL3.out]; exact infoSt
        have HCL : Hid (∀ W : World, W24.Since W24.heap.size W → W.cell? ⟨hb1, 23, none⟩ = some (.bool HH.b2) ∧ W.cell? ⟨hb2, 23, none⟩ = some (.bool HH.b2) ∧ W.cell? ⟨hb1, 24, none⟩ = some (.bool false)) := fun W hW => ⟨(row_since rh24 hW).cell (i := 23) (by decide), (row_since rg24 hW).cell (i := 23) (by decide), (row_since rh24 hW).cell (i := 24) (by decide)⟩
        have HD0 : Hid (W24.Since W24.heap.size W24.drew) := (World.Since.refl _ _).drew
        have HEM : Hid (Calls Try.prog 15 #[.agg L1.toArray, .agg L2.toArray] W24.drew fun e w' => e = .returned (.bool true) ∧ Hid (W24.Since W24.heap.size w')) := by
          rw [← HL1.out, ← HL2.out]
          exact (eqMsg_same HH.a g3 ga2 c3 gc2 W24.drew (hg3.since HD0.out) (hga.since HD0.out) (by have := HVL.out.2; omega)).mono fun e w' ⟨he, hs⟩ => ⟨he, HD0.out.trans (since_mono hs HD0.out.size)⟩
        have HSG : Hid (∀ W : World, Hid (W24.Since W24.heap.size W) → Calls Try.prog 10 #[.pointer (some ⟨rb, 0, none⟩)] W fun e w' => ∃ SV, e = .returned SV ∧ Hid (W24.Since W24.heap.size w') ∧ Hid (Calls Try.prog 16 #[SV, .agg L3.toArray] w' fun e w'' => e = .returned (.bool true) ∧ Hid (W24.Since W24.heap.size w''))) := fun W hW => by
          refine (stored_any (hr24.since hW.out)).mono fun e w' ⟨x3, y3, he, _, _, hx3, hs⟩ => ?_
          have hs' : W24.Since W24.heap.size w' := hW.out.trans (since_mono hs hW.out.size)
          refine ⟨_, he, hs', ?_⟩
          rw [← HL3.out]
          have hlen := HR23.out.ok.len
          have q := eqSt_any (hearM HH.r M).r.p (hearM HH.r M).r.te (hearM HH.r M).r.ts HH.r.p HH.r.te HH.r.ts (some ⟨x3, 0, none⟩) (some ⟨ng, 0, none⟩) (hearM HH.r M).r.v.length HH.r.v.length y3 ngc _ _ w' hx3 (hn24.since hs') (by omega) (by have := hr21.ok.len; omega)
          refine q.mono fun e w'' ⟨he2, hs2⟩ => ⟨?_, hs'.trans (since_mono hs2 hs'.size)⟩
          rw [he2, range_getD, range_getD, htw.p, htw.te, htw.ts, htw.v]
          simp
        have HFI : Hid (∀ W : World, W24.Since W24.heap.size W → RpIs W rb (hearM HH.r M).r ∧ W1.Since W1.heap.size W) := fun W hW => ⟨hr24.since hW, hw24.trans (since_mono hW hw24.size)⟩
        obtain ⟨HA, HHA⟩ : ∃ x, Hid ((hdL (hearM HH.r M).a g3 c3 (hearM HH.r M).b1 (hearM HH.r M).b2 (hearM HH.r M).b3).toArray = x) := ⟨_, rfl⟩
        have HWX : Hid (w23.setCells hb1 0 HA.toList = W24) := by rw [← HHA.out]; exact HW24
        rw [HHA.out] at HT24 HI24 HO24
        unfold hdV
        rw [HHA.out]
        obtain ⟨sb, Hsb⟩ : ∃ x, Hid (w20.heap.size = x) := ⟨_, rfl⟩
        rw [Hsb.out] at HA3 ⊢
        simp only [Act.put, List.setIfInBounds_toArray, List.set_cons_zero, List.set_cons_succ]
        refine wpList_store_mid rfl 46 (.tmp 7) (.tmp 114) rfl hb1 0 HA rfl rfl HT24.out HI24.out HO24.out ?_
        rw [HWX.out]
        simp only [Act.put]
        clear hK HW24 hh24 z24 b24 o24 t24 p24 rh24 rg24 hr24 hl16 hl21 hl22 hl23 hlb hle2 r22 r24 hrl hn23 hn24 hga han hg3 hrb9 hz9 hw23 hw24 HL1 HL2 HL3 HT24 HI24 HO24 HHA HWX rh23 hne1 hne2 hr22 rh22 rg22 hw22 s22 s21 hr21 htw HAN HB23 HR23 HR21 HS21 HS22 hng hnB hs20 HTW HVL HGV2 HRW HQ HNE HBL HHB Hsb
        go_upto_region 17 with fail
        as_aux_lemma =>
          refine wp_region_held_drew (S := fun W => W24.Since W24.heap.size W) (by kernel_rfl) HD0.out fun _ => ?_
          refine wpAnyH_take (i := 0) (v := .pointer (some ⟨hb1, 0, none⟩)) rfl (by kernel_rfl) (by kernel_rfl) (by kernel_rfl) (fun _ _ _ h => h) (.inl ⟨rfl, fun W hW => by kernel_rfl⟩) HD0.out ?_
          simp only [List.getElem_toArray, List.getElem_cons_zero, Act.put, List.setIfInBounds_toArray, List.set_cons_zero, List.set_cons_succ]
          refine wpAnyH_take (i := 1) (v := .agg L1.toArray) rfl (by kernel_rfl) (by kernel_rfl) (by kernel_rfl) (fun _ _ _ h => h) (yieldsIf_load_mid rfl 41 (.tmp 115) rfl hb1 0 rfl L1 _ (fun W hW => HA1.out W hW) Try.underlying41 rfl HN1.out) HD0.out ?_
          simp only [List.getElem_toArray, List.getElem_cons_zero, List.getElem_cons_succ, Act.put, List.setIfInBounds_toArray, List.set_cons_zero, List.set_cons_succ]
          refine wpAnyH_take (i := 2) (v := .pointer (some ⟨hb2, 0, none⟩)) rfl (by kernel_rfl) (by kernel_rfl) (by kernel_rfl) (fun _ _ _ h => h) (.inl ⟨rfl, fun W hW => by kernel_rfl⟩) HD0.out ?_
          simp only [List.getElem_toArray, List.getElem_cons_zero, List.getElem_cons_succ, Act.put, List.setIfInBounds_toArray, List.set_cons_zero, List.set_cons_succ]
          refine wpAnyH_take (i := 3) (v := .agg L2.toArray) rfl (by kernel_rfl) (by kernel_rfl) (by kernel_rfl) (fun _ _ _ h => h) (yieldsIf_load_mid rfl 41 (.tmp 117) rfl hb2 0 rfl L2 _ (fun W hW => HA2.out W hW) Try.underlying41 rfl HN2.out) HD0.out ?_
          simp only [List.getElem_toArray, List.getElem_cons_zero, List.getElem_cons_succ, Act.put, List.setIfInBounds_toArray, List.set_cons_zero, List.set_cons_succ]
          refine wpAnyH_ready (rs := [4]) (by kernel_rfl) (by simp) ?_
          refine AllReadyH.cons rfl (fun K hK => ?_) AllReadyH.nil
          refine step_callW rfl 15 #[.agg L1.toArray, .agg L2.toArray] (by kernel_rfl) HEM.out ?_
          rintro e w25 ⟨rfl, HS25⟩
          refine ⟨_, rfl, hK.out _ _ HS25.out fun _ => ?_⟩
          clear hK HEM
          simp only [List.getElem_toArray, List.getElem_cons_zero, List.getElem_cons_succ, Act.put, List.setIfInBounds_toArray, List.set_cons_zero, List.set_cons_succ]
          refine wpAnyH_take (i := 5) (v := .bool false) rfl (by kernel_rfl) (by kernel_rfl) (by kernel_rfl) (fun _ _ _ h => h) (.inl ⟨rfl, fun W hW => by kernel_rfl⟩) HS25.out ?_
          simp only [List.getElem_toArray, List.getElem_cons_zero, List.getElem_cons_succ, Act.put, List.setIfInBounds_toArray, List.set_cons_zero, List.set_cons_succ]
          refine wpAnyH_take (i := 6) (v := .bool false) rfl (by kernel_rfl) (by kernel_rfl) (by kernel_rfl) (fun _ _ _ h => h) (.inl ⟨rfl, fun W hW => by kernel_rfl⟩) HS25.out ?_
          simp only [List.getElem_toArray, List.getElem_cons_zero, List.getElem_cons_succ, Act.put, List.setIfInBounds_toArray, List.set_cons_zero, List.set_cons_succ]
          refine wpAnyH_take (i := 7) (v := .pointer (some ⟨hb1, 23, none⟩)) rfl (by kernel_rfl) (by kernel_rfl) (by kernel_rfl) (fun _ _ _ h => h) (.inl ⟨rfl, fun W hW => by kernel_rfl⟩) HS25.out ?_
          simp only [List.getElem_toArray, List.getElem_cons_zero, List.getElem_cons_succ, Act.put, List.setIfInBounds_toArray, List.set_cons_zero, List.set_cons_succ]
          refine wpAnyH_take (i := 8) (v := .bool HH.b2) rfl (by kernel_rfl) (by kernel_rfl) (by kernel_rfl) (fun _ _ _ h => h) (.inl ⟨rfl, fun W hW => by have c := (HCL.out W hW).1; go_simp⟩) HS25.out ?_
          simp only [List.getElem_toArray, List.getElem_cons_zero, List.getElem_cons_succ, Act.put, List.setIfInBounds_toArray, List.set_cons_zero, List.set_cons_succ]
          refine wpAnyH_take (i := 9) (v := .pointer (some ⟨hb2, 23, none⟩)) rfl (by kernel_rfl) (by kernel_rfl) (by kernel_rfl) (fun _ _ _ h => h) (.inl ⟨rfl, fun W hW => by kernel_rfl⟩) HS25.out ?_
          simp only [List.getElem_toArray, List.getElem_cons_zero, List.getElem_cons_succ, Act.put, List.setIfInBounds_toArray, List.set_cons_zero, List.set_cons_succ]
          refine wpAnyH_take (i := 10) (v := .bool HH.b2) rfl (by kernel_rfl) (by kernel_rfl) (by kernel_rfl) (fun _ _ _ h => h) (.inl ⟨rfl, fun W hW => by have c := (HCL.out W hW).2.1; go_simp⟩) HS25.out ?_
          simp only [List.getElem_toArray, List.getElem_cons_zero, List.getElem_cons_succ, Act.put, List.setIfInBounds_toArray, List.set_cons_zero, List.set_cons_succ]
          refine wpAnyH_take (i := 11) (v := .bool false) rfl (by kernel_rfl) (by kernel_rfl) (by kernel_rfl) (fun _ _ _ h => h) (.inl ⟨rfl, fun W hW => by go_simp⟩) HS25.out ?_
          simp only [List.getElem_toArray, List.getElem_cons_zero, List.getElem_cons_succ, Act.put, List.setIfInBounds_toArray, List.set_cons_zero, List.set_cons_succ]
          refine wpAnyH_take (i := 12) (v := .bool false) rfl (by kernel_rfl) (by kernel_rfl) (by kernel_rfl) (fun _ _ _ h => h) (.inl ⟨rfl, fun W hW => by kernel_rfl⟩) HS25.out ?_
          simp only [List.getElem_toArray, List.getElem_cons_zero, List.getElem_cons_succ, Act.put, List.setIfInBounds_toArray, List.set_cons_zero, List.set_cons_succ]
          refine wpAnyH_take (i := 13) (v := .bool false) rfl (by kernel_rfl) (by kernel_rfl) (by kernel_rfl) (fun _ _ _ h => h) (.inl ⟨rfl, fun W hW => by kernel_rfl⟩) HS25.out ?_
          simp only [List.getElem_toArray, List.getElem_cons_zero, List.getElem_cons_succ, Act.put, List.setIfInBounds_toArray, List.set_cons_zero, List.set_cons_succ]
          refine wpAnyH_take (i := 14) (v := .pointer (some ⟨hb1, 24, none⟩)) rfl (by kernel_rfl) (by kernel_rfl) (by kernel_rfl) (fun _ _ _ h => h) (.inl ⟨rfl, fun W hW => by kernel_rfl⟩) HS25.out ?_
          simp only [List.getElem_toArray, List.getElem_cons_zero, List.getElem_cons_succ, Act.put, List.setIfInBounds_toArray, List.set_cons_zero, List.set_cons_succ]
          refine wpAnyH_take (i := 15) (v := .bool false) rfl (by kernel_rfl) (by kernel_rfl) (by kernel_rfl) (fun _ _ _ h => h) (.inl ⟨rfl, fun W hW => by have c := (HCL.out W hW).2.2; go_simp⟩) HS25.out ?_
          simp only [List.getElem_toArray, List.getElem_cons_zero, List.getElem_cons_succ, Act.put, List.setIfInBounds_toArray, List.set_cons_zero, List.set_cons_succ]
          refine wpAnyH_take (i := 16) (v := .bool false) rfl (by kernel_rfl) (by kernel_rfl) (by kernel_rfl) (fun _ _ _ h => h) (.inl ⟨rfl, fun W hW => by kernel_rfl⟩) HS25.out ?_
          simp only [List.getElem_toArray, List.getElem_cons_zero, List.getElem_cons_succ, Act.put, List.setIfInBounds_toArray, List.set_cons_zero, List.set_cons_succ]
          refine wpAnyH_take (i := 17) (v := .bool false) rfl (by kernel_rfl) (by kernel_rfl) (by kernel_rfl) (fun _ _ _ h => h) (.inl ⟨rfl, fun W hW => by kernel_rfl⟩) HS25.out ?_
          simp only [List.getElem_toArray, List.getElem_cons_zero, List.getElem_cons_succ, Act.put, List.setIfInBounds_toArray, List.set_cons_zero, List.set_cons_succ]
          refine wpAnyH_take (i := 18) (v := .pointer (some ⟨rb, 0, none⟩)) rfl (by kernel_rfl) (by kernel_rfl) (by kernel_rfl) (fun _ _ _ h => h) (.inl ⟨rfl, fun W hW => by kernel_rfl⟩) HS25.out ?_
          simp only [List.getElem_toArray, List.getElem_cons_zero, List.getElem_cons_succ, Act.put, List.setIfInBounds_toArray, List.set_cons_zero, List.set_cons_succ]
          refine wpAnyH_take (i := 20) (v := .agg L3.toArray) rfl (by kernel_rfl) (by kernel_rfl) (by kernel_rfl) (fun _ _ _ h => h) (yieldsIf_load_mid rfl 27 (.tmp 10) rfl sb 0 rfl L3 _ (fun W hW => HA3.out W hW) Try.underlying27 rfl HN3.out) HS25.out ?_
          simp only [List.getElem_toArray, List.getElem_cons_zero, List.getElem_cons_succ, Act.put, List.setIfInBounds_toArray, List.set_cons_zero, List.set_cons_succ]
          refine wpAnyH_ready (rs := [19]) (by kernel_rfl) (by simp) ?_
          refine AllReadyH.cons rfl (fun K hK => ?_) AllReadyH.nil
          refine step_callW rfl 10 #[.pointer (some ⟨rb, 0, none⟩)] (by kernel_rfl) (HSG.out _ HS25) ?_
          rintro e w26 ⟨SV, rfl, HS26, HES⟩
          refine ⟨_, rfl, hK.out _ _ HS26.out fun _ => ?_⟩
          clear hK
          simp only [List.getElem_toArray, List.getElem_cons_zero, List.getElem_cons_succ, Act.put, List.setIfInBounds_toArray, List.set_cons_zero, List.set_cons_succ]
          refine wpAnyH_ready (rs := [21]) (by kernel_rfl) (by simp) ?_
          refine AllReadyH.cons rfl (fun K hK => ?_) AllReadyH.nil
          refine step_callW rfl 16 #[SV, .agg L3.toArray] (by kernel_rfl) HES.out ?_
          rintro e w27 ⟨rfl, HS27⟩
          refine ⟨_, rfl, hK.out _ _ HS27.out fun _ => ?_⟩
          clear hK HES
          simp only [List.getElem_toArray, List.getElem_cons_zero, List.getElem_cons_succ, Act.put, List.setIfInBounds_toArray, List.set_cons_zero, List.set_cons_succ]
          refine wpAnyH_take (i := 22) (v := .bool false) rfl (by kernel_rfl) (by kernel_rfl) (by kernel_rfl) (fun _ _ _ h => h) (.inl ⟨rfl, fun W hW => by kernel_rfl⟩) HS27.out ?_
          simp only [List.getElem_toArray, List.getElem_cons_zero, List.getElem_cons_succ, Act.put, List.setIfInBounds_toArray, List.set_cons_zero, List.set_cons_succ]
          refine wpAnyH_take (i := 23) (v := .bool false) rfl (by kernel_rfl) (by kernel_rfl) (by kernel_rfl) (fun _ _ _ h => h) (.inl ⟨rfl, fun W hW => by kernel_rfl⟩) HS27.out ?_
          simp only [List.getElem_toArray, List.getElem_cons_zero, List.getElem_cons_succ, Act.put, List.setIfInBounds_toArray, List.set_cons_zero, List.set_cons_succ]
          refine wpAnyH_done (by kernel_rfl) ?_ _
          have HZ := hide (HFI.out w27 HS27.out)
          clear HFI HSG HA1 HA2 HA3 HCL HD0 HS25 HS26 HS27
          go_wp2_with fail
          go_roundg (on - (i + 1))
          case measure => go_light; exact hme
          case rel => go_light; exact ⟨i + 1, _, HI1.out.1, HI1.out.2, rfl, by simp, HZ.out.1, HZ.out.2⟩
    · have c5 : wr.cell? ⟨w.heap.size, 5, none⟩ = some (.slice oa on oc) := HC.out wr HSr.out 5 _ rfl
      have HF : Hid (w.Since w.heap.size wr) := HS1.out.trans (since_mono HSr.out HS1.out.size)
      by_cases hin : (i : Int) < (on : Int)
      · have hin2 : ¬ ((i : Int) < 500) := by omega
        clear hlt hi hi5
        go_wp2_with fail
        go_ret
        exact ⟨rfl, HF.out⟩
      · clear hlt hi hi5
        go_wp2_with fail
        go_ret
        exact ⟨rfl, HF.out⟩
end Go.Proofs.Yteneaiaejdgpcaa
