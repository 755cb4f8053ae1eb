/- Own texts, joined: QU5, QU6, QU7, QU8, QU9, QU10, QU11, QU12. -/
import Derived.Test.YtkcjmjaikobpoaaM1
import Derived.Deep.Onto
import Derived.Deep.AppendLies
import Derived.Laws.AppendOwnNone
import Derived.Deep.RegionHeld3

/- Package quorum: Stop. -/
namespace Go.Proofs.Ytkcjmjaikobpoaa
open Go.RowKit Go.Maps
set_option maxRecDepth 100000
set_option maxRecDepth 100000

def stopM (d : Qd) : Qd := { d with ph := 0, ep := 0, next := tv0, chosen := tv0, begun := 0, done := 0, c1 := [], c2 := [], c3 := [] }
theorem tvA0 : tvA tv0 = #[.int .u64 0, .int .u64 0, .string ⟨#[]⟩] := rfl
set_option maxHeartbeats 1000000 in
theorem stop_any {w : World} {p : Qp} {d : Qd} (h : QIs w p d) : Calls Try.prog 15 #[.pointer (some ⟨p.b, 0, none⟩)] w fun e w' => e = .returned (.tuple #[]) ∧ QIs w' p (stopM d) ∧ Bq p w w' := by
  obtain ⟨x4, c4⟩ : ∃ x, w.cell? ⟨p.b, 4, none⟩ = some x := ⟨_, h.cell 4 (by decide)⟩
  obtain ⟨x5, c5⟩ : ∃ x, w.cell? ⟨p.b, 5, none⟩ = some x := ⟨_, h.cell 5 (by decide)⟩
  have f4 := h.fz 4
  have f5 := h.fz 5
  obtain ⟨q1, b1⟩ := h.setPh 0 (by decide)
  obtain ⟨W1, HW1⟩ : ∃ W, Hid (w.setCell ⟨p.b, 4, none⟩ (.int .i64 0) = W) := ⟨_, rfl⟩
  rw [HW1.out] at q1 b1
  obtain ⟨q2, b2⟩ := q1.setEp 0 (by decide)
  obtain ⟨W2, HW2⟩ : ∃ W, Hid (W1.setCell ⟨p.b, 5, none⟩ (.int .u64 0) = W) := ⟨_, rfl⟩
  have e0 : (.int .u64 ((0 : Nat) : Int) : Value) = .int .u64 0 := rfl
  rw [e0, HW2.out] at q2 b2
  obtain ⟨q3, b3⟩ := q2.setNext tv0 tv0_ok
  have HT2 : Hid (W2.there p.b 6 (tvA tv0).size) := q2.there 6 3 (by decide)
  obtain ⟨W3, HW3⟩ : ∃ W, Hid (W2.setCells p.b 6 (tvA tv0).toList = W) := ⟨_, rfl⟩
  rw [HW3.out] at q3 b3
  obtain ⟨q4, b4⟩ := q3.setChosen tv0 tv0_ok
  have HT3 : Hid (W3.there p.b 9 (tvA tv0).size) := q3.there 9 3 (by decide)
  obtain ⟨W4, HW4⟩ : ∃ W, Hid (W3.setCells p.b 9 (tvA tv0).toList = W) := ⟨_, rfl⟩
  rw [HW4.out] at q4 b4
  obtain ⟨x12, c12⟩ : ∃ x, W4.cell? ⟨p.b, 12, none⟩ = some x := ⟨_, q4.cell 12 (by decide)⟩
  obtain ⟨x13, c13⟩ : ∃ x, W4.cell? ⟨p.b, 13, none⟩ = some x := ⟨_, q4.cell 13 (by decide)⟩
  have f12 := q4.fz 12
  have f13 := q4.fz 13
  obtain ⟨q5, b5⟩ := q4.setBegun 0 (by decide)
  obtain ⟨W5, HW5⟩ : ∃ W, Hid (W4.setCell ⟨p.b, 12, none⟩ (.int .u64 0) = W) := ⟨_, rfl⟩
  rw [e0, HW5.out] at q5 b5
  obtain ⟨q6, b6⟩ := q5.setDone 0 (by decide)
  obtain ⟨W6, HW6⟩ : ∃ W, Hid (W5.setCell ⟨p.b, 13, none⟩ (.int .u64 0) = W) := ⟨_, rfl⟩
  rw [e0, HW6.out] at q6 b6
  have k1 : W6.cell? ⟨p.b, 14, none⟩ = some (.map (some p.m1)) := q6.cell 14 (by decide)
  obtain ⟨W7, r7, q7, b7⟩ := q6.clear1 0
  have k2 : W7.cell? ⟨p.b, 15, none⟩ = some (.map (some p.m2)) := q7.cell 15 (by decide)
  obtain ⟨W8, r8, q8, b8⟩ := q7.clear2 0
  have k3 : W8.cell? ⟨p.b, 16, none⟩ = some (.map (some p.m3)) := q8.cell 16 (by decide)
  obtain ⟨W9, r9, q9, b9⟩ := q8.clear3 0
  have HE : Hid (QIs W9 p (stopM d) ∧ Bq p w W9) := ⟨q9, ((((((((b1.trans b2).trans b3).trans b4).trans b5).trans b6).trans b7).trans b8).trans b9)⟩
  have HTV : Hid ((tvA tv0) = #[.int .u64 0, .int .u64 0, .string ⟨#[]⟩]) := tvA0
  have HI : Hid ((Try.prog.info? 78).map (·.size) = some (tvA tv0).size) := infoTv
  have HA : Hid ((tvA tv0).all (·.oneCell') = true) := allTv _
  rw [HTV.out] at HT2 HT3 HW3 HW4 HI HA
  clear q1 b1 q2 b2 q3 b3 q4 b4 q5 b5 q6 b6 q7 b7 q8 b8 q9 b9 h e0 HTV
  generalize p.b = B at *
  go_enter Try.func15, Try.ntmps15
  go_upto_region 1 with fail
  rw [HW1.out, HW2.out]
  clear HW1 HW2 c4 c5 f4 f5
  go_upto_region 2 with (first
    | (refine wpList_store_mid rfl 78 (.tmp 13) (.tmp 10) rfl B 6 _ (by rfl) (by rfl) HT2.out HI.out HA.out ?_; rw [HW3.out])
    | (refine wpList_store_mid rfl 78 (.tmp 15) (.tmp 11) rfl B 9 _ (by rfl) (by rfl) HT3.out HI.out HA.out ?_; rw [HW4.out]))
  clear HW3 HW4 HT2 HT3 HI HA
  go_upto_region 3 with fail
  rw [HW5.out, HW6.out]
  clear HW5 HW6 c12 c13 f12 f13
  have r7 := r7.out
  have r8 := r8.out
  have r9 := r9.out
  go_wp2
  go_end0
  exact ⟨rfl, HE.out⟩
end Go.Proofs.Ytkcjmjaikobpoaa

/- Package quorum: lists of messages; about. -/
namespace Go.Proofs.Ytkcjmjaikobpoaa
open Go.RowKit Go.Maps
set_option maxRecDepth 100000
set_option maxRecDepth 100000

/-- A message with the place of its value. -/
structure Me where
  m : Mg
  va : Option Addr
  vc : Nat
def msCells (l : List Me) : List Value := l.flatMap fun e => mgL e.m e.va e.vc
theorem msCells_app (l k : List Me) : msCells (l ++ k) = msCells l ++ msCells k := by simp [msCells]
theorem msCells_one (e : Me) : msCells [e] = mgL e.m e.va e.vc := by simp [msCells]
theorem msCells_len (l : List Me) : (msCells l).length = l.length * 22 := by
  induction l with
  | nil => rfl
  | cons e r ih => rw [show e :: r = [e] ++ r from rfl, msCells_app, List.length_append, ih, msCells_one, mgL_len]; simp; omega
/-- A list of messages of the call's own. -/
def OwnM (w : World) (B : Nat) (v : Value) (l : List Me) : Prop := w.ownsRow B 52 22 v l.length (msCells l)
theorem infoMM : (Try.prog.info? 52).map (fun i => (i.zero, i.size, i.bytes)) = some (some (mgV mg0 none 0), 22, 208) := by kernel_rfl
theorem bs_run (m : Mg) (va : Option Addr) (vc : Nat) (W : World) : (Instr.buildSlice 56 1 #[(0, mgV m va vc)]).run Try.prog W = .ok (.slice (some ⟨W.heap.size, 0, none⟩) 1 1) (W.alloc (.cells (mgL m va vc).toArray 52)) := by kernel_rfl
theorem app_mg {w : World} {K : Nat} {v : Value} {l : List Me} (h : OwnM w K v l) (m : Mg) (va : Option Addr) (vc : Nat) (hn : l.length ≤ 1000000) (hK : K ≤ w.heap.size) :
    ∃ v' w', (Builtin.append_ #[56, 56] 56 #[v, .slice (some ⟨w.heap.size, 0, none⟩) 1 1]).run Try.prog (w.alloc (.cells (mgL m va vc).toArray 52)) = .ok v' w' ∧ OwnM w' K v' (l ++ [⟨m, va, vc⟩]) ∧ w.grownBy w' v.ownBlock ∧ (∀ k, v'.ownBlock = some k → v.ownBlock = some k ∨ w.heap.size ≤ k) := by
  obtain ⟨i0, hi, hh⟩ := Option.map_eq_some_iff.1 infoMM
  simp only [Prod.mk.injEq] at hh
  obtain ⟨hz0, hz1, hz2⟩ := hh
  have hnews : ∀ j u, (mgL m va vc)[j]? = some u → (w.alloc (.cells (mgL m va vc).toArray 52)).cell? ((⟨w.heap.size, 0, none⟩ : Addr).add j) = some u := fun j u hj => by
    have e : ((⟨w.heap.size, 0, none⟩ : Addr).add j) = ⟨w.heap.size, j, none⟩ := by rw [Addr.add_mid, Nat.zero_add]
    rw [e]
    refine (World.cell?_alloc_at (w := w) _ _ _ j rfl).trans ?_
    rw [List.getElem?_toArray]
    exact hj
  have hml : maxLen = 9223372036854775807 := rfl
  obtain ⟨v', w', h1, h2, h3, _, h5⟩ := run_append_own_at (P := Try.prog) (w.alloc (.cells (mgL m va vc).toArray 52)) K 56 56 52 i0 _ 22 208 Try.underlying56 hi hz0 hz1 hz2 (by kernel_rfl) (by decide) v l.length (msCells l) (World.ownsRow.alloc h _) ⟨w.heap.size, 0, none⟩ 1 1 (mgL m va vc) (by rw [mgL_len]) hnews (mgL_one m va vc) (by omega) (by omega) (by simp; omega)
  have hsz : (w.alloc (.cells (mgL m va vc).toArray 52)).heap.size = w.heap.size + 1 := by simp
  refine ⟨v', w', h1, ?_, ⟨h3.os, h3.tape, h3.output, by have := h3.size; omega, fun b hb hne => (h3.block b (by omega) hne).trans (Below.heap_alloc _ _ _ hb)⟩, fun k e => ?_⟩
  · unfold OwnM
    rw [msCells_app, msCells_one, List.length_append]
    exact h2
  · rcases h5 with e5 | e5
    · exact .inl (e5 ▸ e)
    · rw [e5] at e
      exact .inr (by have := Option.some.inj e; omega)
theorem ownM_nil (w : World) (B : Nat) : OwnM w B (.slice none 0 0) [] := ⟨rfl, .inl ⟨rfl, rfl⟩⟩
end Go.Proofs.Ytkcjmjaikobpoaa

/- Package quorum: about. -/
namespace Go.Proofs.Ytkcjmjaikobpoaa
open Go.RowKit Go.Maps
set_option maxRecDepth 100000
set_option maxRecDepth 100000

/-- A message that is begun. -/
def abG (d : Qd) (k : Int) : Mg := ⟨fun c => if c = 0 then k else if c = 1 then d.node else if c = 3 then d.shard else 0, fun _ => []⟩
theorem abG_v (d : Qd) (k : Int) : mgV (abG d k) none 0 = .agg #[.int .i64 k, .int .i64 d.node, .int .i64 0, .int .i64 d.shard, .int .u64 0, .int .u64 0, .int .u64 0, .int .u64 0, .int .i64 0, .int .u64 0, .slice none 0 0, .int .i64 0, .int .u64 0, .string ⟨#[]⟩, .string ⟨#[]⟩, .int .u64 0, .int .u64 0, .int .u64 0, .int .i64 0, .int .i64 0, .int .i64 0, .int .i64 0] := rfl
set_option maxHeartbeats 4000000 in
theorem about_any {w : World} {p : Qp} {d : Qd} (h : QIs w p d) (k : Int) : Calls Try.prog 50 #[.pointer (some ⟨p.b, 0, none⟩), .int .i64 k] w fun e w' => e = .returned (mgV (abG d k) none 0) ∧ w.Since w.heap.size w' := by
  obtain ⟨W1, HW1⟩ : ∃ W, Hid (w.alloc mgZ = W) := ⟨_, rfl⟩
  have s1 : w.Since w.heap.size W1 := by rw [← HW1.out]; exact (World.Since.refl _ _).alloc (Nat.le_refl _) _
  have r1 : W1.rowIs w.heap.size 52 22 (mgCell mg0 none 0) := by rw [← HW1.out]; exact mgZ_row w
  have sd : W1.Since W1.heap.size W1.drew := (World.Since.refl _ _).drew
  have r1d := row_since r1 sd
  have HQ : Hid (QIs W1.drew p d) := (h.since s1).since sd
  obtain ⟨W3, HW3, r3, h3, z3, b3, o3, t3, p3⟩ := mg_stored r1d (abG d k) none 0
  have sw : w.Since w.heap.size W1.drew := s1.trans (since_mono sd s1.size)
  have HE : Hid (w.Since w.heap.size W3) := ⟨o3.trans sw.os, t3.trans sw.tape, p3.trans sw.output, by rw [z3]; exact sw.size, fun q hq => (b3 q (by omega)).trans (sw.block q hq)⟩
  have HQ3 : Hid (QIs W3 p d) := h.since HE.out
  have HT : Hid (W1.drew.there w.heap.size 0 (mgL (abG d k) none 0).toArray.size) := by
    have e : (mgL (abG d k) none 0).toArray.size = 22 := by rw [List.size_toArray, mgL_len]
    show World.there _ _ _ _
    rw [e]
    exact row_there r1d
  have HH3 := hide h3
  unfold mgZ at HW1
  clear s1 r1 sd r1d r3 h3 z3 b3 o3 t3 p3 sw h
  go_enter Try.func50, Try.ntmps50
  go_upto_region 1 with fail
  rw [HW1.out]
  refine wp_region_held_drew (S := fun W => QIs W p d) (by kernel_rfl) HQ.out fun _ => ?_
  refine wpAnyH_take (i := 0) (v := .int .i64 k) rfl (by kernel_rfl) (by kernel_rfl) (by kernel_rfl) (fun _ _ _ h => h) (.inl ⟨rfl, fun W hW => by kernel_rfl⟩) HQ.out ?_
  simp only [List.getElem_toArray, List.getElem_cons_zero, Act.put, List.setIfInBounds_toArray, List.set_cons_zero, List.set_cons_succ]
  refine wpAnyH_take (i := 1) (v := .pointer (some ⟨p.b, 0, none⟩)) rfl (by kernel_rfl) (by kernel_rfl) (by kernel_rfl) (fun _ _ _ h => h) (.inl ⟨rfl, fun W hW => by kernel_rfl⟩) HQ.out ?_
  simp only [List.getElem_toArray, List.getElem_cons_zero, List.getElem_cons_succ, Act.put, List.setIfInBounds_toArray, List.set_cons_zero, List.set_cons_succ]
  refine wpAnyH_take (i := 2) (v := .pointer (some ⟨p.b, 0, none⟩)) rfl (by kernel_rfl) (by kernel_rfl) (by kernel_rfl) (fun _ _ _ h => h) (.inl ⟨rfl, fun W hW => by first | kernel_rfl | go_simp⟩) HQ.out ?_
  simp only [List.getElem_toArray, List.getElem_cons_zero, List.getElem_cons_succ, Act.put, List.setIfInBounds_toArray, List.set_cons_zero, List.set_cons_succ]
  refine wpAnyH_take (i := 3) (v := .pointer (some ⟨p.b, 0, none⟩)) rfl (by kernel_rfl) (by kernel_rfl) (by kernel_rfl) (fun _ _ _ h => h) (.inl ⟨rfl, fun W hW => by kernel_rfl⟩) HQ.out ?_
  simp only [List.getElem_toArray, List.getElem_cons_zero, List.getElem_cons_succ, Act.put, List.setIfInBounds_toArray, List.set_cons_zero, List.set_cons_succ]
  refine wpAnyH_take (i := 4) (v := .int .i64 d.node) rfl (by kernel_rfl) (by kernel_rfl) (by kernel_rfl) (fun _ _ _ h => h) (.inl ⟨rfl, fun W hW => by have c : W.cell? ⟨p.b, 0, none⟩ = some (.int .i64 d.node) := hW.cell 0 (by decide); go_simp⟩) HQ.out ?_
  simp only [List.getElem_toArray, List.getElem_cons_zero, List.getElem_cons_succ, Act.put, List.setIfInBounds_toArray, List.set_cons_zero, List.set_cons_succ]
  refine wpAnyH_take (i := 5) (v := .pointer (some ⟨p.b, 0, none⟩)) rfl (by kernel_rfl) (by kernel_rfl) (by kernel_rfl) (fun _ _ _ h => h) (.inl ⟨rfl, fun W hW => by kernel_rfl⟩) HQ.out ?_
  simp only [List.getElem_toArray, List.getElem_cons_zero, List.getElem_cons_succ, Act.put, List.setIfInBounds_toArray, List.set_cons_zero, List.set_cons_succ]
  refine wpAnyH_take (i := 6) (v := .pointer (some ⟨p.b, 0, none⟩)) rfl (by kernel_rfl) (by kernel_rfl) (by kernel_rfl) (fun _ _ _ h => h) (.inl ⟨rfl, fun W hW => by first | kernel_rfl | go_simp⟩) HQ.out ?_
  simp only [List.getElem_toArray, List.getElem_cons_zero, List.getElem_cons_succ, Act.put, List.setIfInBounds_toArray, List.set_cons_zero, List.set_cons_succ]
  refine wpAnyH_take (i := 7) (v := .pointer (some ⟨p.b, 1, none⟩)) rfl (by kernel_rfl) (by kernel_rfl) (by kernel_rfl) (fun _ _ _ h => h) (.inl ⟨rfl, fun W hW => by kernel_rfl⟩) HQ.out ?_
  simp only [List.getElem_toArray, List.getElem_cons_zero, List.getElem_cons_succ, Act.put, List.setIfInBounds_toArray, List.set_cons_zero, List.set_cons_succ]
  refine wpAnyH_take (i := 8) (v := .int .i64 d.shard) rfl (by kernel_rfl) (by kernel_rfl) (by kernel_rfl) (fun _ _ _ h => h) (.inl ⟨rfl, fun W hW => by have c : W.cell? ⟨p.b, 1, none⟩ = some (.int .i64 d.shard) := hW.cell 1 (by decide); go_simp⟩) HQ.out ?_
  simp only [List.getElem_toArray, List.getElem_cons_zero, List.getElem_cons_succ, Act.put, List.setIfInBounds_toArray, List.set_cons_zero, List.set_cons_succ]
  refine wpAnyH_take (i := 9) (v := .agg #[.int .i64 k, .int .i64 d.node, .int .i64 0, .int .i64 d.shard]) rfl (by kernel_rfl) (by kernel_rfl) (by kernel_rfl) (fun _ _ _ h => h) (.inl ⟨rfl, fun W hW => by kernel_rfl⟩) HQ.out ?_
  simp only [List.getElem_toArray, List.getElem_cons_zero, List.getElem_cons_succ, Act.put, List.setIfInBounds_toArray, List.set_cons_zero, List.set_cons_succ]
  refine wpAnyH_take (i := 10) (v := mgV (abG d k) none 0) rfl (by kernel_rfl) (by kernel_rfl) (by kernel_rfl) (fun _ _ _ h => h) (.inl ⟨rfl, fun W hW => by rw [abG_v]; kernel_rfl⟩) HQ.out ?_
  simp only [List.getElem_toArray, List.getElem_cons_zero, List.getElem_cons_succ, Act.put, List.setIfInBounds_toArray, List.set_cons_zero, List.set_cons_succ]
  refine wpAnyH_ready (rs := [11]) (by kernel_rfl) (by simp) ?_
  refine AllReadyH.cons rfl (fun K hK => ?_) AllReadyH.nil
  refine step_storeM rfl (wp_store_mid 52 (.tmp 4) (.tmp 15) rfl w.heap.size 0 (mgL (abG d k) none 0).toArray rfl rfl HT.out (infoMgA _ _ _) (mg_all _ _ _) ?_)
  rw [show (mgL (abG d k) none 0).toArray.toList = mgL (abG d k) none 0 from rfl, HW3.out]
  refine hK.out _ _ HQ3.out fun _ => ?_
  simp only [List.getElem_toArray, List.getElem_cons_zero, List.getElem_cons_succ, Act.put]
  refine wpAnyH_done (by kernel_rfl) ?_ _
  go_wp2_with fail
  exact bodyPost_ret_by (results_cell_row rfl _ _ w.heap.size 52 _ (0, 0) _ rfl HH3.out Try.underlying52 rfl (infoMgA _ _ _)) rfl ⟨rfl, HE.out⟩
end Go.Proofs.Ytkcjmjaikobpoaa

/- Package quorum: toAllBut. -/
namespace Go.Proofs.Ytkcjmjaikobpoaa
open Go.RowKit Go.Maps
set_option maxRecDepth 100000
set_option maxRecDepth 100000

/-- The messages to all that are not in the crowd. -/
def toL (L C : List Int) (m : Mg) : List Me := (L.filter (fun x => !decide (x ∈ C))).map (fun x => ⟨m.setN 2 x, none, 0⟩)
theorem toL_in {L C : List Int} {m : Mg} {x : Int} (h : x ∈ C) : toL (L ++ [x]) C m = toL L C m := by simp [toL, List.filter_append, h]
theorem toL_out {L C : List Int} {m : Mg} {x : Int} (h : x ∉ C) : toL (L ++ [x]) C m = toL L C m ++ [⟨m.setN 2 x, none, 0⟩] := by simp [toL, List.filter_append, h]
theorem toL_len (L C : List Int) (m : Mg) : (toL L C m).length ≤ L.length := by
  unfold toL
  rw [List.length_map]
  exact List.length_filter_le _ _
theorem setN_self (m : Mg) (c : Nat) : m.setN c (m.n c) = m := Mg.ext' (fun i => by
  show (if i = c then m.n c else m.n i) = m.n i
  by_cases e : i = c
  · rw [if_pos e, e]
  · rw [if_neg e]) (fun _ => rfl)
theorem setN_two (m : Mg) (c : Nat) (x y : Int) : (m.setN c x).setN c y = m.setN c y := Mg.ext' (fun i => by
  show (if i = c then y else if i = c then x else m.n i) = if i = c then y else m.n i
  by_cases e : i = c
  · rw [if_pos e, if_pos e]
  · rw [if_neg e, if_neg e, if_neg e]) (fun _ => rfl)
theorem ownM_mono {w : World} {K K' : Nat} {v : Value} {l : List Me} (h : OwnM w K v l) (hk : K' ≤ K) : OwnM w K' v l := by
  refine ⟨h.1, ?_⟩
  rcases h.2 with h | ⟨g, cap, cur, e, hB, r⟩
  · exact .inl h
  · exact .inr ⟨g, cap, cur, e, Nat.le_trans hk hB, r⟩
theorem ownM_on {w w' : World} {K : Nat} {v : Value} {l : List Me} (h : OwnM w K v l) (hb : ∀ k, K ≤ k → k < w.heap.size → w'.heap[k]? = w.heap[k]?) : OwnM w' K v l := by
  refine ⟨h.1, ?_⟩
  rcases h.2 with h | ⟨g, cap, cur, e, hB, hq, r⟩
  · exact .inl h
  · exact .inr ⟨g, cap, cur, e, hB, by rw [hb g hB (Array.getElem?_eq_some_iff.1 hq).1]; exact hq, r⟩
/-- While the list is made. -/
structure TS (w : World) (p : Qp) (d : Qd) (k : Nat) (C : List Int) (m : Mg) (i : Nat) (v : Value) (W : World) : Prop where
  q : QIs W p d
  c : Cr W k C
  row : ∃ x, W.rowIs w.heap.size 52 22 (mgCell (m.setN 2 x) none 0)
  own : OwnM W (w.heap.size + 1) v (toL (d.L.take i) C m)
  since : w.Since w.heap.size W
  sz : w.heap.size + 1 ≤ W.heap.size
section
variable {w W W' : World} {p : Qp} {d : Qd} {k : Nat} {C : List Int} {m : Mg} {i : Nat} {v : Value}
theorem TS.sin (h : TS w p d k C m i v W) (hs : W.Since W.heap.size W') : TS w p d k C m i v W' := by
  obtain ⟨x, hx⟩ := h.row
  exact ⟨h.q.since hs, h.c.on (hs.block _ h.c.lt), ⟨x, row_since hx hs⟩, ownM_on h.own (fun k _ hk => hs.block k hk), h.since.trans (since_mono hs h.since.size), Nat.le_trans h.sz hs.size⟩
theorem TS.kn (h : TS w p d k C m i v W) (hi : i < d.L.length) (hx : d.L.getD i 0 ∈ C) : TS w p d k C m (i + 1) v W := by
  have e : d.L.take (i + 1) = d.L.take i ++ [d.L.getD i 0] := by
    rw [List.take_succ_eq_append_getElem hi]
    simp [List.getD, hi]
  exact ⟨h.q, h.c, h.row, by rw [e, toL_in hx]; exact h.own, h.since, h.sz⟩
/-- One more. -/
theorem TS.more (h : TS w p d k C m i v W) (hi : i < d.L.length) (hx : d.L.getD i 0 ∉ C) :
    ∃ (W2 : World) (MM : Array Value) (WB W4 : World) (v' : Value), W.cell? ⟨w.heap.size, 2, none⟩ ≠ none ∧ W.frozen? ⟨w.heap.size, 2, none⟩ = false ∧ Hid (W.setCell ⟨w.heap.size, 2, none⟩ (.int .i64 (d.L.getD i 0)) = W2) ∧ Hid (W2.heap[w.heap.size]? = some (.cells MM 52 (0, 0))) ∧ Hid ((Try.prog.info? 52).map (·.size) = some MM.size) ∧
      Hid ((Instr.buildSlice 56 1 #[(0, .agg MM)]).run Try.prog W2 = .ok (.slice (some ⟨W2.heap.size, 0, none⟩) 1 1) WB) ∧ Hid ((Builtin.append_ #[56, 56] 56 #[v, .slice (some ⟨W2.heap.size, 0, none⟩) 1 1]).run Try.prog WB = .ok v' W4) ∧ Hid (TS w p d k C m (i + 1) v' W4) := by
  obtain ⟨x, hr⟩ := h.row
  have hne : w.heap.size ≠ p.b := fun e => row_row hr (show W.rowIs p.b 80 17 _ from h.q.row) (by decide) e
  have hr2 : (W.setCell ⟨w.heap.size, 2, none⟩ (.int .i64 (d.L.getD i 0))).rowIs w.heap.size 52 22 (mgCell (m.setN 2 (d.L.getD i 0)) none 0) := by
    have := row_setN hr 2 (d.L.getD i 0) (by decide) (by decide) (by decide)
    rw [setN_two] at this
    exact this
  have hb2 : But w.heap.size W (W.setCell ⟨w.heap.size, 2, none⟩ (.int .i64 (d.L.getD i 0))) := (But.of_since (World.Since.refl _ _)).setCell 2 _
  obtain ⟨W2, HW2⟩ : ∃ W2, Hid (W.setCell ⟨w.heap.size, 2, none⟩ (.int .i64 (d.L.getD i 0)) = W2) := ⟨_, rfl⟩
  rw [HW2.out] at hr2 hb2
  have hz2 := hb2.size
  have q2 : QIs W2 p d := by
    obtain ⟨l1, l2, l3, l4, l5⟩ := h.q.lts
    obtain ⟨f, f1, f2, f3⟩ := h.q.cop
    exact h.q.on (hb2.block _ l1 hne.symm) (hb2.block _ l2 (fun e => row_row hr f1 (by decide) e.symm)) (hb2.block _ l3 (fun e => cr_row h.q.k1 hr e.symm)) (hb2.block _ l4 (fun e => cr_row h.q.k2 hr e.symm)) (hb2.block _ l5 (fun e => cr_row h.q.k3 hr e.symm))
  have c2 : Cr W2 k C := h.c.on (hb2.block _ h.c.lt (fun e => cr_row h.c hr e.symm))
  have o2 : OwnM W2 (w.heap.size + 1) v (toL (d.L.take i) C m) := ownM_on h.own (fun k hk hl => hb2.block k hl (by omega))
  have s2 : w.Since w.heap.size W2 := hb2.since h.since (Nat.le_refl _) h.since.size
  have hll : (toL (d.L.take i) C m).length ≤ 1000000 := Nat.le_trans (toL_len _ _ _) (Nat.le_trans (List.length_take_le' _ _) (Nat.le_trans h.q.ok.l7 (by decide)))
  obtain ⟨v', W4, ha, ho, hg, hv⟩ := app_mg o2 (m.setN 2 (d.L.getD i 0)) none 0 hll (by have := h.sz; omega)
  have hgs : W2.Since (w.heap.size + 1) W4 := (World.Since.refl _ _).grown hg (by have := h.sz; omega) (fun b e => by
    rcases o2.2 with ⟨e2, _⟩ | ⟨g, cap, cur, e2, hB, _⟩
    · rw [e2] at e; simp [Value.ownBlock] at e
    · rw [e2] at e
      have : g = b := by simpa [Value.ownBlock] using e
      omega)
  have hk4 : ∀ b, b < W2.heap.size → v.ownBlock ≠ some b → W4.heap[b]? = W2.heap[b]? := fun b hb hn => hg.block b hb (fun e => hn e.symm)
  have hvr : ∀ (b t n : Nat) (f : Nat → Value), W2.rowIs b t n f → t ≠ 52 ∨ b < w.heap.size + 1 → v.ownBlock ≠ some b := fun b t n f hf ht e => by
    rcases o2.2 with ⟨e2, _⟩ | ⟨g, cap, cur, e2, hB, hq, _⟩
    · rw [e2] at e; simp [Value.ownBlock] at e
    · rw [e2] at e
      obtain rfl : g = b := by simpa [Value.ownBlock] using e
      rcases ht with ht | ht
      · obtain ⟨c, h1, _⟩ := hf
        rw [hq] at h1
        simp only [Option.some.injEq, Obj.cells.injEq] at h1
        exact ht h1.2.1.symm
      · omega
  have hvc : ∀ (b : Nat) (C : List Int), Cr W2 b C → v.ownBlock ≠ some b := fun b C hf e => by
    rcases o2.2 with ⟨e2, _⟩ | ⟨g, cap, cur, e2, hB, hq, _⟩
    · rw [e2] at e; simp [Value.ownBlock] at e
    · rw [e2] at e
      obtain rfl : g = b := by simpa [Value.ownBlock] using e
      obtain ⟨D, ⟨es, clock, hb, _⟩, _⟩ := hf.own
      rw [hb] at hq
      simp at hq
  have e : d.L.take (i + 1) = d.L.take i ++ [d.L.getD i 0] := by
    rw [List.take_succ_eq_append_getElem hi]
    simp [List.getD, hi]
  refine ⟨W2, (mgL (m.setN 2 (d.L.getD i 0)) none 0).toArray, W2.alloc (.cells (mgL (m.setN 2 (d.L.getD i 0)) none 0).toArray 52), W4, v', (by rw [hr.cell (i := 2) (by decide)]; simp), hr.frozen 2, HW2, row_heap hr2, infoMgA _ _ _, bs_run _ _ _ _, ha, ?_⟩
  obtain ⟨l1, l2, l3, l4, l5⟩ := q2.lts
  obtain ⟨f, f1, f2, f3⟩ := q2.cop
  refine ⟨q2.on (hk4 _ l1 (hvr _ _ _ _ (show W2.rowIs p.b 80 17 _ from q2.row) (.inl (by decide)))) (hk4 _ l2 (hvr _ _ _ _ f1 (.inl (by decide)))) (hk4 _ l3 (hvc _ _ q2.k1)) (hk4 _ l4 (hvc _ _ q2.k2)) (hk4 _ l5 (hvc _ _ q2.k3)), c2.on (hk4 _ c2.lt (hvc _ _ c2)), ⟨_, hr2.of_block (hk4 _ hr2.lt (hvr _ _ _ _ hr2 (.inr (by omega))))⟩, by rw [e, toL_out hx]; exact ho, ⟨hgs.os.trans s2.os, hgs.tape.trans s2.tape, hgs.output.trans s2.output, Nat.le_trans s2.size hgs.size, fun b hb => (hgs.block b (by omega)).trans (s2.block b hb)⟩, by have := h.sz; have := hgs.size; omega⟩
end
end Go.Proofs.Ytkcjmjaikobpoaa

/- Package quorum: toAllBut's walk. -/
namespace Go.Proofs.Ytkcjmjaikobpoaa
open Go.RowKit Go.Maps
set_option maxRecDepth 100000
set_option maxRecDepth 100000

set_option maxHeartbeats 4000000 in
theorem toAllBut_any {w : World} {p : Qp} {d : Qd} {k : Nat} {C : List Int} (h : QIs w p d) (hC : Cr w k C) (m : Mg) :
    Calls Try.prog 51 #[.pointer (some ⟨p.b, 0, none⟩), .map (some k), mgV m none 0] w fun e w' => ∃ v, e = .returned v ∧ OwnM w' (w.heap.size + 1) v (toL d.L C m) ∧ w.Since w.heap.size w' := by
  obtain ⟨MM, HMM⟩ : ∃ x, Hid ((mgL m none 0).toArray = x) := ⟨_, rfl⟩
  obtain ⟨W1, HW1⟩ : ∃ W, Hid (w.alloc (.cells MM 52) = W) := ⟨_, rfl⟩
  have s1 : w.Since w.heap.size W1 := by rw [← HW1.out]; exact (World.Since.refl _ _).alloc (Nat.le_refl _) _
  have z1 : W1.heap.size = w.heap.size + 1 := by rw [← HW1.out]; simp
  have r1 : W1.rowIs w.heap.size 52 22 (mgCell m none 0) := by rw [← HW1.out, ← HMM.out]; exact mg_row w m none 0
  have hT : Hid (TS w p d k C m 0 (.slice none 0 0) W1) := by
    refine ⟨h.since s1, hC.on (s1.block _ hC.lt), ⟨m.n 2, ?_⟩, ownM_nil _ _, s1, by omega⟩
    rw [setN_self]
    exact r1
  have c2 : W1.cell? ⟨p.b, 2, none⟩ = some (.slice (some ⟨p.cb, 0, none⟩) d.L.length p.cc) := (h.since s1).cell 2 (by decide)
  have HIM : Hid ((Try.prog.info? 52).map (·.size) = some MM.size) := by rw [← HMM.out]; exact infoMgA _ _ _
  have hl7 := h.ok.l7
  have hLi := h.ok.L
  obtain ⟨f, f1, f2, f3⟩ := h.cop
  clear s1 r1 h hC f1
  clear f f3
  unfold mgV
  rw [HMM.out]
  clear HMM
  go_enter Try.func51, Try.ntmps51
  go_upto_region 1 with fail
  rw [HW1.out]
  clear HW1 HIM
  go_wp2_with fail
  go_loopg [7, 17] d.L.length (fun q s7 s17 wx => ∃ (i : Nat) (v : Value), i ≤ d.L.length ∧ q = d.L.length - i ∧ s17 = .int .i64 (i : Nat) ∧ v = s7 ∧ Hid (TS w p d k C m i v wx))
  case atStart => exact ⟨0, _, Nat.zero_le _, rfl, rfl, rfl, hT⟩
  case round =>
    clear hT c2
    obtain ⟨i, v, hi, rfl, rfl, rfl, HX⟩ := hrel
    by_cases hlt : i < d.L.length
    · have hz : (i : Int) < (d.L.length : Int) := by omega
      have hz0 : (0 : Int) ≤ (i : Int) := by omega
      have hwi : IntKind.i64.wrap ((i : Int) + 1) = (i : Int) + 1 := by rw [IntKind.wrap_i64]; omega
      have hme : d.L.length - (i + 1) < d.L.length - i := by omega
      have hi1 : i + 1 ≤ d.L.length := hlt
      obtain ⟨g, g1, g2, g3⟩ := HX.out.q.cop
      have ci : wr.cell? ⟨p.cb, i, none⟩ = some (.int .i64 (d.L.getD i 0)) := by rw [g1.cell (by omega), g3 i hlt]
      obtain ⟨X, hX⟩ : ∃ X, d.L.getD i 0 = X := ⟨_, rfl⟩
      have hXL : X ∈ d.L := by rw [← hX]; simp [List.getD, hlt]
      have hXb := hLi X hXL
      have hkey := key_i hXb.1 hXb.2
      obtain ⟨D, hown, hD⟩ := HX.out.c.own
      have hhas := hD.1 X
      obtain ⟨WN, HWN⟩ : ∃ W, Hid (wr.alloc (.cells #[] 116) = W) := ⟨_, rfl⟩
      have HTN : Hid (TS w p d k C m i v WN) := by rw [← HWN.out]; exact HX.out.sin ((World.Since.refl _ _).alloc (Nat.le_refl _) _)
      by_cases hin : X ∈ C
      · have hhas' : has D (.int .i64 X) = true := by rw [hhas, decide_eq_true hin]
        have HN : Hid (TS w p d k C m (i + 1) v WN) := HTN.out.kn hlt (by rw [hX]; exact hin)
        rw [hX] at ci
        clear g1 g3 hX hXL hXb hD hhas hin HTN HX
        go_wp2_with (first
          | (at_lookup; refine wpList_lookup_own_unit _ rfl _ _ 76 rfl 3 116 intK Try.underlying76 (Try.zeroValue116 _) k C.length D rfl hown _ _ rfl hkey ?_; rw [hhas']))
        go_roundg (d.L.length - (i + 1))
        case measure => go_light; exact hme
        case rel => go_light; exact ⟨i + 1, v, hi1, rfl, by simp, rfl, by first | exact HN | (rw [HWN.out]; exact HN)⟩
      · have hhas' : has D (.int .i64 X) = false := by rw [hhas, decide_eq_false hin]
        obtain ⟨W2, M2, WB, W4, v', e1, e2, HW2, HH2, HI2, HBS, HAP, HN⟩ := HTN.out.more hlt (by rw [hX]; exact hin)
        rw [hX] at ci HW2
        obtain ⟨y, e1⟩ : ∃ y, WN.cell? ⟨w.heap.size, 2, none⟩ = some y := by
          cases hc : WN.cell? ⟨w.heap.size, 2, none⟩ with
          | none => exact absurd hc e1
          | some y => exact ⟨y, rfl⟩
        clear g1 g3 hX hXL hXb hD hhas hin HTN HX
        go_upto_region 6 with (first
          | (at_lookup; refine wpList_lookup_own_unit _ rfl _ _ 76 rfl 3 116 intK Try.underlying76 (Try.zeroValue116 _) k C.length D rfl hown _ _ rfl hkey ?_; rw [hhas']))
        rw [HWN.out]
        clear HWN hown
        go_upto_region 8 with fail
        rw [HW2.out]
        clear HW2 e1 e2 ci
        refine wp_region_lit ?_
        refine wpList_plain rfl fun _ hK => op_run v (by kernel_rfl) (hK _ _ ?_)
        simp only [Act.put, List.setIfInBounds_toArray, List.set_cons_zero, List.set_cons_succ]
        refine wpList_load_row rfl 52 (.tmp 5) rfl w.heap.size rfl _ M2 (0, 0) _ HH2.out Try.underlying52 rfl HI2.out ?_
        simp only [Act.put, List.setIfInBounds_toArray, List.set_cons_zero, List.set_cons_succ]
        refine wpList_plain rfl fun _ hK => op_runW (w' := WB) (.slice (some ⟨W2.heap.size, 0, none⟩) 1 1) (by have r := HBS.out; simp [execOp, Act.eval, r, Result.andThen]) (hK _ _ ?_)
        simp only [Act.put, List.setIfInBounds_toArray, List.set_cons_zero, List.set_cons_succ]
        refine wpList_append_eq rfl _ _ 56 rfl _ _ _ (by rfl) (by rfl) HAP.out ?_
        simp only [Act.put, List.setIfInBounds_toArray, List.set_cons_zero, List.set_cons_succ]
        clear HAP HBS HI2 HH2
        go_wp2_with fail
        go_roundg (d.L.length - (i + 1))
        case measure => go_light; exact hme
        case rel => go_light; exact ⟨i + 1, v', hi1, rfl, by simp, rfl, HN⟩
    · obtain rfl : i = d.L.length := by omega
      have HE : Hid (OwnM wr (w.heap.size + 1) v (toL d.L C m) ∧ w.Since w.heap.size wr) := ⟨by have := HX.out.own; rw [List.take_length] at this; exact this, HX.out.since⟩
      clear HX hLi
      go_wp2_with fail
      go_ret
      exact ⟨v, rfl, HE.out⟩
end Go.Proofs.Ytkcjmjaikobpoaa

/- Package quorum: prepares, beats. -/
namespace Go.Proofs.Ytkcjmjaikobpoaa
open Go.RowKit Go.Maps
set_option maxRecDepth 100000
set_option maxRecDepth 100000

theorem since_grown {w w1 w2 : World} {B b : Nat} (h : w.Since B w1) (g : w1.grownBy w2 (some b)) (hb : B ≤ b) (hB : B ≤ w1.heap.size) : w.Since B w2 :=
  ⟨g.os.trans h.os, g.tape.trans h.tape, g.output.trans h.output, Nat.le_trans h.size g.size, fun k hk => (g.block k (by omega) (fun e => by have := Option.some.inj e; omega)).trans (h.block k hk)⟩
theorem mg_cells {w : World} {kb : Nat} {m : Mg} {va : Option Addr} {vc : Nat} {MA : Array Value} (h : w.heap[kb]? = some (.cells MA 52 (0, 0))) (hv : mgV m va vc = .agg MA) : w.rowIs kb 52 22 (mgCell m va vc) := by
  have e : (mgL m va vc).toArray = MA := Value.agg.inj hv
  refine ⟨MA, h, by rw [← e, List.size_toArray, mgL_len], fun i hi => ?_⟩
  rw [← e, List.getElem?_toArray]
  unfold mgL
  rw [List.getElem?_map, List.getElem?_range hi]
  rfl
theorem wp_insert {P : Program} {o : Oper} {a : Act} {w w' : World} {K : Act → World → Prop} {Q : Exit → Act → World → Prop} (t : TypeId) (m x v : Operand) (hop : o.op = Op.insert t m x v) (b : Nat) (key val : Value) (hm : a.eval m = .map (some b)) (hx : a.eval x = key) (hv : a.eval v = val) (hrun : (Instr.mapUpdate t (.map (some b)) key val).run P w = .ok () w') (h : K (a.put o.dst undef) w') : Oper.wp P o a w K Q := by
  unfold Oper.wp
  simp [execOp, hop, hm, hx, hv, hrun, Result.andThen]
  exact h
theorem Cr.insert {w : World} {b : Nat} {C : List Int} (h : Cr w b C) (k : Int) (h0 : -9223372036854775808 ≤ k) (h1 : k ≤ 9223372036854775807) (hl : C.length ≤ 1000000) : ∃ w', Hid ((Instr.mapUpdate 76 (.map (some b)) (.int .i64 k) (.agg #[])).run Try.prog w = .ok () w') ∧ Cr w' b (addC C k) ∧ w.grownBy w' (some b) := by
  obtain ⟨D, hown, hD⟩ := h.own
  obtain ⟨w', r1, r2, r3⟩ := hown.update intK Try.underlying76 (by show C.length < 9223372036854775807; omega) (key_i h0 h1) unitElem_mk
  exact ⟨w', r1, cr_put k hD (hown.tidy intK) r2, r3⟩
/-- While a message is made. -/
structure MI (w : World) (p : Qp) (d : Qd) (mb : Nat) (m : Mg) (W : World) : Prop where
  q : QIs W p d
  row : W.rowIs mb 52 22 (mgCell m none 0)
  since : w.Since w.heap.size W
  ge : w.heap.size ≤ mb
section
variable {w W W' : World} {p : Qp} {d : Qd} {mb : Nat} {m : Mg}
theorem MI.sin (h : MI w p d mb m W) (hs : W.Since W.heap.size W') : MI w p d mb m W' := ⟨h.q.since hs, row_since h.row hs, h.since.trans (since_mono hs h.since.size), h.ge⟩
theorem MI.num (h : MI w p d mb m W) (c : Nat) (v : Int) (hc : c < 10) : MI w p d mb (m.setN c v) (W.setCell ⟨mb, c, none⟩ (mgNum c v)) := by
  have hb : But mb W (W.setCell ⟨mb, c, none⟩ (mgNum c v)) := (But.of_since (World.Since.refl _ _)).setCell c _
  obtain ⟨l1, l2, l3, l4, l5⟩ := h.q.lts
  obtain ⟨f, f1, f2, f3⟩ := h.q.cop
  exact ⟨h.q.on (hb.block _ l1 (row_row (show W.rowIs p.b 80 17 _ from h.q.row) h.row (by decide))) (hb.block _ l2 (row_row f1 h.row (by decide))) (hb.block _ l3 (fun e => cr_row h.q.k1 h.row e.symm)) (hb.block _ l4 (fun e => cr_row h.q.k2 h.row e.symm)) (hb.block _ l5 (fun e => cr_row h.q.k3 h.row e.symm)), row_setN h.row c v (by omega) (by omega) (by omega), hb.since h.since h.ge h.since.size, h.ge⟩
theorem MI.put (h : QIs w p d) {w1 : World} (hs : w.Since w.heap.size w1) (m : Mg) : ∃ (MA : Array Value) (W : World), Hid (mgV m none 0 = .agg MA) ∧ Hid ((w1.alloc (.cells #[.int .i64 0, .int .i64 0, .int .i64 0, .int .i64 0, .int .u64 0, .int .u64 0, .int .u64 0, .int .u64 0, .int .i64 0, .int .u64 0, .slice none 0 0, .int .i64 0, .int .u64 0, .string ⟨#[]⟩, .string ⟨#[]⟩, .int .u64 0, .int .u64 0, .int .u64 0, .int .i64 0, .int .i64 0, .int .i64 0, .int .i64 0] 52)).there w1.heap.size 0 MA.size) ∧ Hid ((w1.alloc (.cells #[.int .i64 0, .int .i64 0, .int .i64 0, .int .i64 0, .int .u64 0, .int .u64 0, .int .u64 0, .int .u64 0, .int .i64 0, .int .u64 0, .slice none 0 0, .int .i64 0, .int .u64 0, .string ⟨#[]⟩, .string ⟨#[]⟩, .int .u64 0, .int .u64 0, .int .u64 0, .int .i64 0, .int .i64 0, .int .i64 0, .int .i64 0] 52)).setCells w1.heap.size 0 MA.toList = W) ∧ Hid ((Try.prog.info? 52).map (·.size) = some MA.size) ∧ Hid (MA.all (·.oneCell') = true) ∧ Hid (MI w p d w1.heap.size m W) := by
  obtain ⟨W, MA, h1, h2, h3, h4, h5, h6, h7⟩ := mg_put w1 m none 0
  have hh := h6.out W (World.Since.refl _ _)
  have hsW : w.Since w.heap.size W := hs.trans (since_mono h7.out hs.size)
  exact ⟨MA, W, h1, h2, h3, h4, h5, h.since hsW, mg_cells hh h1.out, hsW, hs.size⟩
end
theorem about_put {w : World} {p : Qp} {d : Qd} (h : QIs w p d) (k : Int) : Calls Try.prog 50 #[.pointer (some ⟨p.b, 0, none⟩), .int .i64 k] w fun e w1 => ∃ (MA : Array Value) (W : World), e = .returned (.agg MA) ∧ Hid ((w1.alloc (.cells #[.int .i64 0, .int .i64 0, .int .i64 0, .int .i64 0, .int .u64 0, .int .u64 0, .int .u64 0, .int .u64 0, .int .i64 0, .int .u64 0, .slice none 0 0, .int .i64 0, .int .u64 0, .string ⟨#[]⟩, .string ⟨#[]⟩, .int .u64 0, .int .u64 0, .int .u64 0, .int .i64 0, .int .i64 0, .int .i64 0, .int .i64 0] 52)).there w1.heap.size 0 MA.size) ∧ Hid ((w1.alloc (.cells #[.int .i64 0, .int .i64 0, .int .i64 0, .int .i64 0, .int .u64 0, .int .u64 0, .int .u64 0, .int .u64 0, .int .i64 0, .int .u64 0, .slice none 0 0, .int .i64 0, .int .u64 0, .string ⟨#[]⟩, .string ⟨#[]⟩, .int .u64 0, .int .u64 0, .int .u64 0, .int .i64 0, .int .i64 0, .int .i64 0, .int .i64 0] 52)).setCells w1.heap.size 0 MA.toList = W) ∧ Hid ((Try.prog.info? 52).map (·.size) = some MA.size) ∧ Hid (MA.all (·.oneCell') = true) ∧ Hid (MI w p d w1.heap.size (abG d k) W) :=
  (about_any h k).mono fun e w1 ⟨he, hs⟩ => by
    obtain ⟨MA, W, h1, h2, h3, h4, h5, h6⟩ := MI.put h hs (abG d k)
    exact ⟨MA, W, by rw [he, h1.out], h2, h3, h4, h5, h6⟩
def prM (d : Qd) : Mg := (abG d 1).setN 4 (d.ep : Nat)
set_option maxHeartbeats 4000000 in
theorem prepares_any {w : World} {p : Qp} {d : Qd} (h : QIs w p d) : Calls Try.prog 27 #[.pointer (some ⟨p.b, 0, none⟩)] w fun e w' => ∃ v, e = .returned v ∧ OwnM w' w.heap.size v (toL d.L [d.node] (prM d)) ∧ w.Since w.heap.size w' := by
  have HB := hide (about_put h 1)
  have hnb := h.ok.L _ h.ok.node
  clear h
  go_enter Try.func27, Try.ntmps27
  go_upto_region 2 with (first
    | (go_at_call 50; refine HB.out.mono ?_; rintro e w1 ⟨MA, W2, rfl, HT, HW2, HI, HA, HM⟩)
    | (refine wpList_store_mid rfl 52 (.tmp 3) (.tmp 5) rfl w1.heap.size 0 MA (by rfl) (by rfl) HT.out HI.out HA.out ?_; rw [HW2.out]))
  clear HB HT HW2 HI HA
  obtain ⟨mb, Hmb⟩ : ∃ x, Hid (w1.heap.size = x) := ⟨_, rfl⟩
  rw [Hmb.out] at HM ⊢
  have c5 : W2.cell? ⟨p.b, 5, none⟩ = some (.int .u64 (d.ep : Nat)) := HM.out.q.cell 5 (by decide)
  obtain ⟨y4, d4⟩ : ∃ y, W2.cell? ⟨mb, 4, none⟩ = some y := ⟨_, HM.out.row.cell (i := 4) (by decide)⟩
  have f4 : W2.frozen? ⟨mb, 4, none⟩ = false := HM.out.row.frozen 4
  have HM3 : MI w p d mb (prM d) (W2.setCell ⟨mb, 4, none⟩ (.int .u64 (d.ep : Nat))) := HM.out.num 4 (d.ep : Nat) (by decide)
  obtain ⟨W3, HW3⟩ : ∃ W, Hid (W2.setCell ⟨mb, 4, none⟩ (.int .u64 (d.ep : Nat)) = W) := ⟨_, rfl⟩
  rw [HW3.out] at HM3
  go_upto_region 3 with fail
  rw [HW3.out]
  clear HW3 c5 d4 f4 HM
  have HS0 : Hid (MI w p d mb (prM d) W3.drew) := HM3.sin ((World.Since.refl _ _).drew)
  have hcm := cr_made W3.drew
  have hs4 : W3.drew.Since W3.drew.heap.size (W3.drew.alloc (.map #[] 0)) := (World.Since.refl _ _).alloc (Nat.le_refl _) _
  have hmm : (Instr.makeMap 76 none).run Try.prog W3.drew = .ok (.map (some W3.drew.heap.size)) (W3.drew.alloc (.map #[] 0)) := by
    have hm0 := @run_makeMap Try.prog
    go_simp
  obtain ⟨kb, Hkb⟩ : ∃ x, Hid (W3.drew.heap.size = x) := ⟨_, rfl⟩
  obtain ⟨W4, HW4⟩ : ∃ W, Hid (W3.drew.alloc (.map #[] 0) = W) := ⟨_, rfl⟩
  rw [HW4.out] at hcm hs4 hmm
  rw [Hkb.out] at hcm hmm
  have HS4 : Hid (MI w p d mb (prM d) W4) := HS0.out.sin hs4
  have HMM := hide hmm
  obtain ⟨W5, HU, hc5, hg5⟩ := hcm.insert d.node hnb.1 hnb.2 (Nat.zero_le _)
  have hs5 : w.Since w.heap.size W5 := since_grown HS4.out.since hg5 (by rw [← Hkb.out]; exact HS0.out.since.size) HS4.out.since.size
  have hs45 : W3.drew.Since W3.drew.heap.size W5 := since_grown hs4 hg5 (by rw [Hkb.out]; exact Nat.le_refl _) hs4.size
  have HS5 : Hid (MI w p d mb (prM d) W5) := HS0.out.sin hs45
  obtain ⟨ML, HML⟩ : ∃ x, Hid (mgL (prM d) none 0 = x) := ⟨_, rfl⟩
  have HRG : Hid (∀ W, MI w p d mb (prM d) W → W.rangeAt mb 0 ML) := fun W hW => by rw [← HML.out]; exact mgL_range hW.row
  have HIN : Hid ((Try.prog.info? 52).map (·.size) = some ML.length) := by rw [← HML.out]; exact infoMg' _ _ _
  have HTA : Hid (Calls Try.prog 51 #[.pointer (some ⟨p.b, 0, none⟩), .map (some kb), .agg ML.toArray] W5 fun e w' => ∃ v, e = .returned v ∧ Hid (MI w p d mb (prM d) w') ∧ Hid (OwnM w' w.heap.size v (toL d.L [d.node] (prM d)) ∧ w.Since w.heap.size w')) := by
    have q := toAllBut_any HS5.out.q hc5 (prM d)
    unfold mgV at q
    rw [HML.out] at q
    exact q.mono fun e w' ⟨v, he, ho, hs⟩ => ⟨v, he, HS5.out.sin hs, ownM_mono ho (by have := hs5.size; omega), hs5.trans (since_mono hs hs5.size)⟩
  clear hcm hs4 hmm hc5 hg5 hs5 hs45 HM3 HML
  refine wp_region_held_drew (S := fun W => MI w p d mb (prM d) W) (by kernel_rfl) HS0.out fun _ => ?_
  refine wpAnyH_take (i := 0) (v := .pointer (some ⟨p.b, 0, none⟩)) rfl (by kernel_rfl) (by kernel_rfl) (by kernel_rfl) (fun _ _ _ h => h) (.inl ⟨rfl, fun W hW => by kernel_rfl⟩) HS0.out ?_
  simp only [List.getElem_toArray, List.getElem_cons_zero, Act.put, List.setIfInBounds_toArray, List.set_cons_zero, List.set_cons_succ]
  refine wpAnyH_take (i := 2) (v := .pointer (some ⟨p.b, 0, none⟩)) rfl (by kernel_rfl) (by kernel_rfl) (by kernel_rfl) (fun _ _ _ h => h) (.inl ⟨rfl, fun W hW => by kernel_rfl⟩) HS0.out ?_
  simp only [List.getElem_toArray, List.getElem_cons_zero, List.getElem_cons_succ, Act.put, List.setIfInBounds_toArray, List.set_cons_zero, List.set_cons_succ]
  refine wpAnyH_take (i := 3) (v := .pointer (some ⟨p.b, 0, none⟩)) rfl (by kernel_rfl) (by kernel_rfl) (by kernel_rfl) (fun _ _ _ h => h) (.inl ⟨rfl, fun W hW => by first | kernel_rfl | go_simp⟩) HS0.out ?_
  simp only [List.getElem_toArray, List.getElem_cons_zero, List.getElem_cons_succ, Act.put, List.setIfInBounds_toArray, List.set_cons_zero, List.set_cons_succ]
  refine wpAnyH_take (i := 4) (v := .pointer (some ⟨p.b, 0, none⟩)) rfl (by kernel_rfl) (by kernel_rfl) (by kernel_rfl) (fun _ _ _ h => h) (.inl ⟨rfl, fun W hW => by kernel_rfl⟩) HS0.out ?_
  simp only [List.getElem_toArray, List.getElem_cons_zero, List.getElem_cons_succ, Act.put, List.setIfInBounds_toArray, List.set_cons_zero, List.set_cons_succ]
  refine wpAnyH_take (i := 5) (v := .int .i64 d.node) rfl (by kernel_rfl) (by kernel_rfl) (by kernel_rfl) (fun _ _ _ h => h) (.inl ⟨rfl, fun W hW => by have c : W.cell? ⟨p.b, 0, none⟩ = some (.int .i64 d.node) := hW.q.cell 0 (by decide); go_simp⟩) HS0.out ?_
  simp only [List.getElem_toArray, List.getElem_cons_zero, List.getElem_cons_succ, Act.put, List.setIfInBounds_toArray, List.set_cons_zero, List.set_cons_succ]
  refine wpAnyH_take (i := 6) (v := .agg #[]) rfl (by kernel_rfl) (by kernel_rfl) (by kernel_rfl) (fun _ _ _ h => h) (.inl ⟨rfl, fun W hW => by kernel_rfl⟩) HS0.out ?_
  simp only [List.getElem_toArray, List.getElem_cons_zero, List.getElem_cons_succ, Act.put, List.setIfInBounds_toArray, List.set_cons_zero, List.set_cons_succ]
  refine wpAnyH_take (i := 9) (v := .agg ML.toArray) rfl (by kernel_rfl) (by kernel_rfl) (by kernel_rfl) (fun _ _ _ h => h) (yieldsIf_load_mid rfl 52 (.tmp 3) rfl mb 0 rfl ML _ (fun W hW => HRG.out W hW) Try.underlying52 rfl HIN.out) HS0.out ?_
  simp only [List.getElem_toArray, List.getElem_cons_zero, List.getElem_cons_succ, Act.put, List.setIfInBounds_toArray, List.set_cons_zero, List.set_cons_succ]
  refine wpAnyH_ready (rs := [1]) (by kernel_rfl) (by simp) ?_
  refine AllReadyH.cons rfl (fun K hK => ?_) AllReadyH.nil
  refine step_storeM rfl (op_runW (w' := W4) (.map (some kb)) (by have r := HMM.out; go_simp) ?_)
  refine hK.out _ _ HS4.out fun _ => ?_
  clear hK
  simp only [List.getElem_toArray, List.getElem_cons_zero, List.getElem_cons_succ, Act.put, List.setIfInBounds_toArray, List.set_cons_zero, List.set_cons_succ]
  refine wpAnyH_ready (rs := [7]) (by kernel_rfl) (by simp) ?_
  refine AllReadyH.cons rfl (fun K hK => ?_) AllReadyH.nil
  refine step_storeM rfl (wp_insert 76 _ _ _ rfl kb (.int .i64 d.node) (.agg #[]) rfl rfl rfl HU.out ?_)
  refine hK.out _ _ HS5.out fun _ => ?_
  clear hK
  simp only [List.getElem_toArray, List.getElem_cons_zero, List.getElem_cons_succ, Act.put]
  refine wpAnyH_take (i := 8) (v := .map (some kb)) rfl (by kernel_rfl) (by kernel_rfl) (by kernel_rfl) (fun _ _ _ h => h) (.inl ⟨rfl, fun W hW => by kernel_rfl⟩) HS5.out ?_
  simp only [List.getElem_toArray, List.getElem_cons_zero, List.getElem_cons_succ, Act.put, List.setIfInBounds_toArray, List.set_cons_zero, List.set_cons_succ]
  refine wpAnyH_ready (rs := [10]) (by kernel_rfl) (by simp) ?_
  refine AllReadyH.cons rfl (fun K hK => ?_) AllReadyH.nil
  refine step_callW rfl 51 #[.pointer (some ⟨p.b, 0, none⟩), .map (some kb), .agg ML.toArray] (by kernel_rfl) HTA.out ?_
  rintro e w6 ⟨v, rfl, HS6, HE⟩
  refine ⟨_, rfl, hK.out _ _ HS6.out fun _ => ?_⟩
  clear hK
  simp only [List.getElem_toArray, List.getElem_cons_zero, List.getElem_cons_succ, Act.put, List.setIfInBounds_toArray, List.set_cons_zero, List.set_cons_succ]
  refine wpAnyH_take (i := 11) (v := v) rfl (by kernel_rfl) (by kernel_rfl) (by kernel_rfl) (fun _ _ _ h => h) (.inl ⟨rfl, fun W hW => by kernel_rfl⟩) HS6.out ?_
  simp only [List.getElem_toArray, List.getElem_cons_zero, List.getElem_cons_succ, Act.put, List.setIfInBounds_toArray, List.set_cons_zero, List.set_cons_succ]
  refine wpAnyH_done (by kernel_rfl) ?_ _
  go_wp2_with fail
  go_ret
  exact ⟨v, rfl, HE.out⟩
end Go.Proofs.Ytkcjmjaikobpoaa

/- Package quorum: beats. -/
namespace Go.Proofs.Ytkcjmjaikobpoaa
open Go.RowKit Go.Maps
set_option maxRecDepth 100000
set_option maxRecDepth 100000

def beM (d : Qd) (S : Int) : Mg := (((abG d 6).setN 4 (d.ep : Nat)).setN 7 (d.begun : Nat)).setN 8 S
set_option maxHeartbeats 4000000 in
theorem beats_any {w : World} {p : Qp} {d : Qd} (h : QIs w p d) (S : Int) : Calls Try.prog 58 #[.pointer (some ⟨p.b, 0, none⟩), .int .i64 S] w fun e w' => ∃ v, e = .returned v ∧ OwnM w' w.heap.size v (toL d.L d.c2 (beM d S)) ∧ w.Since w.heap.size w' := by
  have HB := hide (about_put h 6)
  clear h
  go_enter Try.func58, Try.ntmps58
  go_upto_region 2 with (first
    | (go_at_call 50; refine HB.out.mono ?_; rintro e w1 ⟨MA, W2, rfl, HT, HW2, HI, HA, HM⟩)
    | (refine wpList_store_mid rfl 52 (.tmp 5) (.tmp 7) rfl w1.heap.size 0 MA (by rfl) (by rfl) HT.out HI.out HA.out ?_; rw [HW2.out]))
  clear HB HT HW2 HI HA
  obtain ⟨mb, Hmb⟩ : ∃ x, Hid (w1.heap.size = x) := ⟨_, rfl⟩
  rw [Hmb.out] at HM ⊢
  have c5 : W2.cell? ⟨p.b, 5, none⟩ = some (.int .u64 (d.ep : Nat)) := HM.out.q.cell 5 (by decide)
  have c12 : W2.cell? ⟨p.b, 12, none⟩ = some (.int .u64 (d.begun : Nat)) := HM.out.q.cell 12 (by decide)
  have hne : mb ≠ p.b := fun e => row_row HM.out.row (show W2.rowIs p.b 80 17 _ from HM.out.q.row) (by decide) e
  obtain ⟨y4, d4⟩ : ∃ y, W2.cell? ⟨mb, 4, none⟩ = some y := ⟨_, HM.out.row.cell (i := 4) (by decide)⟩
  obtain ⟨y7, d7⟩ : ∃ y, W2.cell? ⟨mb, 7, none⟩ = some y := ⟨_, HM.out.row.cell (i := 7) (by decide)⟩
  obtain ⟨y8, d8⟩ : ∃ y, W2.cell? ⟨mb, 8, none⟩ = some y := ⟨_, HM.out.row.cell (i := 8) (by decide)⟩
  have f4 : W2.frozen? ⟨mb, 4, none⟩ = false := HM.out.row.frozen 4
  have f7 : W2.frozen? ⟨mb, 7, none⟩ = false := HM.out.row.frozen 7
  have f8 : W2.frozen? ⟨mb, 8, none⟩ = false := HM.out.row.frozen 8
  have HM3 : MI w p d mb (beM d S) (((W2.setCell ⟨mb, 4, none⟩ (.int .u64 (d.ep : Nat))).setCell ⟨mb, 7, none⟩ (.int .u64 (d.begun : Nat))).setCell ⟨mb, 8, none⟩ (.int .i64 S)).drew := by
    have q := (((HM.out.num 4 (d.ep : Nat) (by decide)).num 7 (d.begun : Nat) (by decide)).num 8 S (by decide)).sin ((World.Since.refl _ _).drew)
    have e : ((((((abG d 6).setN 4 (d.ep : Nat))).setN 7 (d.begun : Nat))).setN 8 S) = beM d S := Mg.ext' (fun i => by
      show (if i = 8 then (S : Int) else if i = 7 then ((d.begun : Nat) : Int) else if i = 4 then ((d.ep : Nat) : Int) else (abG d 6).n i) = (if i = 8 then S else if i = 7 then (d.begun : Int) else if i = 4 then (d.ep : Int) else (abG d 6).n i)
      by_cases e4 : i = 4
      · subst e4; rfl
      · by_cases e7 : i = 7
        · subst e7; rfl
        · by_cases e8 : i = 8
          · subst e8; rfl
          · simp [e4, e7, e8]) (fun _ => rfl)
    rw [e] at q
    exact q
  obtain ⟨V0, HV0⟩ : ∃ W, Hid ((((W2.setCell ⟨mb, 4, none⟩ (.int .u64 (d.ep : Nat))).setCell ⟨mb, 7, none⟩ (.int .u64 (d.begun : Nat))).setCell ⟨mb, 8, none⟩ (.int .i64 S)).drew = W) := ⟨_, rfl⟩
  rw [HV0.out] at HM3
  have HM0 := hide HM3
  clear HM3
  have HM3 : MI w p d mb (beM d S) (((W2.setCell ⟨mb, 4, none⟩ (.int .u64 (d.ep : Nat))).setCell ⟨mb, 8, none⟩ (.int .i64 S)).setCell ⟨mb, 7, none⟩ (.int .u64 (d.begun : Nat))).drew := by
    have q := (((HM.out.num 4 (d.ep : Nat) (by decide)).num 8 S (by decide)).num 7 (d.begun : Nat) (by decide)).sin ((World.Since.refl _ _).drew)
    have e : ((((((abG d 6).setN 4 (d.ep : Nat))).setN 8 S)).setN 7 (d.begun : Nat)) = beM d S := Mg.ext' (fun i => by
      show (if i = 7 then ((d.begun : Nat) : Int) else if i = 8 then (S : Int) else if i = 4 then ((d.ep : Nat) : Int) else (abG d 6).n i) = (if i = 8 then S else if i = 7 then (d.begun : Int) else if i = 4 then (d.ep : Int) else (abG d 6).n i)
      by_cases e4 : i = 4
      · subst e4; rfl
      · by_cases e7 : i = 7
        · subst e7; rfl
        · by_cases e8 : i = 8
          · subst e8; rfl
          · simp [e4, e7, e8]) (fun _ => rfl)
    rw [e] at q
    exact q
  obtain ⟨V1, HV1⟩ : ∃ W, Hid ((((W2.setCell ⟨mb, 4, none⟩ (.int .u64 (d.ep : Nat))).setCell ⟨mb, 8, none⟩ (.int .i64 S)).setCell ⟨mb, 7, none⟩ (.int .u64 (d.begun : Nat))).drew = W) := ⟨_, rfl⟩
  rw [HV1.out] at HM3
  have HM1 := hide HM3
  clear HM3
  have HM3 : MI w p d mb (beM d S) (((W2.setCell ⟨mb, 7, none⟩ (.int .u64 (d.begun : Nat))).setCell ⟨mb, 4, none⟩ (.int .u64 (d.ep : Nat))).setCell ⟨mb, 8, none⟩ (.int .i64 S)).drew := by
    have q := (((HM.out.num 7 (d.begun : Nat) (by decide)).num 4 (d.ep : Nat) (by decide)).num 8 S (by decide)).sin ((World.Since.refl _ _).drew)
    have e : ((((((abG d 6).setN 7 (d.begun : Nat))).setN 4 (d.ep : Nat))).setN 8 S) = beM d S := Mg.ext' (fun i => by
      show (if i = 8 then (S : Int) else if i = 4 then ((d.ep : Nat) : Int) else if i = 7 then ((d.begun : Nat) : Int) else (abG d 6).n i) = (if i = 8 then S else if i = 7 then (d.begun : Int) else if i = 4 then (d.ep : Int) else (abG d 6).n i)
      by_cases e4 : i = 4
      · subst e4; rfl
      · by_cases e7 : i = 7
        · subst e7; rfl
        · by_cases e8 : i = 8
          · subst e8; rfl
          · simp [e4, e7, e8]) (fun _ => rfl)
    rw [e] at q
    exact q
  obtain ⟨V2, HV2⟩ : ∃ W, Hid ((((W2.setCell ⟨mb, 7, none⟩ (.int .u64 (d.begun : Nat))).setCell ⟨mb, 4, none⟩ (.int .u64 (d.ep : Nat))).setCell ⟨mb, 8, none⟩ (.int .i64 S)).drew = W) := ⟨_, rfl⟩
  rw [HV2.out] at HM3
  have HM2 := hide HM3
  clear HM3
  have HM3 : MI w p d mb (beM d S) (((W2.setCell ⟨mb, 7, none⟩ (.int .u64 (d.begun : Nat))).setCell ⟨mb, 8, none⟩ (.int .i64 S)).setCell ⟨mb, 4, none⟩ (.int .u64 (d.ep : Nat))).drew := by
    have q := (((HM.out.num 7 (d.begun : Nat) (by decide)).num 8 S (by decide)).num 4 (d.ep : Nat) (by decide)).sin ((World.Since.refl _ _).drew)
    have e : ((((((abG d 6).setN 7 (d.begun : Nat))).setN 8 S)).setN 4 (d.ep : Nat)) = beM d S := Mg.ext' (fun i => by
      show (if i = 4 then ((d.ep : Nat) : Int) else if i = 8 then (S : Int) else if i = 7 then ((d.begun : Nat) : Int) else (abG d 6).n i) = (if i = 8 then S else if i = 7 then (d.begun : Int) else if i = 4 then (d.ep : Int) else (abG d 6).n i)
      by_cases e4 : i = 4
      · subst e4; rfl
      · by_cases e7 : i = 7
        · subst e7; rfl
        · by_cases e8 : i = 8
          · subst e8; rfl
          · simp [e4, e7, e8]) (fun _ => rfl)
    rw [e] at q
    exact q
  obtain ⟨V3, HV3⟩ : ∃ W, Hid ((((W2.setCell ⟨mb, 7, none⟩ (.int .u64 (d.begun : Nat))).setCell ⟨mb, 8, none⟩ (.int .i64 S)).setCell ⟨mb, 4, none⟩ (.int .u64 (d.ep : Nat))).drew = W) := ⟨_, rfl⟩
  rw [HV3.out] at HM3
  have HM3 := hide HM3
  clear HM3
  have HM3 : MI w p d mb (beM d S) (((W2.setCell ⟨mb, 8, none⟩ (.int .i64 S)).setCell ⟨mb, 4, none⟩ (.int .u64 (d.ep : Nat))).setCell ⟨mb, 7, none⟩ (.int .u64 (d.begun : Nat))).drew := by
    have q := (((HM.out.num 8 S (by decide)).num 4 (d.ep : Nat) (by decide)).num 7 (d.begun : Nat) (by decide)).sin ((World.Since.refl _ _).drew)
    have e : ((((((abG d 6).setN 8 S)).setN 4 (d.ep : Nat))).setN 7 (d.begun : Nat)) = beM d S := Mg.ext' (fun i => by
      show (if i = 7 then ((d.begun : Nat) : Int) else if i = 4 then ((d.ep : Nat) : Int) else if i = 8 then (S : Int) else (abG d 6).n i) = (if i = 8 then S else if i = 7 then (d.begun : Int) else if i = 4 then (d.ep : Int) else (abG d 6).n i)
      by_cases e4 : i = 4
      · subst e4; rfl
      · by_cases e7 : i = 7
        · subst e7; rfl
        · by_cases e8 : i = 8
          · subst e8; rfl
          · simp [e4, e7, e8]) (fun _ => rfl)
    rw [e] at q
    exact q
  obtain ⟨V4, HV4⟩ : ∃ W, Hid ((((W2.setCell ⟨mb, 8, none⟩ (.int .i64 S)).setCell ⟨mb, 4, none⟩ (.int .u64 (d.ep : Nat))).setCell ⟨mb, 7, none⟩ (.int .u64 (d.begun : Nat))).drew = W) := ⟨_, rfl⟩
  rw [HV4.out] at HM3
  have HM4 := hide HM3
  clear HM3
  have HM3 : MI w p d mb (beM d S) (((W2.setCell ⟨mb, 8, none⟩ (.int .i64 S)).setCell ⟨mb, 7, none⟩ (.int .u64 (d.begun : Nat))).setCell ⟨mb, 4, none⟩ (.int .u64 (d.ep : Nat))).drew := by
    have q := (((HM.out.num 8 S (by decide)).num 7 (d.begun : Nat) (by decide)).num 4 (d.ep : Nat) (by decide)).sin ((World.Since.refl _ _).drew)
    have e : ((((((abG d 6).setN 8 S)).setN 7 (d.begun : Nat))).setN 4 (d.ep : Nat)) = beM d S := Mg.ext' (fun i => by
      show (if i = 4 then ((d.ep : Nat) : Int) else if i = 7 then ((d.begun : Nat) : Int) else if i = 8 then (S : Int) else (abG d 6).n i) = (if i = 8 then S else if i = 7 then (d.begun : Int) else if i = 4 then (d.ep : Int) else (abG d 6).n i)
      by_cases e4 : i = 4
      · subst e4; rfl
      · by_cases e7 : i = 7
        · subst e7; rfl
        · by_cases e8 : i = 8
          · subst e8; rfl
          · simp [e4, e7, e8]) (fun _ => rfl)
    rw [e] at q
    exact q
  obtain ⟨V5, HV5⟩ : ∃ W, Hid ((((W2.setCell ⟨mb, 8, none⟩ (.int .i64 S)).setCell ⟨mb, 7, none⟩ (.int .u64 (d.begun : Nat))).setCell ⟨mb, 4, none⟩ (.int .u64 (d.ep : Nat))).drew = W) := ⟨_, rfl⟩
  rw [HV5.out] at HM3
  have HM5 := hide HM3
  clear HM3
  clear HM
  go_upto_region 2 with fail
  go_region
  all_goals
    first
      | (rw [HV0.out]; clear HV0 HV1 HV2 HV3 HV4 HV5; have HM6 := HM0.out; clear HM0 HM1 HM2 HM3 HM4 HM5; generalize V0 = W3 at HM6 ⊢)
      | (rw [HV1.out]; clear HV0 HV1 HV2 HV3 HV4 HV5; have HM6 := HM1.out; clear HM0 HM1 HM2 HM3 HM4 HM5; generalize V1 = W3 at HM6 ⊢)
      | (rw [HV2.out]; clear HV0 HV1 HV2 HV3 HV4 HV5; have HM6 := HM2.out; clear HM0 HM1 HM2 HM3 HM4 HM5; generalize V2 = W3 at HM6 ⊢)
      | (rw [HV3.out]; clear HV0 HV1 HV2 HV3 HV4 HV5; have HM6 := HM3.out; clear HM0 HM1 HM2 HM3 HM4 HM5; generalize V3 = W3 at HM6 ⊢)
      | (rw [HV4.out]; clear HV0 HV1 HV2 HV3 HV4 HV5; have HM6 := HM4.out; clear HM0 HM1 HM2 HM3 HM4 HM5; generalize V4 = W3 at HM6 ⊢)
      | (rw [HV5.out]; clear HV0 HV1 HV2 HV3 HV4 HV5; have HM6 := HM5.out; clear HM0 HM1 HM2 HM3 HM4 HM5; generalize V5 = W3 at HM6 ⊢)
    clear c5 c12 d4 d7 d8 f4 f7 f8 hne
    have HS0 : Hid (MI w p d mb (beM d S) W3.drew) := HM6.sin ((World.Since.refl _ _).drew)
    obtain ⟨ML, HML⟩ : ∃ x, Hid (mgL (beM d S) none 0 = x) := ⟨_, rfl⟩
    have HRG : Hid (∀ W, MI w p d mb (beM d S) W → W.rangeAt mb 0 ML) := fun W hW => by rw [← HML.out]; exact mgL_range hW.row
    have HIN : Hid ((Try.prog.info? 52).map (·.size) = some ML.length) := by rw [← HML.out]; exact infoMg' _ _ _
    have HTA : Hid (∀ W, MI w p d mb (beM d S) W → Calls Try.prog 51 #[.pointer (some ⟨p.b, 0, none⟩), .map (some p.m2), .agg ML.toArray] W fun e w' => ∃ v, e = .returned v ∧ Hid (MI w p d mb (beM d S) w') ∧ Hid (OwnM w' w.heap.size v (toL d.L d.c2 (beM d S)) ∧ w.Since w.heap.size w')) := fun W hW => by
      have q := toAllBut_any hW.q hW.q.k2 (beM d S)
      unfold mgV at q
      rw [HML.out] at q
      exact q.mono fun e w' ⟨v, he, ho, hs⟩ => ⟨v, he, hW.sin hs, ownM_mono ho (by have := hW.since.size; omega), hW.since.trans (since_mono hs hW.since.size)⟩
    clear HML HM6
    go_upto_region 3 with fail
    refine wp_region_held_drew (S := fun W => MI w p d mb (beM d S) W) (by kernel_rfl) HS0.out fun _ => ?_
    refine wpAnyH_take (i := 0) (v := .pointer (some ⟨p.b, 0, none⟩)) rfl (by kernel_rfl) (by kernel_rfl) (by kernel_rfl) (fun _ _ _ h => h) (.inl ⟨rfl, fun W hW => by kernel_rfl⟩) HS0.out ?_
    simp only [List.getElem_toArray, List.getElem_cons_zero, Act.put, List.setIfInBounds_toArray, List.set_cons_zero, List.set_cons_succ]
    refine wpAnyH_take (i := 1) (v := .pointer (some ⟨p.b, 0, none⟩)) rfl (by kernel_rfl) (by kernel_rfl) (by kernel_rfl) (fun _ _ _ h => h) (.inl ⟨rfl, fun W hW => by kernel_rfl⟩) HS0.out ?_
    simp only [List.getElem_toArray, List.getElem_cons_zero, List.getElem_cons_succ, Act.put, List.setIfInBounds_toArray, List.set_cons_zero, List.set_cons_succ]
    refine wpAnyH_take (i := 2) (v := .pointer (some ⟨p.b, 0, none⟩)) rfl (by kernel_rfl) (by kernel_rfl) (by kernel_rfl) (fun _ _ _ h => h) (.inl ⟨rfl, fun W hW => by first | kernel_rfl | go_simp⟩) HS0.out ?_
    simp only [List.getElem_toArray, List.getElem_cons_zero, List.getElem_cons_succ, Act.put, List.setIfInBounds_toArray, List.set_cons_zero, List.set_cons_succ]
    refine wpAnyH_take (i := 3) (v := .pointer (some ⟨p.b, 15, none⟩)) rfl (by kernel_rfl) (by kernel_rfl) (by kernel_rfl) (fun _ _ _ h => h) (.inl ⟨rfl, fun W hW => by kernel_rfl⟩) HS0.out ?_
    simp only [List.getElem_toArray, List.getElem_cons_zero, List.getElem_cons_succ, Act.put, List.setIfInBounds_toArray, List.set_cons_zero, List.set_cons_succ]
    refine wpAnyH_take (i := 4) (v := .map (some p.m2)) rfl (by kernel_rfl) (by kernel_rfl) (by kernel_rfl) (fun _ _ _ h => h) (.inl ⟨rfl, fun W hW => by have c : W.cell? ⟨p.b, 15, none⟩ = some (.map (some p.m2)) := hW.q.cell 15 (by decide); go_simp⟩) HS0.out ?_
    simp only [List.getElem_toArray, List.getElem_cons_zero, List.getElem_cons_succ, Act.put, List.setIfInBounds_toArray, List.set_cons_zero, List.set_cons_succ]
    refine wpAnyH_take (i := 5) (v := .agg ML.toArray) rfl (by kernel_rfl) (by kernel_rfl) (by kernel_rfl) (fun _ _ _ h => h) (yieldsIf_load_mid rfl 52 (.tmp 5) rfl mb 0 rfl ML _ (fun W hW => HRG.out W hW) Try.underlying52 rfl HIN.out) HS0.out ?_
    simp only [List.getElem_toArray, List.getElem_cons_zero, List.getElem_cons_succ, Act.put, List.setIfInBounds_toArray, List.set_cons_zero, List.set_cons_succ]
    refine wpAnyH_ready (rs := [6]) (by kernel_rfl) (by simp) ?_
    refine AllReadyH.cons rfl (fun K hK => ?_) AllReadyH.nil
    refine step_callW rfl 51 #[.pointer (some ⟨p.b, 0, none⟩), .map (some p.m2), .agg ML.toArray] (by kernel_rfl) (HTA.out _ HS0.out) ?_
    rintro e w6 ⟨v, rfl, HS6, HE⟩
    refine ⟨_, rfl, hK.out _ _ HS6.out fun _ => ?_⟩
    clear hK
    simp only [List.getElem_toArray, List.getElem_cons_zero, List.getElem_cons_succ, Act.put, List.setIfInBounds_toArray, List.set_cons_zero, List.set_cons_succ]
    refine wpAnyH_take (i := 7) (v := v) rfl (by kernel_rfl) (by kernel_rfl) (by kernel_rfl) (fun _ _ _ h => h) (.inl ⟨rfl, fun W hW => by kernel_rfl⟩) HS6.out ?_
    simp only [List.getElem_toArray, List.getElem_cons_zero, List.getElem_cons_succ, Act.put, List.setIfInBounds_toArray, List.set_cons_zero, List.set_cons_succ]
    refine wpAnyH_done (by kernel_rfl) ?_ _
    go_wp2_with fail
    go_ret
    exact ⟨v, rfl, HE.out⟩
end Go.Proofs.Ytkcjmjaikobpoaa

/- Package quorum: a cell of a message in a list is stored to. -/
namespace Go.Proofs.Ytkcjmjaikobpoaa
open Go.RowKit Go.Maps
set_option maxRecDepth 100000
set_option maxRecDepth 100000

theorem msCells_cons (e : Me) (l : List Me) : msCells (e :: l) = mgL e.m e.va e.vc ++ msCells l := by simp [msCells]
theorem msCells_get : ∀ (l : List Me) (i c : Nat), c < 22 → (msCells l)[i * 22 + c]? = (l[i]?).bind (fun e => (mgL e.m e.va e.vc)[c]?)
  | [], i, c, _ => by simp [msCells]
  | e :: l, 0, c, hc => by
    rw [msCells_cons, Nat.zero_mul, Nat.zero_add, List.getElem?_append_left (by rw [mgL_len]; exact hc)]
    rfl
  | e :: l, i + 1, c, hc => by
    rw [msCells_cons, List.getElem?_append_right (by rw [mgL_len]; omega), mgL_len, show (i + 1) * 22 + c - 22 = i * 22 + c by omega, msCells_get l i c hc]
    rfl
theorem msCells_set (l : List Me) (i : Nat) (e' : Me) (x : Value) (hi : i < l.length) (he : mgL e'.m e'.va e'.vc = (mgL (l[i]).m (l[i]).va (l[i]).vc).set 10 x) : msCells (l.set i e') = (msCells l).set (i * 22 + 10) x := by
  refine List.ext_getElem? (fun k => ?_)
  obtain ⟨q, c, hc, rfl⟩ : ∃ q c, c < 22 ∧ k = q * 22 + c := ⟨k / 22, k % 22, Nat.mod_lt _ (by decide), by omega⟩
  rw [msCells_get _ _ _ hc, List.getElem?_set, List.getElem?_set, msCells_get _ _ _ hc]
  by_cases e : i = q
  · subst e
    rw [if_pos rfl, if_pos hi]
    show (mgL e'.m e'.va e'.vc)[c]? = _
    rw [he, List.getElem?_set, mgL_len]
    by_cases e2 : 10 = c
    · subst e2
      rw [if_pos rfl, if_pos rfl, if_pos (by decide), if_pos (by rw [msCells_len]; omega)]
    · rw [if_neg e2, if_neg (by omega), List.getElem?_eq_getElem hi]
      rfl
  · rw [if_neg e, if_neg (by omega)]
theorem mgL_setV (m : Mg) (va ta : Option Addr) (vc k : Nat) (l : List Nat) : mgL (m.setS 10 l) ta k = (mgL m va vc).set 10 (.slice ta l.length k) := by
  refine List.ext_getElem? (fun j => ?_)
  rw [List.getElem?_set, mgL_len]
  by_cases hj : j < 22
  · unfold mgL
    rw [List.getElem?_map, List.getElem?_map, List.getElem?_range hj]
    show some (mgCell (m.setS 10 l) ta k j) = _
    rw [mgCell_setV m va ta vc k l j]
    by_cases e : j = 10
    · subst e
      rw [if_pos rfl, if_pos rfl, if_pos (by decide)]
    · rw [if_neg e, if_neg (fun e2 => e e2.symm)]
      rfl
  · rw [List.getElem?_eq_none (by rw [mgL_len]; omega)]
    by_cases e : 10 = j
    · omega
    · rw [if_neg e, List.getElem?_eq_none (by rw [mgL_len]; omega)]
/-- The form of such a list's value. -/
theorem ownM_form {w : World} {K : Nat} {v : Value} {l : List Me} (h : OwnM w K v l) : ∃ va vc, v = .slice va l.length vc := by
  rcases h.2 with ⟨e, h0⟩ | ⟨g, cap, cur, e, _⟩
  · exact ⟨none, 0, by rw [e, h0]⟩
  · exact ⟨_, cap, e⟩
theorem ownM_at {w : World} {K : Nat} {v : Value} {l : List Me} (h : OwnM w K v l) (hl : 0 < l.length) : ∃ g cap f, v = .slice (some ⟨g, 0, none⟩) l.length cap ∧ K ≤ g ∧ l.length ≤ cap ∧ w.rowIs g 52 (cap * 22) f ∧ ∀ j, j < l.length * 22 → some (f j) = (msCells l)[j]? := by
  rcases h.2 with ⟨e, h0⟩ | ⟨g, cap, cur, e, hb, hh, hnc, hm, hsz, htk⟩
  · omega
  · refine ⟨g, cap, fun j => cur[j]?.getD undef, e, hb, hnc, ⟨cur, hh, hsz, fun i hi => by show cur[i]? = some (cur[i]?.getD undef); rw [Array.getElem?_eq_getElem (by omega)]; rfl⟩, fun j hj => ?_⟩
    have h2 := congrArg (fun l : List Value => l[j]?) htk
    rw [List.getElem?_take_of_lt hj, Array.getElem?_toList] at h2
    rw [← h2]
    show some (cur[j]?.getD undef) = _
    rw [Array.getElem?_eq_getElem (by omega)]
    rfl
/-- One cell is stored to. -/
theorem ownM_set {w : World} {K g cap : Nat} {l : List Me} (h : OwnM w K (.slice (some ⟨g, 0, none⟩) l.length cap) l) (i : Nat) (hi : i < l.length) (e' : Me) (x : Value) (he : mgL e'.m e'.va e'.vc = (mgL (l[i]).m (l[i]).va (l[i]).vc).set 10 x) :
    OwnM (w.setCell ⟨g, i * 22 + 10, none⟩ x) K (.slice (some ⟨g, 0, none⟩) l.length cap) (l.set i e') := by
  obtain ⟨g', cap', f, e, hb, hnc, hr, hf⟩ := ownM_at h (by omega)
  simp only [Value.slice.injEq, Option.some.injEq, Addr.mk.injEq, true_and, and_true] at e
  obtain ⟨rfl, rfl⟩ := e
  have hr2 := hr.set (i * 22 + 10) x
  refine ⟨?_, .inr ⟨g, cap, _, by rw [List.length_set], hb, row_heap hr2, by rw [List.length_set]; exact hnc, ?_, by simp, ?_⟩⟩
  · rw [msCells_len]
  · rcases h.2 with ⟨e2, _⟩ | ⟨g2, cap2, cur, e2, _, _, _, hm, _⟩
    · cases e2
    · cases e2; exact hm
  · rw [List.length_set, msCells_set l i e' x hi he]
    refine List.ext_getElem? (fun j => ?_)
    by_cases hj : j < l.length * 22
    · rw [List.getElem?_take_of_lt hj, List.getElem?_set, msCells_len]
      have hjc : j < cap * 22 := Nat.lt_of_lt_of_le hj (Nat.mul_le_mul_right 22 hnc)
      simp only [List.getElem?_map, List.getElem?_range hjc, Option.map_some]
      by_cases e2 : i * 22 + 10 = j
      · rw [if_pos e2, if_pos e2.symm, if_pos (show i * 22 + 10 < l.length * 22 by omega)]
      · rw [if_neg e2, if_neg (fun q => e2 q.symm), hf j hj]
    · rw [List.getElem?_eq_none (by simp; omega), List.getElem?_eq_none (by rw [List.length_set, msCells_len]; omega)]
end Go.Proofs.Ytkcjmjaikobpoaa
