/- Own texts, joined: SE17, SE11, SE18, SE19, SE20, SE21, SE22, SE24. -/
import Derived.Test.YtdhhjdacidhmjaaGreatM8
import Derived.BigQuiet

/- Package settle: the law's plays: Wants; whatever else. -/
namespace Go.Proofs.YtdhhjdacidhmjaaGreat
open Go.RowKit
set_option maxRecDepth 100000
set_option maxRecDepth 100000
set_option maxHeartbeats 4000000 in
theorem plays_wants {O : Nat → Nat} {Q : Nat} {w : World} {tb bk : Nat} {mk : Bool} {x : Pk} (h : PlIs O Q w tb bk mk x) (wh peer : Int) (qv : Value) (num : Nat) :
    Calls Tryz.prog 10 #[.pointer (some ⟨tb, 0, none⟩), .agg #[.int .i64 4, .int .i64 wh, qv, .int .i64 peer, .int .u64 (num : Nat)]] w fun e w' => e = .returned (.bool true) ∧ Hid (PlE O Q w tb bk mk x w') := by
  obtain ⟨W1, HW1⟩ : ∃ W, Hid (w.alloc (.cells #[.int .i64 4, .int .i64 wh, qv, .int .i64 peer, .int .u64 (num : Nat)] 62) = W) := ⟨_, rfl⟩
  obtain ⟨ob, HOB⟩ : ∃ y, Hid (w.heap.size = y) := ⟨_, rfl⟩
  have s1 : w.Since w.heap.size W1 := by rw [← HW1.out]; exact (World.Since.refl _ _).alloc (Nat.le_refl _) _
  have go : ∀ j v, (#[.int .i64 4, .int .i64 wh, qv, .int .i64 peer, .int .u64 (num : Nat)] : Array Value)[j]? = some v → W1.cell? ⟨ob, j, none⟩ = some v := fun j v hv => by rw [← HW1.out, ← HOB.out]; exact (World.cell?_alloc_at (w := w) _ _ _ j rfl).trans hv
  have o0 : W1.cell? ⟨ob, 0, none⟩ = some (.int .i64 4) := go 0 _ rfl
  have o3 : W1.cell? ⟨ob, 3, none⟩ = some (.int .i64 peer) := go 3 _ rfl
  have o4 : W1.cell? ⟨ob, 4, none⟩ = some (.int .u64 (num : Nat)) := go 4 _ rfl
  have h1 := h.since s1
  obtain ⟨c0, c1, -, -, -, -⟩ := h1.cells
  have sd : ∀ n, W1.Since W1.heap.size (W1.drewN n) := fun n => ⟨rfl, rfl, rfl, Nat.le_refl _, fun _ _ => rfl⟩
  have HA : Hid (∀ n, Calls Tryz.prog 30 #[.pointer (some ⟨x.p.sb, 0, none⟩), .int .i64 peer, .int .u64 (num : Nat)] (W1.drewN n) fun e w' => e = .returned (.bool (wantsR x.r peer num)) ∧ w' = W1.drewN n) := fun n =>
    ((h1.since (sd n)).both.wantsP peer num).mono fun e w' ⟨he, hw⟩ => ⟨he, hw.symm⟩
  have HB : Hid (∀ n, Calls Tryz.prog 31 #[.pointer (some ⟨x.p2.rb, 0, none⟩), .int .i64 peer, .int .u64 (num : Nat)] (W1.drewN n) fun e w' => e = .returned (.bool (wantsR x.r peer num)) ∧ w' = W1.drewN n) := fun n =>
    ((h1.since (sd n)).both.wantsD peer num).mono fun e w' ⟨he, hw⟩ => ⟨he, hw.symm⟩
  have HE : Hid (∀ n, PlE O Q w tb bk mk x (W1.drewN n)) := fun n => ⟨O, x, h1.since (sd n), ChR.since (s1.trans (since_mono (sd n) s1.size)), Nat.le_succ _, Nat.le_succ _⟩
  obtain ⟨pb, hpb⟩ : ∃ y, x.p.sb = y := ⟨_, rfl⟩
  obtain ⟨rb, hrb⟩ : ∃ y, x.p2.rb = y := ⟨_, rfl⟩
  obtain ⟨bv, hbv⟩ : ∃ y, wantsR x.r peer num = y := ⟨_, rfl⟩
  rw [hpb] at HA c0
  rw [hrb] at HB c1
  rw [hbv] at HA HB
  have zb : (bv == bv) = true := by simp
  clear h h1 s1 hpb hrb go hbv sd
  go_enter Tryz.func10, Tryz.ntmps10
  go_upto_region 1 with fail
  rw [HW1.out, HOB.out]
  clear HW1 HOB
  go_upto_region 25 with fail
  go_quiet (first | exact Calls.quiet_of_same (HA.out _) | exact Calls.quiet_of_same (HB.out _))
  go_wp2_with fail
  go_ret
  exact ⟨by simp, HE.out nq⟩
set_option maxHeartbeats 2000000 in
theorem plays_other {O : Nat → Nat} {Q : Nat} {w : World} {tb bk : Nat} {mk : Bool} {x : Pk} (h : PlIs O Q w tb bk mk x) (kd wh peer : Int) (n1 : ¬ kd = 1) (n2 : ¬ kd = 2) (n3 : ¬ kd = 3) (n4 : ¬ kd = 4) (qv : Value) (num : Nat) :
    Calls Tryz.prog 10 #[.pointer (some ⟨tb, 0, none⟩), .agg #[.int .i64 kd, .int .i64 wh, qv, .int .i64 peer, .int .u64 (num : Nat)]] w fun e w' => e = .returned (.bool true) ∧ Hid (PlE O Q w tb bk mk x w') := by
  obtain ⟨W1, HW1⟩ : ∃ W, Hid (w.alloc (.cells #[.int .i64 kd, .int .i64 wh, qv, .int .i64 peer, .int .u64 (num : Nat)] 62) = W) := ⟨_, rfl⟩
  obtain ⟨ob, HOB⟩ : ∃ y, Hid (w.heap.size = y) := ⟨_, rfl⟩
  have s1 : w.Since w.heap.size W1 := by rw [← HW1.out]; exact (World.Since.refl _ _).alloc (Nat.le_refl _) _
  have o0 : W1.cell? ⟨ob, 0, none⟩ = some (.int .i64 kd) := by rw [← HW1.out, ← HOB.out]; exact (World.cell?_alloc_at (w := w) _ _ _ 0 rfl).trans rfl
  have HE : Hid (PlE O Q w tb bk mk x W1) := ⟨O, x, h.since s1, ChR.since s1, Nat.le_succ _, Nat.le_succ _⟩
  have z1 : (kd == 1) = false := by simp [n1]
  have z2 : (kd == 2) = false := by simp [n2]
  have z3 : (kd == 3) = false := by simp [n3]
  have z4 : (kd == 4) = false := by simp [n4]
  clear h s1
  go_enter Tryz.func10, Tryz.ntmps10
  go_upto_region 1 with fail
  rw [HW1.out, HOB.out]
  clear HW1 HOB
  go_wp2_with fail
  go_ret
  exact ⟨rfl, HE⟩
end Go.Proofs.YtdhhjdacidhmjaaGreat

/- Package settle: the law's helper kept. -/
namespace Go.Proofs.YtdhhjdacidhmjaaGreat
open Go.RowKit
set_option maxRecDepth 100000
set_option maxRecDepth 100000
def bkQ (sh : Int) (A N M S : Nat) (qv : Value) : Array Value := #[.int .i64 sh, .slice (some ⟨A, 0, none⟩) 1 2, qv, .slice (some ⟨N, 0, none⟩) 1 2, .slice (some ⟨M, 0, none⟩) 1 2, .slice (some ⟨S, 0, none⟩) 1 2]
theorem wpQuiet_load_mid {P : Program} {ops : Array Oper} {C : World → Prop} {Q : Act → Prop} {a : Act} {o : Oper} {rest : List Oper} (hw : Region.wanted o (yielded ops a.tmps) = true) (ty : TypeId) (x : Operand) (ho : o.op = .load ty x)
    (b c : Nat) (hx : a.eval x = .pointer (some ⟨b, c, none⟩)) (cs : List Value) (d : TypeDesc) (hc : ∀ w, C w → w.rangeAt b c cs)
    (hu : P.underlying ty = some d) (hd : d.isRow = true) (hi : (P.info? ty).map (·.size) = some cs.length)
    (h : wpQuiet P ops C Q rest (a.put o.dst (.agg cs.toArray))) : wpQuiet P ops C Q (o :: rest) a :=
  wpQuiet_step fun K hK => by
    rw [if_pos hw]
    refine ⟨.agg cs.toArray, fun w hw' => ?_, hK _ h⟩
    unfold Oper.quietAt execOp
    simp only [ho, hx, Instr.loadAt, Instr.sureAddr, Sem.run_bind, Sem.run_pure, Result.andThen_ok, run_loadVar_mid w b c ty cs d (hc w hw') hu hd hi]
    exact ⟨rfl, rfl⟩
theorem range_drew {w : World} {b c : Nat} {cs : List Value} (h : w.rangeAt b c cs) : ∀ w', (∃ n, w' = w.drewN n) → w'.rangeAt b c cs := by
  rintro _ ⟨n, rfl⟩
  exact h
theorem range2 {w : World} {b : Nat} {x y : Value} (h0 : w.cell? ⟨b, 0, none⟩ = some x) (h1 : w.cell? ⟨b, 1, none⟩ = some y) : w.rangeAt b 0 [x, y] := fun j v hv => by
  match j, hv with
  | 0, hv => injection hv with e; subst e; exact h0
  | 1, hv => injection hv with e; subst e; exact h1
theorem range4 {w : World} {b : Nat} {x y z u : Value} (h0 : w.cell? ⟨b, 0, none⟩ = some x) (h1 : w.cell? ⟨b, 1, none⟩ = some y) (h2 : w.cell? ⟨b, 2, none⟩ = some z) (h3 : w.cell? ⟨b, 3, none⟩ = some u) : w.rangeAt b 0 [x, y, z, u] := fun j v hv => by
  match j, hv with
  | 0, hv => injection hv with e; subst e; exact h0
  | 1, hv => injection hv with e; subst e; exact h1
  | 2, hv => injection hv with e; subst e; exact h2
  | 3, hv => injection hv with e; subst e; exact h3
theorem Wh.ra {w : World} {A N M S : Nat} (h : Wh w A N M S) : w.rangeAt A 0 [.string ⟨#[97]⟩, .int .u64 5] := range2 h.a0 h.a1
theorem Wh.rs {w : World} {A N M S : Nat} (h : Wh w A N M S) : w.rangeAt S 0 [.int .u64 6, .int .i64 0, .int .i64 0, .int .u64 0] := range4 h.s0 h.s1 h.s2 h.s3
theorem infoA2 : (Tryz.prog.info? 53).map (·.size) = some 2 := by kernel_rfl
theorem infoS4 : (Tryz.prog.info? 125).map (·.size) = some 4 := by kernel_rfl
set_option maxHeartbeats 8000000 in
theorem kept_any {w : World} {A N M S : Nat} (h : Wh w A N M S) (sh : Int) (qv : Value) : Calls Tryz.prog 23 #[.agg (bkQ sh A N M S qv)] w fun e w' => e = .returned (.bool true) ∧ Hid (w.Since w.heap.size w') := by
  obtain ⟨W1, HW1⟩ : ∃ W, Hid (w.alloc (.cells (bkQ sh A N M S qv) 89) = W) := ⟨_, rfl⟩
  obtain ⟨bb, HBB⟩ : ∃ x, Hid (w.heap.size = x) := ⟨_, rfl⟩
  have s1 : w.Since w.heap.size W1 := by rw [← HW1.out]; exact (World.Since.refl _ _).alloc (Nat.le_refl _) _
  have gb : ∀ j v, (bkQ sh A N M S qv)[j]? = some v → W1.cell? ⟨bb, j, none⟩ = some v := fun j v hv => by rw [← HW1.out, ← HBB.out]; exact (World.cell?_alloc_at (w := w) _ _ _ j rfl).trans hv
  have b0 : W1.cell? ⟨bb, 0, none⟩ = some (.int .i64 sh) := gb 0 _ rfl
  have hw1 := h.since s1
  have HWO : Hid (Calls Tryz.prog 21 #[.int .i64 sh] W1 fun e w2 => ∃ A2 N2 M2 S2 BA, e = .returned (.agg BA) ∧ ∃ W3 vb, Hid (w2.heap.size = vb) ∧ Hid (w2.alloc (.cells #[.int .i64 0, .slice none 0 0, .slice none 0 0, .slice none 0 0, .slice none 0 0, .slice none 0 0] 89) = W3) ∧ Hid (W3.there vb 0 BA.size) ∧ Hid ((Tryz.prog.info? 89).map (·.size) = some BA.size) ∧ Hid (BA.all (·.oneCell') = true) ∧ ∃ W4, Hid (W3.setCells vb 0 BA.toList = W4) ∧
      (W4.cell? ⟨bb, 1, none⟩ = some (.slice (some ⟨A, 0, none⟩) 1 2) ∧ W4.cell? ⟨bb, 3, none⟩ = some (.slice (some ⟨N, 0, none⟩) 1 2) ∧ W4.cell? ⟨bb, 4, none⟩ = some (.slice (some ⟨M, 0, none⟩) 1 2) ∧ W4.cell? ⟨bb, 5, none⟩ = some (.slice (some ⟨S, 0, none⟩) 1 2)) ∧ (W4.cell? ⟨vb, 1, none⟩ = some (.slice (some ⟨A2, 0, none⟩) 1 2) ∧ W4.cell? ⟨vb, 5, none⟩ = some (.slice (some ⟨S2, 0, none⟩) 1 2)) ∧ Hid (Wh W4 A N M S) ∧ Hid (Wh W4 A2 N2 M2 S2) ∧ Hid (w.Since w.heap.size W4)) := by
    refine (whole_any W1 sh).mono fun e w2 ⟨A2, N2, M2, S2, he, hh⟩ => ?_
    obtain ⟨hh1, hh2, s2⟩ := hh.out
    have s3 : w2.Since w2.heap.size (w2.alloc (.cells #[.int .i64 0, .slice none 0 0, .slice none 0 0, .slice none 0 0, .slice none 0 0, .slice none 0 0] 89)) := (World.Since.refl _ _).alloc (Nat.le_refl _) _
    have r3 : (w2.alloc (.cells #[.int .i64 0, .slice none 0 0, .slice none 0 0, .slice none 0 0, .slice none 0 0, .slice none 0 0] 89)).rowIs w2.heap.size 89 6 (fun i => (#[.int .i64 0, .slice none 0 0, .slice none 0 0, .slice none 0 0, .slice none 0 0, .slice none 0 0] : Array Value).toList.getD i undef) := World.rowIs_alloc w2 _ _ _ (fun i hi => by
      rw [List.getD_eq_getElem?_getD, Array.getElem?_toList, Array.getElem?_eq_getElem hi]
      rfl)
    have r4 := rowIs_setCells (bkA sh A2 N2 M2 S2).toList 0 _ _ r3
    have s4 : w2.Since w2.heap.size ((w2.alloc (.cells #[.int .i64 0, .slice none 0 0, .slice none 0 0, .slice none 0 0, .slice none 0 0, .slice none 0 0] 89)).setCells w2.heap.size 0 (bkA sh A2 N2 M2 S2).toList) := since_setCells (Nat.le_refl _) _ _ _ s3
    have s24 := s2.trans (since_mono s4 s2.size)
    refine ⟨A2, N2, M2, S2, _, he, _, _, rfl, rfl, row_there r3, infoB6, (by show _ = _; kernel_rfl), _, rfl, ⟨cell_later s24 (gb 1 _ rfl), cell_later s24 (gb 3 _ rfl), cell_later s24 (gb 4 _ rfl), cell_later s24 (gb 5 _ rfl)⟩, ⟨?_, ?_⟩, hw1.since s24, hh1.since s4, s1.trans (since_mono s24 s1.size)⟩
    · have := r4.cell (i := 1) (by decide)
      rw [if_pos ⟨Nat.zero_le _, by show 1 < 0 + 6; omega⟩] at this
      exact this
    · have := r4.cell (i := 5) (by decide)
      rw [if_pos ⟨Nat.zero_le _, by show 5 < 0 + 6; omega⟩] at this
      exact this
  clear h s1 gb hw1
  go_enter Tryz.func23, Tryz.ntmps23
  go_upto_region 1 with fail
  rw [HW1.out, HBB.out]
  clear HW1 HBB
  have HIA := hide infoA2
  have HIS := hide infoS4
  go_upto_region 2 with (first
    | (go_at_call 21; refine HWO.out.mono ?_; rintro e w2 ⟨A2, N2, M2, S2, BA, rfl, W3, vb, HVB, HW3, HT, HI, HO, W4, HW4, ⟨b1, b3, b4, b5⟩, ⟨v1, v5⟩, H1, H2, HS⟩; obtain ⟨a0, a1, a2, n0, n1, m0, m1, t0, t1, t2, t3, t4⟩ := H1.out; have HRA := hide H1.out.ra; have HRS := hide H1.out.rs; have HXA := hide H2.out.ra; have HXS := hide H2.out.rs)
    | (rw [HW3.out, HVB.out]; clear HW3)
    | (refine wpList_store_mid rfl 89 _ _ rfl vb 0 BA rfl rfl HT.out HI.out HO.out ?_; rw [HW4.out]))
  simp only [List.append, Act.put]
  refine wp_region_quiet_lit (by kernel_rfl) (by kernel_rfl) ?_
  repeat (first
    | (refine wpQuiet_load_mid rfl 53 _ rfl A 0 rfl _ _ (range_drew HRA.out) Tryz.underlying53 rfl HIA.out ?_)
    | (refine wpQuiet_load_mid rfl 53 _ rfl A2 0 rfl _ _ (range_drew HXA.out) Tryz.underlying53 rfl HIA.out ?_)
    | (refine wpQuiet_load_mid rfl 125 _ rfl S 0 rfl _ _ (range_drew HRS.out) Tryz.underlying125 rfl HIS.out ?_)
    | (refine wpQuiet_load_mid rfl 125 _ rfl S2 0 rfl _ _ (range_drew HXS.out) Tryz.underlying125 rfl HIS.out ?_)
    | go_big_quiet_step (fail)
    | quiet_step (fail))
  refine wpQuiet_nil ?_
  rintro _ ⟨nq, rfl⟩
  go_wp2
  go_ret
  exact ⟨rfl, hide ⟨HS.out.os, HS.out.tape, HS.out.output, HS.out.size, HS.out.block⟩⟩
end Go.Proofs.YtdhhjdacidhmjaaGreat

/- Package settle: Look on both; what lies beside it stays. -/
namespace Go.Proofs.YtdhhjdacidhmjaaGreat
open Go.RowKit
set_option maxRecDepth 100000
set_option maxRecDepth 100000
section
variable {O : Nat → Nat} {q : Nat} {w : World} {p : Sp} {p2 : Rp2} {d : Sd} {r : Rd} {T : Nat}
/-- Behind the program's Look. -/
def LkB (O : Nat → Nat) (q : Nat) (w : World) (p : Sp) (p2 : Rp2) (d : Sd) (r : Rd) (l : List Ent) (w1 : World) : Prop := ∃ O1 b V, SIs O1 q w1 { p with Db := b, dp := V } (lookM d l) ∧ RIs O1 q w1 p2 r ∧ ChR q (q + 53) O O1 w w1
theorem Both.lookP (h : Both O q w p p2 d r T) {qa : Option Addr} {qc : Nat} {l : List Ent} (hq : QIn w qa l) (hl : l.length ≤ 3518437208881) (x0 x1 x3 x4 x5 : Value) :
    Calls Tryz.prog 17 #[.pointer (some ⟨p.sb, 0, none⟩), .agg #[x0, x1, .slice qa l.length qc, x3, x4, x5]] w fun e w1 => e = .returned (.tuple #[]) ∧ Hid (LkB O q w p p2 d r l w1) := by
  refine (look_any h.s (by rw [h.j.shard, h.j.hown]) (qc := qc) hq (by omega) x0 x1 x3 x4 x5).mono fun e w1 ⟨he, O2, ⟨b, V, h1⟩, h2⟩ => ?_
  exact ⟨he, O2, b, V, h1, h.rf.keepR' h2 (by omega), h2.wide (Nat.le_refl _) (by omega)⟩
/-- Behind the document's Look. -/
def LkD (O : Nat → Nat) (q : Nat) (w : World) (p : Sp) (p2 : Rp2) (d : Sd) (r : Rd) (T : Nat) (l : List Ent) (w2 : World) : Prop := ∃ O2 b V qv, Both O2 q w2 { p with Db := b, dp := V } { p2 with qv := qv } (lookM d l) (r.look l r.n) T ∧ ChR q (q + 53) O O2 w w2
theorem Both.lookD {w1 : World} (h : Both O q w p p2 d r T) {qa : Option Addr} {qc : Nat} {l : List Ent} (k : LkB O q w p p2 d r l w1) (hq : QIn w1 qa l) (hl : l.length ≤ 3518437208881) (x0 x1 x3 x4 x5 : Value) :
    Calls Tryz.prog 18 #[.pointer (some ⟨p2.rb, 0, none⟩), .agg #[x0, x1, .slice qa l.length qc, x3, x4, x5]] w1 fun e w2 => e = .returned (.tuple #[]) ∧ Hid (LkD O q w p p2 d r T l w2) := by
  obtain ⟨O1, b, V, h1, h2, h3⟩ := k
  refine (rlook_any h2 (qc := qc) hq hl x0 x1 x3 x4 x5).mono fun e w2 ⟨he, hh⟩ => ?_
  obtain ⟨O2, qb, qd, g1, g2⟩ := hh.out
  exact ⟨he, O2, b, V, _, ⟨h1.keepR g2 (by omega), g1, h.j.look l, h.g, ⟨qb, qd, rfl⟩, hl⟩, h3.trans (g2.wide (by omega) (Nat.le_refl _))⟩
end
theorem cell_R {lo hi : Nat} {O O' : Nat → Nat} {w w' : World} {b i : Nat} {v : Value} (k : ChR lo hi O O' w w') (hx : O b < lo ∨ hi ≤ O b) (h : w.cell? ⟨b, i, none⟩ = some v) : w'.cell? ⟨b, i, none⟩ = some v := by
  rw [World.cell?_of_block (a := ⟨b, i, none⟩) (k.block _ (World.block_lt_of_cell? _ _ h) hx)]; exact h
theorem Wh.keepR {lo hi : Nat} {O O' : Nat → Nat} {w w' : World} {A N M S : Nat} (h : Wh w A N M S) (k : ChR lo hi O O' w w') (ha : O A < lo ∨ hi ≤ O A) (hn : O N < lo ∨ hi ≤ O N) (hm : O M < lo ∨ hi ≤ O M) (hs : O S < lo ∨ hi ≤ O S) : Wh w' A N M S :=
  ⟨cell_R k ha h.a0, cell_R k ha h.a1, cell_R k ha h.a2, cell_R k hn h.n0, cell_R k hn h.n1, cell_R k hm h.m0, cell_R k hm h.m1, cell_R k hs h.s0, cell_R k hs h.s1, cell_R k hs h.s2, cell_R k hs h.s3, cell_R k hs h.s4⟩
end Go.Proofs.YtdhhjdacidhmjaaGreat

/- Package settle: an odd Look: what lies beside the two Settles. -/
namespace Go.Proofs.YtdhhjdacidhmjaaGreat
open Go.RowKit
set_option maxRecDepth 100000
set_option maxRecDepth 100000
theorem QIn.keepR {lo hi : Nat} {O O' : Nat → Nat} {w w' : World} {qa : Option Addr} {l : List Ent} (h : QIn w qa l) (k : ChR lo hi O O' w w') (hx : ∀ b o, qa = some ⟨b, o, none⟩ → l ≠ [] → O b < lo ∨ hi ≤ O b) : QIn w' qa l :=
  ⟨fun j e he => by
    obtain ⟨b, o, h1, h2, h3⟩ := h.at' j e he
    have hl : l ≠ [] := by rintro rfl; simp at he
    exact ⟨b, o, h1, fun i v hv => by rw [World.cell?_of_block (a := ⟨b, (o + j * 4) + i, none⟩) (k.block b h3 (hx b o h1 hl))]; exact h2 i v hv, Nat.lt_of_lt_of_le h3 k.size⟩, h.ok⟩
theorem QIn.lt {w : World} {qa : Option Addr} {l : List Ent} (h : QIn w qa l) {b o : Nat} (hb : qa = some ⟨b, o, none⟩) (hl : l ≠ []) : b < w.heap.size := by
  cases l with
  | nil => exact absurd rfl hl
  | cons e t =>
    obtain ⟨b', o', h1, _, h3⟩ := h.at' 0 e rfl
    rw [hb] at h1
    obtain rfl : b = b' := congrArg Addr.block (Option.some.inj h1)
    exact h3
theorem QIn.pre {w : World} {qa : Option Addr} {l m : List Ent} (h : QIn w qa (l ++ m)) : QIn w qa l :=
  ⟨fun j e he => h.at' j e (by rw [List.getElem?_append_left (List.getElem?_eq_some_iff.1 he).1]; exact he), fun e he => h.ok e (List.mem_append_left _ he)⟩
/-- Colours told anew for what is not there yet. -/
def paint (O : Nat → Nat) (n g a c : Nat) (k : Nat) : Nat := if k < n then O k else if k = g then a else c
theorem paint_old {O : Nat → Nat} {n g a c k : Nat} (h : k < n) : paint O n g a c k = O k := if_pos h
theorem paint_g {O : Nat → Nat} {n g a c : Nat} (h : n ≤ g) : paint O n g a c g = a := by unfold paint; rw [if_neg (by omega), if_pos rfl]
theorem paint_new {O : Nat → Nat} {n g a c k : Nat} (h : n ≤ k) (hg : k ≠ g) : paint O n g a c k = c := by unfold paint; rw [if_neg (by omega), if_neg hg]
theorem ChR.paint {O : Nat → Nat} {g a c lo hi : Nat} {w w' : World} (s : w.Since w.heap.size w') : ChR lo hi O (paint O w.heap.size g a c) w w' := ⟨s.os, s.tape, s.output, s.size, fun _ hk => paint_old hk, fun k hk _ => s.block k hk⟩
/-- What lies beside. -/
structure Mid (O : Nat → Nat) (Q : Nat) (w : World) (ob vb g cap A N M S : Nat) (QA : Array Value) (qa : Option Addr) (qc : Nat) (l : List Ent) : Prop where
  o2 : w.cell? ⟨ob, 2, none⟩ = some (.slice qa l.length qc)
  oc : O ob = Q + 57
  vr : ∀ v, QA[0]? = some v → w.rangeAt vb 0 QA.toList
  vl : vb < w.heap.size
  vc : O vb = Q + 57
  wh : Wh w A N M S
  cw : O A = Q + 57 ∧ O N = Q + 57 ∧ O M = Q + 57 ∧ O S = Q + 57
  qu : Qu O (Q + 58) w (.slice (some ⟨g, 0, none⟩) (l ++ [markE]).length cap) (l ++ [markE])
  qi : QIn w qa l
  qo : ∀ b o, qa = some ⟨b, o, none⟩ → l ≠ [] → O b < Q ∨ Q + 62 ≤ O b
section
variable {O O' : Nat → Nat} {Q lo hi : Nat} {w w' : World} {ob vb g cap A N M S : Nat} {QA : Array Value} {qa : Option Addr} {qc : Nat} {l : List Ent}
theorem range_R {b o : Nat} {cs : List Value} (h : w.rangeAt b o cs) (k : ChR lo hi O O' w w') (hx : O b < lo ∨ hi ≤ O b) : w'.rangeAt b o cs := fun j v hv => cell_R k hx (h j v hv)
theorem Mid.keepR (h : Mid O Q w ob vb g cap A N M S QA qa qc l) (k : ChR lo hi O O' w w') (h1 : Q ≤ lo) (h2 : hi ≤ Q + 57) : Mid O' Q w' ob vb g cap A N M S QA qa qc l := by
  obtain ⟨ca, cn, cm, cs⟩ := h.cw
  have lt : ∀ {b i : Nat} {v : Value}, w.cell? ⟨b, i, none⟩ = some v → b < w.heap.size := fun hc => World.block_lt_of_cell? _ _ hc
  refine ⟨cell_R k (by rw [h.oc]; omega) h.o2, (k.col _ (lt h.o2)).trans h.oc, fun v hv => range_R (h.vr v hv) k (by rw [h.vc]; omega), Nat.lt_of_lt_of_le h.vl k.size, (k.col _ h.vl).trans h.vc, h.wh.keepR k (by rw [ca]; omega) (by rw [cn]; omega) (by rw [cm]; omega) (by rw [cs]; omega), ⟨(k.col _ (lt h.wh.a0)).trans ca, (k.col _ (lt h.wh.n0)).trans cn, (k.col _ (lt h.wh.m0)).trans cm, (k.col _ (lt h.wh.s0)).trans cs⟩, ⟨h.qu.1.keepR k (by omega), h.qu.2⟩, h.qi.keepR k fun b o hb hl => ?_, fun b o hb hl => ?_⟩
  · have := h.qo b o hb hl
    omega
  · rw [k.col _ (h.qi.lt hb hl)]
    exact h.qo b o hb hl
theorem Mid.since (h : Mid O Q w ob vb g cap A N M S QA qa qc l) (s : w.Since w.heap.size w') : Mid O Q w' ob vb g cap A N M S QA qa qc l := h.keepR (lo := Q) (hi := Q) ⟨s.os, s.tape, s.output, s.size, fun _ _ => rfl, fun k hk _ => s.block k hk⟩ (Nat.le_refl _) (by omega)
/-- intact leaves what kept asks. -/
theorem Mid.written (h : Mid O Q w ob vb g cap A N M S QA qa qc l) (k : Ch (Q + 58) O O' w w') : Wh w' A N M S ∧ ∀ v, QA[0]? = some v → w'.rangeAt vb 0 QA.toList := by
  obtain ⟨ca, cn, cm, cs⟩ := h.cw
  have k' : ChR (Q + 58) (Q + 59) O O' w w' := ChR.of k (Nat.le_refl _) (by omega)
  exact ⟨h.wh.keepR k' (by rw [ca]; omega) (by rw [cn]; omega) (by rw [cm]; omega) (by rw [cs]; omega), fun v hv => range_R (h.vr v hv) k' (by rw [h.vc]; omega)⟩
end
end Go.Proofs.YtdhhjdacidhmjaaGreat

/- Package settle: an odd Look: the four calls behind one another. -/
namespace Go.Proofs.YtdhhjdacidhmjaaGreat
open Go.RowKit
set_option maxRecDepth 100000
set_option maxRecDepth 100000
section
variable {O : Nat → Nat} {Q : Nat} {w : World} {tb bk : Nat} {mk : Bool} {x : Pk} {ob vb g cap A N M S : Nat} {QA : Array Value} {qa : Option Addr} {qc : Nat} {l : List Ent}
/-- Ahead of the program's Look. -/
def Od0 (O : Nat → Nat) (Q : Nat) (w : World) (tb bk : Nat) (mk : Bool) (x : Pk) (ob vb g cap A N M S : Nat) (QA : Array Value) (qa : Option Addr) (qc : Nat) (l : List Ent) (W : World) : Prop :=
  ∃ OB, PlIs OB Q W tb bk mk x ∧ ChR Q (Q + 62) O OB w W ∧ Mid OB Q W ob vb g cap A N M S QA qa qc l
/-- Behind the program's Look. -/
def Od1 (O : Nat → Nat) (Q : Nat) (w : World) (tb bk : Nat) (mk : Bool) (x : Pk) (ob vb g cap A N M S : Nat) (QA : Array Value) (qa : Option Addr) (qc : Nat) (l : List Ent) (w6 : World) : Prop :=
  ∃ OB W O1 b V, PlIs OB Q W tb bk mk x ∧ ChR Q (Q + 62) O OB w W ∧ SIs O1 Q w6 { x.p with Db := b, dp := V } (lookM x.d l) ∧ RIs O1 Q w6 x.p2 x.r ∧ ChR Q (Q + 53) OB O1 W w6 ∧ Mid O1 Q w6 ob vb g cap A N M S QA qa qc l
/-- Behind the document's Look. -/
def Od2 (O : Nat → Nat) (Q : Nat) (w : World) (tb bk : Nat) (mk : Bool) (x : Pk) (ob vb g cap A N M S : Nat) (QA : Array Value) (qa : Option Addr) (qc : Nat) (l : List Ent) (w7 : World) : Prop :=
  ∃ O7 y, PlIs O7 Q w7 tb bk mk y ∧ ChR Q (Q + 62) O O7 w w7 ∧ y.T = x.T ∧ y.tu = x.tu ∧ (y.p2.rb = x.p2.rb ∧ y.r.own = x.r.own) ∧ Mid O7 Q w7 ob vb g cap A N M S QA qa qc l
def OdE (O : Nat → Nat) (Q : Nat) (w : World) (tb bk : Nat) (mk : Bool) (x : Pk) (w9 : World) : Prop := ∃ O7 y, PlIs O7 Q w9 tb bk mk y ∧ ChR Q (Q + 62) O O7 w w9 ∧ y.T = x.T ∧ y.tu = x.tu
theorem since_drew (W : World) (n : Nat) : W.Since W.heap.size (W.drewN n) := ⟨rfl, rfl, rfl, Nat.le_refl _, fun _ _ => rfl⟩
theorem Od0.drewN {W : World} (h : Od0 O Q w tb bk mk x ob vb g cap A N M S QA qa qc l W) (n : Nat) : Od0 O Q w tb bk mk x ob vb g cap A N M S QA qa qc l (W.drewN n) := by
  obtain ⟨OB, h1, h2, h3⟩ := h
  exact ⟨OB, h1.since (since_drew _ _), h2.trans (ChR.since (since_drew _ _)), h3.since (since_drew _ _)⟩
theorem Od1.drewN {W : World} (h : Od1 O Q w tb bk mk x ob vb g cap A N M S QA qa qc l W) (n : Nat) : Od1 O Q w tb bk mk x ob vb g cap A N M S QA qa qc l (W.drewN n) := by
  obtain ⟨OB, W0, O1, b, V, h1, h2, h3, h4, h5, h6⟩ := h
  have k : ChR (Q + 54) (Q + 54) O1 O1 W (W.drewN n) := ChR.since (since_drew _ _)
  exact ⟨OB, W0, O1, b, V, h1, h2, h3.keepR k (by omega), h4.keepR' k (by omega), h5.trans (ChR.since (since_drew _ _)), h6.since (since_drew _ _)⟩
theorem Od1.cells {W : World} (h : Od1 O Q w tb bk mk x ob vb g cap A N M S QA qa qc l W) : W.cell? ⟨tb, 1, none⟩ = some (.pointer (some ⟨x.p2.rb, 0, none⟩)) ∧ W.cell? ⟨x.p2.rb, 10, none⟩ = some (.int .i64 (x.r.own : Nat)) ∧ W.cell? ⟨ob, 2, none⟩ = some (.slice qa l.length qc) := by
  obtain ⟨OB, W0, O1, b, V, h1, h2, h3, h4, h5, h6⟩ := h
  exact ⟨(h1.row.keepR h5 (by omega)).1.cell (i := 1) (by decide), h4.c.2.2.2.1, h6.o2⟩
theorem Od2.cells {W : World} (h : Od2 O Q w tb bk mk x ob vb g cap A N M S QA qa qc l W) : W.cell? ⟨tb, 1, none⟩ = some (.pointer (some ⟨x.p2.rb, 0, none⟩)) ∧ W.cell? ⟨x.p2.rb, 10, none⟩ = some (.int .i64 (x.r.own : Nat)) ∧ W.cell? ⟨ob, 2, none⟩ = some (.slice qa l.length qc) := by
  obtain ⟨O7, y, h1, _, _, _, ⟨e1, e2⟩, h6⟩ := h
  rw [← e1, ← e2]
  exact ⟨h1.cells.2.1, h1.both.rf.c.2.2.2.1, h6.o2⟩
theorem Od0.at0 {W : World} (h : Od0 O Q w tb bk mk x ob vb g cap A N M S QA qa qc l W) (v : Value) (hv : QA[0]? = some v) : W.cell? ⟨tb, 0, none⟩ = some (.pointer (some ⟨x.p.sb, 0, none⟩)) ∧ W.rangeAt vb 0 QA.toList := by
  obtain ⟨OB, h1, _, h3⟩ := h
  exact ⟨h1.cells.1, h3.vr v hv⟩
theorem Od1.at0 {W : World} (h : Od1 O Q w tb bk mk x ob vb g cap A N M S QA qa qc l W) (v : Value) (hv : QA[0]? = some v) : W.cell? ⟨tb, 0, none⟩ = some (.pointer (some ⟨x.p.sb, 0, none⟩)) ∧ W.rangeAt vb 0 QA.toList := by
  obtain ⟨OB, W0, O1, b, V, h1, h2, h3, h4, h5, h6⟩ := h
  exact ⟨(h1.row.keepR h5 (by omega)).1.cell (i := 0) (by decide), h6.vr v hv⟩
theorem Od0.look {W : World} (h : Od0 O Q w tb bk mk x ob vb g cap A N M S QA qa qc l W) (hl : l.length ≤ 3518437208881) (x0 x1 x3 x4 x5 : Value) :
    Calls Tryz.prog 17 #[.pointer (some ⟨x.p.sb, 0, none⟩), .agg #[x0, x1, .slice (some ⟨g, 0, none⟩) l.length cap, x3, x4, x5]] W fun e w6 => e = .returned (.tuple #[]) ∧ Hid (Od1 O Q w tb bk mk x ob vb g cap A N M S QA qa qc l w6) := by
  obtain ⟨OB, h1, h2, h3⟩ := h
  refine (h1.both.lookP (qc := cap) h3.qu.q.pre hl x0 x1 x3 x4 x5).mono fun e w6 ⟨he, hh⟩ => ?_
  obtain ⟨O1, b, V, g1, g2, g3⟩ := hh.out
  exact ⟨he, OB, W, O1, b, V, h1, h2, g1, g2, g3, h3.keepR g3 (Nat.le_refl _) (by omega)⟩
theorem Od1.look {W : World} (h : Od1 O Q w tb bk mk x ob vb g cap A N M S QA qa qc l W) (hl : l.length ≤ 3518437208881) (x0 x1 x3 x4 x5 : Value) :
    Calls Tryz.prog 18 #[.pointer (some ⟨x.p2.rb, 0, none⟩), .agg #[x0, x1, .slice qa l.length qc, x3, x4, x5]] W fun e w7 => e = .returned (.tuple #[]) ∧ Hid (Od2 O Q w tb bk mk x ob vb g cap A N M S QA qa qc l w7) := by
  obtain ⟨OB, W0, O1, b, V, h1, h2, h3, h4, h5, h6⟩ := h
  refine (rlook_any h4 (qc := qc) h6.qi hl x0 x1 x3 x4 x5).mono fun e w7 ⟨he, hh⟩ => ?_
  obtain ⟨O2, qb, qd, g1, g2⟩ := hh.out
  have k : ChR Q (Q + 53) OB O2 W0 w7 := h5.trans (g2.wide (by omega) (Nat.le_refl _))
  have hB : Both O2 Q w7 { x.p with Db := b, dp := V } { x.p2 with qv := .slice qb l.length qd } (lookM x.d l) (x.r.look l x.r.n) x.T := ⟨h3.keepR g2 (by omega), g1, h1.both.j.look l, h1.both.g, ⟨qb, qd, rfl⟩, hl⟩
  refine ⟨he, O2, { x with p := { x.p with Db := b, dp := V }, p2 := { x.p2 with qv := .slice qb l.length qd }, d := lookM x.d l, r := x.r.look l x.r.n }, ⟨?_, hB, ⟨h1.at'.1.keepR k (by omega), h1.at'.2⟩⟩, h2.trans (k.wide (Nat.le_refl _) (by omega)), rfl, rfl, ⟨rfl, rfl⟩, h6.keepR g2 (by omega) (by omega)⟩
  have := h1.row.keepR k (by omega)
  unfold plF at this ⊢
  exact this
theorem Od2.intact {W : World} (h : Od2 O Q w tb bk mk x ob vb g cap A N M S QA qa qc l W) (hl : l.length ≤ 3518437208881) (v : Value) (hQ : QA[0]? = some v) :
    Calls Tryz.prog 22 #[.slice (some ⟨g, 0, none⟩) l.length cap, .slice qa l.length qc] W fun e w8 => e = .returned (.bool true) ∧ Hid (OdE O Q w tb bk mk x w8) ∧ Hid (Wh w8 A N M S) ∧ Hid (w8.rangeAt vb 0 QA.toList) := by
  obtain ⟨O7, y, h1, h2, h3, h4, _, h5⟩ := h
  refine (intactE_any h5.qu (qc := qc) h5.qi (fun b o hb hl => by have := h5.qo b o hb hl; omega) hl).mono fun e w8 ⟨he, hh⟩ => ?_
  obtain ⟨g1, g2⟩ := h5.written hh.out
  have k : ChR (Q + 58) (Q + 59) O7 O7 W w8 := ChR.of hh.out (Nat.le_refl _) (by omega)
  refine ⟨he, ⟨O7, y, ⟨h1.row.keepR k (by omega), h1.both.keepR k (by omega), ⟨h1.at'.1.keepR k (by omega), h1.at'.2⟩⟩, h2.trans (k.wide (by omega) (by omega)), h3, h4⟩, g1, g2 v hQ⟩
theorem OdE.kept {W : World} (h : OdE O Q w tb bk mk x W) (hw : Wh W A N M S) (sh : Int) (qv : Value) :
    Calls Tryz.prog 23 #[.agg (bkQ sh A N M S qv)] W fun e w9 => e = .returned (.bool true) ∧ Hid (OdE O Q w tb bk mk x w9) := by
  obtain ⟨O7, y, h1, h2, h3, h4⟩ := h
  exact (kept_any hw sh qv).mono fun e w9 ⟨he, hs⟩ => ⟨he, O7, y, h1.since hs.out, h2.trans (ChR.since hs.out), h3, h4⟩
end
end Go.Proofs.YtdhhjdacidhmjaaGreat

/- Package settle: an odd Look: the book that is shown. -/
namespace Go.Proofs.YtdhhjdacidhmjaaGreat
open Go.RowKit
set_option maxRecDepth 100000
set_option maxRecDepth 100000
theorem since_set1 {B b i : Nat} {w w' : World} (hb : B ≤ b) (v : Value) (s : w.Since B w') : w.Since B (w'.setCell ⟨b, i, none⟩ v) := since_setCells hb [v] i _ s
theorem range_row6 {W : World} {b t : Nat} {F : Nat → Value} {cs : List Value} (r : W.rowIs b t 6 F) (hl : cs.length = 6) (h : ∀ j, j < 6 → cs[j]? = some (F j)) : W.rangeAt b 0 cs := fun j v hv => by
  have hj : j < 6 := by have := (List.getElem?_eq_some_iff.1 hv).1; omega
  rw [r.cell (i := 0 + j) (by omega), ← hv, h j hj, Nat.zero_add]
set_option maxHeartbeats 2000000 in
theorem whole_put (w3 : World) (own : Int) (inV : Value) : Calls Tryz.prog 21 #[.int .i64 own] w3 fun e w4 => ∃ A N M S BA, e = .returned (.agg BA) ∧ ∃ W4 vb, Hid (w4.heap.size = vb) ∧ Hid (w4.alloc (.cells #[.int .i64 0, .slice none 0 0, .slice none 0 0, .slice none 0 0, .slice none 0 0, .slice none 0 0] 89) = W4) ∧ Hid (W4.there vb 0 BA.size) ∧ Hid ((Tryz.prog.info? 89).map (·.size) = some BA.size) ∧ Hid (BA.all (·.oneCell') = true) ∧
    ∃ W5, Hid (W4.setCells vb 0 BA.toList = W5) ∧ W5.cell? ⟨vb, 2, none⟩ = some (.slice none 0 0) ∧ W5.frozen? ⟨vb, 2, none⟩ = false ∧ ∃ W6, Hid (W5.setCell ⟨vb, 2, none⟩ inV = W6) ∧ Hid (Wh W6 A N M S ∧ (w3.heap.size ≤ A ∧ w3.heap.size ≤ N ∧ w3.heap.size ≤ M ∧ w3.heap.size ≤ S) ∧ w3.heap.size ≤ vb ∧ vb < W6.heap.size ∧ W6.rangeAt vb 0 (bkQ own A N M S inV).toList ∧ w3.Since w3.heap.size W6) := by
  refine (whole_any w3 own).mono fun e w2 ⟨A, N, M, S, he, hh⟩ => ?_
  obtain ⟨hh1, hh2, s2⟩ := hh.out
  have s3 : w2.Since w2.heap.size (w2.alloc (.cells #[.int .i64 0, .slice none 0 0, .slice none 0 0, .slice none 0 0, .slice none 0 0, .slice none 0 0] 89)) := (World.Since.refl _ _).alloc (Nat.le_refl _) _
  have r3 : (w2.alloc (.cells #[.int .i64 0, .slice none 0 0, .slice none 0 0, .slice none 0 0, .slice none 0 0, .slice none 0 0] 89)).rowIs w2.heap.size 89 6 (fun i => (#[.int .i64 0, .slice none 0 0, .slice none 0 0, .slice none 0 0, .slice none 0 0, .slice none 0 0] : Array Value).toList.getD i undef) := World.rowIs_alloc w2 _ _ _ (fun i hi => by
    rw [List.getD_eq_getElem?_getD, Array.getElem?_toList, Array.getElem?_eq_getElem hi]
    rfl)
  have r4 := rowIs_setCells (bkA own A N M S).toList 0 _ _ r3
  have s4 : w2.Since w2.heap.size ((w2.alloc (.cells #[.int .i64 0, .slice none 0 0, .slice none 0 0, .slice none 0 0, .slice none 0 0, .slice none 0 0] 89)).setCells w2.heap.size 0 (bkA own A N M S).toList) := since_setCells (Nat.le_refl _) _ _ _ s3
  have s5 : w2.Since w2.heap.size (((w2.alloc (.cells #[.int .i64 0, .slice none 0 0, .slice none 0 0, .slice none 0 0, .slice none 0 0, .slice none 0 0] 89)).setCells w2.heap.size 0 (bkA own A N M S).toList).setCell ⟨w2.heap.size, 2, none⟩ inV) := since_set1 (Nat.le_refl _) inV s4
  have r5 := r4.set 2 inV
  have h2 := r4.cell (i := 2) (by decide)
  rw [if_pos ⟨Nat.zero_le _, by show 2 < 0 + 6; omega⟩] at h2
  have hr : (((w2.alloc (.cells #[.int .i64 0, .slice none 0 0, .slice none 0 0, .slice none 0 0, .slice none 0 0, .slice none 0 0] 89)).setCells w2.heap.size 0 (bkA own A N M S).toList).setCell ⟨w2.heap.size, 2, none⟩ inV).rangeAt w2.heap.size 0 (bkQ own A N M S inV).toList := range_row6 r5 rfl fun j hj => by
    match j, hj with
    | 0, _ => rfl
    | 1, _ => rfl
    | 2, _ => rfl
    | 3, _ => rfl
    | 4, _ => rfl
    | 5, _ => rfl
  have hf := r4.frozen 2
  have hz : w3.heap.size ≤ w2.heap.size := s2.size
  have hlt := r5.lt
  have hw5 := hh1.since s5
  have ss := s2.trans (since_mono s5 s2.size)
  have ht := row_there r3
  generalize hX : ((w2.alloc (.cells #[.int .i64 0, .slice none 0 0, .slice none 0 0, .slice none 0 0, .slice none 0 0, .slice none 0 0] 89)).setCells w2.heap.size 0 (bkA own A N M S).toList) = X5 at *
  refine ⟨A, N, M, S, _, he, _, _, rfl, rfl, ht, infoB6, (by show _ = _; kernel_rfl), X5, ?_, h2, hf, _, rfl, hw5, hh2, hz, hlt, hr, ss⟩
  exact hX
section
variable {O : Nat → Nat} {Q : Nat} {w : World} {tb bk : Nat} {mk : Bool} {x : Pk} {ob : Nat} {qa : Option Addr} {qc : Nat} {l : List Ent}
/-- Ahead of lent: the turn is counted. -/
def OdA (O : Nat → Nat) (Q : Nat) (w : World) (tb bk : Nat) (mk : Bool) (x : Pk) (ob : Nat) (qa : Option Addr) (qc : Nat) (l : List Ent) (W : World) : Prop :=
  ∃ OA, PlIs OA Q W tb bk mk x ∧ ChR Q (Q + 62) O OA w W ∧ W.cell? ⟨ob, 2, none⟩ = some (.slice qa l.length qc) ∧ OA ob = Q + 57 ∧ QIn W qa l ∧ ∀ b o, qa = some ⟨b, o, none⟩ → l ≠ [] → OA b < Q ∨ Q + 62 ≤ OA b
/-- Behind lent. -/
def OdB (O : Nat → Nat) (Q : Nat) (w : World) (tb bk : Nat) (mk : Bool) (x : Pk) (ob g cap : Nat) (qa : Option Addr) (qc : Nat) (l : List Ent) (W : World) : Prop :=
  ∃ OB, PlIs OB Q W tb bk mk x ∧ ChR Q (Q + 62) O OB w W ∧ W.cell? ⟨ob, 2, none⟩ = some (.slice qa l.length qc) ∧ OB ob = Q + 57 ∧ QIn W qa l ∧ (∀ b o, qa = some ⟨b, o, none⟩ → l ≠ [] → OB b < Q ∨ Q + 62 ≤ OB b) ∧ Qu OB (Q + 58) W (.slice (some ⟨g, 0, none⟩) (l ++ [markE]).length cap) (l ++ [markE]) ∧ ∀ k, W.heap.size ≤ k → OB k = Q + 57
theorem OdA.lent {W : World} (h : OdA O Q w tb bk mk x ob qa qc l W) (hl : l.length ≤ 3518437208881) :
    Calls Tryz.prog 20 #[.slice qa l.length qc] W fun e w3 => ∃ g cap, e = .returned (.slice (some ⟨g, 0, none⟩) l.length cap) ∧ Hid (OdB O Q w tb bk mk x ob g cap qa qc l w3) := by
  obtain ⟨OA, h1, h2, h3, h4, h5, h6⟩ := h
  refine (lent_any h5 (qc := qc) hl).mono fun e w3 ⟨g, cap, he, hh⟩ => ⟨g, cap, he, ?_⟩
  obtain ⟨⟨O1, hq, h0⟩, s⟩ := hh.out
  have hg1 : O1 g = 1 := hq.1.2 g rfl
  have hg : W.heap.size ≤ g := by
    by_cases hlt : g < W.heap.size
    · have := h0 g hlt
      omega
    · omega
  have hg2 : g < w3.heap.size := by
    obtain ⟨b, cp, F, hv, _, _, hr, _⟩ := hq.1.at' (by rw [List.length_append]; simp)
    injection hv with ha _ _
    obtain rfl : g = b := congrArg Addr.block (Option.some.inj ha)
    exact hr.1.lt
  have kp : ChR (Q + 62) (Q + 62) OA (paint OA W.heap.size g (Q + 58) (Q + 57)) W w3 := ChR.paint s
  refine ⟨paint OA W.heap.size g (Q + 58) (Q + 57), h1.keepR kp (by omega), h2.trans (ChR.paint s), cell_later s h3, ?_, h5.since s, fun b o hb hl => ?_, ⟨hq.1.paint fun k hk => ?_, hq.2⟩, fun k hk => paint_new (by have := s.size; omega) (by omega)⟩
  · rw [paint_old (World.block_lt_of_cell? _ _ h3)]
    exact h4
  · rw [paint_old (h5.lt hb hl)]
    exact h6 b o hb hl
  · obtain rfl : g = k := Option.some.inj hk
    exact paint_g hg
theorem OdB.own {W : World} {g cap : Nat} (h : OdB O Q w tb bk mk x ob g cap qa qc l W) : W.cell? ⟨tb, 1, none⟩ = some (.pointer (some ⟨x.p2.rb, 0, none⟩)) ∧ W.cell? ⟨x.p2.rb, 10, none⟩ = some (.int .i64 (x.r.own : Nat)) := by
  obtain ⟨OB, h1, _⟩ := h
  exact ⟨h1.cells.2.1, h1.both.rf.c.2.2.2.1⟩
theorem OdB.mid {W W6 : World} {g cap A N M S vb : Nat} {inV : Value} {own : Int} (h : OdB O Q w tb bk mk x ob g cap qa qc l W) (hw : Wh W6 A N M S) (hn : W.heap.size ≤ A ∧ W.heap.size ≤ N ∧ W.heap.size ≤ M ∧ W.heap.size ≤ S) (hv : W.heap.size ≤ vb) (hv2 : vb < W6.heap.size) (hr : W6.rangeAt vb 0 (bkQ own A N M S inV).toList) (s : W.Since W.heap.size W6) : Od0 O Q w tb bk mk x ob vb g cap A N M S (bkQ own A N M S inV) qa qc l W6 := by
  obtain ⟨OB, h1, h2, h3, h4, h5, h6, h7, h8⟩ := h
  have k : ChR (Q + 62) (Q + 62) OB OB W W6 := ChR.since s
  exact ⟨OB, h1.since s, h2.trans (ChR.since s), cell_later s h3, h4, fun _ _ => hr, hv2, h8 _ hv, hw, ⟨h8 _ hn.1, h8 _ hn.2.1, h8 _ hn.2.2.1, h8 _ hn.2.2.2⟩, ⟨h7.1.keepR k (by omega), h7.2⟩, h5.since s, h6⟩
end
end Go.Proofs.YtdhhjdacidhmjaaGreat

/- Package settle: the law's plays: an odd Look. -/
namespace Go.Proofs.YtdhhjdacidhmjaaGreat
open Go.RowKit
set_option maxRecDepth 100000
set_option maxRecDepth 100000
theorem odd_start {O : Nat → Nat} {Q : Nat} {w W1 : World} {tb bk : Nat} {mk : Bool} {x : Pk} (h : PlIs O Q w tb bk mk x) {qa : Option Addr} {qc : Nat} {l : List Ent} (hq : QIn w qa l) (hqO : ∀ b o, qa = some ⟨b, o, none⟩ → l ≠ [] → O b < Q ∨ Q + 62 ≤ O b) (s1 : w.Since w.heap.size W1) (o2 : W1.cell? ⟨w.heap.size, 2, none⟩ = some (.slice qa l.length qc)) :
    OdA O Q w tb bk mk { x with tu := x.tu + 1 } w.heap.size qa qc l (W1.setCell ⟨tb, 5, none⟩ (.int .i64 (x.tu + 1 : Nat))) := by
  have kp : ChR (Q + 62) (Q + 62) O (paint O w.heap.size w.heap.size (Q + 57) (Q + 57)) w W1 := ChR.paint s1
  have h1 := h.keepR kp (by omega)
  have ko := h1.row.2
  have k2 : ChR (Q + 60) (Q + 61) (paint O w.heap.size w.heap.size (Q + 57) (Q + 57)) _ W1 (W1.setCell ⟨tb, 5, none⟩ (.int .i64 (x.tu + 1 : Nat))) := ChR.of (Ch.set ko 5 _) (Nat.le_refl _) (by omega)
  have hr := h1.row.set 5 (.int .i64 (x.tu + 1 : Nat))
  have og : paint O w.heap.size w.heap.size (Q + 57) (Q + 57) w.heap.size = Q + 57 := paint_g (Nat.le_refl _)
  have hq1 := hq.since s1
  have hqo1 : ∀ b o, qa = some ⟨b, o, none⟩ → l ≠ [] → paint O w.heap.size w.heap.size (Q + 57) (Q + 57) b < Q ∨ Q + 62 ≤ paint O w.heap.size w.heap.size (Q + 57) (Q + 57) b := fun b o hb hl => by
    rw [paint_old (hq.lt hb hl)]
    exact hqO b o hb hl
  refine ⟨_, ⟨⟨hr.1.congr fun i hi => ?_, hr.2⟩, h1.both.keepR k2 (by omega), ⟨h1.at'.1.keepR k2 (by omega), h1.at'.2⟩⟩, (ChR.paint s1).trans (k2.wide (by omega) (by omega)), cell_R k2 (by rw [og]; omega) o2, og, hq1.keepR k2 fun b o hb hl => ?_, hqo1⟩
  · match i, hi with
    | 0, _ => rfl
    | 1, _ => rfl
    | 2, _ => rfl
    | 3, _ => rfl
    | 4, _ => rfl
    | 5, _ => rfl
  · have := hqo1 b o hb hl
    omega
theorem OdE.e {O : Nat → Nat} {Q : Nat} {w w9 : World} {tb bk : Nat} {mk : Bool} {x : Pk} (h : OdE O Q w tb bk mk { x with tu := x.tu + 1 } w9) : PlE O Q w tb bk mk x w9 := by
  obtain ⟨O7, y, h1, h2, h3, h4⟩ := h
  exact ⟨O7, y, h1, h2, by show y.T ≤ x.T + 1; rw [h3]; exact Nat.le_succ _, by rw [h4]; exact Nat.le_refl _⟩
end Go.Proofs.YtdhhjdacidhmjaaGreat

/- Package settle: an even Look: the calls behind one another. -/
namespace Go.Proofs.YtdhhjdacidhmjaaGreat
open Go.RowKit
set_option maxRecDepth 100000
set_option maxRecDepth 100000
theorem infoES : (Tryz.prog.info? 58).map (·.size) = some 1 := by kernel_rfl
/-- A list, cut to nothing. -/
theorem Qu.cut {O : Nat → Nat} {c : Nat} {w : World} {a : Option Addr} {cap : Nat} {l : List Ent} (h : Qu O c w (.slice a l.length cap) l) : Qu O c w (.slice a 0 cap) [] := by
  have h2 := h.1.1.2
  rcases h2 with ⟨hv, _⟩ | ⟨b, cp, cur, hv, _⟩
  · injection hv with e1 _ e3
    subst e1 e3
    exact Qu.nil _ _ _
  · injection hv with e1 _ e3
    subst e1 e3
    obtain ⟨F, h1, _, h3, _⟩ := li_row h.1
    exact ⟨Li.of_row (n := 0) h1 (Nat.zero_le _) h3 (fun j hj => by simp at hj), fun e he => by cases he⟩
theorem Qu.form {O : Nat → Nat} {c : Nat} {w : World} {a : Option Addr} {n cap : Nat} {l : List Ent} (h : Qu O c w (.slice a n cap) l) : (a = none ∧ cap = 0) ∨ ∃ b, a = some ⟨b, 0, none⟩ := by
  rcases h.1.1.2 with ⟨hv, _⟩ | ⟨b, cp, cur, hv, _⟩
  · injection hv with e1 _ e3
    exact .inl ⟨e1, e3⟩
  · injection hv with e1 _ _
    exact .inr ⟨b, e1⟩
/-- What lies beside. -/
structure Ev (O : Nat → Nat) (Q : Nat) (w : World) (ob : Nat) (aa : Option Addr) (ac : Nat) (qa : Option Addr) (qc : Nat) (l : List Ent) : Prop where
  o2 : w.cell? ⟨ob, 2, none⟩ = some (.slice qa l.length qc)
  oc : O ob = Q + 57
  qu : Qu O (Q + 61) w (.slice aa l.length ac) l
  qi : QIn w qa l
  qo : ∀ b o, qa = some ⟨b, o, none⟩ → l ≠ [] → O b < Q ∨ Q + 62 ≤ O b
section
variable {O O' : Nat → Nat} {Q lo hi : Nat} {w w' : World} {ob : Nat} {aa : Option Addr} {ac : Nat} {qa : Option Addr} {qc : Nat} {l : List Ent}
theorem Ev.keepR (h : Ev O Q w ob aa ac qa qc l) (k : ChR lo hi O O' w w') (h1 : Q ≤ lo) (h2 : hi ≤ Q + 57) : Ev O' Q w' ob aa ac qa qc l := by
  refine ⟨cell_R k (by rw [h.oc]; omega) h.o2, (k.col _ (World.block_lt_of_cell? _ _ h.o2)).trans h.oc, ⟨h.qu.1.keepR k (by omega), h.qu.2⟩, h.qi.keepR k fun b o hb hl => ?_, fun b o hb hl => ?_⟩
  · have := h.qo b o hb hl
    omega
  · rw [k.col _ (h.qi.lt hb hl)]
    exact h.qo b o hb hl
theorem Ev.since (h : Ev O Q w ob aa ac qa qc l) (s : w.Since w.heap.size w') : Ev O Q w' ob aa ac qa qc l := h.keepR (lo := Q) (hi := Q) ⟨s.os, s.tape, s.output, s.size, fun _ _ => rfl, fun k hk _ => s.block k hk⟩ (Nat.le_refl _) (by omega)
end
section
variable {O : Nat → Nat} {Q : Nat} {w : World} {tb bk : Nat} {mk : Bool} {x : Pk} {ob : Nat} {qa : Option Addr} {qc : Nat} {l : List Ent}
theorem OdA.drewN {W : World} (h : OdA O Q w tb bk mk x ob qa qc l W) (n : Nat) : OdA O Q w tb bk mk x ob qa qc l (W.drewN n) := by
  obtain ⟨OA, h1, h2, h3, h4, h5, h6⟩ := h
  exact ⟨OA, h1.since (since_drew _ _), h2.trans (ChR.since (since_drew _ _)), cell_later (since_drew _ _) h3, h4, h5.since (since_drew _ _), h6⟩
/-- Ahead of the program's Look. -/
def Ev0 (O : Nat → Nat) (Q : Nat) (w : World) (tb bk : Nat) (mk : Bool) (x : Pk) (ob : Nat) (qa : Option Addr) (qc : Nat) (l : List Ent) (W : World) : Prop :=
  ∃ OB, PlIs OB Q W tb bk mk x ∧ ChR Q (Q + 62) O OB w W ∧ Ev OB Q W ob x.aa x.ac qa qc l
/-- Behind the program's Look. -/
def Ev1 (O : Nat → Nat) (Q : Nat) (w : World) (tb bk : Nat) (mk : Bool) (x : Pk) (ob : Nat) (qa : Option Addr) (qc : Nat) (l : List Ent) (w6 : World) : Prop :=
  ∃ OB W O1 b V, PlIs OB Q W tb bk mk x ∧ ChR Q (Q + 62) O OB w W ∧ SIs O1 Q w6 { x.p with Db := b, dp := V } (lookM x.d l) ∧ RIs O1 Q w6 x.p2 x.r ∧ ChR Q (Q + 53) OB O1 W w6 ∧ Ev O1 Q w6 ob x.aa x.ac qa qc l
/-- Behind the document's Look. -/
def Ev2 (O : Nat → Nat) (Q : Nat) (w : World) (tb bk : Nat) (mk : Bool) (x : Pk) (ob : Nat) (qa : Option Addr) (qc : Nat) (l : List Ent) (w7 : World) : Prop :=
  ∃ O7 y, PlIs O7 Q w7 tb bk mk y ∧ ChR Q (Q + 62) O O7 w w7 ∧ y.T = x.T ∧ y.tu = x.tu ∧ (y.aa = x.aa ∧ y.an = x.an ∧ y.ac = x.ac) ∧ Ev O7 Q w7 ob x.aa x.ac qa qc l
theorem OdA.cut {W : World} (h : OdA O Q w tb bk mk x ob qa qc l W) (hl : l.length ≤ 3518437208881) :
    ∃ a' c' W3, (Builtin.append_ #[58, 58] 58 #[.slice x.aa 0 x.ac, .slice qa l.length qc]).run Tryz.prog W = .ok (.slice a' l.length c') W3 ∧ W3.cell? ⟨tb, 4, none⟩ = some (.slice x.aa x.an x.ac) ∧ W3.frozen? ⟨tb, 4, none⟩ = false ∧ Hid (W3.cell? ⟨ob, 2, none⟩ = some (.slice qa l.length qc)) ∧ Hid ((W3.setCell ⟨tb, 4, none⟩ (.slice a' l.length c')).cell? ⟨ob, 2, none⟩ = some (.slice qa l.length qc)) ∧ Hid (Ev0 O Q w tb bk mk { x with aa := a', an := l.length, ac := c' } ob qa qc l (W3.setCell ⟨tb, 4, none⟩ (.slice a' l.length c'))) := by
  obtain ⟨OA, h1, h2, h3, h4, h5, h6⟩ := h
  obtain ⟨a', c', W3, e, O', hq, k, _⟩ := h1.at'.appQ qc h5 (by simp only [List.length_nil]; omega)
  rw [show ([] : List Ent).length + l.length = l.length by simp] at e hq
  rw [List.nil_append] at hq
  have k1 : ChR (Q + 61) (Q + 62) OA O' W W3 := ChR.of k (Nat.le_refl _) (by omega)
  have hr := h1.row.keepR k1 (by omega)
  have k2 : ChR (Q + 60) (Q + 61) O' O' W3 (W3.setCell ⟨tb, 4, none⟩ (.slice a' l.length c')) := ChR.of (Ch.set hr.2 4 _) (Nat.le_refl _) (by omega)
  have hr2 := hr.set 4 (.slice a' l.length c')
  have k3 := (k1.wide (lo' := Q + 60) (hi' := Q + 62) (by omega) (Nat.le_refl _)).trans (k2.wide (Nat.le_refl _) (by omega))
  have hq2 : Qu O' (Q + 61) (W3.setCell ⟨tb, 4, none⟩ (.slice a' l.length c')) (.slice a' l.length c') l := ⟨hq.1.keepR k2 (by omega), hq.2⟩
  refine ⟨a', c', W3, e, hr.1.cell (i := 4) (by decide), hr.1.frozen 4, cell_R k1 (by rw [h4]; omega) h3, cell_R k3 (by rw [h4]; omega) h3, O', ⟨⟨hr2.1.congr fun i hi => ?_, hr2.2⟩, h1.both.keepR k3 (by omega), hq2.cut⟩, h2.trans (k3.wide (by omega) (Nat.le_refl _)), cell_R k3 (by rw [h4]; omega) h3, (k3.col _ (World.block_lt_of_cell? _ _ h3)).trans h4, hq2, h5.keepR k3 fun b o hb hl => ?_, fun b o hb hl => ?_⟩
  · match i, hi with
    | 0, _ => rfl
    | 1, _ => rfl
    | 2, _ => rfl
    | 3, _ => rfl
    | 4, _ => rfl
    | 5, _ => rfl
  · have := h6 b o hb hl
    omega
  · rw [k3.col _ (h5.lt hb hl)]
    exact h6 b o hb hl
theorem OdA.cells {W : World} (h : OdA O Q w tb bk mk x ob qa qc l W) : W.cell? ⟨tb, 4, none⟩ = some (.slice x.aa x.an x.ac) ∧ W.cell? ⟨ob, 2, none⟩ = some (.slice qa l.length qc) ∧ ((x.aa = none ∧ x.ac = 0) ∨ ∃ b, x.aa = some ⟨b, 0, none⟩) := by
  obtain ⟨OA, h1, _, h3, _⟩ := h
  exact ⟨h1.cells.2.2.2.2.1, h3, h1.at'.form⟩
theorem Ev0.drewN {W : World} (h : Ev0 O Q w tb bk mk x ob qa qc l W) (n : Nat) : Ev0 O Q w tb bk mk x ob qa qc l (W.drewN n) := by
  obtain ⟨OB, h1, h2, h3⟩ := h
  exact ⟨OB, h1.since (since_drew _ _), h2.trans (ChR.since (since_drew _ _)), h3.since (since_drew _ _)⟩
theorem Ev0.cells {W : World} (h : Ev0 O Q w tb bk mk x ob qa qc l W) : W.cell? ⟨tb, 0, none⟩ = some (.pointer (some ⟨x.p.sb, 0, none⟩)) ∧ W.cell? ⟨tb, 1, none⟩ = some (.pointer (some ⟨x.p2.rb, 0, none⟩)) ∧ W.cell? ⟨tb, 4, none⟩ = some (.slice x.aa x.an x.ac) ∧ W.cell? ⟨x.p2.rb, 10, none⟩ = some (.int .i64 (x.r.own : Nat)) := by
  obtain ⟨OB, h1, _, _⟩ := h
  obtain ⟨c0, c1, _, _, c4, _⟩ := h1.cells
  exact ⟨c0, c1, c4, h1.both.rf.c.2.2.2.1⟩
theorem Ev1.drewN {W : World} (h : Ev1 O Q w tb bk mk x ob qa qc l W) (n : Nat) : Ev1 O Q w tb bk mk x ob qa qc l (W.drewN n) := by
  obtain ⟨OB, W0, O1, b, V, h1, h2, h3, h4, h5, h6⟩ := h
  have k : ChR (Q + 54) (Q + 54) O1 O1 W (W.drewN n) := ChR.since (since_drew _ _)
  exact ⟨OB, W0, O1, b, V, h1, h2, h3.keepR k (by omega), h4.keepR' k (by omega), h5.trans (ChR.since (since_drew _ _)), h6.since (since_drew _ _)⟩
theorem Ev1.cells {W : World} (h : Ev1 O Q w tb bk mk x ob qa qc l W) : (W.cell? ⟨tb, 0, none⟩ = some (.pointer (some ⟨x.p.sb, 0, none⟩)) ∧ W.cell? ⟨tb, 1, none⟩ = some (.pointer (some ⟨x.p2.rb, 0, none⟩)) ∧ W.cell? ⟨tb, 4, none⟩ = some (.slice x.aa x.an x.ac) ∧ W.cell? ⟨x.p2.rb, 10, none⟩ = some (.int .i64 (x.r.own : Nat))) ∧ W.cell? ⟨ob, 2, none⟩ = some (.slice qa l.length qc) := by
  obtain ⟨OB, W0, O1, b, V, h1, h2, h3, h4, h5, h6⟩ := h
  have hr := (h1.row.keepR h5 (by omega)).1
  exact ⟨⟨hr.cell (i := 0) (by decide), hr.cell (i := 1) (by decide), hr.cell (i := 4) (by decide), h4.c.2.2.2.1⟩, h6.o2⟩
theorem Ev2.drewN {W : World} (h : Ev2 O Q w tb bk mk x ob qa qc l W) (n : Nat) : Ev2 O Q w tb bk mk x ob qa qc l (W.drewN n) := by
  obtain ⟨O7, y, h1, h2, h3, h4, h5, h6⟩ := h
  exact ⟨O7, y, h1.since (since_drew _ _), h2.trans (ChR.since (since_drew _ _)), h3, h4, h5, h6.since (since_drew _ _)⟩
theorem Ev2.cells {W : World} (h : Ev2 O Q w tb bk mk x ob qa qc l W) : W.cell? ⟨tb, 4, none⟩ = some (.slice x.aa x.an x.ac) ∧ W.cell? ⟨ob, 2, none⟩ = some (.slice qa l.length qc) := by
  obtain ⟨O7, y, h1, _, _, _, ⟨e1, e2, e3⟩, h6⟩ := h
  rw [← e1, ← e2, ← e3]
  exact ⟨h1.cells.2.2.2.2.1, h6.o2⟩
theorem Ev0.look {W : World} (h : Ev0 O Q w tb bk mk x ob qa qc l W) (hl : l.length ≤ 3518437208881) (x0 x1 x3 x4 x5 : Value) :
    Calls Tryz.prog 17 #[.pointer (some ⟨x.p.sb, 0, none⟩), .agg #[x0, x1, .slice x.aa l.length x.ac, x3, x4, x5]] W fun e w6 => e = .returned (.tuple #[]) ∧ Hid (Ev1 O Q w tb bk mk x ob qa qc l w6) := by
  obtain ⟨OB, h1, h2, h3⟩ := h
  refine (h1.both.lookP (qc := x.ac) h3.qu.q hl x0 x1 x3 x4 x5).mono fun e w6 ⟨he, hh⟩ => ?_
  obtain ⟨O1, b, V, g1, g2, g3⟩ := hh.out
  exact ⟨he, OB, W, O1, b, V, h1, h2, g1, g2, g3, h3.keepR g3 (Nat.le_refl _) (by omega)⟩
theorem Ev1.look {W : World} (h : Ev1 O Q w tb bk mk x ob qa qc l W) (hl : l.length ≤ 3518437208881) (x0 x1 x3 x4 x5 : Value) :
    Calls Tryz.prog 18 #[.pointer (some ⟨x.p2.rb, 0, none⟩), .agg #[x0, x1, .slice qa l.length qc, x3, x4, x5]] W fun e w7 => e = .returned (.tuple #[]) ∧ Hid (Ev2 O Q w tb bk mk x ob qa qc l w7) ∧ w7.cell? ⟨tb, 1, none⟩ = some (.pointer (some ⟨x.p2.rb, 0, none⟩)) ∧ w7.cell? ⟨x.p2.rb, 10, none⟩ = some (.int .i64 (x.r.own : Nat)) := by
  obtain ⟨OB, W0, O1, b, V, h1, h2, h3, h4, h5, h6⟩ := h
  refine (rlook_any h4 (qc := qc) h6.qi hl x0 x1 x3 x4 x5).mono fun e w7 ⟨he, hh⟩ => ?_
  obtain ⟨O2, qb, qd, g1, g2⟩ := hh.out
  have k : ChR Q (Q + 53) OB O2 W0 w7 := h5.trans (g2.wide (by omega) (Nat.le_refl _))
  have hB : Both O2 Q w7 { x.p with Db := b, dp := V } { x.p2 with qv := .slice qb l.length qd } (lookM x.d l) (x.r.look l x.r.n) x.T := ⟨h3.keepR g2 (by omega), g1, h1.both.j.look l, h1.both.g, ⟨qb, qd, rfl⟩, hl⟩
  have hr := h1.row.keepR k (by omega)
  refine ⟨he, ⟨O2, { x with p := { x.p with Db := b, dp := V }, p2 := { x.p2 with qv := .slice qb l.length qd }, d := lookM x.d l, r := x.r.look l x.r.n }, ⟨?_, hB, ⟨h1.at'.1.keepR k (by omega), h1.at'.2⟩⟩, h2.trans (k.wide (Nat.le_refl _) (by omega)), rfl, rfl, ⟨rfl, rfl, rfl⟩, h6.keepR g2 (by omega) (by omega)⟩, hr.1.cell (i := 1) (by decide), g1.c.2.2.2.1⟩
  unfold plF at hr ⊢
  exact hr
theorem Ev2.same {W : World} (h : Ev2 O Q w tb bk mk x ob qa qc l W) (hl : l.length ≤ 3518437208881) :
    Calls Tryz.prog 19 #[.slice x.aa l.length x.ac, .slice qa l.length qc] W fun e w8 => e = .returned (.bool true) ∧ Hid (OdE O Q w tb bk mk x w8) ∧ w8.cell? ⟨tb, 4, none⟩ = some (.slice x.aa x.an x.ac) ∧ w8.cell? ⟨ob, 2, none⟩ = some (.slice qa l.length qc) := by
  have hc := h.cells
  obtain ⟨O7, y, h1, h2, h3, h4, ⟨e1, e2, e3⟩, h5⟩ := h
  rcases h5.qu.1.1.2 with ⟨hv, h0⟩ | ⟨b, cp, cur, hv, _⟩
  · injection hv with q1 q2 q3
    rw [q1, q2, q3]
    rw [q1, q3] at hc
    rw [q2] at hc
    refine (same_none W qa qc).mono fun e w8 ⟨he, hw⟩ => ?_
    subst hw
    exact ⟨he, ⟨O7, y, h1, h2, h3, h4⟩, hc⟩
  · injection hv with q1 q2 q3
    have hqu := h5.qu
    rw [q1] at hqu ⊢
    rw [q1] at hc
    refine (same_any hqu (qc := qc) h5.qi (fun b o hb hl => by have := h5.qo b o hb hl; omega) hl).mono fun e w8 ⟨he, hh⟩ => ?_
    obtain ⟨g1, F, g2⟩ := hh.out
    have k : ChR (Q + 61) (Q + 62) O7 O7 W w8 := ChR.of g1 (Nat.le_refl _) (by omega)
    obtain ⟨_, _, _, hm, _⟩ := li_row hqu.1
    refine ⟨he, ⟨O7, y, ⟨h1.row.keepR k (by omega), h1.both.keepR k (by omega), ?_⟩, h2.trans (k.wide (by omega) (by omega)), h3, h4⟩, ?_, cell_R k (by rw [h5.oc]; omega) hc.2⟩
    · rw [e1, e3, q1]
      exact ⟨Li.of_row (n := 0) g2 (Nat.zero_le _) hm (fun j hj => by simp at hj), fun e he => by cases he⟩
    · exact cell_R k (by rw [h1.row.2]; omega) hc.1
theorem PlE.even {w9 : World} {a : Option Addr} {n c : Nat} (h : OdE O Q w tb bk mk { x with tu := x.tu + 1, aa := a, an := n, ac := c } w9) : PlE O Q w tb bk mk x w9 := by
  obtain ⟨O7, y, h1, h2, h3, h4⟩ := h
  exact ⟨O7, y, h1, h2, by show y.T ≤ x.T + 1; rw [h3]; exact Nat.le_succ _, by rw [h4]; exact Nat.le_refl _⟩
end
end Go.Proofs.YtdhhjdacidhmjaaGreat
