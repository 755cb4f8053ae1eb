/- Own texts, joined: R8, R9, R10, R11, R12, R13, R14, R15, R16, EqB. -/
import Derived.Test.YteneaiaejdgpcaaM1
import Derived.Maps.OwnSet
import Derived.Maps.Keyed
import Derived.Carry
import Derived.Lib.SlBytesConst
import Derived.BigQuiet

/- Package replica: a prepare that is refused. -/
namespace Go.Proofs.Yteneaiaejdgpcaa
open Go.RowKit
set_option maxRecDepth 100000
set_option maxRecDepth 100000

set_option maxHeartbeats 8000000 in
theorem prepare_refused {rb : Nat} {r : Rp} {w : World} (h : RpIs w rb r) (m : Mg) (va : Option Addr) (vc : Nat) (E : Nat) (h4 : m.n 4 = (E : Nat)) (hlt : E < r.p ∨ (r.p < E ∧ 0 < r.wt)) :
    Calls Try.prog 32 #[.pointer (some ⟨rb, 0, none⟩), mgV m va vc] w fun e w' => e = .returned (hdV (refG m E r.p) none 0 true false false) ∧ RpIs w' rb r ∧ But rb w w' := by
  obtain ⟨MM, HMM⟩ : ∃ x, Hid ((mgL m va vc).toArray = x) := ⟨_, rfl⟩
  have HINM : Hid ((Try.prog.info? 41).map (·.size) = some MM.size) := by rw [← HMM.out]; exact infoMgA _ _ _
  obtain ⟨W1, HW1⟩ : ∃ W, Hid (w.alloc (.cells MM 41) = W) := ⟨_, rfl⟩
  have s1 : w.Since w.heap.size W1 := by rw [← HW1.out]; exact (World.Since.refl _ _).alloc (Nat.le_refl _) _
  have z1 : W1.heap.size = w.heap.size + 1 := by rw [← HW1.out]; simp
  have r1 : W1.rowIs w.heap.size 41 22 (mgCell m va vc) := by rw [← HW1.out, ← HMM.out]; exact mg_row w m va vc
  obtain ⟨W2, HW2⟩ : ∃ W, Hid (W1.alloc hdZ = W) := ⟨_, rfl⟩
  have s2 : W1.Since W1.heap.size W2 := by rw [← HW2.out]; exact (World.Since.refl _ _).alloc (Nat.le_refl _) _
  have r2 : W2.rowIs (w.heap.size + 1) 46 25 (hdCell mg0 none 0 false false false) := by rw [← z1, ← HW2.out]; exact hdZ_row W1
  have rm2 := row_since r1 s2
  have sw2 : w.Since w.heap.size W2 := s1.trans (since_mono s2 s1.size)
  have z2 : W2.heap.size = w.heap.size + 1 + 1 := by rw [← HW2.out, ← z1]; simp
  have hR2 := h.since sw2
  have hrp := h.lt
  have HC4 : Hid (∀ W : World, W2.Since W2.heap.size W → W.cell? ⟨w.heap.size, 4, none⟩ = some (.int .u64 (E : Nat))) := fun W hW => by
    have : W.cell? ⟨w.heap.size, 4, none⟩ = some (.int .u64 (m.n 4)) := (row_since rm2 hW).cell (i := 4) (by decide)
    rw [this, h4]
  have c4 := HC4.out W2 (World.Since.refl _ _)
  have cp := hR2.c0
  have HHM : Hid (∀ W : World, W2.Since W2.heap.size W → W.heap[w.heap.size]? = some (.cells MM 41 (0, 0))) := fun W hW => by
    rw [← HMM.out]
    exact row_heap (row_since rm2 hW)
  have HRF : Hid (∀ W : World, W2.Since W2.heap.size W → Calls Try.prog 35 #[.pointer (some ⟨rb, 0, none⟩), .agg MM, .int .u64 (E : Nat)] W fun e w' => e = .returned (hdV (refG m E r.p) none 0 true false false) ∧ W2.Since W2.heap.size w') := fun W hW => by
    have q := refuse_any (hR2.since hW) m va vc E
    unfold mgV at q
    rw [HMM.out] at q
    exact q.mono fun e w' ⟨he, hs⟩ => ⟨he, hW.trans (since_mono hs hW.size)⟩
  have cw := hR2.c4
  have HEND : Hid (∀ W : World, W2.Since W2.heap.size W → ∃ W8, Hid (W.setCells (w.heap.size + 1) 0 (hdL (refG m E r.p) none 0 true false false).toArray.toList = W8) ∧ Hid (W.there (w.heap.size + 1) 0 (hdL (refG m E r.p) none 0 true false false).toArray.size) ∧ Hid (W8.heap[w.heap.size + 1]? = some (.cells (hdL (refG m E r.p) none 0 true false false).toArray 46 (0, 0))) ∧ Hid (RpIs W8 rb r ∧ But rb w W8)) := fun W hW => by
    have rr := row_since r2 hW
    obtain ⟨W8, HW8, hh8, z8, b8, o8, t8, p8⟩ := cells_stored rr (hdL (refG m E r.p) none 0 true false false) (hdL_len _ _ _ _ _ _)
    have e : (hdL (refG m E r.p) none 0 true false false).toArray.size = 25 := by rw [List.size_toArray, hdL_len]
    have a := sw2.trans (since_mono hW sw2.size)
    refine ⟨W8, HW8, ?_, hh8, (hR2.since hW).on (b8 _ (by omega)), o8.trans a.os, t8.trans a.tape, p8.trans a.output, by rw [z8]; exact a.size, fun k hk _ => ?_⟩
    · show World.there _ _ _ _
      rw [e]
      exact row_there rr
    · rw [b8 k (by omega)]
      exact a.block k hk
  unfold hdZ at HW2
  unfold hdV at HRF ⊢
  have HIR := hide (infoHrA (refG m E r.p) none 0 true false false)
  have HAL := hide (hd_all (refG m E r.p) none 0 true false false)
  obtain ⟨HL, HHL⟩ : ∃ x, Hid ((hdL (refG m E r.p) none 0 true false false).toArray = x) := ⟨_, rfl⟩
  rw [HHL.out] at HRF HEND HIR HAL ⊢
  rcases hlt with hlt | ⟨hlt, hlw⟩
  · skip
    have hq : decide ((E : Int) < (r.p : Int)) = true := by simp; omega
    have hq2 : (E : Int) < (r.p : Int) := by omega
    generalize hpp : r.p = P at cp hq hq2
    generalize hww : r.wt = WT at cw
    clear s1 r1 s2 r2 rm2 sw2 z2 hrp hR2 h h4 hlt hpp hww HHL
    unfold mgV
    rw [HMM.out]
    go_enter Try.func32, Try.ntmps32
    go_upto_region 1 with fail
    rw [HW1.out]
    try rw [z1]
    rw [HW2.out]
    try rw [z1]
    clear HW1 HW2 z1 HMM
    go_quiet (fail)
    have hsq : W2.Since W2.heap.size (W2.drewN nq) := since_drewN' (World.Since.refl _ _) nq
    generalize W2.drewN nq = Wq at *
    have cq4 := HC4.out Wq hsq
    have HHq := hide (HHM.out Wq hsq)
    have HQ3 := hide (HRF.out Wq hsq)
    clear HRF c4 cp cw hq hq2 HC4 HHM hsq
    go_wp2_with (refine wpList_load_row rfl 41 _ rfl w.heap.size rfl _ _ (0, 0) _ HHq.out Try.underlying41 rfl HINM.out ?_)
    refine HQ3.out.mono ?_
    rintro e w3 ⟨rfl, hs3⟩
    obtain ⟨W8, HW8, HT8, HH8, HE⟩ := HEND.out w3 hs3
    clear HQ3 HEND hs3 cq4 HHq
    go_wp2_with (refine wpList_store_mid rfl 46 _ _ rfl (w.heap.size + 1) 0 _ rfl rfl HT8.out HIR.out HAL.out ?_; rw [HW8.out])
    exact bodyPost_ret_by (results_cell_row rfl _ _ (w.heap.size + 1) 46 _ (0, 0) _ rfl HH8.out Try.underlying46 rfl HIR.out) rfl ⟨rfl, HE.out⟩
  · skip
    have hq : decide ((E : Int) < (r.p : Int)) = false := by simp; omega
    have hq2 : ¬ ((E : Int) < (r.p : Int)) := by omega
    have hq3 : decide ((E : Int) > (r.p : Int)) = true := by simp; omega
    have hq4 : (E : Int) > (r.p : Int) := by omega
    have hq5 : decide (r.wt > 0) = true := by simp; omega
    have hq6 : r.wt > 0 := by omega
    generalize hpp : r.p = P at cp hq hq2 hq3 hq4
    generalize hww : r.wt = WT at cw hq5 hq6
    clear s1 r1 s2 r2 rm2 sw2 z2 hrp hR2 h h4 hlt hlw hpp hww HHL
    unfold mgV
    rw [HMM.out]
    go_enter Try.func32, Try.ntmps32
    go_upto_region 1 with fail
    rw [HW1.out]
    try rw [z1]
    rw [HW2.out]
    try rw [z1]
    clear HW1 HW2 z1 HMM
    go_quiet (fail)
    have hsq : W2.Since W2.heap.size (W2.drewN nq) := since_drewN' (World.Since.refl _ _) nq
    generalize W2.drewN nq = Wq at *
    have cq4 := HC4.out Wq hsq
    have HHq := hide (HHM.out Wq hsq)
    have HQ3 := hide (HRF.out Wq hsq)
    clear HRF c4 cp cw hq hq2 hq3 hq4 hq5 hq6 HC4 HHM hsq
    go_wp2_with (refine wpList_load_row rfl 41 _ rfl w.heap.size rfl _ _ (0, 0) _ HHq.out Try.underlying41 rfl HINM.out ?_)
    refine HQ3.out.mono ?_
    rintro e w3 ⟨rfl, hs3⟩
    obtain ⟨W8, HW8, HT8, HH8, HE⟩ := HEND.out w3 hs3
    clear HQ3 HEND hs3 cq4 HHq
    go_wp2_with (refine wpList_store_mid rfl 46 _ _ rfl (w.heap.size + 1) 0 _ rfl rfl HT8.out HIR.out HAL.out ?_; rw [HW8.out])
    exact bodyPost_ret_by (results_cell_row rfl _ _ (w.heap.size + 1) 46 _ (0, 0) _ rfl HH8.out Try.underlying46 rfl HIR.out) rfl ⟨rfl, HE.out⟩
end Go.Proofs.Yteneaiaejdgpcaa

/- Package replica: a prepare that is promised. -/
namespace Go.Proofs.Yteneaiaejdgpcaa
open Go.RowKit
set_option maxRecDepth 100000
set_option maxRecDepth 100000

/-- What a prepare that is promised is answered. -/
def prG (m : Mg) (E : Nat) (r : Rp) : Mg := ((((ansG m 2).setN 4 (E : Nat)).setN 5 (r.te : Nat)).setN 6 (r.ts : Nat)).setS 10 r.v
theorem prG_v (m : Mg) (E : Nat) (r : Rp) (va : Option Addr) (vc : Nat) (c : Bool) : hdV (prG m E r) va vc true false c = .agg #[.int .i64 2, .int .i64 (m.n 2), .int .i64 (m.n 1), .int .i64 (m.n 3), .int .u64 (E : Nat), .int .u64 (r.te : Nat), .int .u64 (r.ts : Nat), .int .u64 0, .int .i64 0, .int .u64 0, .slice va r.v.length vc, .int .i64 0, .int .u64 0, .string ⟨#[]⟩, .string ⟨#[]⟩, .int .u64 0, .int .u64 0, .int .u64 0, .int .i64 0, .int .i64 0, .int .i64 0, .int .i64 0, .bool true, .bool false, .bool c] := rfl
theorem setCells_two (W : World) (b o : Nat) (x y : Value) : W.setCells b o [x, y] = (W.setCell ⟨b, o, none⟩ x).setCell ⟨b, o + 1, none⟩ y := rfl
theorem infoTg : (Try.prog.info? 24).map (·.size) = some 2 := by kernel_rfl
theorem run_storeVar_cell {P : Program} (w : World) (b o : Nat) (ty : TypeId) (v old : Value) (hc : w.cell? ⟨b, o, none⟩ = some old) (hf : w.frozen? ⟨b, o, none⟩ = false) (hi : (P.info? ty).map (·.size) = some 1) (h1 : v.oneCell' = true) :
    (storeVar ty ⟨b, o, none⟩ v).run P w = .ok () (w.setCell ⟨b, o, none⟩ v) := by
  have := run_storeCells_cells (P := P) b o [v] 0 w (fun j hj => by
    have : j = 0 := by simpa using hj
    subst this
    simp [hc]) (fun j hj => by
    have : j = 0 := by simpa using hj
    subst this
    simpa using hf) (fun x hx => by simp at hx; subst hx; exact h1)
  have hcs : v.cells = #[v] := by cases v <;> first | rfl | cases h1
  cases hq : P.info? ty with
  | none => simp [hq] at hi
  | some i =>
    have hs : i.size = 1 := by simpa [hq] using hi
    simp only [Nat.add_zero] at this
    simp [storeVar, sizeOf, typeInfo, hq, hcs, hs, this]
    rfl
theorem wp_store_cell {P : Program} {op : Oper} {a : Act} {w : World} {K : Act → World → Prop} {Q : Exit → Act → World → Prop} (ty : TypeId) (x y : Operand) (ho : op.op = .store ty x y) (b o : Nat) (v old : Value) (hx : a.eval x = .pointer (some ⟨b, o, none⟩)) (hy : a.eval y = v)
    (hc : w.cell? ⟨b, o, none⟩ = some old) (hf : w.frozen? ⟨b, o, none⟩ = false) (hi : (P.info? ty).map (·.size) = some 1) (h1 : v.oneCell' = true) (h : K (a.put op.dst undef) (w.setCell ⟨b, o, none⟩ v)) : op.wp P a w K Q := by
  unfold Oper.wp execOp
  simp only [ho, hx, hy, Instr.storeAt, Instr.sureAddr, Sem.run_bind, Sem.run_pure, Result.andThen_ok, run_storeVar_cell w b o ty v old hc hf hi h1]
  exact h
/-- While an answer is being filled: the copy, the message, the answer's row. -/
structure Pz (w4 : World) (rb : Nat) (r : Rp) (mb E ab N : Nat) (W : World) (mm : Mg) (va : Option Addr) (vc : Nat) : Prop where
  rp : RpIs W rb r
  c4 : W.cell? ⟨mb, 4, none⟩ = some (.int .u64 (E : Nat))
  row : W.rowIs ab 41 22 (mgCell mm va vc)
  since : w4.Since w4.heap.size W
  size : W.heap.size = N
  ge : w4.heap.size ≤ ab
  ne : rb ≠ ab ∧ mb ≠ ab
theorem Pz.set {w4 : World} {rb mb E ab N : Nat} {r : Rp} {W : World} {mm mm' : Mg} {va va' : Option Addr} {vc vc' : Nat} (h : Pz w4 rb r mb E ab N W mm va vc) (c : Nat) (v : Value) (hr : (W.setCell ⟨ab, c, none⟩ v).rowIs ab 41 22 (mgCell mm' va' vc')) : Pz w4 rb r mb E ab N (W.setCell ⟨ab, c, none⟩ v) mm' va' vc' := by
  have b : But ab W (W.setCell ⟨ab, c, none⟩ v) := (But.of_since (World.Since.refl _ _)).setCell c v
  refine ⟨h.rp.but b h.ne.1, ?_, hr, b.since h.since h.ge h.since.size, by rw [← h.size]; simp [World.setCell], h.ge, h.ne⟩
  rw [World.cell?_of_block (a := ⟨mb, 4, none⟩) (Below.heap_setCell _ _ _ _ h.ne.2)]
  exact h.c4
theorem Pz.conv {w4 : World} {rb mb E ab N : Nat} {r : Rp} {W : World} {mm : Mg} {va : Option Addr} {vc : Nat} (h : Pz w4 rb r mb E ab N W mm va vc) (V : List Nat) : ∃ (C : Nat) (W' : World), Hid ((convert 9 25 (.string (strL V))).run Try.prog W = .ok (.slice (some ⟨N, 0, none⟩) V.length C) W') ∧ Hid (Pz w4 rb r mb E ab (N + 1) W' mm va vc) ∧ Hid (FlB W' N C (strL V)) := by
  have hcv := Lib.run_convert_string_bytes (P := Try.prog) W 9 25 5 (strL V) Try.underlying9 Try.underlying25 Try.underlying5
  have hF := flb_new W (strL V)
  have hs := since_bytes W (strL V)
  have hz := Lib.bytesWorld_size W 5 (strL V)
  rw [strL_size V] at hcv
  rw [h.size] at hcv hF
  refine ⟨_, _, hcv, ⟨h.rp.since hs, cell_later hs h.c4, row_since h.row hs, h.since.trans (since_mono hs h.since.size), ?_, h.ge, h.ne⟩, by rw [strL_size V] at hF; exact hF⟩
  rw [hz, h.size]
theorem FlB.set {W : World} {g C ab c : Nat} {s : ByteArray} {v : Value} (h : FlB W g C s) (hne : g ≠ ab) : FlB (W.setCell ⟨ab, c, none⟩ v) g C s := h.on (Below.heap_setCell _ _ _ _ hne)
set_option maxHeartbeats 8000000 in
theorem prepare_taken {rb : Nat} {r : Rp} {w : World} (h : RpIs w rb r) (m : Mg) (va : Option Addr) (vc : Nat) (E : Nat) (h4 : m.n 4 = (E : Nat)) (hE : E < 18446744073709551616) (hge : E = r.p ∨ (r.p < E ∧ r.wt = 0)) :
    Calls Try.prog 32 #[.pointer (some ⟨rb, 0, none⟩), mgV m va vc] w fun e w' => ∃ g c, e = .returned (hdV (prG m E r) (some ⟨g, 0, none⟩) c true false (decide (r.p ≠ E))) ∧ RpIs w' rb { r with p := E } ∧ But rb w w' ∧ w.heap.size ≤ g ∧ FlB w' g c (strL r.v) := by
  obtain ⟨MM, HMM⟩ : ∃ x, Hid ((mgL m va vc).toArray = x) := ⟨_, rfl⟩
  have HINM : Hid ((Try.prog.info? 41).map (·.size) = some MM.size) := by rw [← HMM.out]; exact infoMgA _ _ _
  obtain ⟨W1, HW1⟩ : ∃ W, Hid (w.alloc (.cells MM 41) = W) := ⟨_, rfl⟩
  have s1 : w.Since w.heap.size W1 := by rw [← HW1.out]; exact (World.Since.refl _ _).alloc (Nat.le_refl _) _
  have z1 : W1.heap.size = w.heap.size + 1 := by rw [← HW1.out]; simp
  have r1 : W1.rowIs w.heap.size 41 22 (mgCell m va vc) := by rw [← HW1.out, ← HMM.out]; exact mg_row w m va vc
  obtain ⟨W2, HW2⟩ : ∃ W, Hid (W1.alloc hdZ = W) := ⟨_, rfl⟩
  have s2 : W1.Since W1.heap.size W2 := by rw [← HW2.out]; exact (World.Since.refl _ _).alloc (Nat.le_refl _) _
  have r2 : W2.rowIs (w.heap.size + 1) 46 25 (hdCell mg0 none 0 false false false) := by rw [← z1, ← HW2.out]; exact hdZ_row W1
  have rm2 := row_since r1 s2
  have sw2 : w.Since w.heap.size W2 := s1.trans (since_mono s2 s1.size)
  have z2 : W2.heap.size = w.heap.size + 1 + 1 := by rw [← HW2.out, ← z1]; simp
  have hR2 := h.since sw2
  have hrp := h.lt
  have c4 : W2.cell? ⟨w.heap.size, 4, none⟩ = some (.int .u64 (E : Nat)) := by
    have : W2.cell? ⟨w.heap.size, 4, none⟩ = some (.int .u64 (m.n 4)) := rm2.cell (i := 4) (by decide)
    rw [this, h4]
  have cp := hR2.c0
  have cw := hR2.c4
  have HPR : Hid (∀ W : World, W2.Since W2.heap.size W → Calls Try.prog 31 #[.pointer (some ⟨rb, 0, none⟩), .int .u64 (E : Nat)] W fun e w' => e = .returned (.bool (decide (r.p ≠ E))) ∧ Hid (RpIs w' rb { r with p := E } ∧ But rb W2 w')) := fun W hW => (promise_any (hR2.since hW) E hE).mono fun e w' ⟨he, h1, h2⟩ => ⟨he, h1, (But.of_since (r := rb) hW).trans h2⟩
  have hq : decide ((E : Int) < (r.p : Int)) = false := by simp; omega
  have hq2 : ¬ ((E : Int) < (r.p : Int)) := by omega
  obtain ⟨CH, HCH⟩ : ∃ x, Hid (decide (r.p ≠ E) = x) := ⟨_, rfl⟩
  rw [HCH.out] at HPR ⊢
  have HRM := hide rm2
  have HRW := hide r2
  have HS2 := hide sw2
  have Hz2 := hide z2
  have HLT := hide hrp
  have H44 := hide h4
  have HEE := hide hE
  unfold hdZ at HW2
  have HC4 : Hid (∀ W : World, W2.Since W2.heap.size W → W.cell? ⟨w.heap.size, 4, none⟩ = some (.int .u64 (E : Nat))) := fun W hW => cell_later hW c4
  have HWL : Hid (∀ (Wq : World) (Q : Prop), (W2.Since W2.heap.size Wq → Q) → W2.Since W2.heap.size Wq → Q) := fun _ _ f x => f x
  have hok := hide h.ok
  have KEY : ∀ (b : Bool), True := fun _ => trivial
  obtain ⟨P, TE, TS, V, WT⟩ := r
  replace cp : W2.cell? ⟨rb, 0, none⟩ = some (.int .u64 (P : Nat)) := cp
  replace cw : W2.cell? ⟨rb, 4, none⟩ = some (.int .i64 WT) := cw
  replace hq : decide ((E : Int) < (P : Int)) = false := hq
  replace hq2 : ¬ ((E : Int) < (P : Int)) := hq2
  replace HPR : Hid (∀ W : World, W2.Since W2.heap.size W → Calls Try.prog 31 #[.pointer (some ⟨rb, 0, none⟩), .int .u64 (E : Nat)] W fun e w' => e = .returned (.bool CH) ∧ Hid (RpIs w' rb ⟨E, TE, TS, V, WT⟩ ∧ But rb W2 w')) := HPR
  rcases hge with hge | ⟨hge, hg0⟩
  · replace hge : E = P := hge
    have hq3 : decide ((E : Int) > (P : Int)) = false := by simp; omega
    have hq4 : ¬ ((E : Int) > (P : Int)) := by omega
    clear s1 r1 s2 r2 rm2 sw2 z2 hrp hR2 h h4 hge HCH hE KEY HWL
    unfold mgV
    rw [HMM.out]
    go_enter Try.func32, Try.ntmps32
    go_upto_region 1 with fail
    rw [HW1.out]
    try rw [z1]
    rw [HW2.out]
    try rw [z1]
    clear HW1 HW2 z1
    go_quiet (fail)
    have hsq : W2.Since W2.heap.size (W2.drewN nq) := since_drewN' (World.Since.refl _ _) nq
    generalize W2.drewN nq = Wq at *
    have cq4 := HC4.out Wq hsq
    have HQ3 := hide (HPR.out Wq hsq)
    clear HPR c4 cp cw hq hq2 hq3 hq4 HC4
    go_wp2_with fail
    refine HQ3.out.mono ?_
    rintro e w4 ⟨rfl, H4⟩
    clear HQ3 cq4 hsq
    have hne : w.heap.size ≠ rb := by have := HLT.out; omega
    have HH4 : Hid (w4.heap[w.heap.size]? = some (.cells MM 41 (0, 0))) := by rw [← HMM.out]; exact row_heap (H4.out.2.row HRM.out hne)
    have HAN : Hid (Calls Try.prog 36 #[.agg MM, .int .i64 2] w4 fun e w' => e = .returned (mgV (ansG m 2) none 0) ∧ w4.Since w4.heap.size w') := by
      have q := answer_any m va vc 2 w4
      unfold mgV at q
      rw [HMM.out] at q
      exact q
    go_wp2_with (refine wpList_load_row rfl 41 _ rfl w.heap.size rfl _ _ (0, 0) _ HH4.out Try.underlying41 rfl HINM.out ?_)
    refine HAN.out.mono ?_
    rintro e w5 ⟨rfl, hs5⟩
    obtain ⟨W6, MA, HMV, HT6, HW6, HIN, HON, HH6, HS6⟩ := mg_put w5 (ansG m 2) none 0
    rw [HMV.out]
    go_upto_region 5 with (refine wpList_store_mid rfl 41 _ _ rfl w5.heap.size 0 _ rfl rfl HT6.out HIN.out HON.out ?_; rw [HW6.out])
    have s46 : w4.Since w4.heap.size W6 := hs5.trans (since_mono HS6.out hs5.size)
    have hz2 := Hz2.out
    have hz4 : W2.heap.size ≤ w4.heap.size := H4.out.2.size
    have hz5 := hs5.size
    have r6 : W6.rowIs w5.heap.size 41 22 (mgCell (ansG m 2) none 0) := mg_cells (HH6.out W6 (World.Since.refl _ _)) HMV.out
    have hz6 : w5.heap.size < W6.heap.size := r6.lt
    have hrm6 := row_since (H4.out.2.row HRM.out hne) s46
    have hR6 : RpIs W6 rb ⟨E, TE, TS, V, WT⟩ := H4.out.1.since s46
    have hltr := HLT.out
    have hc6 : W6.drew.cell? ⟨w.heap.size, 4, none⟩ = some (.int .u64 (E : Nat)) := by
      have : W6.drew.cell? ⟨w.heap.size, 4, none⟩ = some (.int .u64 (m.n 4)) := hrm6.cell (i := 4) (by decide)
      rw [this, H44.out]
    have HZ0 : Hid (Pz w4 rb ⟨E, TE, TS, V, WT⟩ w.heap.size E w5.heap.size W6.heap.size W6.drew (ansG m 2) none 0) := ⟨hR6.since ((World.Since.refl _ _).drew), hc6, r6, s46.drew, rfl, hz5, by omega, by omega⟩
    have hhn : w.heap.size + 1 ≠ rb := by omega
    have HEND : Hid (∀ (W9 : World) (C : Nat), Pz w4 rb ⟨E, TE, TS, V, WT⟩ w.heap.size E w5.heap.size (W6.heap.size + 1) W9 (prG m E ⟨P, TE, TS, V, WT⟩) (some ⟨W6.heap.size, 0, none⟩) C → FlB W9 W6.heap.size C (strL V) → ∃ (MB HL : Array Value) (WA : World), Hid (W9.heap[w5.heap.size]? = some (.cells MB 41 (0, 0))) ∧ Hid ((Try.prog.info? 41).map (·.size) = some MB.size) ∧ Hid (MB = (mgL (prG m E ⟨P, TE, TS, V, WT⟩) (some ⟨W6.heap.size, 0, none⟩) C).toArray) ∧ Hid (hdV (prG m E ⟨P, TE, TS, V, WT⟩) (some ⟨W6.heap.size, 0, none⟩) C true false CH = .agg HL) ∧ Hid (W9.there (w.heap.size + 1) 0 HL.size) ∧ Hid ((Try.prog.info? 46).map (·.size) = some HL.size) ∧ Hid (HL.all (·.oneCell') = true) ∧ Hid (W9.setCells (w.heap.size + 1) 0 HL.toList = WA) ∧ Hid (WA.heap[w.heap.size + 1]? = some (.cells HL 46 (0, 0))) ∧ Hid (RpIs WA rb ⟨E, TE, TS, V, WT⟩ ∧ But rb w WA ∧ w.heap.size ≤ W6.heap.size ∧ FlB WA W6.heap.size C (strL V))) := fun W9 C hz hF => by
      have s49 := hz.since
      have rr9 := row_since (H4.out.2.row HRW.out hhn) s49
      obtain ⟨WA, HWA, hhA, zA, bA, oA, tA, pA⟩ := cells_stored rr9 (hdL (prG m E ⟨P, TE, TS, V, WT⟩) (some ⟨W6.heap.size, 0, none⟩) C true false CH) (hdL_len _ _ _ _ _ _)
      have bt9 : But rb w W9 := ((But.of_since HS2.out).trans H4.out.2).trans (But.of_since s49)
      have e : (hdL (prG m E ⟨P, TE, TS, V, WT⟩) (some ⟨W6.heap.size, 0, none⟩) C true false CH).toArray.size = 25 := by rw [List.size_toArray, hdL_len]
      refine ⟨_, _, WA, row_heap hz.row, infoMgA _ _ _, rfl, rfl, ?_, infoHrA _ _ _ _ _ _, hd_all _ _ _ _ _ _, HWA, hhA, (H4.out.1.since s49).on (bA _ (fun e => hhn e.symm)), ⟨oA.trans bt9.os, tA.trans bt9.tape, pA.trans bt9.output, by rw [zA]; exact bt9.size, fun k hk hr => ?_⟩, by omega, hF.on (bA _ (by omega))⟩
      · show World.there _ _ _ _
        rw [e]
        exact row_there rr9
      · rw [bA k (by omega)]
        exact bt9.block k hk hr
    have hzd : W6.heap.size ≠ w5.heap.size := by omega
    have HNE := hide hzd
    clear r6 s46 HH6 HS6 HT6 HON HIN HMV hs5 HW6 HH4 HAN H4 HRM HRW HS2 Hz2 HLT hz2 hz4 hz5 hz6 hrm6 hne hhn HMM HINM hR6 hc6 hltr hok HEE H44 hzd
    generalize W6.heap.size = N at *
    refine wp_region_held_drew (S := fun W => RpIs W rb ⟨E, TE, TS, V, WT⟩ ∧ W.cell? ⟨w.heap.size, 4, none⟩ = some (.int .u64 (E : Nat))) (by kernel_rfl) ⟨HZ0.out.rp, HZ0.out.c4⟩ fun _ => ?_
    refine wpAnyH_take (i := 0) (v := .pointer (some ⟨w.heap.size, 4, none⟩)) rfl (by kernel_rfl) (by kernel_rfl) (by kernel_rfl) (fun _ _ _ h => h) (.inl ⟨rfl, fun W hW => by kernel_rfl⟩) ⟨HZ0.out.rp, HZ0.out.c4⟩ ?_
    simp only [List.getElem_toArray, List.getElem_cons_zero, Act.put, List.setIfInBounds_toArray, List.set_cons_zero, List.set_cons_succ]
    refine wpAnyH_take (i := 1) (v := .int .u64 (E : Nat)) rfl (by kernel_rfl) (by kernel_rfl) (by kernel_rfl) (fun _ _ _ h => h) (.inl ⟨rfl, fun W hW => by have c := hW.2; go_simp⟩) ⟨HZ0.out.rp, HZ0.out.c4⟩ ?_
    simp only [List.getElem_toArray, List.getElem_cons_zero, List.getElem_cons_succ, Act.put, List.setIfInBounds_toArray, List.set_cons_zero, List.set_cons_succ]
    refine wpAnyH_take (i := 2) (v := .pointer (some ⟨rb, 0, none⟩)) rfl (by kernel_rfl) (by kernel_rfl) (by kernel_rfl) (fun _ _ _ h => h) (.inl ⟨rfl, fun W hW => by kernel_rfl⟩) ⟨HZ0.out.rp, HZ0.out.c4⟩ ?_
    simp only [List.getElem_toArray, List.getElem_cons_zero, List.getElem_cons_succ, Act.put, List.setIfInBounds_toArray, List.set_cons_zero, List.set_cons_succ]
    refine wpAnyH_take (i := 3) (v := .pointer (some ⟨rb, 0, none⟩)) rfl (by kernel_rfl) (by kernel_rfl) (by kernel_rfl) (fun _ _ _ h => h) (.inl ⟨rfl, fun W hW => by first | kernel_rfl | go_simp⟩) ⟨HZ0.out.rp, HZ0.out.c4⟩ ?_
    simp only [List.getElem_toArray, List.getElem_cons_zero, List.getElem_cons_succ, Act.put, List.setIfInBounds_toArray, List.set_cons_zero, List.set_cons_succ]
    refine wpAnyH_take (i := 4) (v := .pointer (some ⟨rb, 1, none⟩)) rfl (by kernel_rfl) (by kernel_rfl) (by kernel_rfl) (fun _ _ _ h => h) (.inl ⟨rfl, fun W hW => by kernel_rfl⟩) ⟨HZ0.out.rp, HZ0.out.c4⟩ ?_
    simp only [List.getElem_toArray, List.getElem_cons_zero, List.getElem_cons_succ, Act.put, List.setIfInBounds_toArray, List.set_cons_zero, List.set_cons_succ]
    refine wpAnyH_take (i := 5) (v := .agg #[.int .u64 (TE : Nat), .int .u64 (TS : Nat)]) rfl (by kernel_rfl) (by kernel_rfl) (by kernel_rfl) (fun _ _ _ h => h) (.inl ⟨rfl, fun W hW => by have c := hW.1.c1; have c2 := hW.1.c2; go_simp⟩) ⟨HZ0.out.rp, HZ0.out.c4⟩ ?_
    simp only [List.getElem_toArray, List.getElem_cons_zero, List.getElem_cons_succ, Act.put, List.setIfInBounds_toArray, List.set_cons_zero, List.set_cons_succ]
    refine wpAnyH_take (i := 6) (v := .pointer (some ⟨rb, 0, none⟩)) rfl (by kernel_rfl) (by kernel_rfl) (by kernel_rfl) (fun _ _ _ h => h) (.inl ⟨rfl, fun W hW => by kernel_rfl⟩) ⟨HZ0.out.rp, HZ0.out.c4⟩ ?_
    simp only [List.getElem_toArray, List.getElem_cons_zero, List.getElem_cons_succ, Act.put, List.setIfInBounds_toArray, List.set_cons_zero, List.set_cons_succ]
    refine wpAnyH_take (i := 7) (v := .pointer (some ⟨rb, 0, none⟩)) rfl (by kernel_rfl) (by kernel_rfl) (by kernel_rfl) (fun _ _ _ h => h) (.inl ⟨rfl, fun W hW => by first | kernel_rfl | go_simp⟩) ⟨HZ0.out.rp, HZ0.out.c4⟩ ?_
    simp only [List.getElem_toArray, List.getElem_cons_zero, List.getElem_cons_succ, Act.put, List.setIfInBounds_toArray, List.set_cons_zero, List.set_cons_succ]
    refine wpAnyH_take (i := 8) (v := .pointer (some ⟨rb, 3, none⟩)) rfl (by kernel_rfl) (by kernel_rfl) (by kernel_rfl) (fun _ _ _ h => h) (.inl ⟨rfl, fun W hW => by kernel_rfl⟩) ⟨HZ0.out.rp, HZ0.out.c4⟩ ?_
    simp only [List.getElem_toArray, List.getElem_cons_zero, List.getElem_cons_succ, Act.put, List.setIfInBounds_toArray, List.set_cons_zero, List.set_cons_succ]
    refine wpAnyH_take (i := 9) (v := .string (strL V)) rfl (by kernel_rfl) (by kernel_rfl) (by kernel_rfl) (fun _ _ _ h => h) (.inl ⟨rfl, fun W hW => by have c := hW.1.c3; go_simp⟩) ⟨HZ0.out.rp, HZ0.out.c4⟩ ?_
    simp only [List.getElem_toArray, List.getElem_cons_zero, List.getElem_cons_succ, Act.put, List.setIfInBounds_toArray, List.set_cons_zero, List.set_cons_succ]
    refine wpAnyH_take (i := 11) (v := .pointer (some ⟨w5.heap.size, 4, none⟩)) rfl (by kernel_rfl) (by kernel_rfl) (by kernel_rfl) (fun _ _ _ h => h) (.inl ⟨rfl, fun W hW => by kernel_rfl⟩) ⟨HZ0.out.rp, HZ0.out.c4⟩ ?_
    simp only [List.getElem_toArray, List.getElem_cons_zero, List.getElem_cons_succ, Act.put, List.setIfInBounds_toArray, List.set_cons_zero, List.set_cons_succ]
    refine wpAnyH_ready (rs := [10, 12]) (by kernel_rfl) (by simp) ?_
    refine AllReadyH.cons rfl (fun K hK => ?_) ?_
    · skip
      obtain ⟨C, Wc, HCV, HZc, HFc⟩ := HZ0.out.conv V
      refine step_storeM rfl (op_runW (w' := Wc) (.slice (some ⟨N, 0, none⟩) V.length C) ?_ ?_)
      · have r := HCV.out
        go_simp
      refine hK.out _ _ ⟨HZc.out.rp, HZc.out.c4⟩ fun _ => ?_
      clear hK
      simp only [List.getElem_toArray, List.getElem_cons_zero, List.getElem_cons_succ, Act.put, List.setIfInBounds_toArray, List.set_cons_zero, List.set_cons_succ]
      refine wpAnyH_ready (rs := [12]) (by kernel_rfl) (by simp) ?_
      refine AllReadyH.cons rfl (fun K hK => ?_) AllReadyH.nil
      refine step_storeM rfl (wp_store_cell 22 (.tmp 52) (.tmp 42) rfl w5.heap.size 4 (.int .u64 (E : Nat)) _ rfl rfl (HZc.out.row.cell (i := 4) (by decide)) (HZc.out.row.frozen 4) (by kernel_rfl) rfl ?_)
      have HZ7 : Hid (Pz w4 rb ⟨E, TE, TS, V, WT⟩ w.heap.size E w5.heap.size (N + 1) (Wc.setCell ⟨w5.heap.size, 4, none⟩ (.int .u64 (E : Nat))) ((ansG m 2).setN 4 (E : Nat)) none 0) := (HZc.out.set 4 _ (row_setN HZc.out.row 4 (E : Nat) (by decide) (by decide) (by decide)))
      have HF7 := hide (HFc.out.set (ab := w5.heap.size) (c := 4) (v := .int .u64 (E : Nat)) HNE.out)
      generalize World.setCell _ ⟨w5.heap.size, 4, none⟩ (.int .u64 (E : Nat)) = W7 at *
      refine hK.out _ _ ⟨HZ7.out.rp, HZ7.out.c4⟩ fun _ => ?_
      clear hK
      simp only [List.getElem_toArray, List.getElem_cons_zero, List.getElem_cons_succ, Act.put]
      refine wpAnyH_take (i := 13) (v := .pointer (some ⟨w5.heap.size, 5, none⟩)) rfl (by kernel_rfl) (by kernel_rfl) (by kernel_rfl) (fun _ _ _ h => h) (.inl ⟨rfl, fun W hW => by kernel_rfl⟩) ⟨HZ7.out.rp, HZ7.out.c4⟩ ?_
      simp only [List.getElem_toArray, List.getElem_cons_zero, List.getElem_cons_succ, Act.put, List.setIfInBounds_toArray, List.set_cons_zero, List.set_cons_succ]
      refine wpAnyH_ready (rs := [14]) (by kernel_rfl) (by simp) ?_
      refine AllReadyH.cons rfl (fun K hK => ?_) AllReadyH.nil
      refine step_storeM rfl (wp_store_mid 24 (.tmp 53) (.tmp 46) rfl w5.heap.size 5 _ rfl rfl (fun j hj => ⟨by rw [HZ7.out.row.cell (by have : j < 2 := hj; omega)]; rfl, HZ7.out.row.frozen _⟩) infoTg (by simp [Value.oneCell']) ?_)
      rw [show (W7.setCells w5.heap.size 5 _) = (W7.setCell ⟨w5.heap.size, 5, none⟩ (.int .u64 (TE : Nat))).setCell ⟨w5.heap.size, 6, none⟩ (.int .u64 (TS : Nat)) from rfl]
      have HZ8 : Hid (Pz w4 rb ⟨E, TE, TS, V, WT⟩ w.heap.size E w5.heap.size (N + 1) ((W7.setCell ⟨w5.heap.size, 5, none⟩ (.int .u64 (TE : Nat))).setCell ⟨w5.heap.size, 6, none⟩ (.int .u64 (TS : Nat))) ((((ansG m 2).setN 4 (E : Nat)).setN 5 (TE : Nat)).setN 6 (TS : Nat)) none 0) := (HZ7.out.set 5 _ (row_setN HZ7.out.row 5 (TE : Nat) (by decide) (by decide) (by decide))).set 6 _ (row_setN (row_setN HZ7.out.row 5 (TE : Nat) (by decide) (by decide) (by decide)) 6 (TS : Nat) (by decide) (by decide) (by decide))
      have HF8 := hide ((HF7.out.set (ab := w5.heap.size) (c := 5) (v := .int .u64 (TE : Nat)) HNE.out).set (ab := w5.heap.size) (c := 6) (v := .int .u64 (TS : Nat)) HNE.out)
      generalize World.setCell _ ⟨w5.heap.size, 6, none⟩ (.int .u64 (TS : Nat)) = W8 at *
      refine hK.out _ _ ⟨HZ8.out.rp, HZ8.out.c4⟩ fun _ => ?_
      clear hK
      simp only [List.getElem_toArray, List.getElem_cons_zero, List.getElem_cons_succ, Act.put]
      refine wpAnyH_take (i := 15) (v := .pointer (some ⟨w5.heap.size, 10, none⟩)) rfl (by kernel_rfl) (by kernel_rfl) (by kernel_rfl) (fun _ _ _ h => h) (.inl ⟨rfl, fun W hW => by kernel_rfl⟩) ⟨HZ8.out.rp, HZ8.out.c4⟩ ?_
      simp only [List.getElem_toArray, List.getElem_cons_zero, List.getElem_cons_succ, Act.put, List.setIfInBounds_toArray, List.set_cons_zero, List.set_cons_succ]
      refine wpAnyH_ready (rs := [16]) (by kernel_rfl) (by simp) ?_
      refine AllReadyH.cons rfl (fun K hK => ?_) AllReadyH.nil
      refine step_storeM rfl (wp_store_cell 25 (.tmp 54) (.tmp 51) rfl w5.heap.size 10 (.slice (some ⟨N, 0, none⟩) V.length C) _ rfl rfl (HZ8.out.row.cell (i := 10) (by decide)) (HZ8.out.row.frozen 10) (by kernel_rfl) rfl ?_)
      have HZ9 : Hid (Pz w4 rb ⟨E, TE, TS, V, WT⟩ w.heap.size E w5.heap.size (N + 1) (W8.setCell ⟨w5.heap.size, 10, none⟩ (.slice (some ⟨N, 0, none⟩) V.length C)) (prG m E ⟨P, TE, TS, V, WT⟩) (some ⟨N, 0, none⟩) C) := HZ8.out.set 10 _ (row_setV HZ8.out.row V (some ⟨N, 0, none⟩) C)
      have HF9 := hide (HF8.out.set (ab := w5.heap.size) (c := 10) (v := .slice (some ⟨N, 0, none⟩) V.length C) HNE.out)
      generalize World.setCell _ ⟨w5.heap.size, 10, none⟩ (.slice (some ⟨N, 0, none⟩) V.length C) = W9 at *
      refine hK.out _ _ ⟨HZ9.out.rp, HZ9.out.c4⟩ fun _ => ?_
      clear hK
      simp only [List.getElem_toArray, List.getElem_cons_zero, List.getElem_cons_succ, Act.put]
      obtain ⟨MB, HL, WA, HMB, HIM, HME, HHL, HTA, HIH, HAL, HWA, HHA, HE⟩ := HEND.out W9 C HZ9.out HF9.out
      refine wpAnyH_done (by kernel_rfl) ?_ _
      go_upto_region 6 with fail
      refine wp_region_lit ?_
      refine wpList_load_row rfl 41 (.tmp 6) rfl w5.heap.size rfl _ MB (0, 0) _ HMB.out Try.underlying41 rfl HIM.out ?_
      simp only [Act.put, List.setIfInBounds_toArray, List.set_cons_zero, List.set_cons_succ]
      refine wpList_plain rfl fun _ hK => op_run (.bool CH) (by kernel_rfl) (hK _ _ ?_)
      simp only [Act.put, List.setIfInBounds_toArray, List.set_cons_zero, List.set_cons_succ]
      refine wpList_plain rfl fun _ hK => op_run (.agg HL) (by rw [← HHL.out, prG_v, HME.out]; kernel_rfl) (hK _ _ ?_)
      refine wpList_store_mid rfl 46 (.tmp 4) (.tmp 57) rfl (w.heap.size + 1) 0 HL rfl rfl HTA.out HIH.out HAL.out ?_
      rw [HWA.out]
      go_wp2_with fail
      exact bodyPost_ret_by (results_cell_row rfl _ _ (w.heap.size + 1) 46 _ (0, 0) _ rfl HHA.out Try.underlying46 rfl HIH.out) rfl ⟨_, _, congrArg _ HHL.out.symm, HE.out⟩
    refine AllReadyH.cons rfl (fun K hK => ?_) AllReadyH.nil
    refine step_storeM rfl (wp_store_cell 22 (.tmp 52) (.tmp 42) rfl w5.heap.size 4 (.int .u64 (E : Nat)) _ rfl rfl (HZ0.out.row.cell (i := 4) (by decide)) (HZ0.out.row.frozen 4) (by kernel_rfl) rfl ?_)
    have HZ7 : Hid (Pz w4 rb ⟨E, TE, TS, V, WT⟩ w.heap.size E w5.heap.size N (W6.drew.setCell ⟨w5.heap.size, 4, none⟩ (.int .u64 (E : Nat))) ((ansG m 2).setN 4 (E : Nat)) none 0) := (HZ0.out.set 4 _ (row_setN HZ0.out.row 4 (E : Nat) (by decide) (by decide) (by decide)))
    generalize World.setCell _ ⟨w5.heap.size, 4, none⟩ (.int .u64 (E : Nat)) = W7 at *
    refine hK.out _ _ ⟨HZ7.out.rp, HZ7.out.c4⟩ fun _ => ?_
    clear hK
    simp only [List.getElem_toArray, List.getElem_cons_zero, List.getElem_cons_succ, Act.put]
    refine wpAnyH_take (i := 13) (v := .pointer (some ⟨w5.heap.size, 5, none⟩)) rfl (by kernel_rfl) (by kernel_rfl) (by kernel_rfl) (fun _ _ _ h => h) (.inl ⟨rfl, fun W hW => by kernel_rfl⟩) ⟨HZ7.out.rp, HZ7.out.c4⟩ ?_
    simp only [List.getElem_toArray, List.getElem_cons_zero, List.getElem_cons_succ, Act.put, List.setIfInBounds_toArray, List.set_cons_zero, List.set_cons_succ]
    refine wpAnyH_ready (rs := [10, 14]) (by kernel_rfl) (by simp) ?_
    refine AllReadyH.cons rfl (fun K hK => ?_) ?_
    · skip
      obtain ⟨C, Wc, HCV, HZc, HFc⟩ := HZ7.out.conv V
      refine step_storeM rfl (op_runW (w' := Wc) (.slice (some ⟨N, 0, none⟩) V.length C) ?_ ?_)
      · have r := HCV.out
        go_simp
      refine hK.out _ _ ⟨HZc.out.rp, HZc.out.c4⟩ fun _ => ?_
      clear hK
      simp only [List.getElem_toArray, List.getElem_cons_zero, List.getElem_cons_succ, Act.put, List.setIfInBounds_toArray, List.set_cons_zero, List.set_cons_succ]
      refine wpAnyH_ready (rs := [14]) (by kernel_rfl) (by simp) ?_
      refine AllReadyH.cons rfl (fun K hK => ?_) AllReadyH.nil
      refine step_storeM rfl (wp_store_mid 24 (.tmp 53) (.tmp 46) rfl w5.heap.size 5 _ rfl rfl (fun j hj => ⟨by rw [HZc.out.row.cell (by have : j < 2 := hj; omega)]; rfl, HZc.out.row.frozen _⟩) infoTg (by simp [Value.oneCell']) ?_)
      rw [show (Wc.setCells w5.heap.size 5 _) = (Wc.setCell ⟨w5.heap.size, 5, none⟩ (.int .u64 (TE : Nat))).setCell ⟨w5.heap.size, 6, none⟩ (.int .u64 (TS : Nat)) from rfl]
      have HZ8 : Hid (Pz w4 rb ⟨E, TE, TS, V, WT⟩ w.heap.size E w5.heap.size (N + 1) ((Wc.setCell ⟨w5.heap.size, 5, none⟩ (.int .u64 (TE : Nat))).setCell ⟨w5.heap.size, 6, none⟩ (.int .u64 (TS : Nat))) ((((ansG m 2).setN 4 (E : Nat)).setN 5 (TE : Nat)).setN 6 (TS : Nat)) none 0) := (HZc.out.set 5 _ (row_setN HZc.out.row 5 (TE : Nat) (by decide) (by decide) (by decide))).set 6 _ (row_setN (row_setN HZc.out.row 5 (TE : Nat) (by decide) (by decide) (by decide)) 6 (TS : Nat) (by decide) (by decide) (by decide))
      have HF8 := hide ((HFc.out.set (ab := w5.heap.size) (c := 5) (v := .int .u64 (TE : Nat)) HNE.out).set (ab := w5.heap.size) (c := 6) (v := .int .u64 (TS : Nat)) HNE.out)
      generalize World.setCell _ ⟨w5.heap.size, 6, none⟩ (.int .u64 (TS : Nat)) = W8 at *
      refine hK.out _ _ ⟨HZ8.out.rp, HZ8.out.c4⟩ fun _ => ?_
      clear hK
      simp only [List.getElem_toArray, List.getElem_cons_zero, List.getElem_cons_succ, Act.put]
      refine wpAnyH_take (i := 15) (v := .pointer (some ⟨w5.heap.size, 10, none⟩)) rfl (by kernel_rfl) (by kernel_rfl) (by kernel_rfl) (fun _ _ _ h => h) (.inl ⟨rfl, fun W hW => by kernel_rfl⟩) ⟨HZ8.out.rp, HZ8.out.c4⟩ ?_
      simp only [List.getElem_toArray, List.getElem_cons_zero, List.getElem_cons_succ, Act.put, List.setIfInBounds_toArray, List.set_cons_zero, List.set_cons_succ]
      refine wpAnyH_ready (rs := [16]) (by kernel_rfl) (by simp) ?_
      refine AllReadyH.cons rfl (fun K hK => ?_) AllReadyH.nil
      refine step_storeM rfl (wp_store_cell 25 (.tmp 54) (.tmp 51) rfl w5.heap.size 10 (.slice (some ⟨N, 0, none⟩) V.length C) _ rfl rfl (HZ8.out.row.cell (i := 10) (by decide)) (HZ8.out.row.frozen 10) (by kernel_rfl) rfl ?_)
      have HZ9 : Hid (Pz w4 rb ⟨E, TE, TS, V, WT⟩ w.heap.size E w5.heap.size (N + 1) (W8.setCell ⟨w5.heap.size, 10, none⟩ (.slice (some ⟨N, 0, none⟩) V.length C)) (prG m E ⟨P, TE, TS, V, WT⟩) (some ⟨N, 0, none⟩) C) := HZ8.out.set 10 _ (row_setV HZ8.out.row V (some ⟨N, 0, none⟩) C)
      have HF9 := hide (HF8.out.set (ab := w5.heap.size) (c := 10) (v := .slice (some ⟨N, 0, none⟩) V.length C) HNE.out)
      generalize World.setCell _ ⟨w5.heap.size, 10, none⟩ (.slice (some ⟨N, 0, none⟩) V.length C) = W9 at *
      refine hK.out _ _ ⟨HZ9.out.rp, HZ9.out.c4⟩ fun _ => ?_
      clear hK
      simp only [List.getElem_toArray, List.getElem_cons_zero, List.getElem_cons_succ, Act.put]
      obtain ⟨MB, HL, WA, HMB, HIM, HME, HHL, HTA, HIH, HAL, HWA, HHA, HE⟩ := HEND.out W9 C HZ9.out HF9.out
      refine wpAnyH_done (by kernel_rfl) ?_ _
      go_upto_region 6 with fail
      refine wp_region_lit ?_
      refine wpList_load_row rfl 41 (.tmp 6) rfl w5.heap.size rfl _ MB (0, 0) _ HMB.out Try.underlying41 rfl HIM.out ?_
      simp only [Act.put, List.setIfInBounds_toArray, List.set_cons_zero, List.set_cons_succ]
      refine wpList_plain rfl fun _ hK => op_run (.bool CH) (by kernel_rfl) (hK _ _ ?_)
      simp only [Act.put, List.setIfInBounds_toArray, List.set_cons_zero, List.set_cons_succ]
      refine wpList_plain rfl fun _ hK => op_run (.agg HL) (by rw [← HHL.out, prG_v, HME.out]; kernel_rfl) (hK _ _ ?_)
      refine wpList_store_mid rfl 46 (.tmp 4) (.tmp 57) rfl (w.heap.size + 1) 0 HL rfl rfl HTA.out HIH.out HAL.out ?_
      rw [HWA.out]
      go_wp2_with fail
      exact bodyPost_ret_by (results_cell_row rfl _ _ (w.heap.size + 1) 46 _ (0, 0) _ rfl HHA.out Try.underlying46 rfl HIH.out) rfl ⟨_, _, congrArg _ HHL.out.symm, HE.out⟩
    refine AllReadyH.cons rfl (fun K hK => ?_) AllReadyH.nil
    refine step_storeM rfl (wp_store_mid 24 (.tmp 53) (.tmp 46) rfl w5.heap.size 5 _ rfl rfl (fun j hj => ⟨by rw [HZ7.out.row.cell (by have : j < 2 := hj; omega)]; rfl, HZ7.out.row.frozen _⟩) infoTg (by simp [Value.oneCell']) ?_)
    rw [show (W7.setCells w5.heap.size 5 _) = (W7.setCell ⟨w5.heap.size, 5, none⟩ (.int .u64 (TE : Nat))).setCell ⟨w5.heap.size, 6, none⟩ (.int .u64 (TS : Nat)) from rfl]
    have HZ8 : Hid (Pz w4 rb ⟨E, TE, TS, V, WT⟩ w.heap.size E w5.heap.size N ((W7.setCell ⟨w5.heap.size, 5, none⟩ (.int .u64 (TE : Nat))).setCell ⟨w5.heap.size, 6, none⟩ (.int .u64 (TS : Nat))) ((((ansG m 2).setN 4 (E : Nat)).setN 5 (TE : Nat)).setN 6 (TS : Nat)) none 0) := (HZ7.out.set 5 _ (row_setN HZ7.out.row 5 (TE : Nat) (by decide) (by decide) (by decide))).set 6 _ (row_setN (row_setN HZ7.out.row 5 (TE : Nat) (by decide) (by decide) (by decide)) 6 (TS : Nat) (by decide) (by decide) (by decide))
    generalize World.setCell _ ⟨w5.heap.size, 6, none⟩ (.int .u64 (TS : Nat)) = W8 at *
    refine hK.out _ _ ⟨HZ8.out.rp, HZ8.out.c4⟩ fun _ => ?_
    clear hK
    simp only [List.getElem_toArray, List.getElem_cons_zero, List.getElem_cons_succ, Act.put]
    refine wpAnyH_ready (rs := [10]) (by kernel_rfl) (by simp) ?_
    refine AllReadyH.cons rfl (fun K hK => ?_) AllReadyH.nil
    obtain ⟨C, Wc, HCV, HZc, HFc⟩ := HZ8.out.conv V
    refine step_storeM rfl (op_runW (w' := Wc) (.slice (some ⟨N, 0, none⟩) V.length C) ?_ ?_)
    · have r := HCV.out
      go_simp
    refine hK.out _ _ ⟨HZc.out.rp, HZc.out.c4⟩ fun _ => ?_
    clear hK
    simp only [List.getElem_toArray, List.getElem_cons_zero, List.getElem_cons_succ, Act.put, List.setIfInBounds_toArray, List.set_cons_zero, List.set_cons_succ]
    refine wpAnyH_take (i := 15) (v := .pointer (some ⟨w5.heap.size, 10, none⟩)) rfl (by kernel_rfl) (by kernel_rfl) (by kernel_rfl) (fun _ _ _ h => h) (.inl ⟨rfl, fun W hW => by kernel_rfl⟩) ⟨HZc.out.rp, HZc.out.c4⟩ ?_
    simp only [List.getElem_toArray, List.getElem_cons_zero, List.getElem_cons_succ, Act.put, List.setIfInBounds_toArray, List.set_cons_zero, List.set_cons_succ]
    refine wpAnyH_ready (rs := [16]) (by kernel_rfl) (by simp) ?_
    refine AllReadyH.cons rfl (fun K hK => ?_) AllReadyH.nil
    refine step_storeM rfl (wp_store_cell 25 (.tmp 54) (.tmp 51) rfl w5.heap.size 10 (.slice (some ⟨N, 0, none⟩) V.length C) _ rfl rfl (HZc.out.row.cell (i := 10) (by decide)) (HZc.out.row.frozen 10) (by kernel_rfl) rfl ?_)
    have HZ9 : Hid (Pz w4 rb ⟨E, TE, TS, V, WT⟩ w.heap.size E w5.heap.size (N + 1) (Wc.setCell ⟨w5.heap.size, 10, none⟩ (.slice (some ⟨N, 0, none⟩) V.length C)) (prG m E ⟨P, TE, TS, V, WT⟩) (some ⟨N, 0, none⟩) C) := HZc.out.set 10 _ (row_setV HZc.out.row V (some ⟨N, 0, none⟩) C)
    have HF9 := hide (HFc.out.set (ab := w5.heap.size) (c := 10) (v := .slice (some ⟨N, 0, none⟩) V.length C) HNE.out)
    generalize World.setCell _ ⟨w5.heap.size, 10, none⟩ (.slice (some ⟨N, 0, none⟩) V.length C) = W9 at *
    refine hK.out _ _ ⟨HZ9.out.rp, HZ9.out.c4⟩ fun _ => ?_
    clear hK
    simp only [List.getElem_toArray, List.getElem_cons_zero, List.getElem_cons_succ, Act.put]
    obtain ⟨MB, HL, WA, HMB, HIM, HME, HHL, HTA, HIH, HAL, HWA, HHA, HE⟩ := HEND.out W9 C HZ9.out HF9.out
    refine wpAnyH_done (by kernel_rfl) ?_ _
    go_upto_region 6 with fail
    refine wp_region_lit ?_
    refine wpList_load_row rfl 41 (.tmp 6) rfl w5.heap.size rfl _ MB (0, 0) _ HMB.out Try.underlying41 rfl HIM.out ?_
    simp only [Act.put, List.setIfInBounds_toArray, List.set_cons_zero, List.set_cons_succ]
    refine wpList_plain rfl fun _ hK => op_run (.bool CH) (by kernel_rfl) (hK _ _ ?_)
    simp only [Act.put, List.setIfInBounds_toArray, List.set_cons_zero, List.set_cons_succ]
    refine wpList_plain rfl fun _ hK => op_run (.agg HL) (by rw [← HHL.out, prG_v, HME.out]; kernel_rfl) (hK _ _ ?_)
    refine wpList_store_mid rfl 46 (.tmp 4) (.tmp 57) rfl (w.heap.size + 1) 0 HL rfl rfl HTA.out HIH.out HAL.out ?_
    rw [HWA.out]
    go_wp2_with fail
    exact bodyPost_ret_by (results_cell_row rfl _ _ (w.heap.size + 1) 46 _ (0, 0) _ rfl HHA.out Try.underlying46 rfl HIH.out) rfl ⟨_, _, congrArg _ HHL.out.symm, HE.out⟩
  · replace hge : P < E := hge
    replace hg0 : WT = 0 := hg0
    have hq5 : decide (WT > 0) = false := by simp; omega
    have hq6 : ¬ (WT > 0) := by omega
    have hq3 : decide ((E : Int) > (P : Int)) = true := by simp; omega
    have hq4 : ((E : Int) > (P : Int)) := by omega
    clear s1 r1 s2 r2 rm2 sw2 z2 hrp hR2 h h4 hge hg0 HCH hE KEY HWL
    unfold mgV
    rw [HMM.out]
    go_enter Try.func32, Try.ntmps32
    go_upto_region 1 with fail
    rw [HW1.out]
    try rw [z1]
    rw [HW2.out]
    try rw [z1]
    clear HW1 HW2 z1
    go_quiet (fail)
    have hsq : W2.Since W2.heap.size (W2.drewN nq) := since_drewN' (World.Since.refl _ _) nq
    generalize W2.drewN nq = Wq at *
    have cq4 := HC4.out Wq hsq
    have HQ3 := hide (HPR.out Wq hsq)
    clear HPR c4 cp cw hq hq2 hq3 hq4 hq5 hq6 HC4
    go_wp2_with fail
    refine HQ3.out.mono ?_
    rintro e w4 ⟨rfl, H4⟩
    clear HQ3 cq4 hsq
    have hne : w.heap.size ≠ rb := by have := HLT.out; omega
    have HH4 : Hid (w4.heap[w.heap.size]? = some (.cells MM 41 (0, 0))) := by rw [← HMM.out]; exact row_heap (H4.out.2.row HRM.out hne)
    have HAN : Hid (Calls Try.prog 36 #[.agg MM, .int .i64 2] w4 fun e w' => e = .returned (mgV (ansG m 2) none 0) ∧ w4.Since w4.heap.size w') := by
      have q := answer_any m va vc 2 w4
      unfold mgV at q
      rw [HMM.out] at q
      exact q
    go_wp2_with (refine wpList_load_row rfl 41 _ rfl w.heap.size rfl _ _ (0, 0) _ HH4.out Try.underlying41 rfl HINM.out ?_)
    refine HAN.out.mono ?_
    rintro e w5 ⟨rfl, hs5⟩
    obtain ⟨W6, MA, HMV, HT6, HW6, HIN, HON, HH6, HS6⟩ := mg_put w5 (ansG m 2) none 0
    rw [HMV.out]
    go_upto_region 5 with (refine wpList_store_mid rfl 41 _ _ rfl w5.heap.size 0 _ rfl rfl HT6.out HIN.out HON.out ?_; rw [HW6.out])
    have s46 : w4.Since w4.heap.size W6 := hs5.trans (since_mono HS6.out hs5.size)
    have hz2 := Hz2.out
    have hz4 : W2.heap.size ≤ w4.heap.size := H4.out.2.size
    have hz5 := hs5.size
    have r6 : W6.rowIs w5.heap.size 41 22 (mgCell (ansG m 2) none 0) := mg_cells (HH6.out W6 (World.Since.refl _ _)) HMV.out
    have hz6 : w5.heap.size < W6.heap.size := r6.lt
    have hrm6 := row_since (H4.out.2.row HRM.out hne) s46
    have hR6 : RpIs W6 rb ⟨E, TE, TS, V, WT⟩ := H4.out.1.since s46
    have hltr := HLT.out
    have hc6 : W6.drew.cell? ⟨w.heap.size, 4, none⟩ = some (.int .u64 (E : Nat)) := by
      have : W6.drew.cell? ⟨w.heap.size, 4, none⟩ = some (.int .u64 (m.n 4)) := hrm6.cell (i := 4) (by decide)
      rw [this, H44.out]
    have HZ0 : Hid (Pz w4 rb ⟨E, TE, TS, V, WT⟩ w.heap.size E w5.heap.size W6.heap.size W6.drew (ansG m 2) none 0) := ⟨hR6.since ((World.Since.refl _ _).drew), hc6, r6, s46.drew, rfl, hz5, by omega, by omega⟩
    have hhn : w.heap.size + 1 ≠ rb := by omega
    have HEND : Hid (∀ (W9 : World) (C : Nat), Pz w4 rb ⟨E, TE, TS, V, WT⟩ w.heap.size E w5.heap.size (W6.heap.size + 1) W9 (prG m E ⟨P, TE, TS, V, WT⟩) (some ⟨W6.heap.size, 0, none⟩) C → FlB W9 W6.heap.size C (strL V) → ∃ (MB HL : Array Value) (WA : World), Hid (W9.heap[w5.heap.size]? = some (.cells MB 41 (0, 0))) ∧ Hid ((Try.prog.info? 41).map (·.size) = some MB.size) ∧ Hid (MB = (mgL (prG m E ⟨P, TE, TS, V, WT⟩) (some ⟨W6.heap.size, 0, none⟩) C).toArray) ∧ Hid (hdV (prG m E ⟨P, TE, TS, V, WT⟩) (some ⟨W6.heap.size, 0, none⟩) C true false CH = .agg HL) ∧ Hid (W9.there (w.heap.size + 1) 0 HL.size) ∧ Hid ((Try.prog.info? 46).map (·.size) = some HL.size) ∧ Hid (HL.all (·.oneCell') = true) ∧ Hid (W9.setCells (w.heap.size + 1) 0 HL.toList = WA) ∧ Hid (WA.heap[w.heap.size + 1]? = some (.cells HL 46 (0, 0))) ∧ Hid (RpIs WA rb ⟨E, TE, TS, V, WT⟩ ∧ But rb w WA ∧ w.heap.size ≤ W6.heap.size ∧ FlB WA W6.heap.size C (strL V))) := fun W9 C hz hF => by
      have s49 := hz.since
      have rr9 := row_since (H4.out.2.row HRW.out hhn) s49
      obtain ⟨WA, HWA, hhA, zA, bA, oA, tA, pA⟩ := cells_stored rr9 (hdL (prG m E ⟨P, TE, TS, V, WT⟩) (some ⟨W6.heap.size, 0, none⟩) C true false CH) (hdL_len _ _ _ _ _ _)
      have bt9 : But rb w W9 := ((But.of_since HS2.out).trans H4.out.2).trans (But.of_since s49)
      have e : (hdL (prG m E ⟨P, TE, TS, V, WT⟩) (some ⟨W6.heap.size, 0, none⟩) C true false CH).toArray.size = 25 := by rw [List.size_toArray, hdL_len]
      refine ⟨_, _, WA, row_heap hz.row, infoMgA _ _ _, rfl, rfl, ?_, infoHrA _ _ _ _ _ _, hd_all _ _ _ _ _ _, HWA, hhA, (H4.out.1.since s49).on (bA _ (fun e => hhn e.symm)), ⟨oA.trans bt9.os, tA.trans bt9.tape, pA.trans bt9.output, by rw [zA]; exact bt9.size, fun k hk hr => ?_⟩, by omega, hF.on (bA _ (by omega))⟩
      · show World.there _ _ _ _
        rw [e]
        exact row_there rr9
      · rw [bA k (by omega)]
        exact bt9.block k hk hr
    have hzd : W6.heap.size ≠ w5.heap.size := by omega
    have HNE := hide hzd
    clear r6 s46 HH6 HS6 HT6 HON HIN HMV hs5 HW6 HH4 HAN H4 HRM HRW HS2 Hz2 HLT hz2 hz4 hz5 hz6 hrm6 hne hhn HMM HINM hR6 hc6 hltr hok HEE H44 hzd
    generalize W6.heap.size = N at *
    refine wp_region_held_drew (S := fun W => RpIs W rb ⟨E, TE, TS, V, WT⟩ ∧ W.cell? ⟨w.heap.size, 4, none⟩ = some (.int .u64 (E : Nat))) (by kernel_rfl) ⟨HZ0.out.rp, HZ0.out.c4⟩ fun _ => ?_
    refine wpAnyH_take (i := 0) (v := .pointer (some ⟨w.heap.size, 4, none⟩)) rfl (by kernel_rfl) (by kernel_rfl) (by kernel_rfl) (fun _ _ _ h => h) (.inl ⟨rfl, fun W hW => by kernel_rfl⟩) ⟨HZ0.out.rp, HZ0.out.c4⟩ ?_
    simp only [List.getElem_toArray, List.getElem_cons_zero, Act.put, List.setIfInBounds_toArray, List.set_cons_zero, List.set_cons_succ]
    refine wpAnyH_take (i := 1) (v := .int .u64 (E : Nat)) rfl (by kernel_rfl) (by kernel_rfl) (by kernel_rfl) (fun _ _ _ h => h) (.inl ⟨rfl, fun W hW => by have c := hW.2; go_simp⟩) ⟨HZ0.out.rp, HZ0.out.c4⟩ ?_
    simp only [List.getElem_toArray, List.getElem_cons_zero, List.getElem_cons_succ, Act.put, List.setIfInBounds_toArray, List.set_cons_zero, List.set_cons_succ]
    refine wpAnyH_take (i := 2) (v := .pointer (some ⟨rb, 0, none⟩)) rfl (by kernel_rfl) (by kernel_rfl) (by kernel_rfl) (fun _ _ _ h => h) (.inl ⟨rfl, fun W hW => by kernel_rfl⟩) ⟨HZ0.out.rp, HZ0.out.c4⟩ ?_
    simp only [List.getElem_toArray, List.getElem_cons_zero, List.getElem_cons_succ, Act.put, List.setIfInBounds_toArray, List.set_cons_zero, List.set_cons_succ]
    refine wpAnyH_take (i := 3) (v := .pointer (some ⟨rb, 0, none⟩)) rfl (by kernel_rfl) (by kernel_rfl) (by kernel_rfl) (fun _ _ _ h => h) (.inl ⟨rfl, fun W hW => by first | kernel_rfl | go_simp⟩) ⟨HZ0.out.rp, HZ0.out.c4⟩ ?_
    simp only [List.getElem_toArray, List.getElem_cons_zero, List.getElem_cons_succ, Act.put, List.setIfInBounds_toArray, List.set_cons_zero, List.set_cons_succ]
    refine wpAnyH_take (i := 4) (v := .pointer (some ⟨rb, 1, none⟩)) rfl (by kernel_rfl) (by kernel_rfl) (by kernel_rfl) (fun _ _ _ h => h) (.inl ⟨rfl, fun W hW => by kernel_rfl⟩) ⟨HZ0.out.rp, HZ0.out.c4⟩ ?_
    simp only [List.getElem_toArray, List.getElem_cons_zero, List.getElem_cons_succ, Act.put, List.setIfInBounds_toArray, List.set_cons_zero, List.set_cons_succ]
    refine wpAnyH_take (i := 5) (v := .agg #[.int .u64 (TE : Nat), .int .u64 (TS : Nat)]) rfl (by kernel_rfl) (by kernel_rfl) (by kernel_rfl) (fun _ _ _ h => h) (.inl ⟨rfl, fun W hW => by have c := hW.1.c1; have c2 := hW.1.c2; go_simp⟩) ⟨HZ0.out.rp, HZ0.out.c4⟩ ?_
    simp only [List.getElem_toArray, List.getElem_cons_zero, List.getElem_cons_succ, Act.put, List.setIfInBounds_toArray, List.set_cons_zero, List.set_cons_succ]
    refine wpAnyH_take (i := 6) (v := .pointer (some ⟨rb, 0, none⟩)) rfl (by kernel_rfl) (by kernel_rfl) (by kernel_rfl) (fun _ _ _ h => h) (.inl ⟨rfl, fun W hW => by kernel_rfl⟩) ⟨HZ0.out.rp, HZ0.out.c4⟩ ?_
    simp only [List.getElem_toArray, List.getElem_cons_zero, List.getElem_cons_succ, Act.put, List.setIfInBounds_toArray, List.set_cons_zero, List.set_cons_succ]
    refine wpAnyH_take (i := 7) (v := .pointer (some ⟨rb, 0, none⟩)) rfl (by kernel_rfl) (by kernel_rfl) (by kernel_rfl) (fun _ _ _ h => h) (.inl ⟨rfl, fun W hW => by first | kernel_rfl | go_simp⟩) ⟨HZ0.out.rp, HZ0.out.c4⟩ ?_
    simp only [List.getElem_toArray, List.getElem_cons_zero, List.getElem_cons_succ, Act.put, List.setIfInBounds_toArray, List.set_cons_zero, List.set_cons_succ]
    refine wpAnyH_take (i := 8) (v := .pointer (some ⟨rb, 3, none⟩)) rfl (by kernel_rfl) (by kernel_rfl) (by kernel_rfl) (fun _ _ _ h => h) (.inl ⟨rfl, fun W hW => by kernel_rfl⟩) ⟨HZ0.out.rp, HZ0.out.c4⟩ ?_
    simp only [List.getElem_toArray, List.getElem_cons_zero, List.getElem_cons_succ, Act.put, List.setIfInBounds_toArray, List.set_cons_zero, List.set_cons_succ]
    refine wpAnyH_take (i := 9) (v := .string (strL V)) rfl (by kernel_rfl) (by kernel_rfl) (by kernel_rfl) (fun _ _ _ h => h) (.inl ⟨rfl, fun W hW => by have c := hW.1.c3; go_simp⟩) ⟨HZ0.out.rp, HZ0.out.c4⟩ ?_
    simp only [List.getElem_toArray, List.getElem_cons_zero, List.getElem_cons_succ, Act.put, List.setIfInBounds_toArray, List.set_cons_zero, List.set_cons_succ]
    refine wpAnyH_take (i := 11) (v := .pointer (some ⟨w5.heap.size, 4, none⟩)) rfl (by kernel_rfl) (by kernel_rfl) (by kernel_rfl) (fun _ _ _ h => h) (.inl ⟨rfl, fun W hW => by kernel_rfl⟩) ⟨HZ0.out.rp, HZ0.out.c4⟩ ?_
    simp only [List.getElem_toArray, List.getElem_cons_zero, List.getElem_cons_succ, Act.put, List.setIfInBounds_toArray, List.set_cons_zero, List.set_cons_succ]
    refine wpAnyH_ready (rs := [10, 12]) (by kernel_rfl) (by simp) ?_
    refine AllReadyH.cons rfl (fun K hK => ?_) ?_
    · skip
      obtain ⟨C, Wc, HCV, HZc, HFc⟩ := HZ0.out.conv V
      refine step_storeM rfl (op_runW (w' := Wc) (.slice (some ⟨N, 0, none⟩) V.length C) ?_ ?_)
      · have r := HCV.out
        go_simp
      refine hK.out _ _ ⟨HZc.out.rp, HZc.out.c4⟩ fun _ => ?_
      clear hK
      simp only [List.getElem_toArray, List.getElem_cons_zero, List.getElem_cons_succ, Act.put, List.setIfInBounds_toArray, List.set_cons_zero, List.set_cons_succ]
      refine wpAnyH_ready (rs := [12]) (by kernel_rfl) (by simp) ?_
      refine AllReadyH.cons rfl (fun K hK => ?_) AllReadyH.nil
      refine step_storeM rfl (wp_store_cell 22 (.tmp 52) (.tmp 42) rfl w5.heap.size 4 (.int .u64 (E : Nat)) _ rfl rfl (HZc.out.row.cell (i := 4) (by decide)) (HZc.out.row.frozen 4) (by kernel_rfl) rfl ?_)
      have HZ7 : Hid (Pz w4 rb ⟨E, TE, TS, V, WT⟩ w.heap.size E w5.heap.size (N + 1) (Wc.setCell ⟨w5.heap.size, 4, none⟩ (.int .u64 (E : Nat))) ((ansG m 2).setN 4 (E : Nat)) none 0) := (HZc.out.set 4 _ (row_setN HZc.out.row 4 (E : Nat) (by decide) (by decide) (by decide)))
      have HF7 := hide (HFc.out.set (ab := w5.heap.size) (c := 4) (v := .int .u64 (E : Nat)) HNE.out)
      generalize World.setCell _ ⟨w5.heap.size, 4, none⟩ (.int .u64 (E : Nat)) = W7 at *
      refine hK.out _ _ ⟨HZ7.out.rp, HZ7.out.c4⟩ fun _ => ?_
      clear hK
      simp only [List.getElem_toArray, List.getElem_cons_zero, List.getElem_cons_succ, Act.put]
      refine wpAnyH_take (i := 13) (v := .pointer (some ⟨w5.heap.size, 5, none⟩)) rfl (by kernel_rfl) (by kernel_rfl) (by kernel_rfl) (fun _ _ _ h => h) (.inl ⟨rfl, fun W hW => by kernel_rfl⟩) ⟨HZ7.out.rp, HZ7.out.c4⟩ ?_
      simp only [List.getElem_toArray, List.getElem_cons_zero, List.getElem_cons_succ, Act.put, List.setIfInBounds_toArray, List.set_cons_zero, List.set_cons_succ]
      refine wpAnyH_ready (rs := [14]) (by kernel_rfl) (by simp) ?_
      refine AllReadyH.cons rfl (fun K hK => ?_) AllReadyH.nil
      refine step_storeM rfl (wp_store_mid 24 (.tmp 53) (.tmp 46) rfl w5.heap.size 5 _ rfl rfl (fun j hj => ⟨by rw [HZ7.out.row.cell (by have : j < 2 := hj; omega)]; rfl, HZ7.out.row.frozen _⟩) infoTg (by simp [Value.oneCell']) ?_)
      rw [show (W7.setCells w5.heap.size 5 _) = (W7.setCell ⟨w5.heap.size, 5, none⟩ (.int .u64 (TE : Nat))).setCell ⟨w5.heap.size, 6, none⟩ (.int .u64 (TS : Nat)) from rfl]
      have HZ8 : Hid (Pz w4 rb ⟨E, TE, TS, V, WT⟩ w.heap.size E w5.heap.size (N + 1) ((W7.setCell ⟨w5.heap.size, 5, none⟩ (.int .u64 (TE : Nat))).setCell ⟨w5.heap.size, 6, none⟩ (.int .u64 (TS : Nat))) ((((ansG m 2).setN 4 (E : Nat)).setN 5 (TE : Nat)).setN 6 (TS : Nat)) none 0) := (HZ7.out.set 5 _ (row_setN HZ7.out.row 5 (TE : Nat) (by decide) (by decide) (by decide))).set 6 _ (row_setN (row_setN HZ7.out.row 5 (TE : Nat) (by decide) (by decide) (by decide)) 6 (TS : Nat) (by decide) (by decide) (by decide))
      have HF8 := hide ((HF7.out.set (ab := w5.heap.size) (c := 5) (v := .int .u64 (TE : Nat)) HNE.out).set (ab := w5.heap.size) (c := 6) (v := .int .u64 (TS : Nat)) HNE.out)
      generalize World.setCell _ ⟨w5.heap.size, 6, none⟩ (.int .u64 (TS : Nat)) = W8 at *
      refine hK.out _ _ ⟨HZ8.out.rp, HZ8.out.c4⟩ fun _ => ?_
      clear hK
      simp only [List.getElem_toArray, List.getElem_cons_zero, List.getElem_cons_succ, Act.put]
      refine wpAnyH_take (i := 15) (v := .pointer (some ⟨w5.heap.size, 10, none⟩)) rfl (by kernel_rfl) (by kernel_rfl) (by kernel_rfl) (fun _ _ _ h => h) (.inl ⟨rfl, fun W hW => by kernel_rfl⟩) ⟨HZ8.out.rp, HZ8.out.c4⟩ ?_
      simp only [List.getElem_toArray, List.getElem_cons_zero, List.getElem_cons_succ, Act.put, List.setIfInBounds_toArray, List.set_cons_zero, List.set_cons_succ]
      refine wpAnyH_ready (rs := [16]) (by kernel_rfl) (by simp) ?_
      refine AllReadyH.cons rfl (fun K hK => ?_) AllReadyH.nil
      refine step_storeM rfl (wp_store_cell 25 (.tmp 54) (.tmp 51) rfl w5.heap.size 10 (.slice (some ⟨N, 0, none⟩) V.length C) _ rfl rfl (HZ8.out.row.cell (i := 10) (by decide)) (HZ8.out.row.frozen 10) (by kernel_rfl) rfl ?_)
      have HZ9 : Hid (Pz w4 rb ⟨E, TE, TS, V, WT⟩ w.heap.size E w5.heap.size (N + 1) (W8.setCell ⟨w5.heap.size, 10, none⟩ (.slice (some ⟨N, 0, none⟩) V.length C)) (prG m E ⟨P, TE, TS, V, WT⟩) (some ⟨N, 0, none⟩) C) := HZ8.out.set 10 _ (row_setV HZ8.out.row V (some ⟨N, 0, none⟩) C)
      have HF9 := hide (HF8.out.set (ab := w5.heap.size) (c := 10) (v := .slice (some ⟨N, 0, none⟩) V.length C) HNE.out)
      generalize World.setCell _ ⟨w5.heap.size, 10, none⟩ (.slice (some ⟨N, 0, none⟩) V.length C) = W9 at *
      refine hK.out _ _ ⟨HZ9.out.rp, HZ9.out.c4⟩ fun _ => ?_
      clear hK
      simp only [List.getElem_toArray, List.getElem_cons_zero, List.getElem_cons_succ, Act.put]
      obtain ⟨MB, HL, WA, HMB, HIM, HME, HHL, HTA, HIH, HAL, HWA, HHA, HE⟩ := HEND.out W9 C HZ9.out HF9.out
      refine wpAnyH_done (by kernel_rfl) ?_ _
      go_upto_region 6 with fail
      refine wp_region_lit ?_
      refine wpList_load_row rfl 41 (.tmp 6) rfl w5.heap.size rfl _ MB (0, 0) _ HMB.out Try.underlying41 rfl HIM.out ?_
      simp only [Act.put, List.setIfInBounds_toArray, List.set_cons_zero, List.set_cons_succ]
      refine wpList_plain rfl fun _ hK => op_run (.bool CH) (by kernel_rfl) (hK _ _ ?_)
      simp only [Act.put, List.setIfInBounds_toArray, List.set_cons_zero, List.set_cons_succ]
      refine wpList_plain rfl fun _ hK => op_run (.agg HL) (by rw [← HHL.out, prG_v, HME.out]; kernel_rfl) (hK _ _ ?_)
      refine wpList_store_mid rfl 46 (.tmp 4) (.tmp 57) rfl (w.heap.size + 1) 0 HL rfl rfl HTA.out HIH.out HAL.out ?_
      rw [HWA.out]
      go_wp2_with fail
      exact bodyPost_ret_by (results_cell_row rfl _ _ (w.heap.size + 1) 46 _ (0, 0) _ rfl HHA.out Try.underlying46 rfl HIH.out) rfl ⟨_, _, congrArg _ HHL.out.symm, HE.out⟩
    refine AllReadyH.cons rfl (fun K hK => ?_) AllReadyH.nil
    refine step_storeM rfl (wp_store_cell 22 (.tmp 52) (.tmp 42) rfl w5.heap.size 4 (.int .u64 (E : Nat)) _ rfl rfl (HZ0.out.row.cell (i := 4) (by decide)) (HZ0.out.row.frozen 4) (by kernel_rfl) rfl ?_)
    have HZ7 : Hid (Pz w4 rb ⟨E, TE, TS, V, WT⟩ w.heap.size E w5.heap.size N (W6.drew.setCell ⟨w5.heap.size, 4, none⟩ (.int .u64 (E : Nat))) ((ansG m 2).setN 4 (E : Nat)) none 0) := (HZ0.out.set 4 _ (row_setN HZ0.out.row 4 (E : Nat) (by decide) (by decide) (by decide)))
    generalize World.setCell _ ⟨w5.heap.size, 4, none⟩ (.int .u64 (E : Nat)) = W7 at *
    refine hK.out _ _ ⟨HZ7.out.rp, HZ7.out.c4⟩ fun _ => ?_
    clear hK
    simp only [List.getElem_toArray, List.getElem_cons_zero, List.getElem_cons_succ, Act.put]
    refine wpAnyH_take (i := 13) (v := .pointer (some ⟨w5.heap.size, 5, none⟩)) rfl (by kernel_rfl) (by kernel_rfl) (by kernel_rfl) (fun _ _ _ h => h) (.inl ⟨rfl, fun W hW => by kernel_rfl⟩) ⟨HZ7.out.rp, HZ7.out.c4⟩ ?_
    simp only [List.getElem_toArray, List.getElem_cons_zero, List.getElem_cons_succ, Act.put, List.setIfInBounds_toArray, List.set_cons_zero, List.set_cons_succ]
    refine wpAnyH_ready (rs := [10, 14]) (by kernel_rfl) (by simp) ?_
    refine AllReadyH.cons rfl (fun K hK => ?_) ?_
    · skip
      obtain ⟨C, Wc, HCV, HZc, HFc⟩ := HZ7.out.conv V
      refine step_storeM rfl (op_runW (w' := Wc) (.slice (some ⟨N, 0, none⟩) V.length C) ?_ ?_)
      · have r := HCV.out
        go_simp
      refine hK.out _ _ ⟨HZc.out.rp, HZc.out.c4⟩ fun _ => ?_
      clear hK
      simp only [List.getElem_toArray, List.getElem_cons_zero, List.getElem_cons_succ, Act.put, List.setIfInBounds_toArray, List.set_cons_zero, List.set_cons_succ]
      refine wpAnyH_ready (rs := [14]) (by kernel_rfl) (by simp) ?_
      refine AllReadyH.cons rfl (fun K hK => ?_) AllReadyH.nil
      refine step_storeM rfl (wp_store_mid 24 (.tmp 53) (.tmp 46) rfl w5.heap.size 5 _ rfl rfl (fun j hj => ⟨by rw [HZc.out.row.cell (by have : j < 2 := hj; omega)]; rfl, HZc.out.row.frozen _⟩) infoTg (by simp [Value.oneCell']) ?_)
      rw [show (Wc.setCells w5.heap.size 5 _) = (Wc.setCell ⟨w5.heap.size, 5, none⟩ (.int .u64 (TE : Nat))).setCell ⟨w5.heap.size, 6, none⟩ (.int .u64 (TS : Nat)) from rfl]
      have HZ8 : Hid (Pz w4 rb ⟨E, TE, TS, V, WT⟩ w.heap.size E w5.heap.size (N + 1) ((Wc.setCell ⟨w5.heap.size, 5, none⟩ (.int .u64 (TE : Nat))).setCell ⟨w5.heap.size, 6, none⟩ (.int .u64 (TS : Nat))) ((((ansG m 2).setN 4 (E : Nat)).setN 5 (TE : Nat)).setN 6 (TS : Nat)) none 0) := (HZc.out.set 5 _ (row_setN HZc.out.row 5 (TE : Nat) (by decide) (by decide) (by decide))).set 6 _ (row_setN (row_setN HZc.out.row 5 (TE : Nat) (by decide) (by decide) (by decide)) 6 (TS : Nat) (by decide) (by decide) (by decide))
      have HF8 := hide ((HFc.out.set (ab := w5.heap.size) (c := 5) (v := .int .u64 (TE : Nat)) HNE.out).set (ab := w5.heap.size) (c := 6) (v := .int .u64 (TS : Nat)) HNE.out)
      generalize World.setCell _ ⟨w5.heap.size, 6, none⟩ (.int .u64 (TS : Nat)) = W8 at *
      refine hK.out _ _ ⟨HZ8.out.rp, HZ8.out.c4⟩ fun _ => ?_
      clear hK
      simp only [List.getElem_toArray, List.getElem_cons_zero, List.getElem_cons_succ, Act.put]
      refine wpAnyH_take (i := 15) (v := .pointer (some ⟨w5.heap.size, 10, none⟩)) rfl (by kernel_rfl) (by kernel_rfl) (by kernel_rfl) (fun _ _ _ h => h) (.inl ⟨rfl, fun W hW => by kernel_rfl⟩) ⟨HZ8.out.rp, HZ8.out.c4⟩ ?_
      simp only [List.getElem_toArray, List.getElem_cons_zero, List.getElem_cons_succ, Act.put, List.setIfInBounds_toArray, List.set_cons_zero, List.set_cons_succ]
      refine wpAnyH_ready (rs := [16]) (by kernel_rfl) (by simp) ?_
      refine AllReadyH.cons rfl (fun K hK => ?_) AllReadyH.nil
      refine step_storeM rfl (wp_store_cell 25 (.tmp 54) (.tmp 51) rfl w5.heap.size 10 (.slice (some ⟨N, 0, none⟩) V.length C) _ rfl rfl (HZ8.out.row.cell (i := 10) (by decide)) (HZ8.out.row.frozen 10) (by kernel_rfl) rfl ?_)
      have HZ9 : Hid (Pz w4 rb ⟨E, TE, TS, V, WT⟩ w.heap.size E w5.heap.size (N + 1) (W8.setCell ⟨w5.heap.size, 10, none⟩ (.slice (some ⟨N, 0, none⟩) V.length C)) (prG m E ⟨P, TE, TS, V, WT⟩) (some ⟨N, 0, none⟩) C) := HZ8.out.set 10 _ (row_setV HZ8.out.row V (some ⟨N, 0, none⟩) C)
      have HF9 := hide (HF8.out.set (ab := w5.heap.size) (c := 10) (v := .slice (some ⟨N, 0, none⟩) V.length C) HNE.out)
      generalize World.setCell _ ⟨w5.heap.size, 10, none⟩ (.slice (some ⟨N, 0, none⟩) V.length C) = W9 at *
      refine hK.out _ _ ⟨HZ9.out.rp, HZ9.out.c4⟩ fun _ => ?_
      clear hK
      simp only [List.getElem_toArray, List.getElem_cons_zero, List.getElem_cons_succ, Act.put]
      obtain ⟨MB, HL, WA, HMB, HIM, HME, HHL, HTA, HIH, HAL, HWA, HHA, HE⟩ := HEND.out W9 C HZ9.out HF9.out
      refine wpAnyH_done (by kernel_rfl) ?_ _
      go_upto_region 6 with fail
      refine wp_region_lit ?_
      refine wpList_load_row rfl 41 (.tmp 6) rfl w5.heap.size rfl _ MB (0, 0) _ HMB.out Try.underlying41 rfl HIM.out ?_
      simp only [Act.put, List.setIfInBounds_toArray, List.set_cons_zero, List.set_cons_succ]
      refine wpList_plain rfl fun _ hK => op_run (.bool CH) (by kernel_rfl) (hK _ _ ?_)
      simp only [Act.put, List.setIfInBounds_toArray, List.set_cons_zero, List.set_cons_succ]
      refine wpList_plain rfl fun _ hK => op_run (.agg HL) (by rw [← HHL.out, prG_v, HME.out]; kernel_rfl) (hK _ _ ?_)
      refine wpList_store_mid rfl 46 (.tmp 4) (.tmp 57) rfl (w.heap.size + 1) 0 HL rfl rfl HTA.out HIH.out HAL.out ?_
      rw [HWA.out]
      go_wp2_with fail
      exact bodyPost_ret_by (results_cell_row rfl _ _ (w.heap.size + 1) 46 _ (0, 0) _ rfl HHA.out Try.underlying46 rfl HIH.out) rfl ⟨_, _, congrArg _ HHL.out.symm, HE.out⟩
    refine AllReadyH.cons rfl (fun K hK => ?_) AllReadyH.nil
    refine step_storeM rfl (wp_store_mid 24 (.tmp 53) (.tmp 46) rfl w5.heap.size 5 _ rfl rfl (fun j hj => ⟨by rw [HZ7.out.row.cell (by have : j < 2 := hj; omega)]; rfl, HZ7.out.row.frozen _⟩) infoTg (by simp [Value.oneCell']) ?_)
    rw [show (W7.setCells w5.heap.size 5 _) = (W7.setCell ⟨w5.heap.size, 5, none⟩ (.int .u64 (TE : Nat))).setCell ⟨w5.heap.size, 6, none⟩ (.int .u64 (TS : Nat)) from rfl]
    have HZ8 : Hid (Pz w4 rb ⟨E, TE, TS, V, WT⟩ w.heap.size E w5.heap.size N ((W7.setCell ⟨w5.heap.size, 5, none⟩ (.int .u64 (TE : Nat))).setCell ⟨w5.heap.size, 6, none⟩ (.int .u64 (TS : Nat))) ((((ansG m 2).setN 4 (E : Nat)).setN 5 (TE : Nat)).setN 6 (TS : Nat)) none 0) := (HZ7.out.set 5 _ (row_setN HZ7.out.row 5 (TE : Nat) (by decide) (by decide) (by decide))).set 6 _ (row_setN (row_setN HZ7.out.row 5 (TE : Nat) (by decide) (by decide) (by decide)) 6 (TS : Nat) (by decide) (by decide) (by decide))
    generalize World.setCell _ ⟨w5.heap.size, 6, none⟩ (.int .u64 (TS : Nat)) = W8 at *
    refine hK.out _ _ ⟨HZ8.out.rp, HZ8.out.c4⟩ fun _ => ?_
    clear hK
    simp only [List.getElem_toArray, List.getElem_cons_zero, List.getElem_cons_succ, Act.put]
    refine wpAnyH_ready (rs := [10]) (by kernel_rfl) (by simp) ?_
    refine AllReadyH.cons rfl (fun K hK => ?_) AllReadyH.nil
    obtain ⟨C, Wc, HCV, HZc, HFc⟩ := HZ8.out.conv V
    refine step_storeM rfl (op_runW (w' := Wc) (.slice (some ⟨N, 0, none⟩) V.length C) ?_ ?_)
    · have r := HCV.out
      go_simp
    refine hK.out _ _ ⟨HZc.out.rp, HZc.out.c4⟩ fun _ => ?_
    clear hK
    simp only [List.getElem_toArray, List.getElem_cons_zero, List.getElem_cons_succ, Act.put, List.setIfInBounds_toArray, List.set_cons_zero, List.set_cons_succ]
    refine wpAnyH_take (i := 15) (v := .pointer (some ⟨w5.heap.size, 10, none⟩)) rfl (by kernel_rfl) (by kernel_rfl) (by kernel_rfl) (fun _ _ _ h => h) (.inl ⟨rfl, fun W hW => by kernel_rfl⟩) ⟨HZc.out.rp, HZc.out.c4⟩ ?_
    simp only [List.getElem_toArray, List.getElem_cons_zero, List.getElem_cons_succ, Act.put, List.setIfInBounds_toArray, List.set_cons_zero, List.set_cons_succ]
    refine wpAnyH_ready (rs := [16]) (by kernel_rfl) (by simp) ?_
    refine AllReadyH.cons rfl (fun K hK => ?_) AllReadyH.nil
    refine step_storeM rfl (wp_store_cell 25 (.tmp 54) (.tmp 51) rfl w5.heap.size 10 (.slice (some ⟨N, 0, none⟩) V.length C) _ rfl rfl (HZc.out.row.cell (i := 10) (by decide)) (HZc.out.row.frozen 10) (by kernel_rfl) rfl ?_)
    have HZ9 : Hid (Pz w4 rb ⟨E, TE, TS, V, WT⟩ w.heap.size E w5.heap.size (N + 1) (Wc.setCell ⟨w5.heap.size, 10, none⟩ (.slice (some ⟨N, 0, none⟩) V.length C)) (prG m E ⟨P, TE, TS, V, WT⟩) (some ⟨N, 0, none⟩) C) := HZc.out.set 10 _ (row_setV HZc.out.row V (some ⟨N, 0, none⟩) C)
    have HF9 := hide (HFc.out.set (ab := w5.heap.size) (c := 10) (v := .slice (some ⟨N, 0, none⟩) V.length C) HNE.out)
    generalize World.setCell _ ⟨w5.heap.size, 10, none⟩ (.slice (some ⟨N, 0, none⟩) V.length C) = W9 at *
    refine hK.out _ _ ⟨HZ9.out.rp, HZ9.out.c4⟩ fun _ => ?_
    clear hK
    simp only [List.getElem_toArray, List.getElem_cons_zero, List.getElem_cons_succ, Act.put]
    obtain ⟨MB, HL, WA, HMB, HIM, HME, HHL, HTA, HIH, HAL, HWA, HHA, HE⟩ := HEND.out W9 C HZ9.out HF9.out
    refine wpAnyH_done (by kernel_rfl) ?_ _
    go_upto_region 6 with fail
    refine wp_region_lit ?_
    refine wpList_load_row rfl 41 (.tmp 6) rfl w5.heap.size rfl _ MB (0, 0) _ HMB.out Try.underlying41 rfl HIM.out ?_
    simp only [Act.put, List.setIfInBounds_toArray, List.set_cons_zero, List.set_cons_succ]
    refine wpList_plain rfl fun _ hK => op_run (.bool CH) (by kernel_rfl) (hK _ _ ?_)
    simp only [Act.put, List.setIfInBounds_toArray, List.set_cons_zero, List.set_cons_succ]
    refine wpList_plain rfl fun _ hK => op_run (.agg HL) (by rw [← HHL.out, prG_v, HME.out]; kernel_rfl) (hK _ _ ?_)
    refine wpList_store_mid rfl 46 (.tmp 4) (.tmp 57) rfl (w.heap.size + 1) 0 HL rfl rfl HTA.out HIH.out HAL.out ?_
    rw [HWA.out]
    go_wp2_with fail
    exact bodyPost_ret_by (results_cell_row rfl _ _ (w.heap.size + 1) 46 _ (0, 0) _ rfl HHA.out Try.underlying46 rfl HIH.out) rfl ⟨_, _, congrArg _ HHL.out.symm, HE.out⟩
end Go.Proofs.Yteneaiaejdgpcaa

/- Package replica: compare. -/
namespace Go.Proofs.Yteneaiaejdgpcaa
open Go.RowKit
set_option maxRecDepth 100000
set_option maxRecDepth 100000

/-- How two numbers stand. -/
def cmN (x y : Nat) : Int := if x < y then -1 else if y < x then 1 else 0
theorem nan_any (x : Nat) (w : World) : Calls Try.prog 40 #[.int .u64 (x : Nat)] w fun e w' => e = .returned (.bool false) ∧ w' = w := by
  have h : ((x : Int) != (x : Int)) = false := by simp
  go_enter Try.func40, Try.ntmps40
  go_wp2_with fail
  go_ret
  exact ⟨rfl, rfl⟩
theorem compareN_any (x y : Nat) (w : World) : Calls Try.prog 39 #[.int .u64 (x : Nat), .int .u64 (y : Nat)] w fun e w' => e = .returned (.int .i64 (cmN x y)) ∧ w' = w := by
  have hn : ∀ (x : Nat) (w : World), _ := fun x w => nan_any x w
  unfold cmN
  by_cases h1 : x < y
  · rw [if_pos h1]
    have h1' : (x : Int) < (y : Int) := by omega
    go_enter Try.func39, Try.ntmps39
    go_wp2_with (go_at_call 40; refine (hn _ _).mono ?_; rintro e w' ⟨rfl, rfl⟩)
    go_ret
    exact ⟨rfl, rfl⟩
  · rw [if_neg h1]
    have h1' : ¬ (x : Int) < (y : Int) := by omega
    by_cases h2 : y < x
    · rw [if_pos h2]
      have h2' : (x : Int) > (y : Int) := by omega
      go_enter Try.func39, Try.ntmps39
      go_wp2_with (go_at_call 40; refine (hn _ _).mono ?_; rintro e w' ⟨rfl, rfl⟩)
      go_ret
      exact ⟨rfl, rfl⟩
    · rw [if_neg h2]
      have h2' : ¬ (x : Int) > (y : Int) := by omega
      go_enter Try.func39, Try.ntmps39
      go_wp2_with (go_at_call 40; refine (hn _ _).mono ?_; rintro e w' ⟨rfl, rfl⟩)
      go_ret
      exact ⟨rfl, rfl⟩
/-- The first that is not zero. -/
def orM (x y : Int) : Int := if x = 0 then y else x

theorem or_any (x y : Int) (b : Nat) (w : World) (h0 : w.cell? ⟨b, 0, none⟩ = some (.int .i64 x)) (h1 : w.cell? ⟨b, 1, none⟩ = some (.int .i64 y)) :
    Calls Try.prog 38 #[.slice (some ⟨b, 0, none⟩) 2 2] w fun e w' => e = .returned (.int .i64 (orM x y)) ∧ w' = w := by
  by_cases hx : x = 0
  · have e : orM x y = y := if_pos hx
    rw [e]
    have ex : (x == 0) = true := by rw [hx]; rfl
    go_enter Try.func38, Try.ntmps38
    go_wp2
    go_loopg [5, 8] 2 (fun q v s8 wr => ∃ i : Nat, i ≤ 2 ∧ q = 2 - i ∧ s8 = .int .i64 i ∧ wr = w ∧ Hid (i = 2 → y = 0))
    case atStart => exact ⟨0, by omega, rfl, rfl, rfl, hide (by omega)⟩
    case round =>
      obtain ⟨i, hi, rfl, rfl, rfl, HY⟩ := hrel
      rcases (show i = 0 ∨ i = 1 ∨ i = 2 by omega) with rfl | rfl | rfl
      · go_wp2
        go_roundg 1
        case measure => omega
        case rel => exact ⟨1, by omega, rfl, rfl, rfl, hide (by omega)⟩
      · by_cases hy : y = 0
        · have ey : (y == 0) = true := by rw [hy]; rfl
          go_wp2
          go_roundg 0
          case measure => omega
          case rel => exact ⟨2, by omega, rfl, rfl, rfl, hide (fun _ => hy)⟩
        · have ey : (y == 0) = false := beq_eq_false_iff_ne.2 hy
          go_wp2
          go_ret
          exact ⟨rfl, rfl⟩
      · have H0 : Hid (y = 0) := HY.out rfl
        clear HY
        go_wp2
        go_ret
        exact ⟨by rw [H0.out]; rfl, rfl⟩
  · have e : orM x y = x := if_neg hx
    rw [e]
    have ex : (x == 0) = false := beq_eq_false_iff_ne.2 hx
    go_enter Try.func38, Try.ntmps38
    go_wp2
    go_loopg [5, 8] 2 (fun q v s8 wr => q = 2 ∧ s8 = .int .i64 0 ∧ wr = w)
    case atStart => exact ⟨rfl, rfl, rfl⟩
    case round =>
      obtain ⟨rfl, rfl, rfl⟩ := hrel
      go_wp2
      go_ret
      exact ⟨rfl, rfl⟩
theorem alloc_keeps (w : World) (o : Obj) (b i : Nat) (h : b < w.heap.size) : (w.alloc o).cell? ⟨b, i, none⟩ = w.cell? ⟨b, i, none⟩ := World.cell?_alloc_past (w := w) o b i h
/-- How two tags stand. -/
def cmT (a b c d : Nat) : Int := orM (cmN a c) (cmN b d)
set_option maxHeartbeats 1000000 in
theorem compareT_any (a b c d : Nat) (w : World) :
    Calls Try.prog 37 #[.agg #[.int .u64 (a : Nat), .int .u64 (b : Nat)], .agg #[.int .u64 (c : Nat), .int .u64 (d : Nat)]] w fun e w' => e = .returned (.int .i64 (cmT a b c d)) ∧ w.Since w.heap.size w' := by
  obtain ⟨W1, HW1⟩ : ∃ W, Hid (w.alloc (.cells #[.int .u64 (a : Nat), .int .u64 (b : Nat)] 24) = W) := ⟨_, rfl⟩
  have s1 : w.Since w.heap.size W1 := by rw [← HW1.out]; exact (World.Since.refl _ _).alloc (Nat.le_refl _) _
  have z1 : W1.heap.size = w.heap.size + 1 := by rw [← HW1.out]; simp
  have a0 : W1.cell? ⟨w.heap.size, 0, none⟩ = some (.int .u64 (a : Nat)) := by rw [← HW1.out]; simp
  have a1 : W1.cell? ⟨w.heap.size, 1, none⟩ = some (.int .u64 (b : Nat)) := by rw [← HW1.out]; simp
  obtain ⟨W2, HW2⟩ : ∃ W, Hid (W1.alloc (.cells #[.int .u64 (c : Nat), .int .u64 (d : Nat)] 24) = W) := ⟨_, rfl⟩
  have s2 : W1.Since W1.heap.size W2 := by rw [← HW2.out]; exact (World.Since.refl _ _).alloc (Nat.le_refl _) _
  have z2 : W2.heap.size = w.heap.size + 1 + 1 := by rw [← HW2.out, ← z1]; simp
  have b0 : W2.cell? ⟨w.heap.size + 1, 0, none⟩ = some (.int .u64 (c : Nat)) := by rw [← z1, ← HW2.out]; simp
  have b1 : W2.cell? ⟨w.heap.size + 1, 1, none⟩ = some (.int .u64 (d : Nat)) := by rw [← z1, ← HW2.out]; simp
  have a0 := cell_later s2 a0
  have a1 := cell_later s2 a1
  have HE : Hid (w.Since w.heap.size W2) := s1.trans (since_mono s2 s1.size)
  have l1 : w.heap.size < W2.heap.size := by omega
  have l2 : w.heap.size + 1 < W2.heap.size := by omega
  have hc : ∀ (u v : Nat) (w : World), _ := fun u v w => compareN_any u v w
  unfold cmT
  have hor : ∀ (b0 : Nat) (w : World), _ := fun b0 w => or_any (cmN a c) (cmN b d) b0 w
  rename_i a0' a1'
  clear a0' a1' s1 s2 z2
  go_enter Try.func37, Try.ntmps37
  go_upto_region 1 with fail
  rw [HW1.out]
  try rw [z1]
  rw [HW2.out]
  try rw [z1]
  clear HW1 HW2 z1
  go_region_held3 (fun W' => W'.cell? ⟨w.heap.size, 0, none⟩ = some (.int .u64 (a : Nat)) ∧ W'.cell? ⟨w.heap.size, 1, none⟩ = some (.int .u64 (b : Nat)) ∧ W'.cell? ⟨w.heap.size + 1, 0, none⟩ = some (.int .u64 (c : Nat)) ∧ W'.cell? ⟨w.heap.size + 1, 1, none⟩ = some (.int .u64 (d : Nat)))
    (first | exact ⟨a0, a1, b0, b1⟩ | exact ⟨(alloc_keeps _ _ _ 0 l1).trans a0, (alloc_keeps _ _ _ 1 l1).trans a1, (alloc_keeps _ _ _ 0 l2).trans b0, (alloc_keeps _ _ _ 1 l2).trans b1⟩)
    (first | (go_at_call 39; refine (hc _ _ _).mono ?_; rintro e w' ⟨rfl, rfl⟩) | (go_at_call 38; refine (hor _ _ ?_ ?_).mono ?_; (go_simp); (go_simp); rintro e w' ⟨rfl, rfl⟩))
  all_goals
    go_wp2_with fail
    go_ret
    refine ⟨rfl, HE.out.trans (since_mono ?_ HE.out.size)⟩
    exact ((World.Since.refl _ _).drew).alloc (Nat.le_refl _) _
end Go.Proofs.Yteneaiaejdgpcaa

/- Package replica: a write that is refused. -/
namespace Go.Proofs.Yteneaiaejdgpcaa
open Go.RowKit
set_option maxRecDepth 100000
set_option maxRecDepth 100000

set_option maxHeartbeats 8000000 in
theorem write_refused {rb : Nat} {r : Rp} {w : World} (h : RpIs w rb r) (m : Mg) (va : Option Addr) (vc : Nat) (E : Nat) (h4 : m.n 5 = (E : Nat)) (hlt : E < r.p) :
    Calls Try.prog 33 #[.pointer (some ⟨rb, 0, none⟩), mgV m va vc] w fun e w' => e = .returned (hdV (refG m E r.p) none 0 true false false) ∧ RpIs w' rb r ∧ But rb w w' := by
  obtain ⟨MM, HMM⟩ : ∃ x, Hid ((mgL m va vc).toArray = x) := ⟨_, rfl⟩
  have HINM : Hid ((Try.prog.info? 41).map (·.size) = some MM.size) := by rw [← HMM.out]; exact infoMgA _ _ _
  obtain ⟨W1, HW1⟩ : ∃ W, Hid (w.alloc (.cells MM 41) = W) := ⟨_, rfl⟩
  have s1 : w.Since w.heap.size W1 := by rw [← HW1.out]; exact (World.Since.refl _ _).alloc (Nat.le_refl _) _
  have z1 : W1.heap.size = w.heap.size + 1 := by rw [← HW1.out]; simp
  have r1 : W1.rowIs w.heap.size 41 22 (mgCell m va vc) := by rw [← HW1.out, ← HMM.out]; exact mg_row w m va vc
  obtain ⟨W2, HW2⟩ : ∃ W, Hid (W1.alloc hdZ = W) := ⟨_, rfl⟩
  have s2 : W1.Since W1.heap.size W2 := by rw [← HW2.out]; exact (World.Since.refl _ _).alloc (Nat.le_refl _) _
  have r2 : W2.rowIs (w.heap.size + 1) 46 25 (hdCell mg0 none 0 false false false) := by rw [← z1, ← HW2.out]; exact hdZ_row W1
  have rm2 := row_since r1 s2
  have sw2 : w.Since w.heap.size W2 := s1.trans (since_mono s2 s1.size)
  have z2 : W2.heap.size = w.heap.size + 1 + 1 := by rw [← HW2.out, ← z1]; simp
  have hR2 := h.since sw2
  have hrp := h.lt
  have HC4 : Hid (∀ W : World, W2.Since W2.heap.size W → W.cell? ⟨w.heap.size, 5, none⟩ = some (.int .u64 (E : Nat))) := fun W hW => by
    have : W.cell? ⟨w.heap.size, 5, none⟩ = some (.int .u64 (m.n 5)) := (row_since rm2 hW).cell (i := 5) (by decide)
    rw [this, h4]
  have c4 := HC4.out W2 (World.Since.refl _ _)
  have cp := hR2.c0
  have HHM : Hid (∀ W : World, W2.Since W2.heap.size W → W.heap[w.heap.size]? = some (.cells MM 41 (0, 0))) := fun W hW => by
    rw [← HMM.out]
    exact row_heap (row_since rm2 hW)
  have HRF : Hid (∀ W : World, W2.Since W2.heap.size W → Calls Try.prog 35 #[.pointer (some ⟨rb, 0, none⟩), .agg MM, .int .u64 (E : Nat)] W fun e w' => e = .returned (hdV (refG m E r.p) none 0 true false false) ∧ W2.Since W2.heap.size w') := fun W hW => by
    have q := refuse_any (hR2.since hW) m va vc E
    unfold mgV at q
    rw [HMM.out] at q
    exact q.mono fun e w' ⟨he, hs⟩ => ⟨he, hW.trans (since_mono hs hW.size)⟩
  have hq : decide ((E : Int) < (r.p : Int)) = true := by simp; omega
  have hq2 : (E : Int) < (r.p : Int) := by omega
  have HEND : Hid (∀ W : World, W2.Since W2.heap.size W → ∃ W8, Hid (W.setCells (w.heap.size + 1) 0 (hdL (refG m E r.p) none 0 true false false).toArray.toList = W8) ∧ Hid (W.there (w.heap.size + 1) 0 (hdL (refG m E r.p) none 0 true false false).toArray.size) ∧ Hid (W8.heap[w.heap.size + 1]? = some (.cells (hdL (refG m E r.p) none 0 true false false).toArray 46 (0, 0))) ∧ Hid (RpIs W8 rb r ∧ But rb w W8)) := fun W hW => by
    have rr := row_since r2 hW
    obtain ⟨W8, HW8, hh8, z8, b8, o8, t8, p8⟩ := cells_stored rr (hdL (refG m E r.p) none 0 true false false) (hdL_len _ _ _ _ _ _)
    have e : (hdL (refG m E r.p) none 0 true false false).toArray.size = 25 := by rw [List.size_toArray, hdL_len]
    have a := sw2.trans (since_mono hW sw2.size)
    refine ⟨W8, HW8, ?_, hh8, (hR2.since hW).on (b8 _ (by omega)), o8.trans a.os, t8.trans a.tape, p8.trans a.output, by rw [z8]; exact a.size, fun k hk _ => ?_⟩
    · show World.there _ _ _ _
      rw [e]
      exact row_there rr
    · rw [b8 k (by omega)]
      exact a.block k hk
  unfold hdZ at HW2
  unfold hdV at HRF ⊢
  have HIR := hide (infoHrA (refG m E r.p) none 0 true false false)
  have HAL := hide (hd_all (refG m E r.p) none 0 true false false)
  obtain ⟨HL, HHL⟩ : ∃ x, Hid ((hdL (refG m E r.p) none 0 true false false).toArray = x) := ⟨_, rfl⟩
  rw [HHL.out] at HRF HEND HIR HAL ⊢
  generalize hpp : r.p = P at cp hq hq2
  clear s1 r1 s2 r2 rm2 sw2 z2 hrp hR2 h h4 hlt hpp HHL
  unfold mgV
  rw [HMM.out]
  go_enter Try.func33, Try.ntmps33
  go_upto_region 1 with fail
  rw [HW1.out]
  try rw [z1]
  rw [HW2.out]
  try rw [z1]
  clear HW1 HW2 z1 HMM
  go_quiet (fail)
  have hsq : W2.Since W2.heap.size (W2.drewN nq) := since_drewN' (World.Since.refl _ _) nq
  generalize W2.drewN nq = Wq at *
  have cq4 := HC4.out Wq hsq
  have HHq := hide (HHM.out Wq hsq)
  have HQ3 := hide (HRF.out Wq hsq)
  clear HRF c4 cp hq hq2 HC4 HHM hsq
  go_wp2_with (refine wpList_load_row rfl 41 _ rfl w.heap.size rfl _ _ (0, 0) _ HHq.out Try.underlying41 rfl HINM.out ?_)
  refine HQ3.out.mono ?_
  rintro e w3 ⟨rfl, hs3⟩
  obtain ⟨W8, HW8, HT8, HH8, HE⟩ := HEND.out w3 hs3
  clear HQ3 HEND hs3 cq4 HHq
  go_wp2_with (refine wpList_store_mid rfl 46 _ _ rfl (w.heap.size + 1) 0 _ rfl rfl HT8.out HIR.out HAL.out ?_; rw [HW8.out])
  exact bodyPost_ret_by (results_cell_row rfl _ _ (w.heap.size + 1) 46 _ (0, 0) _ rfl HH8.out Try.underlying46 rfl HIR.out) rfl ⟨rfl, HE.out⟩
end Go.Proofs.Yteneaiaejdgpcaa

/- Package replica: a write that is taken. -/
namespace Go.Proofs.Yteneaiaejdgpcaa
open Go.RowKit
set_option maxRecDepth 100000
set_option maxRecDepth 100000

theorem hd_cells {w : World} {kb : Nat} {m : Mg} {va : Option Addr} {vc : Nat} {b1 b2 b3 : Bool} {HA : Array Value} (h : w.heap[kb]? = some (.cells HA 46 (0, 0))) (hv : hdV m va vc b1 b2 b3 = .agg HA) : w.rowIs kb 46 25 (hdCell m va vc b1 b2 b3) := by
  have e : (hdL m va vc b1 b2 b3).toArray = HA := Value.agg.inj hv
  refine ⟨HA, h, by rw [← e, List.size_toArray, hdL_len], fun i hi => ?_⟩
  rw [← e, List.getElem?_toArray]
  unfold hdL hdCell
  by_cases h22 : i < 22
  · rw [List.getElem?_append_left (by rw [mgL_len]; exact h22), if_pos h22]
    unfold mgL
    rw [List.getElem?_map, List.getElem?_range h22]
    rfl
  · rw [List.getElem?_append_right (by rw [mgL_len]; omega), if_neg h22, mgL_len]
    rcases (show i = 22 ∨ i = 23 ∨ i = 24 by omega) with rfl | rfl | rfl <;> rfl
theorem hd_heap {w : World} {kb : Nat} {m : Mg} {va : Option Addr} {vc : Nat} {b1 b2 b3 : Bool} (h : w.rowIs kb 46 25 (hdCell m va vc b1 b2 b3)) : w.heap[kb]? = some (.cells (hdL m va vc b1 b2 b3).toArray 46 (0, 0)) := by
  rw [row_heap h]
  have e : (List.range 25).map (hdCell m va vc b1 b2 b3) = hdL m va vc b1 b2 b3 := by
    refine List.ext_getElem? (fun i => ?_)
    by_cases hi : i < 25
    · rw [List.getElem?_map, List.getElem?_range hi]
      unfold hdL hdCell
      by_cases h22 : i < 22
      · rw [List.getElem?_append_left (by rw [mgL_len]; exact h22)]
        unfold mgL
        rw [List.getElem?_map, List.getElem?_range h22]
        simp [h22]
      · rw [List.getElem?_append_right (by rw [mgL_len]; omega), mgL_len]
        rcases (show i = 22 ∨ i = 23 ∨ i = 24 by omega) with rfl | rfl | rfl <;> rfl
    · rw [List.getElem?_eq_none (by simp; omega), List.getElem?_eq_none (by rw [hdL_len]; omega)]
  rw [e]
/-- What Hear tells is laid into new memory. -/
theorem hd_put (w : World) (m : Mg) (va : Option Addr) (vc : Nat) (b1 b2 b3 : Bool) : ∃ (W : World) (HA : Array Value), Hid (hdV m va vc b1 b2 b3 = .agg HA) ∧ Hid ((w.alloc (.cells #[.int .i64 0, .int .i64 0, .int .i64 0, .int .i64 0, .int .u64 0, .int .u64 0, .int .u64 0, .int .u64 0, .int .i64 0, .int .u64 0, .slice none 0 0, .int .i64 0, .int .u64 0, .string ⟨#[]⟩, .string ⟨#[]⟩, .int .u64 0, .int .u64 0, .int .u64 0, .int .i64 0, .int .i64 0, .int .i64 0, .int .i64 0, .bool false, .bool false, .bool false] 46)).there w.heap.size 0 HA.size) ∧ Hid ((w.alloc (.cells #[.int .i64 0, .int .i64 0, .int .i64 0, .int .i64 0, .int .u64 0, .int .u64 0, .int .u64 0, .int .u64 0, .int .i64 0, .int .u64 0, .slice none 0 0, .int .i64 0, .int .u64 0, .string ⟨#[]⟩, .string ⟨#[]⟩, .int .u64 0, .int .u64 0, .int .u64 0, .int .i64 0, .int .i64 0, .int .i64 0, .int .i64 0, .bool false, .bool false, .bool false] 46)).setCells w.heap.size 0 HA.toList = W) ∧ Hid ((Try.prog.info? 46).map (·.size) = some HA.size) ∧ Hid (HA.all (·.oneCell') = true) ∧ Hid (W.rowIs w.heap.size 46 25 (hdCell m va vc b1 b2 b3)) ∧ Hid (w.Since w.heap.size W) := by
  have r6 : (w.alloc hdZ).rowIs w.heap.size 46 25 (hdCell mg0 none 0 false false false) := hdZ_row w
  obtain ⟨W, HW, h7, z7, b7, o7, t7, p7⟩ := cells_stored r6 (hdL m va vc b1 b2 b3) (hdL_len _ _ _ _ _ _)
  have s6 : w.Since w.heap.size (w.alloc hdZ) := (World.Since.refl _ _).alloc (Nat.le_refl _) _
  have hms : (hdL m va vc b1 b2 b3).toArray.size = 25 := by rw [List.size_toArray, hdL_len]
  refine ⟨W, (hdL m va vc b1 b2 b3).toArray, rfl, ?_, HW, infoHrA _ _ _ _ _ _, hd_all _ _ _ _ _ _, hd_cells h7 rfl, o7.trans s6.os, t7.trans s6.tape, p7.trans s6.output, by rw [z7]; exact s6.size, fun k hk => (b7 k (by omega)).trans (s6.block k hk)⟩
  show World.there _ _ _ _
  rw [hms]
  exact row_there r6
/-- What a write that is stored is answered. -/
def wrG (m : Mg) (E Q : Nat) : Mg := ((ansG m 5).setN 5 (E : Nat)).setN 6 (Q : Nat)
/-- While a write is being taken. -/
structure Wz (w : World) (rb : Nat) (r : Rp) (m : Mg) (va : Option Addr) (vc hb : Nat) (hm : Mg) (b1 b2 b3 : Bool) (W : World) : Prop where
  rp : RpIs W rb r
  mrow : W.rowIs w.heap.size 41 22 (mgCell m va vc)
  out : W.rowIs (w.heap.size + 1) 46 25 (hdCell mg0 none 0 false false false)
  hrow : W.rowIs hb 46 25 (hdCell hm none 0 b1 b2 b3)
  but : But rb w W
  ge : w.heap.size + 1 < hb
  lt : rb < w.heap.size
section
variable {w W W' : World} {rb vc hb : Nat} {r r' : Rp} {m hm hm' : Mg} {va : Option Addr} {b1 b2 b3 c1 c2 c3 : Bool}
theorem Wz.since (h : Wz w rb r m va vc hb hm b1 b2 b3 W) (hs : W.Since W.heap.size W') : Wz w rb r m va vc hb hm b1 b2 b3 W' :=
  ⟨h.rp.since hs, row_since h.mrow hs, row_since h.out hs, row_since h.hrow hs, h.but.sin hs, h.ge, h.lt⟩
theorem Wz.turn (h : Wz w rb r m va vc hb hm b1 b2 b3 W) (hb' : But rb W W') (hr : RpIs W' rb r') : Wz w rb r' m va vc hb hm b1 b2 b3 W' :=
  ⟨hr, hb'.row h.mrow (by have := h.lt; omega), hb'.row h.out (by have := h.lt; omega), hb'.row h.hrow (by have := h.lt; have := h.ge; omega), h.but.trans hb', h.ge, h.lt⟩
theorem Wz.fill (h : Wz w rb r m va vc hb hm b1 b2 b3 W) (hb' : But hb W W') (hr : W'.rowIs hb 46 25 (hdCell hm' none 0 c1 c2 c3)) : Wz w rb r m va vc hb hm' c1 c2 c3 W' := by
  have h1 := h.ge
  have h2 := h.lt
  have h3 := h.but.size
  refine ⟨h.rp.but hb' (by omega), hb'.row h.mrow (by omega), hb'.row h.out (by omega), hr, ⟨hb'.os.trans h.but.os, hb'.tape.trans h.but.tape, hb'.output.trans h.but.output, Nat.le_trans h3 hb'.size, fun k hk hn => ?_⟩, h1, h2⟩
  rw [hb'.block k (by omega) (by omega)]
  exact h.but.block k hk hn
theorem But.setCells {r : Nat} {w w' : World} (h : But r w w') : ∀ (vs : List Value) (o : Nat), But r w (w'.setCells r o vs)
  | [], _ => h
  | _ :: vs, o => (But.setCells (h.setCell o _) vs (o + 1))
/-- One of the three flags. -/
theorem Wz.flag1 (h : Wz w rb r m va vc hb hm b1 b2 b3 W) (c : Bool) : Wz w rb r m va vc hb hm c b2 b3 (W.setCell ⟨hb, 22, none⟩ (.bool c)) :=
  h.fill ((But.of_since (World.Since.refl _ _)).setCell 22 _) ((h.hrow.set 22 _).congr (fun i hi => by
    unfold hdCell
    by_cases e : i = 22
    · subst e; simp
    · simp [e]))
theorem Wz.flag3 (h : Wz w rb r m va vc hb hm b1 b2 b3 W) (c : Bool) : Wz w rb r m va vc hb hm b1 b2 c (W.setCell ⟨hb, 24, none⟩ (.bool c)) :=
  h.fill ((But.of_since (World.Since.refl _ _)).setCell 24 _) ((h.hrow.set 24 _).congr (fun i hi => by
    unfold hdCell
    by_cases e : i = 24
    · subst e; simp
    · rw [if_neg e]
      by_cases e2 : i < 22
      · simp [e2]
      · by_cases e3 : i = 22
        · simp [e3]
        · have : i = 23 := by omega
          simp [this]))
theorem Wz.head (h : Wz w rb r m va vc hb hm b1 b2 b3 W) (n : Mg) : Wz w rb r m va vc hb n b1 b2 b3 (W.setCells hb 0 (mgL n none 0)) :=
  h.fill ((But.of_since (World.Since.refl _ _)).setCells _ 0) ((rowIs_setCells (mgL n none 0) 0 W _ h.hrow).congr (fun i hi => by
    unfold hdCell
    rw [mgL_len]
    by_cases e : i < 22
    · rw [if_pos ⟨Nat.zero_le _, by omega⟩, if_pos e, Nat.sub_zero]
      simp [mgL, List.getD, e]
    · rw [if_neg (by omega), if_neg e, if_neg e]))
theorem Wz.num (h : Wz w rb r m va vc hb hm b1 b2 b3 W) (c : Nat) (v : Int) (hc : c < 10) : Wz w rb r m va vc hb (hm.setN c v) b1 b2 b3 (W.setCell ⟨hb, c, none⟩ (mgNum c v)) :=
  h.fill ((But.of_since (World.Since.refl _ _)).setCell c _) ((h.hrow.set c _).congr (fun i hi => by
    unfold hdCell
    rw [mgCell_setN hm none 0 c v (by omega) (by omega) (by omega) i]
    by_cases e : i = c
    · subst e; simp [show i < 22 by omega]
    · simp [e]))
end
end Go.Proofs.Yteneaiaejdgpcaa

/- Package replica: a write that is taken: the walk. -/
namespace Go.Proofs.Yteneaiaejdgpcaa
open Go.RowKit
set_option maxRecDepth 100000
set_option maxRecDepth 100000

theorem byt_but {w w' : World} {rb : Nat} {r : Rp} {va : Option Addr} {n : Nat} {x : Nat → Nat} (hb : Byt w va n x) (h : RpIs w rb r) (ht : But rb w w') : Byt w' va n x := fun j hj => by
  obtain ⟨b, off, e, hc⟩ := hb j hj
  refine ⟨b, off, e, ?_⟩
  have hl := World.block_lt_of_cell? _ _ hc
  have hne : b ≠ rb := fun e => by
    subst e
    by_cases hi : off + j < 5
    · rw [h.row.cell hi] at hc
      unfold rpCell at hc
      repeat' split at hc
      all_goals exact absurd hc (by simp)
    · obtain ⟨cs, h1, h2, h3⟩ := h.row
      simp only [World.cell?, h1] at hc
      rw [Array.getElem?_eq_none (by omega)] at hc
      exact absurd hc (by simp)
  rw [World.cell?_of_block (a := ⟨b, off + j, none⟩) (ht.block b hl hne)]
  exact hc
theorem op_call {P : Program} {o : Oper} {a : Act} {w : World} {K : Act → World → Prop} {Q : Exit → Act → World → Prop} (f : FuncId) (args : Array Value) (hrun : (execOp a.eval o).run P w = .ok (.enter f args) w) {Post : Ending → World → Prop} (hc : Calls P f args w Post)
    (h : ∀ e w', Post e w' → ∃ v, e = .returned v ∧ K (a.put o.dst v) w') : Oper.wp P o a w K Q := by
  unfold Oper.wp
  rw [hrun, Oper.upon_enter]
  refine hc.mono fun e w'' hh => ?_
  obtain ⟨v, rfl, hk⟩ := h e w'' hh
  exact hk
set_option maxHeartbeats 8000000 in
theorem write_greater {rb : Nat} {r : Rp} {w : World} (h : RpIs w rb r) (m : Mg) (va : Option Addr) (vc : Nat) (E Q : Nat) (S : Int) (hA : MgA w m va vc) (h5 : m.n 5 = (E : Nat)) (h6 : m.n 6 = (Q : Nat)) (h8 : m.n 8 = S) (hE : E < 18446744073709551616) (hQ : Q < 18446744073709551616) (hS : S ≤ 9223372036854775807) (hge : r.p ≤ E) (ho : 0 < cmT E Q r.te r.ts) :
    Calls Try.prog 33 #[.pointer (some ⟨rb, 0, none⟩), mgV m va vc] w fun e w' => e = .returned (hdV (wrG m E Q) none 0 true true true) ∧ RpIs w' rb ⟨E, E, Q, m.s 10, wtM S⟩ ∧ But rb w w' := by
  obtain ⟨MM, HMM⟩ : ∃ x, Hid ((mgL m va vc).toArray = x) := ⟨_, rfl⟩
  have HINM : Hid ((Try.prog.info? 41).map (·.size) = some MM.size) := by rw [← HMM.out]; exact infoMgA _ _ _
  obtain ⟨W1, HW1⟩ : ∃ W, Hid (w.alloc (.cells MM 41) = W) := ⟨_, rfl⟩
  have s1 : w.Since w.heap.size W1 := by rw [← HW1.out]; exact (World.Since.refl _ _).alloc (Nat.le_refl _) _
  have z1 : W1.heap.size = w.heap.size + 1 := by rw [← HW1.out]; simp
  have r1 : W1.rowIs w.heap.size 41 22 (mgCell m va vc) := by rw [← HW1.out, ← HMM.out]; exact mg_row w m va vc
  obtain ⟨W2, HW2⟩ : ∃ W, Hid (W1.alloc hdZ = W) := ⟨_, rfl⟩
  have s2 : W1.Since W1.heap.size W2 := by rw [← HW2.out]; exact (World.Since.refl _ _).alloc (Nat.le_refl _) _
  have r2 : W2.rowIs (w.heap.size + 1) 46 25 (hdCell mg0 none 0 false false false) := by rw [← z1, ← HW2.out]; exact hdZ_row W1
  have rm2 := row_since r1 s2
  have sw2 : w.Since w.heap.size W2 := s1.trans (since_mono s2 s1.size)
  have z2 : W2.heap.size = w.heap.size + 1 + 1 := by rw [← HW2.out, ← z1]; simp
  have hR2 := h.since sw2
  have hrp := h.lt
  have hA2 := hA.since sw2
  have c5 : W2.cell? ⟨w.heap.size, 5, none⟩ = some (.int .u64 (E : Nat)) := by
    have : W2.cell? ⟨w.heap.size, 5, none⟩ = some (.int .u64 (m.n 5)) := rm2.cell (i := 5) (by decide)
    rw [this, h5]
  have cp := hR2.c0
  have HPR : Hid (∀ W : World, W2.Since W2.heap.size W → Calls Try.prog 31 #[.pointer (some ⟨rb, 0, none⟩), .int .u64 (E : Nat)] W fun e w' => e = .returned (.bool (decide (r.p ≠ E))) ∧ Hid (RpIs w' rb { r with p := E } ∧ But rb W2 w')) := fun W hW => (promise_any (hR2.since hW) E hE).mono fun e w' ⟨he, h1, h2⟩ => ⟨he, h1, (But.of_since (r := rb) hW).trans h2⟩
  have hq : decide ((E : Int) < (r.p : Int)) = false := by simp; omega
  have hq2 : ¬ ((E : Int) < (r.p : Int)) := by omega
  obtain ⟨CH, HCH⟩ : ∃ x, Hid (decide (r.p ≠ E) = x) := ⟨_, rfl⟩
  rw [HCH.out] at HPR
  try rw [HCH.out]
  have HRM := hide rm2
  have HRW := hide r2
  have HS2 := hide sw2
  have Hz2 := hide z2
  have HLT := hide hrp
  have H55 := hide h5
  have H66 := hide h6
  have H88 := hide h8
  have HEQ : Hid (E < 18446744073709551616 ∧ Q < 18446744073709551616 ∧ S ≤ 9223372036854775807) := ⟨hE, hQ, hS⟩
  have HA := hide hA2
  have HBY : Hid (∀ W : World, But rb w W → Byt W va (m.s 10).length (fun j => (m.s 10).getD j 0)) := fun W hW => byt_but hA.val h hW
  have HO := hide ho
  unfold hdZ at HW2
  have HC5 : Hid (∀ W : World, W2.Since W2.heap.size W → W.cell? ⟨w.heap.size, 5, none⟩ = some (.int .u64 (E : Nat))) := fun W hW => cell_later hW c5
  obtain ⟨P, TE, TS, V, WT⟩ := r
  replace cp : W2.cell? ⟨rb, 0, none⟩ = some (.int .u64 (P : Nat)) := cp
  replace hq : decide ((E : Int) < (P : Int)) = false := hq
  replace hq2 : ¬ ((E : Int) < (P : Int)) := hq2
  replace HPR : Hid (∀ W : World, W2.Since W2.heap.size W → Calls Try.prog 31 #[.pointer (some ⟨rb, 0, none⟩), .int .u64 (E : Nat)] W fun e w' => e = .returned (.bool CH) ∧ Hid (RpIs w' rb ⟨E, TE, TS, V, WT⟩ ∧ But rb W2 w')) := HPR
  clear s1 r1 s2 r2 rm2 sw2 z2 hrp hR2 h h5 h6 h8 hge HCH hE hQ hS hA hA2 ho
  unfold mgV
  rw [HMM.out]
  go_enter Try.func33, Try.ntmps33
  go_upto_region 1 with fail
  rw [HW1.out]
  try rw [z1]
  rw [HW2.out]
  try rw [z1]
  clear HW1 HW2 z1
  go_quiet (fail)
  have hsq : W2.Since W2.heap.size (W2.drewN nq) := since_drewN' (World.Since.refl _ _) nq
  generalize W2.drewN nq = Wq at *
  have cq5 := HC5.out Wq hsq
  have HQ3 := hide (HPR.out Wq hsq)
  clear HPR c5 cp hq hq2 HC5
  go_upto_region 3 with fail
  refine wp_region_lit ?_
  refine wpList_plain rfl fun _ hK => op_run (.pointer (some ⟨rb, 0, none⟩)) (by kernel_rfl) (hK _ _ ?_)
  simp only [Act.put, List.setIfInBounds_toArray, List.set_cons_zero, List.set_cons_succ]
  refine wpList_plain rfl fun _ hK => op_run (.pointer (some ⟨w.heap.size, 5, none⟩)) (by kernel_rfl) (hK _ _ ?_)
  simp only [Act.put, List.setIfInBounds_toArray, List.set_cons_zero, List.set_cons_succ]
  refine wpList_plain rfl fun _ hK => op_run (.pointer (some ⟨w.heap.size, 5, none⟩)) (by kernel_rfl) (hK _ _ ?_)
  simp only [Act.put, List.setIfInBounds_toArray, List.set_cons_zero, List.set_cons_succ]
  refine wpList_plain rfl fun _ hK => op_run (.int .u64 (E : Nat)) (by go_simp) (hK _ _ ?_)
  simp only [Act.put, List.setIfInBounds_toArray, List.set_cons_zero, List.set_cons_succ]
  refine wpList_plain rfl fun _ hK => op_call 31 #[.pointer (some ⟨rb, 0, none⟩), .int .u64 (E : Nat)] (by kernel_rfl) HQ3.out ?_
  rintro e w3 ⟨rfl, H3⟩
  refine ⟨_, rfl, hK _ _ ?_⟩
  simp only [Act.put, List.setIfInBounds_toArray, List.set_cons_zero, List.set_cons_succ]
  clear HQ3 cq5 hsq
  refine wpList_plain rfl fun _ hK => op_run (hdV mg0 none 0 false true CH) (by kernel_rfl) (hK _ _ ?_)
  obtain ⟨W4, HA4, HV4, HT4, HW4, HI4, HO4, HR4, HS4⟩ := hd_put w3 mg0 none 0 false true CH
  rw [HV4.out]
  simp only [Act.put, List.setIfInBounds_toArray, List.set_cons_zero, List.set_cons_succ]
  have hz2 := Hz2.out
  have hz3 : W2.heap.size ≤ w3.heap.size := H3.out.2.size
  have hlt := HLT.out
  have HZ4 : Hid (Wz w rb ⟨E, TE, TS, V, WT⟩ m va vc w3.heap.size mg0 false true CH W4) := ⟨H3.out.1.since HS4.out, row_since (H3.out.2.row HRM.out (by omega)) HS4.out, row_since (H3.out.2.row HRW.out (by omega)) HS4.out, HR4.out, ((But.of_since HS2.out).trans H3.out.2).sin HS4.out, by omega, hlt⟩
  have HA4' : Hid (∀ W : World, But rb W4 W → W.heap.size ≥ 0 → True) := fun _ _ _ => trivial
  have c8 : W4.cell? ⟨w.heap.size, 8, none⟩ = some (.int .i64 S) := by
    have : W4.cell? ⟨w.heap.size, 8, none⟩ = some (.int .i64 (m.n 8)) := HZ4.out.mrow.cell (i := 8) (by decide)
    rw [this, H88.out]
  have HK5 : Hid (Calls Try.prog 26 #[.pointer (some ⟨rb, 0, none⟩), .int .i64 S] W4 fun e w' => e = .returned (.tuple #[]) ∧ Hid (Wz w rb ⟨E, TE, TS, V, wtM S⟩ m va vc w3.heap.size mg0 false true CH w')) := (keepOut_any HZ4.out.rp S HEQ.out.2.2).mono fun e w' ⟨he, h1, h2⟩ => ⟨he, HZ4.out.turn h2 h1⟩
  clear hz2 hz3 hlt HR4 HS4 H3 HA4'
  go_wp2_with (refine wpList_store_mid rfl 46 _ _ rfl w3.heap.size 0 _ rfl rfl HT4.out HI4.out HO4.out ?_; rw [HW4.out])
  refine HK5.out.mono ?_
  rintro e w5 ⟨rfl, H5⟩
  clear HK5 c8 HZ4 HT4 HI4 HO4 HW4 HV4
  go_upto_region 5 with fail
  have HM6' : Hid (∀ W : World, Wz w rb ⟨E, TE, TS, V, wtM S⟩ m va vc w3.heap.size mg0 false true CH W → W.cell? ⟨w.heap.size, 5, none⟩ = some (.int .u64 (E : Nat)) ∧ W.cell? ⟨w.heap.size, 6, none⟩ = some (.int .u64 (Q : Nat))) := fun W hW => by
    have a : W.cell? ⟨w.heap.size, 5, none⟩ = some (.int .u64 (m.n 5)) := hW.mrow.cell (i := 5) (by decide)
    have b : W.cell? ⟨w.heap.size, 6, none⟩ = some (.int .u64 (m.n 6)) := hW.mrow.cell (i := 6) (by decide)
    rw [a, b, H55.out, H66.out]
    exact ⟨rfl, rfl⟩
  have H5d : Hid (Wz w rb ⟨E, TE, TS, V, wtM S⟩ m va vc w3.heap.size mg0 false true CH w5.drew) := H5.out.since ((World.Since.refl _ _).drew)
  have HCM : Hid (Calls Try.prog 37 #[.agg #[.int .u64 (E : Nat), .int .u64 (Q : Nat)], .agg #[.int .u64 (TE : Nat), .int .u64 (TS : Nat)]] w5.drew fun e w' => e = .returned (.int .i64 (cmT E Q TE TS)) ∧ Hid (Wz w rb ⟨E, TE, TS, V, wtM S⟩ m va vc w3.heap.size mg0 false true CH w')) := (compareT_any E Q TE TS w5.drew).mono fun e w' ⟨he, hs⟩ => ⟨he, H5d.out.since hs⟩
  generalize hcm : cmT E Q TE TS = CM at *
  refine wp_region_held_drew (S := fun W => Wz w rb ⟨E, TE, TS, V, wtM S⟩ m va vc w3.heap.size mg0 false true CH W) (by kernel_rfl) H5d.out fun _ => ?_
  refine wpAnyH_take (i := 0) (v := .pointer (some ⟨w.heap.size, 5, none⟩)) rfl (by kernel_rfl) (by kernel_rfl) (by kernel_rfl) (fun _ _ _ h => h) (.inl ⟨rfl, fun W hW => by kernel_rfl⟩) H5d.out ?_
  simp only [List.getElem_toArray, List.getElem_cons_zero, Act.put, List.setIfInBounds_toArray, List.set_cons_zero, List.set_cons_succ]
  refine wpAnyH_take (i := 1) (v := .agg #[.int .u64 (E : Nat), .int .u64 (Q : Nat)]) rfl (by kernel_rfl) (by kernel_rfl) (by kernel_rfl) (fun _ _ _ h => h) (.inl ⟨rfl, fun W hW => by have c1 := (HM6'.out _ hW).1; have c2 := (HM6'.out _ hW).2; go_simp⟩) H5d.out ?_
  simp only [List.getElem_toArray, List.getElem_cons_zero, List.getElem_cons_succ, Act.put, List.setIfInBounds_toArray, List.set_cons_zero, List.set_cons_succ]
  refine wpAnyH_take (i := 2) (v := .pointer (some ⟨rb, 0, none⟩)) rfl (by kernel_rfl) (by kernel_rfl) (by kernel_rfl) (fun _ _ _ h => h) (.inl ⟨rfl, fun W hW => by kernel_rfl⟩) H5d.out ?_
  simp only [List.getElem_toArray, List.getElem_cons_zero, List.getElem_cons_succ, Act.put, List.setIfInBounds_toArray, List.set_cons_zero, List.set_cons_succ]
  refine wpAnyH_take (i := 3) (v := .pointer (some ⟨rb, 0, none⟩)) rfl (by kernel_rfl) (by kernel_rfl) (by kernel_rfl) (fun _ _ _ h => h) (.inl ⟨rfl, fun W hW => by first | kernel_rfl | go_simp⟩) H5d.out ?_
  simp only [List.getElem_toArray, List.getElem_cons_zero, List.getElem_cons_succ, Act.put, List.setIfInBounds_toArray, List.set_cons_zero, List.set_cons_succ]
  refine wpAnyH_take (i := 4) (v := .pointer (some ⟨rb, 1, none⟩)) rfl (by kernel_rfl) (by kernel_rfl) (by kernel_rfl) (fun _ _ _ h => h) (.inl ⟨rfl, fun W hW => by kernel_rfl⟩) H5d.out ?_
  simp only [List.getElem_toArray, List.getElem_cons_zero, List.getElem_cons_succ, Act.put, List.setIfInBounds_toArray, List.set_cons_zero, List.set_cons_succ]
  refine wpAnyH_take (i := 5) (v := .agg #[.int .u64 (TE : Nat), .int .u64 (TS : Nat)]) rfl (by kernel_rfl) (by kernel_rfl) (by kernel_rfl) (fun _ _ _ h => h) (.inl ⟨rfl, fun W hW => by have c1 := hW.rp.c1; have c2 := hW.rp.c2; go_simp⟩) H5d.out ?_
  simp only [List.getElem_toArray, List.getElem_cons_zero, List.getElem_cons_succ, Act.put, List.setIfInBounds_toArray, List.set_cons_zero, List.set_cons_succ]
  refine wpAnyH_ready (rs := [6]) (by kernel_rfl) (by simp) ?_
  refine AllReadyH.cons rfl (fun K hK => ?_) AllReadyH.nil
  refine step_callW rfl 37 #[.agg #[.int .u64 (E : Nat), .int .u64 (Q : Nat)], .agg #[.int .u64 (TE : Nat), .int .u64 (TS : Nat)]] (by kernel_rfl) HCM.out ?_
  rintro e w6 ⟨rfl, H6⟩
  refine ⟨_, rfl, hK.out _ _ H6.out fun _ => ?_⟩
  clear hK
  simp only [List.getElem_toArray, List.getElem_cons_zero, List.getElem_cons_succ, Act.put, List.setIfInBounds_toArray, List.set_cons_zero, List.set_cons_succ]
  refine wpAnyH_take (i := 7) (v := .int .i64 CM) rfl (by kernel_rfl) (by kernel_rfl) (by kernel_rfl) (fun _ _ _ h => h) (.inl ⟨rfl, fun W hW => by kernel_rfl⟩) H6.out ?_
  simp only [List.getElem_toArray, List.getElem_cons_zero, List.getElem_cons_succ, Act.put, List.setIfInBounds_toArray, List.set_cons_zero, List.set_cons_succ]
  refine wpAnyH_done (by kernel_rfl) ?_ _
  clear H5d HCM H5
  have hc1 : decide (CM > 0) = true := by have := HO.out; simp; omega
  have hc2 : (CM > 0) := by have := HO.out; omega
  have hc3 : decide (CM ≥ 0) = true := by have := HO.out; simp; omega
  have hc4 : (CM ≥ 0) := by have := HO.out; omega
  have d5 := (HM6'.out _ H6.out).1
  have d6 := (HM6'.out _ H6.out).2
  have d10 : w6.cell? ⟨w.heap.size, 10, none⟩ = some (.slice va (m.s 10).length vc) := H6.out.mrow.cell (i := 10) (by decide)
  have hby : Byt w6 va (m.s 10).length (fun j => (m.s 10).getD j 0) := HBY.out _ H6.out.but
  have hcv := str_byt va (m.s 10).length vc _ w6 hby (fun e => (HA.out.nil e).1)
  rw [strOf_strL, range_getD] at hcv
  obtain ⟨W7, HW7⟩ : ∃ W, Hid (w6.setCells rb 1 [.int .u64 (E : Nat), .int .u64 (Q : Nat)] = W) := ⟨_, rfl⟩
  have hT : RpIs (W7.setCell ⟨rb, 3, none⟩ (.string (strL (m.s 10)))) rb ⟨E, E, Q, m.s 10, wtM S⟩ := by rw [← HW7.out, setCells_two]; exact H6.out.rp.setT E Q (m.s 10) HEQ.out.1 HEQ.out.2.1 (HA.out.len 10) (HA.out.byte 10)
  have b7 : But rb w6 W7 := by rw [← HW7.out]; exact (But.of_since (World.Since.refl _ _)).setCells _ 1
  have D1 : Hid (w6.there rb 1 2) := fun j hj => ⟨by rw [H6.out.rp.row.cell (by have : j < 2 := hj; omega)]; rfl, H6.out.rp.row.frozen _⟩
  have r7 : W7.rowIs rb 73 5 (fun i => if i = 2 then .int .u64 (Q : Nat) else if i = 1 then .int .u64 (E : Nat) else rpCell ⟨E, TE, TS, V, wtM S⟩ i) := by rw [← HW7.out, setCells_two]; exact (H6.out.rp.row.set 1 _).set 2 _
  have D3 : Hid (W7.cell? ⟨rb, 3, none⟩ = some (.string (strL V)) ∧ W7.frozen? ⟨rb, 3, none⟩ = false) := ⟨r7.cell (i := 3) (by decide), r7.frozen 3⟩
  have H8 : Hid (Wz w rb ⟨E, E, Q, m.s 10, wtM S⟩ m va vc w3.heap.size mg0 false true CH (W7.setCell ⟨rb, 3, none⟩ (.string (strL (m.s 10))))) := H6.out.turn (b7.setCell 3 _) hT
  have HCV := hide hcv
  clear hby hcv hT b7 r7
  go_upto_region 7 with fail
  refine wp_region_lit ?_
  refine wpList_plain rfl fun _ hK => op_run (.pointer (some ⟨rb, 0, none⟩)) (by kernel_rfl) (hK _ _ ?_)
  simp only [Act.put, List.setIfInBounds_toArray, List.set_cons_zero, List.set_cons_succ]
  refine wpList_plain rfl fun _ hK => op_run (.pointer (some ⟨rb, 0, none⟩)) (by kernel_rfl) (hK _ _ ?_)
  simp only [Act.put, List.setIfInBounds_toArray, List.set_cons_zero, List.set_cons_succ]
  refine wpList_plain rfl fun _ hK => op_run (.pointer (some ⟨w.heap.size, 5, none⟩)) (by kernel_rfl) (hK _ _ ?_)
  simp only [Act.put, List.setIfInBounds_toArray, List.set_cons_zero, List.set_cons_succ]
  refine wpList_plain rfl fun _ hK => op_run (.agg #[.int .u64 (E : Nat), .int .u64 (Q : Nat)]) (by go_simp) (hK _ _ ?_)
  simp only [Act.put, List.setIfInBounds_toArray, List.set_cons_zero, List.set_cons_succ]
  refine wpList_plain rfl fun _ hK => op_run (.pointer (some ⟨w.heap.size, 10, none⟩)) (by kernel_rfl) (hK _ _ ?_)
  simp only [Act.put, List.setIfInBounds_toArray, List.set_cons_zero, List.set_cons_succ]
  refine wpList_plain rfl fun _ hK => op_run (.slice va (m.s 10).length vc) (by go_simp) (hK _ _ ?_)
  simp only [Act.put, List.setIfInBounds_toArray, List.set_cons_zero, List.set_cons_succ]
  refine wpList_plain rfl fun _ hK => op_run (.string (strL (m.s 10))) (by have r := HCV.out; go_simp) (hK _ _ ?_)
  simp only [Act.put, List.setIfInBounds_toArray, List.set_cons_zero, List.set_cons_succ]
  refine wpList_plain rfl fun _ hK => op_run (.pointer (some ⟨rb, 0, none⟩)) (by first | kernel_rfl | go_simp) (hK _ _ ?_)
  simp only [Act.put, List.setIfInBounds_toArray, List.set_cons_zero, List.set_cons_succ]
  refine wpList_plain rfl fun _ hK => op_run (.pointer (some ⟨rb, 1, none⟩)) (by kernel_rfl) (hK _ _ ?_)
  simp only [Act.put, List.setIfInBounds_toArray, List.set_cons_zero, List.set_cons_succ]
  refine wpList_store_mid rfl 24 (.tmp 48) (.tmp 43) rfl rb 1 _ rfl rfl D1.out infoTg (by simp [Value.oneCell']) ?_
  rw [show (w6.setCells rb 1 _) = W7 from HW7.out]
  simp only [Act.put]
  refine wpList_plain rfl fun _ hK => op_run (.pointer (some ⟨rb, 0, none⟩)) (by first | kernel_rfl | go_simp) (hK _ _ ?_)
  simp only [Act.put, List.setIfInBounds_toArray, List.set_cons_zero, List.set_cons_succ]
  refine wpList_plain rfl fun _ hK => op_run (.pointer (some ⟨rb, 3, none⟩)) (by kernel_rfl) (hK _ _ ?_)
  simp only [Act.put, List.setIfInBounds_toArray, List.set_cons_zero, List.set_cons_succ]
  refine wpList_plain rfl fun _ hK => wp_store_cell 9 (.tmp 50) (.tmp 46) rfl rb 3 (.string (strL (m.s 10))) _ rfl rfl D3.out.1 D3.out.2 (by kernel_rfl) rfl (hK _ _ ?_)
  simp only [Act.put]
  clear D1 D3 HCV HW7 d5 d6 d10
  generalize W7.setCell ⟨rb, 3, none⟩ (.string (strL (m.s 10))) = W8 at *
  have d24 : W8.cell? ⟨w3.heap.size, 24, none⟩ = some (.bool CH) := H8.out.hrow.cell (i := 24) (by decide)
  have f24 : W8.frozen? ⟨w3.heap.size, 24, none⟩ = false := H8.out.hrow.frozen 24
  have H9 := hide (H8.out.flag3 true)
  go_upto_region 9 with fail
  clear d24 f24
  generalize W8.setCell ⟨w3.heap.size, 24, none⟩ (.bool true) = W9 at *
  have hma : W9.heap[w.heap.size]? = some (.cells MM 41 (0, 0)) := by rw [← HMM.out]; exact row_heap H9.out.mrow
  have HMA := hide hma
  have HAN : Hid (Calls Try.prog 36 #[.agg MM, .int .i64 5] W9 fun e w' => e = .returned (mgV (ansG m 5) none 0) ∧ Hid (Wz w rb ⟨E, E, Q, m.s 10, wtM S⟩ m va vc w3.heap.size mg0 false true true w')) := by
    have q := answer_any m va vc 5 W9
    unfold mgV at q
    rw [HMM.out] at q
    exact q.mono fun e w' ⟨he, hs⟩ => ⟨he, H9.out.since hs⟩
  clear hma
  go_upto_region 10 with fail
  clear hc1 hc2 hc3 hc4
  refine wp_region_lit ?_
  refine wpList_load_row rfl 41 (.tmp 3) rfl w.heap.size rfl _ MM (0, 0) _ HMA.out Try.underlying41 rfl HINM.out ?_
  simp only [Act.put, List.setIfInBounds_toArray, List.set_cons_zero, List.set_cons_succ]
  refine wpList_plain rfl fun _ hK => op_call 36 #[.agg MM, .int .i64 5] (by kernel_rfl) HAN.out ?_
  rintro e wa ⟨rfl, Ha⟩
  refine ⟨_, rfl, hK _ _ ?_⟩
  simp only [Act.put, List.setIfInBounds_toArray, List.set_cons_zero, List.set_cons_succ]
  clear HAN HMA hK H9
  refine wpList_plain rfl fun _ hK => op_run (.pointer (some ⟨w3.heap.size, 0, none⟩)) (by kernel_rfl) (hK _ _ ?_)
  simp only [Act.put, List.setIfInBounds_toArray, List.set_cons_zero, List.set_cons_succ]
  refine wpList_store_mid rfl 41 (.tmp 56) (.tmp 55) rfl w3.heap.size 0 (mgL (ansG m 5) none 0).toArray rfl rfl (fun j hj => ⟨by rw [Ha.out.hrow.cell (by rw [List.size_toArray, mgL_len] at hj; omega)]; rfl, Ha.out.hrow.frozen _⟩) (infoMgA _ _ _) (mg_all _ _ _) ?_
  simp only [Act.put]
  have Hb := hide (Ha.out.head (ansG m 5))
  generalize wa.setCells w3.heap.size 0 (mgL (ansG m 5) none 0) = wb at *
  refine wpList_plain rfl fun _ hK => op_run (.pointer (some ⟨w3.heap.size, 22, none⟩)) (by kernel_rfl) (hK _ _ ?_)
  simp only [Act.put, List.setIfInBounds_toArray, List.set_cons_zero, List.set_cons_succ]
  refine wpList_plain rfl fun _ hK => wp_store_cell 4 (.tmp 57) _ rfl w3.heap.size 22 (.bool true) _ rfl rfl (Hb.out.hrow.cell (i := 22) (by decide)) (Hb.out.hrow.frozen 22) (by kernel_rfl) rfl (hK _ _ ?_)
  simp only [Act.put]
  have Hc := hide (Hb.out.flag1 true)
  generalize wb.setCell ⟨w3.heap.size, 22, none⟩ (.bool true) = wc at *
  have d5 : wc.cell? ⟨w.heap.size, 5, none⟩ = some (.int .u64 (E : Nat)) := by
    have a : wc.cell? ⟨w.heap.size, 5, none⟩ = some (.int .u64 (m.n 5)) := Hc.out.mrow.cell (i := 5) (by decide)
    rw [a, H55.out]
  have d6 : wc.cell? ⟨w.heap.size, 6, none⟩ = some (.int .u64 (Q : Nat)) := by
    have a : wc.cell? ⟨w.heap.size, 6, none⟩ = some (.int .u64 (m.n 6)) := Hc.out.mrow.cell (i := 6) (by decide)
    rw [a, H66.out]
  go_upto_region 11 with fail
  refine wp_region_lit ?_
  refine wpList_plain rfl fun _ hK => op_run (.pointer (some ⟨w.heap.size, 5, none⟩)) (by kernel_rfl) (hK _ _ ?_)
  simp only [Act.put, List.setIfInBounds_toArray, List.set_cons_zero, List.set_cons_succ]
  refine wpList_plain rfl fun _ hK => op_run (.agg #[.int .u64 (E : Nat), .int .u64 (Q : Nat)]) (by go_simp) (hK _ _ ?_)
  simp only [Act.put, List.setIfInBounds_toArray, List.set_cons_zero, List.set_cons_succ]
  refine wpList_plain rfl fun _ hK => op_run (.pointer (some ⟨w3.heap.size, 0, none⟩)) (by kernel_rfl) (hK _ _ ?_)
  simp only [Act.put, List.setIfInBounds_toArray, List.set_cons_zero, List.set_cons_succ]
  refine wpList_plain rfl fun _ hK => op_run (.pointer (some ⟨w3.heap.size, 5, none⟩)) (by kernel_rfl) (hK _ _ ?_)
  simp only [Act.put, List.setIfInBounds_toArray, List.set_cons_zero, List.set_cons_succ]
  refine wpList_store_mid rfl 24 (.tmp 61) (.tmp 59) rfl w3.heap.size 5 _ rfl rfl (fun j hj => ⟨by rw [Hc.out.hrow.cell (by have : j < 2 := hj; omega)]; rfl, Hc.out.hrow.frozen _⟩) infoTg (by simp [Value.oneCell']) ?_
  simp only [Act.put]
  rw [show (wc.setCells w3.heap.size 5 _) = (wc.setCell ⟨w3.heap.size, 5, none⟩ (mgNum 5 (E : Nat))).setCell ⟨w3.heap.size, 6, none⟩ (mgNum 6 (Q : Nat)) from rfl]
  have Hd : Hid (Wz w rb ⟨E, E, Q, m.s 10, wtM S⟩ m va vc w3.heap.size (wrG m E Q) true true true _) := hide ((Hc.out.num 5 (E : Nat) (by decide)).num 6 (Q : Nat) (by decide))
  generalize World.setCell _ ⟨w3.heap.size, 6, none⟩ (mgNum 6 (Q : Nat)) = wd at *
  clear d5 d6 Ha Hb Hc
  go_upto_region 12 with fail
  obtain ⟨HL, HHL⟩ : ∃ x, Hid ((hdL (wrG m E Q) none 0 true true true).toArray = x) := ⟨_, rfl⟩
  have HIR : Hid ((Try.prog.info? 46).map (·.size) = some HL.size) := by rw [← HHL.out]; exact infoHrA _ _ _ _ _ _
  have HAL : Hid (HL.all (·.oneCell') = true) := by rw [← HHL.out]; exact hd_all _ _ _ _ _ _
  have hh : wd.heap[w3.heap.size]? = some (.cells HL 46 (0, 0)) := by rw [← HHL.out]; exact hd_heap Hd.out.hrow
  obtain ⟨WE, HWE, hhE, zE, bE, oE, tE, pE⟩ := cells_stored Hd.out.out (hdL (wrG m E Q) none 0 true true true) (hdL_len _ _ _ _ _ _)
  have HTE : Hid (wd.there (w.heap.size + 1) 0 HL.size) := by
    have e : HL.size = 25 := by rw [← HHL.out, List.size_toArray, hdL_len]
    show World.there _ _ _ _
    rw [e]
    exact row_there Hd.out.out
  have HE : Hid (RpIs WE rb ⟨E, E, Q, m.s 10, wtM S⟩ ∧ But rb w WE) := by
    have hlt := Hd.out.lt
    have bt := Hd.out.but
    refine ⟨Hd.out.rp.on (bE _ (by omega)), oE.trans bt.os, tE.trans bt.tape, pE.trans bt.output, by rw [zE]; exact bt.size, fun k hk hr => ?_⟩
    rw [bE k (by omega)]
    exact bt.block k hk hr
  have HWE' : Hid (wd.setCells (w.heap.size + 1) 0 HL.toList = WE) := by
    rw [← HHL.out]
    exact HWE
  have HHE : Hid (WE.heap[w.heap.size + 1]? = some (.cells HL 46 (0, 0))) := by rw [← HHL.out]; exact hhE
  have HHH := hide hh
  refine wp_region_lit ?_
  refine wpList_load_row rfl 46 (.tmp 5) rfl w3.heap.size rfl _ HL (0, 0) _ HHH.out Try.underlying46 rfl HIR.out ?_
  simp only [Act.put, List.setIfInBounds_toArray, List.set_cons_zero, List.set_cons_succ]
  refine wpList_store_mid rfl 46 (.tmp 4) (.tmp 62) rfl (w.heap.size + 1) 0 HL rfl rfl HTE.out HIR.out HAL.out ?_
  rw [HWE'.out]
  clear hh hhE zE bE oE tE pE
  go_wp2_with fail
  exact bodyPost_ret_by (results_cell_row rfl _ _ (w.heap.size + 1) 46 _ (0, 0) _ rfl HHE.out Try.underlying46 rfl HIR.out) rfl ⟨congrArg (fun x => Ending.returned (.agg x)) HHL.out.symm, HE.out⟩
set_option maxHeartbeats 8000000 in
theorem write_equal {rb : Nat} {r : Rp} {w : World} (h : RpIs w rb r) (m : Mg) (va : Option Addr) (vc : Nat) (E Q : Nat) (S : Int) (hA : MgA w m va vc) (h5 : m.n 5 = (E : Nat)) (h6 : m.n 6 = (Q : Nat)) (h8 : m.n 8 = S) (hE : E < 18446744073709551616) (hQ : Q < 18446744073709551616) (hS : S ≤ 9223372036854775807) (hge : r.p ≤ E) (ho : cmT E Q r.te r.ts = 0) :
    Calls Try.prog 33 #[.pointer (some ⟨rb, 0, none⟩), mgV m va vc] w fun e w' => e = .returned (hdV (wrG m E Q) none 0 true true (decide (r.p ≠ E))) ∧ RpIs w' rb { r with p := E, wt := wtM S } ∧ But rb w w' := by
  obtain ⟨MM, HMM⟩ : ∃ x, Hid ((mgL m va vc).toArray = x) := ⟨_, rfl⟩
  have HINM : Hid ((Try.prog.info? 41).map (·.size) = some MM.size) := by rw [← HMM.out]; exact infoMgA _ _ _
  obtain ⟨W1, HW1⟩ : ∃ W, Hid (w.alloc (.cells MM 41) = W) := ⟨_, rfl⟩
  have s1 : w.Since w.heap.size W1 := by rw [← HW1.out]; exact (World.Since.refl _ _).alloc (Nat.le_refl _) _
  have z1 : W1.heap.size = w.heap.size + 1 := by rw [← HW1.out]; simp
  have r1 : W1.rowIs w.heap.size 41 22 (mgCell m va vc) := by rw [← HW1.out, ← HMM.out]; exact mg_row w m va vc
  obtain ⟨W2, HW2⟩ : ∃ W, Hid (W1.alloc hdZ = W) := ⟨_, rfl⟩
  have s2 : W1.Since W1.heap.size W2 := by rw [← HW2.out]; exact (World.Since.refl _ _).alloc (Nat.le_refl _) _
  have r2 : W2.rowIs (w.heap.size + 1) 46 25 (hdCell mg0 none 0 false false false) := by rw [← z1, ← HW2.out]; exact hdZ_row W1
  have rm2 := row_since r1 s2
  have sw2 : w.Since w.heap.size W2 := s1.trans (since_mono s2 s1.size)
  have z2 : W2.heap.size = w.heap.size + 1 + 1 := by rw [← HW2.out, ← z1]; simp
  have hR2 := h.since sw2
  have hrp := h.lt
  have hA2 := hA.since sw2
  have c5 : W2.cell? ⟨w.heap.size, 5, none⟩ = some (.int .u64 (E : Nat)) := by
    have : W2.cell? ⟨w.heap.size, 5, none⟩ = some (.int .u64 (m.n 5)) := rm2.cell (i := 5) (by decide)
    rw [this, h5]
  have cp := hR2.c0
  have HPR : Hid (∀ W : World, W2.Since W2.heap.size W → Calls Try.prog 31 #[.pointer (some ⟨rb, 0, none⟩), .int .u64 (E : Nat)] W fun e w' => e = .returned (.bool (decide (r.p ≠ E))) ∧ Hid (RpIs w' rb { r with p := E } ∧ But rb W2 w')) := fun W hW => (promise_any (hR2.since hW) E hE).mono fun e w' ⟨he, h1, h2⟩ => ⟨he, h1, (But.of_since (r := rb) hW).trans h2⟩
  have hq : decide ((E : Int) < (r.p : Int)) = false := by simp; omega
  have hq2 : ¬ ((E : Int) < (r.p : Int)) := by omega
  obtain ⟨CH, HCH⟩ : ∃ x, Hid (decide (r.p ≠ E) = x) := ⟨_, rfl⟩
  rw [HCH.out] at HPR
  try rw [HCH.out]
  have HRM := hide rm2
  have HRW := hide r2
  have HS2 := hide sw2
  have Hz2 := hide z2
  have HLT := hide hrp
  have H55 := hide h5
  have H66 := hide h6
  have H88 := hide h8
  have HEQ : Hid (E < 18446744073709551616 ∧ Q < 18446744073709551616 ∧ S ≤ 9223372036854775807) := ⟨hE, hQ, hS⟩
  have HA := hide hA2
  have HBY : Hid (∀ W : World, But rb w W → Byt W va (m.s 10).length (fun j => (m.s 10).getD j 0)) := fun W hW => byt_but hA.val h hW
  have HO := hide ho
  unfold hdZ at HW2
  have HC5 : Hid (∀ W : World, W2.Since W2.heap.size W → W.cell? ⟨w.heap.size, 5, none⟩ = some (.int .u64 (E : Nat))) := fun W hW => cell_later hW c5
  obtain ⟨P, TE, TS, V, WT⟩ := r
  replace cp : W2.cell? ⟨rb, 0, none⟩ = some (.int .u64 (P : Nat)) := cp
  replace hq : decide ((E : Int) < (P : Int)) = false := hq
  replace hq2 : ¬ ((E : Int) < (P : Int)) := hq2
  replace HPR : Hid (∀ W : World, W2.Since W2.heap.size W → Calls Try.prog 31 #[.pointer (some ⟨rb, 0, none⟩), .int .u64 (E : Nat)] W fun e w' => e = .returned (.bool CH) ∧ Hid (RpIs w' rb ⟨E, TE, TS, V, WT⟩ ∧ But rb W2 w')) := HPR
  clear s1 r1 s2 r2 rm2 sw2 z2 hrp hR2 h h5 h6 h8 hge HCH hE hQ hS hA hA2 ho
  unfold mgV
  rw [HMM.out]
  go_enter Try.func33, Try.ntmps33
  go_upto_region 1 with fail
  rw [HW1.out]
  try rw [z1]
  rw [HW2.out]
  try rw [z1]
  clear HW1 HW2 z1
  go_quiet (fail)
  have hsq : W2.Since W2.heap.size (W2.drewN nq) := since_drewN' (World.Since.refl _ _) nq
  generalize W2.drewN nq = Wq at *
  have cq5 := HC5.out Wq hsq
  have HQ3 := hide (HPR.out Wq hsq)
  clear HPR c5 cp hq hq2 HC5
  go_upto_region 3 with fail
  refine wp_region_lit ?_
  refine wpList_plain rfl fun _ hK => op_run (.pointer (some ⟨rb, 0, none⟩)) (by kernel_rfl) (hK _ _ ?_)
  simp only [Act.put, List.setIfInBounds_toArray, List.set_cons_zero, List.set_cons_succ]
  refine wpList_plain rfl fun _ hK => op_run (.pointer (some ⟨w.heap.size, 5, none⟩)) (by kernel_rfl) (hK _ _ ?_)
  simp only [Act.put, List.setIfInBounds_toArray, List.set_cons_zero, List.set_cons_succ]
  refine wpList_plain rfl fun _ hK => op_run (.pointer (some ⟨w.heap.size, 5, none⟩)) (by kernel_rfl) (hK _ _ ?_)
  simp only [Act.put, List.setIfInBounds_toArray, List.set_cons_zero, List.set_cons_succ]
  refine wpList_plain rfl fun _ hK => op_run (.int .u64 (E : Nat)) (by go_simp) (hK _ _ ?_)
  simp only [Act.put, List.setIfInBounds_toArray, List.set_cons_zero, List.set_cons_succ]
  refine wpList_plain rfl fun _ hK => op_call 31 #[.pointer (some ⟨rb, 0, none⟩), .int .u64 (E : Nat)] (by kernel_rfl) HQ3.out ?_
  rintro e w3 ⟨rfl, H3⟩
  refine ⟨_, rfl, hK _ _ ?_⟩
  simp only [Act.put, List.setIfInBounds_toArray, List.set_cons_zero, List.set_cons_succ]
  clear HQ3 cq5 hsq
  refine wpList_plain rfl fun _ hK => op_run (hdV mg0 none 0 false true CH) (by kernel_rfl) (hK _ _ ?_)
  obtain ⟨W4, HA4, HV4, HT4, HW4, HI4, HO4, HR4, HS4⟩ := hd_put w3 mg0 none 0 false true CH
  rw [HV4.out]
  simp only [Act.put, List.setIfInBounds_toArray, List.set_cons_zero, List.set_cons_succ]
  have hz2 := Hz2.out
  have hz3 : W2.heap.size ≤ w3.heap.size := H3.out.2.size
  have hlt := HLT.out
  have HZ4 : Hid (Wz w rb ⟨E, TE, TS, V, WT⟩ m va vc w3.heap.size mg0 false true CH W4) := ⟨H3.out.1.since HS4.out, row_since (H3.out.2.row HRM.out (by omega)) HS4.out, row_since (H3.out.2.row HRW.out (by omega)) HS4.out, HR4.out, ((But.of_since HS2.out).trans H3.out.2).sin HS4.out, by omega, hlt⟩
  have HA4' : Hid (∀ W : World, But rb W4 W → W.heap.size ≥ 0 → True) := fun _ _ _ => trivial
  have c8 : W4.cell? ⟨w.heap.size, 8, none⟩ = some (.int .i64 S) := by
    have : W4.cell? ⟨w.heap.size, 8, none⟩ = some (.int .i64 (m.n 8)) := HZ4.out.mrow.cell (i := 8) (by decide)
    rw [this, H88.out]
  have HK5 : Hid (Calls Try.prog 26 #[.pointer (some ⟨rb, 0, none⟩), .int .i64 S] W4 fun e w' => e = .returned (.tuple #[]) ∧ Hid (Wz w rb ⟨E, TE, TS, V, wtM S⟩ m va vc w3.heap.size mg0 false true CH w')) := (keepOut_any HZ4.out.rp S HEQ.out.2.2).mono fun e w' ⟨he, h1, h2⟩ => ⟨he, HZ4.out.turn h2 h1⟩
  clear hz2 hz3 hlt HR4 HS4 H3 HA4'
  go_wp2_with (refine wpList_store_mid rfl 46 _ _ rfl w3.heap.size 0 _ rfl rfl HT4.out HI4.out HO4.out ?_; rw [HW4.out])
  refine HK5.out.mono ?_
  rintro e w5 ⟨rfl, H5⟩
  clear HK5 c8 HZ4 HT4 HI4 HO4 HW4 HV4
  go_upto_region 5 with fail
  have HM6' : Hid (∀ W : World, Wz w rb ⟨E, TE, TS, V, wtM S⟩ m va vc w3.heap.size mg0 false true CH W → W.cell? ⟨w.heap.size, 5, none⟩ = some (.int .u64 (E : Nat)) ∧ W.cell? ⟨w.heap.size, 6, none⟩ = some (.int .u64 (Q : Nat))) := fun W hW => by
    have a : W.cell? ⟨w.heap.size, 5, none⟩ = some (.int .u64 (m.n 5)) := hW.mrow.cell (i := 5) (by decide)
    have b : W.cell? ⟨w.heap.size, 6, none⟩ = some (.int .u64 (m.n 6)) := hW.mrow.cell (i := 6) (by decide)
    rw [a, b, H55.out, H66.out]
    exact ⟨rfl, rfl⟩
  have H5d : Hid (Wz w rb ⟨E, TE, TS, V, wtM S⟩ m va vc w3.heap.size mg0 false true CH w5.drew) := H5.out.since ((World.Since.refl _ _).drew)
  have HCM : Hid (Calls Try.prog 37 #[.agg #[.int .u64 (E : Nat), .int .u64 (Q : Nat)], .agg #[.int .u64 (TE : Nat), .int .u64 (TS : Nat)]] w5.drew fun e w' => e = .returned (.int .i64 (cmT E Q TE TS)) ∧ Hid (Wz w rb ⟨E, TE, TS, V, wtM S⟩ m va vc w3.heap.size mg0 false true CH w')) := (compareT_any E Q TE TS w5.drew).mono fun e w' ⟨he, hs⟩ => ⟨he, H5d.out.since hs⟩
  generalize hcm : cmT E Q TE TS = CM at *
  refine wp_region_held_drew (S := fun W => Wz w rb ⟨E, TE, TS, V, wtM S⟩ m va vc w3.heap.size mg0 false true CH W) (by kernel_rfl) H5d.out fun _ => ?_
  refine wpAnyH_take (i := 0) (v := .pointer (some ⟨w.heap.size, 5, none⟩)) rfl (by kernel_rfl) (by kernel_rfl) (by kernel_rfl) (fun _ _ _ h => h) (.inl ⟨rfl, fun W hW => by kernel_rfl⟩) H5d.out ?_
  simp only [List.getElem_toArray, List.getElem_cons_zero, Act.put, List.setIfInBounds_toArray, List.set_cons_zero, List.set_cons_succ]
  refine wpAnyH_take (i := 1) (v := .agg #[.int .u64 (E : Nat), .int .u64 (Q : Nat)]) rfl (by kernel_rfl) (by kernel_rfl) (by kernel_rfl) (fun _ _ _ h => h) (.inl ⟨rfl, fun W hW => by have c1 := (HM6'.out _ hW).1; have c2 := (HM6'.out _ hW).2; go_simp⟩) H5d.out ?_
  simp only [List.getElem_toArray, List.getElem_cons_zero, List.getElem_cons_succ, Act.put, List.setIfInBounds_toArray, List.set_cons_zero, List.set_cons_succ]
  refine wpAnyH_take (i := 2) (v := .pointer (some ⟨rb, 0, none⟩)) rfl (by kernel_rfl) (by kernel_rfl) (by kernel_rfl) (fun _ _ _ h => h) (.inl ⟨rfl, fun W hW => by kernel_rfl⟩) H5d.out ?_
  simp only [List.getElem_toArray, List.getElem_cons_zero, List.getElem_cons_succ, Act.put, List.setIfInBounds_toArray, List.set_cons_zero, List.set_cons_succ]
  refine wpAnyH_take (i := 3) (v := .pointer (some ⟨rb, 0, none⟩)) rfl (by kernel_rfl) (by kernel_rfl) (by kernel_rfl) (fun _ _ _ h => h) (.inl ⟨rfl, fun W hW => by first | kernel_rfl | go_simp⟩) H5d.out ?_
  simp only [List.getElem_toArray, List.getElem_cons_zero, List.getElem_cons_succ, Act.put, List.setIfInBounds_toArray, List.set_cons_zero, List.set_cons_succ]
  refine wpAnyH_take (i := 4) (v := .pointer (some ⟨rb, 1, none⟩)) rfl (by kernel_rfl) (by kernel_rfl) (by kernel_rfl) (fun _ _ _ h => h) (.inl ⟨rfl, fun W hW => by kernel_rfl⟩) H5d.out ?_
  simp only [List.getElem_toArray, List.getElem_cons_zero, List.getElem_cons_succ, Act.put, List.setIfInBounds_toArray, List.set_cons_zero, List.set_cons_succ]
  refine wpAnyH_take (i := 5) (v := .agg #[.int .u64 (TE : Nat), .int .u64 (TS : Nat)]) rfl (by kernel_rfl) (by kernel_rfl) (by kernel_rfl) (fun _ _ _ h => h) (.inl ⟨rfl, fun W hW => by have c1 := hW.rp.c1; have c2 := hW.rp.c2; go_simp⟩) H5d.out ?_
  simp only [List.getElem_toArray, List.getElem_cons_zero, List.getElem_cons_succ, Act.put, List.setIfInBounds_toArray, List.set_cons_zero, List.set_cons_succ]
  refine wpAnyH_ready (rs := [6]) (by kernel_rfl) (by simp) ?_
  refine AllReadyH.cons rfl (fun K hK => ?_) AllReadyH.nil
  refine step_callW rfl 37 #[.agg #[.int .u64 (E : Nat), .int .u64 (Q : Nat)], .agg #[.int .u64 (TE : Nat), .int .u64 (TS : Nat)]] (by kernel_rfl) HCM.out ?_
  rintro e w6 ⟨rfl, H6⟩
  refine ⟨_, rfl, hK.out _ _ H6.out fun _ => ?_⟩
  clear hK
  simp only [List.getElem_toArray, List.getElem_cons_zero, List.getElem_cons_succ, Act.put, List.setIfInBounds_toArray, List.set_cons_zero, List.set_cons_succ]
  refine wpAnyH_take (i := 7) (v := .int .i64 CM) rfl (by kernel_rfl) (by kernel_rfl) (by kernel_rfl) (fun _ _ _ h => h) (.inl ⟨rfl, fun W hW => by kernel_rfl⟩) H6.out ?_
  simp only [List.getElem_toArray, List.getElem_cons_zero, List.getElem_cons_succ, Act.put, List.setIfInBounds_toArray, List.set_cons_zero, List.set_cons_succ]
  refine wpAnyH_done (by kernel_rfl) ?_ _
  clear H5d HCM H5
  have hc1 : decide (CM > 0) = false := by have := HO.out; simp; omega
  have hc2 : ¬ (CM > 0) := by have := HO.out; omega
  have hc3 : decide (CM ≥ 0) = true := by have := HO.out; simp; omega
  have hc4 : (CM ≥ 0) := by have := HO.out; omega
  have hma : w6.heap[w.heap.size]? = some (.cells MM 41 (0, 0)) := by rw [← HMM.out]; exact row_heap H6.out.mrow
  have HMA := hide hma
  have HAN : Hid (Calls Try.prog 36 #[.agg MM, .int .i64 5] w6 fun e w' => e = .returned (mgV (ansG m 5) none 0) ∧ Hid (Wz w rb ⟨E, TE, TS, V, wtM S⟩ m va vc w3.heap.size mg0 false true CH w')) := by
    have q := answer_any m va vc 5 w6
    unfold mgV at q
    rw [HMM.out] at q
    exact q.mono fun e w' ⟨he, hs⟩ => ⟨he, H6.out.since hs⟩
  clear hma
  go_upto_region 10 with fail
  clear hc1 hc2 hc3 hc4
  refine wp_region_lit ?_
  refine wpList_load_row rfl 41 (.tmp 3) rfl w.heap.size rfl _ MM (0, 0) _ HMA.out Try.underlying41 rfl HINM.out ?_
  simp only [Act.put, List.setIfInBounds_toArray, List.set_cons_zero, List.set_cons_succ]
  refine wpList_plain rfl fun _ hK => op_call 36 #[.agg MM, .int .i64 5] (by kernel_rfl) HAN.out ?_
  rintro e wa ⟨rfl, Ha⟩
  refine ⟨_, rfl, hK _ _ ?_⟩
  simp only [Act.put, List.setIfInBounds_toArray, List.set_cons_zero, List.set_cons_succ]
  clear HAN HMA hK H6
  refine wpList_plain rfl fun _ hK => op_run (.pointer (some ⟨w3.heap.size, 0, none⟩)) (by kernel_rfl) (hK _ _ ?_)
  simp only [Act.put, List.setIfInBounds_toArray, List.set_cons_zero, List.set_cons_succ]
  refine wpList_store_mid rfl 41 (.tmp 56) (.tmp 55) rfl w3.heap.size 0 (mgL (ansG m 5) none 0).toArray rfl rfl (fun j hj => ⟨by rw [Ha.out.hrow.cell (by rw [List.size_toArray, mgL_len] at hj; omega)]; rfl, Ha.out.hrow.frozen _⟩) (infoMgA _ _ _) (mg_all _ _ _) ?_
  simp only [Act.put]
  have Hb := hide (Ha.out.head (ansG m 5))
  generalize wa.setCells w3.heap.size 0 (mgL (ansG m 5) none 0) = wb at *
  refine wpList_plain rfl fun _ hK => op_run (.pointer (some ⟨w3.heap.size, 22, none⟩)) (by kernel_rfl) (hK _ _ ?_)
  simp only [Act.put, List.setIfInBounds_toArray, List.set_cons_zero, List.set_cons_succ]
  refine wpList_plain rfl fun _ hK => wp_store_cell 4 (.tmp 57) _ rfl w3.heap.size 22 (.bool true) _ rfl rfl (Hb.out.hrow.cell (i := 22) (by decide)) (Hb.out.hrow.frozen 22) (by kernel_rfl) rfl (hK _ _ ?_)
  simp only [Act.put]
  have Hc := hide (Hb.out.flag1 true)
  generalize wb.setCell ⟨w3.heap.size, 22, none⟩ (.bool true) = wc at *
  have d5 : wc.cell? ⟨w.heap.size, 5, none⟩ = some (.int .u64 (E : Nat)) := by
    have a : wc.cell? ⟨w.heap.size, 5, none⟩ = some (.int .u64 (m.n 5)) := Hc.out.mrow.cell (i := 5) (by decide)
    rw [a, H55.out]
  have d6 : wc.cell? ⟨w.heap.size, 6, none⟩ = some (.int .u64 (Q : Nat)) := by
    have a : wc.cell? ⟨w.heap.size, 6, none⟩ = some (.int .u64 (m.n 6)) := Hc.out.mrow.cell (i := 6) (by decide)
    rw [a, H66.out]
  go_upto_region 11 with fail
  refine wp_region_lit ?_
  refine wpList_plain rfl fun _ hK => op_run (.pointer (some ⟨w.heap.size, 5, none⟩)) (by kernel_rfl) (hK _ _ ?_)
  simp only [Act.put, List.setIfInBounds_toArray, List.set_cons_zero, List.set_cons_succ]
  refine wpList_plain rfl fun _ hK => op_run (.agg #[.int .u64 (E : Nat), .int .u64 (Q : Nat)]) (by go_simp) (hK _ _ ?_)
  simp only [Act.put, List.setIfInBounds_toArray, List.set_cons_zero, List.set_cons_succ]
  refine wpList_plain rfl fun _ hK => op_run (.pointer (some ⟨w3.heap.size, 0, none⟩)) (by kernel_rfl) (hK _ _ ?_)
  simp only [Act.put, List.setIfInBounds_toArray, List.set_cons_zero, List.set_cons_succ]
  refine wpList_plain rfl fun _ hK => op_run (.pointer (some ⟨w3.heap.size, 5, none⟩)) (by kernel_rfl) (hK _ _ ?_)
  simp only [Act.put, List.setIfInBounds_toArray, List.set_cons_zero, List.set_cons_succ]
  refine wpList_store_mid rfl 24 (.tmp 61) (.tmp 59) rfl w3.heap.size 5 _ rfl rfl (fun j hj => ⟨by rw [Hc.out.hrow.cell (by have : j < 2 := hj; omega)]; rfl, Hc.out.hrow.frozen _⟩) infoTg (by simp [Value.oneCell']) ?_
  simp only [Act.put]
  rw [show (wc.setCells w3.heap.size 5 _) = (wc.setCell ⟨w3.heap.size, 5, none⟩ (mgNum 5 (E : Nat))).setCell ⟨w3.heap.size, 6, none⟩ (mgNum 6 (Q : Nat)) from rfl]
  have Hd : Hid (Wz w rb ⟨E, TE, TS, V, wtM S⟩ m va vc w3.heap.size (wrG m E Q) true true CH _) := hide ((Hc.out.num 5 (E : Nat) (by decide)).num 6 (Q : Nat) (by decide))
  generalize World.setCell _ ⟨w3.heap.size, 6, none⟩ (mgNum 6 (Q : Nat)) = wd at *
  clear d5 d6 Ha Hb Hc
  go_upto_region 12 with fail
  obtain ⟨HL, HHL⟩ : ∃ x, Hid ((hdL (wrG m E Q) none 0 true true CH).toArray = x) := ⟨_, rfl⟩
  have HIR : Hid ((Try.prog.info? 46).map (·.size) = some HL.size) := by rw [← HHL.out]; exact infoHrA _ _ _ _ _ _
  have HAL : Hid (HL.all (·.oneCell') = true) := by rw [← HHL.out]; exact hd_all _ _ _ _ _ _
  have hh : wd.heap[w3.heap.size]? = some (.cells HL 46 (0, 0)) := by rw [← HHL.out]; exact hd_heap Hd.out.hrow
  obtain ⟨WE, HWE, hhE, zE, bE, oE, tE, pE⟩ := cells_stored Hd.out.out (hdL (wrG m E Q) none 0 true true CH) (hdL_len _ _ _ _ _ _)
  have HTE : Hid (wd.there (w.heap.size + 1) 0 HL.size) := by
    have e : HL.size = 25 := by rw [← HHL.out, List.size_toArray, hdL_len]
    show World.there _ _ _ _
    rw [e]
    exact row_there Hd.out.out
  have HE : Hid (RpIs WE rb ⟨E, TE, TS, V, wtM S⟩ ∧ But rb w WE) := by
    have hlt := Hd.out.lt
    have bt := Hd.out.but
    refine ⟨Hd.out.rp.on (bE _ (by omega)), oE.trans bt.os, tE.trans bt.tape, pE.trans bt.output, by rw [zE]; exact bt.size, fun k hk hr => ?_⟩
    rw [bE k (by omega)]
    exact bt.block k hk hr
  have HWE' : Hid (wd.setCells (w.heap.size + 1) 0 HL.toList = WE) := by
    rw [← HHL.out]
    exact HWE
  have HHE : Hid (WE.heap[w.heap.size + 1]? = some (.cells HL 46 (0, 0))) := by rw [← HHL.out]; exact hhE
  have HHH := hide hh
  refine wp_region_lit ?_
  refine wpList_load_row rfl 46 (.tmp 5) rfl w3.heap.size rfl _ HL (0, 0) _ HHH.out Try.underlying46 rfl HIR.out ?_
  simp only [Act.put, List.setIfInBounds_toArray, List.set_cons_zero, List.set_cons_succ]
  refine wpList_store_mid rfl 46 (.tmp 4) (.tmp 62) rfl (w.heap.size + 1) 0 HL rfl rfl HTE.out HIR.out HAL.out ?_
  rw [HWE'.out]
  clear hh hhE zE bE oE tE pE
  go_wp2_with fail
  exact bodyPost_ret_by (results_cell_row rfl _ _ (w.heap.size + 1) 46 _ (0, 0) _ rfl HHE.out Try.underlying46 rfl HIR.out) rfl ⟨congrArg (fun x => Ending.returned (.agg x)) HHL.out.symm, HE.out⟩
set_option maxHeartbeats 8000000 in
theorem write_less {rb : Nat} {r : Rp} {w : World} (h : RpIs w rb r) (m : Mg) (va : Option Addr) (vc : Nat) (E Q : Nat) (S : Int) (hA : MgA w m va vc) (h5 : m.n 5 = (E : Nat)) (h6 : m.n 6 = (Q : Nat)) (h8 : m.n 8 = S) (hE : E < 18446744073709551616) (hQ : Q < 18446744073709551616) (hS : S ≤ 9223372036854775807) (hge : r.p ≤ E) (ho : cmT E Q r.te r.ts < 0) :
    Calls Try.prog 33 #[.pointer (some ⟨rb, 0, none⟩), mgV m va vc] w fun e w' => e = .returned (hdV mg0 none 0 false true (decide (r.p ≠ E))) ∧ RpIs w' rb { r with p := E, wt := wtM S } ∧ But rb w w' := by
  obtain ⟨MM, HMM⟩ : ∃ x, Hid ((mgL m va vc).toArray = x) := ⟨_, rfl⟩
  have HINM : Hid ((Try.prog.info? 41).map (·.size) = some MM.size) := by rw [← HMM.out]; exact infoMgA _ _ _
  obtain ⟨W1, HW1⟩ : ∃ W, Hid (w.alloc (.cells MM 41) = W) := ⟨_, rfl⟩
  have s1 : w.Since w.heap.size W1 := by rw [← HW1.out]; exact (World.Since.refl _ _).alloc (Nat.le_refl _) _
  have z1 : W1.heap.size = w.heap.size + 1 := by rw [← HW1.out]; simp
  have r1 : W1.rowIs w.heap.size 41 22 (mgCell m va vc) := by rw [← HW1.out, ← HMM.out]; exact mg_row w m va vc
  obtain ⟨W2, HW2⟩ : ∃ W, Hid (W1.alloc hdZ = W) := ⟨_, rfl⟩
  have s2 : W1.Since W1.heap.size W2 := by rw [← HW2.out]; exact (World.Since.refl _ _).alloc (Nat.le_refl _) _
  have r2 : W2.rowIs (w.heap.size + 1) 46 25 (hdCell mg0 none 0 false false false) := by rw [← z1, ← HW2.out]; exact hdZ_row W1
  have rm2 := row_since r1 s2
  have sw2 : w.Since w.heap.size W2 := s1.trans (since_mono s2 s1.size)
  have z2 : W2.heap.size = w.heap.size + 1 + 1 := by rw [← HW2.out, ← z1]; simp
  have hR2 := h.since sw2
  have hrp := h.lt
  have hA2 := hA.since sw2
  have c5 : W2.cell? ⟨w.heap.size, 5, none⟩ = some (.int .u64 (E : Nat)) := by
    have : W2.cell? ⟨w.heap.size, 5, none⟩ = some (.int .u64 (m.n 5)) := rm2.cell (i := 5) (by decide)
    rw [this, h5]
  have cp := hR2.c0
  have HPR : Hid (∀ W : World, W2.Since W2.heap.size W → Calls Try.prog 31 #[.pointer (some ⟨rb, 0, none⟩), .int .u64 (E : Nat)] W fun e w' => e = .returned (.bool (decide (r.p ≠ E))) ∧ Hid (RpIs w' rb { r with p := E } ∧ But rb W2 w')) := fun W hW => (promise_any (hR2.since hW) E hE).mono fun e w' ⟨he, h1, h2⟩ => ⟨he, h1, (But.of_since (r := rb) hW).trans h2⟩
  have hq : decide ((E : Int) < (r.p : Int)) = false := by simp; omega
  have hq2 : ¬ ((E : Int) < (r.p : Int)) := by omega
  obtain ⟨CH, HCH⟩ : ∃ x, Hid (decide (r.p ≠ E) = x) := ⟨_, rfl⟩
  rw [HCH.out] at HPR
  try rw [HCH.out]
  have HRM := hide rm2
  have HRW := hide r2
  have HS2 := hide sw2
  have Hz2 := hide z2
  have HLT := hide hrp
  have H55 := hide h5
  have H66 := hide h6
  have H88 := hide h8
  have HEQ : Hid (E < 18446744073709551616 ∧ Q < 18446744073709551616 ∧ S ≤ 9223372036854775807) := ⟨hE, hQ, hS⟩
  have HA := hide hA2
  have HBY : Hid (∀ W : World, But rb w W → Byt W va (m.s 10).length (fun j => (m.s 10).getD j 0)) := fun W hW => byt_but hA.val h hW
  have HO := hide ho
  unfold hdZ at HW2
  have HC5 : Hid (∀ W : World, W2.Since W2.heap.size W → W.cell? ⟨w.heap.size, 5, none⟩ = some (.int .u64 (E : Nat))) := fun W hW => cell_later hW c5
  obtain ⟨P, TE, TS, V, WT⟩ := r
  replace cp : W2.cell? ⟨rb, 0, none⟩ = some (.int .u64 (P : Nat)) := cp
  replace hq : decide ((E : Int) < (P : Int)) = false := hq
  replace hq2 : ¬ ((E : Int) < (P : Int)) := hq2
  replace HPR : Hid (∀ W : World, W2.Since W2.heap.size W → Calls Try.prog 31 #[.pointer (some ⟨rb, 0, none⟩), .int .u64 (E : Nat)] W fun e w' => e = .returned (.bool CH) ∧ Hid (RpIs w' rb ⟨E, TE, TS, V, WT⟩ ∧ But rb W2 w')) := HPR
  clear s1 r1 s2 r2 rm2 sw2 z2 hrp hR2 h h5 h6 h8 hge HCH hE hQ hS hA hA2 ho
  unfold mgV
  rw [HMM.out]
  go_enter Try.func33, Try.ntmps33
  go_upto_region 1 with fail
  rw [HW1.out]
  try rw [z1]
  rw [HW2.out]
  try rw [z1]
  clear HW1 HW2 z1
  go_quiet (fail)
  have hsq : W2.Since W2.heap.size (W2.drewN nq) := since_drewN' (World.Since.refl _ _) nq
  generalize W2.drewN nq = Wq at *
  have cq5 := HC5.out Wq hsq
  have HQ3 := hide (HPR.out Wq hsq)
  clear HPR c5 cp hq hq2 HC5
  go_upto_region 3 with fail
  refine wp_region_lit ?_
  refine wpList_plain rfl fun _ hK => op_run (.pointer (some ⟨rb, 0, none⟩)) (by kernel_rfl) (hK _ _ ?_)
  simp only [Act.put, List.setIfInBounds_toArray, List.set_cons_zero, List.set_cons_succ]
  refine wpList_plain rfl fun _ hK => op_run (.pointer (some ⟨w.heap.size, 5, none⟩)) (by kernel_rfl) (hK _ _ ?_)
  simp only [Act.put, List.setIfInBounds_toArray, List.set_cons_zero, List.set_cons_succ]
  refine wpList_plain rfl fun _ hK => op_run (.pointer (some ⟨w.heap.size, 5, none⟩)) (by kernel_rfl) (hK _ _ ?_)
  simp only [Act.put, List.setIfInBounds_toArray, List.set_cons_zero, List.set_cons_succ]
  refine wpList_plain rfl fun _ hK => op_run (.int .u64 (E : Nat)) (by go_simp) (hK _ _ ?_)
  simp only [Act.put, List.setIfInBounds_toArray, List.set_cons_zero, List.set_cons_succ]
  refine wpList_plain rfl fun _ hK => op_call 31 #[.pointer (some ⟨rb, 0, none⟩), .int .u64 (E : Nat)] (by kernel_rfl) HQ3.out ?_
  rintro e w3 ⟨rfl, H3⟩
  refine ⟨_, rfl, hK _ _ ?_⟩
  simp only [Act.put, List.setIfInBounds_toArray, List.set_cons_zero, List.set_cons_succ]
  clear HQ3 cq5 hsq
  refine wpList_plain rfl fun _ hK => op_run (hdV mg0 none 0 false true CH) (by kernel_rfl) (hK _ _ ?_)
  obtain ⟨W4, HA4, HV4, HT4, HW4, HI4, HO4, HR4, HS4⟩ := hd_put w3 mg0 none 0 false true CH
  rw [HV4.out]
  simp only [Act.put, List.setIfInBounds_toArray, List.set_cons_zero, List.set_cons_succ]
  have hz2 := Hz2.out
  have hz3 : W2.heap.size ≤ w3.heap.size := H3.out.2.size
  have hlt := HLT.out
  have HZ4 : Hid (Wz w rb ⟨E, TE, TS, V, WT⟩ m va vc w3.heap.size mg0 false true CH W4) := ⟨H3.out.1.since HS4.out, row_since (H3.out.2.row HRM.out (by omega)) HS4.out, row_since (H3.out.2.row HRW.out (by omega)) HS4.out, HR4.out, ((But.of_since HS2.out).trans H3.out.2).sin HS4.out, by omega, hlt⟩
  have HA4' : Hid (∀ W : World, But rb W4 W → W.heap.size ≥ 0 → True) := fun _ _ _ => trivial
  have c8 : W4.cell? ⟨w.heap.size, 8, none⟩ = some (.int .i64 S) := by
    have : W4.cell? ⟨w.heap.size, 8, none⟩ = some (.int .i64 (m.n 8)) := HZ4.out.mrow.cell (i := 8) (by decide)
    rw [this, H88.out]
  have HK5 : Hid (Calls Try.prog 26 #[.pointer (some ⟨rb, 0, none⟩), .int .i64 S] W4 fun e w' => e = .returned (.tuple #[]) ∧ Hid (Wz w rb ⟨E, TE, TS, V, wtM S⟩ m va vc w3.heap.size mg0 false true CH w')) := (keepOut_any HZ4.out.rp S HEQ.out.2.2).mono fun e w' ⟨he, h1, h2⟩ => ⟨he, HZ4.out.turn h2 h1⟩
  clear hz2 hz3 hlt HR4 HS4 H3 HA4'
  go_wp2_with (refine wpList_store_mid rfl 46 _ _ rfl w3.heap.size 0 _ rfl rfl HT4.out HI4.out HO4.out ?_; rw [HW4.out])
  refine HK5.out.mono ?_
  rintro e w5 ⟨rfl, H5⟩
  clear HK5 c8 HZ4 HT4 HI4 HO4 HW4 HV4
  go_upto_region 5 with fail
  have HM6' : Hid (∀ W : World, Wz w rb ⟨E, TE, TS, V, wtM S⟩ m va vc w3.heap.size mg0 false true CH W → W.cell? ⟨w.heap.size, 5, none⟩ = some (.int .u64 (E : Nat)) ∧ W.cell? ⟨w.heap.size, 6, none⟩ = some (.int .u64 (Q : Nat))) := fun W hW => by
    have a : W.cell? ⟨w.heap.size, 5, none⟩ = some (.int .u64 (m.n 5)) := hW.mrow.cell (i := 5) (by decide)
    have b : W.cell? ⟨w.heap.size, 6, none⟩ = some (.int .u64 (m.n 6)) := hW.mrow.cell (i := 6) (by decide)
    rw [a, b, H55.out, H66.out]
    exact ⟨rfl, rfl⟩
  have H5d : Hid (Wz w rb ⟨E, TE, TS, V, wtM S⟩ m va vc w3.heap.size mg0 false true CH w5.drew) := H5.out.since ((World.Since.refl _ _).drew)
  have HCM : Hid (Calls Try.prog 37 #[.agg #[.int .u64 (E : Nat), .int .u64 (Q : Nat)], .agg #[.int .u64 (TE : Nat), .int .u64 (TS : Nat)]] w5.drew fun e w' => e = .returned (.int .i64 (cmT E Q TE TS)) ∧ Hid (Wz w rb ⟨E, TE, TS, V, wtM S⟩ m va vc w3.heap.size mg0 false true CH w')) := (compareT_any E Q TE TS w5.drew).mono fun e w' ⟨he, hs⟩ => ⟨he, H5d.out.since hs⟩
  generalize hcm : cmT E Q TE TS = CM at *
  refine wp_region_held_drew (S := fun W => Wz w rb ⟨E, TE, TS, V, wtM S⟩ m va vc w3.heap.size mg0 false true CH W) (by kernel_rfl) H5d.out fun _ => ?_
  refine wpAnyH_take (i := 0) (v := .pointer (some ⟨w.heap.size, 5, none⟩)) rfl (by kernel_rfl) (by kernel_rfl) (by kernel_rfl) (fun _ _ _ h => h) (.inl ⟨rfl, fun W hW => by kernel_rfl⟩) H5d.out ?_
  simp only [List.getElem_toArray, List.getElem_cons_zero, Act.put, List.setIfInBounds_toArray, List.set_cons_zero, List.set_cons_succ]
  refine wpAnyH_take (i := 1) (v := .agg #[.int .u64 (E : Nat), .int .u64 (Q : Nat)]) rfl (by kernel_rfl) (by kernel_rfl) (by kernel_rfl) (fun _ _ _ h => h) (.inl ⟨rfl, fun W hW => by have c1 := (HM6'.out _ hW).1; have c2 := (HM6'.out _ hW).2; go_simp⟩) H5d.out ?_
  simp only [List.getElem_toArray, List.getElem_cons_zero, List.getElem_cons_succ, Act.put, List.setIfInBounds_toArray, List.set_cons_zero, List.set_cons_succ]
  refine wpAnyH_take (i := 2) (v := .pointer (some ⟨rb, 0, none⟩)) rfl (by kernel_rfl) (by kernel_rfl) (by kernel_rfl) (fun _ _ _ h => h) (.inl ⟨rfl, fun W hW => by kernel_rfl⟩) H5d.out ?_
  simp only [List.getElem_toArray, List.getElem_cons_zero, List.getElem_cons_succ, Act.put, List.setIfInBounds_toArray, List.set_cons_zero, List.set_cons_succ]
  refine wpAnyH_take (i := 3) (v := .pointer (some ⟨rb, 0, none⟩)) rfl (by kernel_rfl) (by kernel_rfl) (by kernel_rfl) (fun _ _ _ h => h) (.inl ⟨rfl, fun W hW => by first | kernel_rfl | go_simp⟩) H5d.out ?_
  simp only [List.getElem_toArray, List.getElem_cons_zero, List.getElem_cons_succ, Act.put, List.setIfInBounds_toArray, List.set_cons_zero, List.set_cons_succ]
  refine wpAnyH_take (i := 4) (v := .pointer (some ⟨rb, 1, none⟩)) rfl (by kernel_rfl) (by kernel_rfl) (by kernel_rfl) (fun _ _ _ h => h) (.inl ⟨rfl, fun W hW => by kernel_rfl⟩) H5d.out ?_
  simp only [List.getElem_toArray, List.getElem_cons_zero, List.getElem_cons_succ, Act.put, List.setIfInBounds_toArray, List.set_cons_zero, List.set_cons_succ]
  refine wpAnyH_take (i := 5) (v := .agg #[.int .u64 (TE : Nat), .int .u64 (TS : Nat)]) rfl (by kernel_rfl) (by kernel_rfl) (by kernel_rfl) (fun _ _ _ h => h) (.inl ⟨rfl, fun W hW => by have c1 := hW.rp.c1; have c2 := hW.rp.c2; go_simp⟩) H5d.out ?_
  simp only [List.getElem_toArray, List.getElem_cons_zero, List.getElem_cons_succ, Act.put, List.setIfInBounds_toArray, List.set_cons_zero, List.set_cons_succ]
  refine wpAnyH_ready (rs := [6]) (by kernel_rfl) (by simp) ?_
  refine AllReadyH.cons rfl (fun K hK => ?_) AllReadyH.nil
  refine step_callW rfl 37 #[.agg #[.int .u64 (E : Nat), .int .u64 (Q : Nat)], .agg #[.int .u64 (TE : Nat), .int .u64 (TS : Nat)]] (by kernel_rfl) HCM.out ?_
  rintro e w6 ⟨rfl, H6⟩
  refine ⟨_, rfl, hK.out _ _ H6.out fun _ => ?_⟩
  clear hK
  simp only [List.getElem_toArray, List.getElem_cons_zero, List.getElem_cons_succ, Act.put, List.setIfInBounds_toArray, List.set_cons_zero, List.set_cons_succ]
  refine wpAnyH_take (i := 7) (v := .int .i64 CM) rfl (by kernel_rfl) (by kernel_rfl) (by kernel_rfl) (fun _ _ _ h => h) (.inl ⟨rfl, fun W hW => by kernel_rfl⟩) H6.out ?_
  simp only [List.getElem_toArray, List.getElem_cons_zero, List.getElem_cons_succ, Act.put, List.setIfInBounds_toArray, List.set_cons_zero, List.set_cons_succ]
  refine wpAnyH_done (by kernel_rfl) ?_ _
  clear H5d HCM H5
  have hc1 : decide (CM > 0) = false := by have := HO.out; simp; omega
  have hc2 : ¬ (CM > 0) := by have := HO.out; omega
  have hc3 : decide (CM ≥ 0) = false := by have := HO.out; simp; omega
  have hc4 : ¬ (CM ≥ 0) := by have := HO.out; omega
  go_upto_region 12 with fail
  obtain ⟨HL, HHL⟩ : ∃ x, Hid ((hdL mg0 none 0 false true CH).toArray = x) := ⟨_, rfl⟩
  have HIR : Hid ((Try.prog.info? 46).map (·.size) = some HL.size) := by rw [← HHL.out]; exact infoHrA _ _ _ _ _ _
  have HAL : Hid (HL.all (·.oneCell') = true) := by rw [← HHL.out]; exact hd_all _ _ _ _ _ _
  have hh : w6.heap[w3.heap.size]? = some (.cells HL 46 (0, 0)) := by rw [← HHL.out]; exact hd_heap H6.out.hrow
  obtain ⟨WE, HWE, hhE, zE, bE, oE, tE, pE⟩ := cells_stored H6.out.out (hdL mg0 none 0 false true CH) (hdL_len _ _ _ _ _ _)
  have HTE : Hid (w6.there (w.heap.size + 1) 0 HL.size) := by
    have e : HL.size = 25 := by rw [← HHL.out, List.size_toArray, hdL_len]
    show World.there _ _ _ _
    rw [e]
    exact row_there H6.out.out
  have HE : Hid (RpIs WE rb ⟨E, TE, TS, V, wtM S⟩ ∧ But rb w WE) := by
    have hlt := H6.out.lt
    have bt := H6.out.but
    refine ⟨H6.out.rp.on (bE _ (by omega)), oE.trans bt.os, tE.trans bt.tape, pE.trans bt.output, by rw [zE]; exact bt.size, fun k hk hr => ?_⟩
    rw [bE k (by omega)]
    exact bt.block k hk hr
  have HWE' : Hid (w6.setCells (w.heap.size + 1) 0 HL.toList = WE) := by
    rw [← HHL.out]
    exact HWE
  have HHE : Hid (WE.heap[w.heap.size + 1]? = some (.cells HL 46 (0, 0))) := by rw [← HHL.out]; exact hhE
  have HHH := hide hh
  refine wp_region_lit ?_
  refine wpList_load_row rfl 46 (.tmp 5) rfl w3.heap.size rfl _ HL (0, 0) _ HHH.out Try.underlying46 rfl HIR.out ?_
  simp only [Act.put, List.setIfInBounds_toArray, List.set_cons_zero, List.set_cons_succ]
  refine wpList_store_mid rfl 46 (.tmp 4) (.tmp 62) rfl (w.heap.size + 1) 0 HL rfl rfl HTE.out HIR.out HAL.out ?_
  rw [HWE'.out]
  clear hh hhE zE bE oE tE pE
  go_wp2_with fail
  exact bodyPost_ret_by (results_cell_row rfl _ _ (w.heap.size + 1) 46 _ (0, 0) _ rfl HHE.out Try.underlying46 rfl HIR.out) rfl ⟨congrArg (fun x => Ending.returned (.agg x)) HHL.out.symm, HE.out⟩
end Go.Proofs.Yteneaiaejdgpcaa

/- Package replica: what a kind does, Hear, New. -/
namespace Go.Proofs.Yteneaiaejdgpcaa
open Go.RowKit Go.Maps
set_option maxRecDepth 100000
set_option maxRecDepth 100000

/-- How a function of a package reads. -/
def Rd (v : Value) : Option (DataW Nat × List MemPlace) :=
  match v with
  | .nilFunc => some (.nil, [])
  | .func (.func k) a b => if a.size = 0 ∧ b.size = 0 then some (.held k, []) else none
  | _ => none
theorem Rd_inv {v : Value} {k : Nat} {ps : List MemPlace} (h : Rd v = some (.held k, ps)) : v = .func (.func k) #[] #[] := by
  unfold Rd at h
  split at h
  · simp at h
  · rename_i k' a b
    split at h
    · rename_i h0
      simp only [Option.some.injEq, Prod.mk.injEq, DataW.held.injEq] at h
      rw [h.1, Array.eq_empty_of_size_eq_zero h0.1, Array.eq_empty_of_size_eq_zero h0.2]
    · cases h
  · cases h
theorem Rd_nil {v : Value} {ps : List MemPlace} (h : Rd v = some (.nil, ps)) : v = .nilFunc := by
  unfold Rd at h
  split at h
  · rfl
  · split at h
    · simp at h
    · cases h
  · cases h
theorem intK : Keyed Try.prog 3 := int_keyed Try.underlying3
theorem wpList_insert_own {H : Type} {P : Program} (w : World) {ops : Array Oper} {rest : List Oper} {o : Oper} {a : Act} {Q : Exit → Act → World → Prop}
    (hg : o.guard = none) (m x v : Operand) (t : TypeId) (hop : o.op = Op.insert t m x v)
    (k e : TypeId) (K : Keyed P k) (ht : P.underlying t = some (.map k e)) (R : Value → Option (DataW H × List MemPlace)) (b n : Nat) (D : DataW H)
    (hm : a.eval m = .map (some b)) (hown : w.ownsMap P k R b n D) (hn : n < maxLen) (key val : Value) (kl : Lit) (hx : a.eval x = key) (hv : a.eval v = val) (hkey : keyOf P k key = some kl)
    (d : DataW H) (ps : List MemPlace) (hval : R val = some (d, ps))
    (hK : ∀ w', w'.ownsMap P k R b (n + 1) (D.put kl d) → w.grownBy w' (some b) → wpList P ops Q rest (a.put o.dst undef) w') :
    wpList P ops Q (o :: rest) a w := by
  refine wpList_plain hg fun K' hK' => ?_
  obtain ⟨w', hrun, r1, r2⟩ := hown.update K ht hn hkey hval
  unfold Oper.wp
  simp [execOp, hop, hm, hx, hv, hrun, Result.andThen]
  exact hK' _ _ (hK w' r1 r2)
/-- What the map of deeds reads as. -/
def dD : DataW Nat := (((DataW.map []).put (.int .i64 1) (.held 32)).put (.int .i64 4) (.held 33)).put (.int .i64 6) (.held 34)
theorem dD_1 : has dD (.int .i64 1) = true ∧ dD.atKey (.int .i64 1) .nil = .held 32 := ⟨rfl, rfl⟩
theorem dD_4 : has dD (.int .i64 4) = true ∧ dD.atKey (.int .i64 4) .nil = .held 33 := ⟨rfl, rfl⟩
theorem dD_6 : has dD (.int .i64 6) = true ∧ dD.atKey (.int .i64 6) .nil = .held 34 := ⟨rfl, rfl⟩
theorem litI (k : Int) : WideAt.IsKeyLit (.int .i64 k) := trivial
theorem dD_no (k : Int) (h1 : k ≠ 1) (h4 : k ≠ 4) (h6 : k ≠ 6) : has dD (.int .i64 k) = false ∧ dD.atKey (.int .i64 k) .nil = .nil := by
  have e1 : (Lit.int .i64 k) ≠ .int .i64 1 := by intro h; injection h with _ h; exact h1 h
  have e4 : (Lit.int .i64 k) ≠ .int .i64 4 := by intro h; injection h with _ h; exact h4 h
  have e6 : (Lit.int .i64 k) ≠ .int .i64 6 := by intro h; injection h with _ h; exact h6 h
  unfold dD
  rw [has_put_other e6, has_put_other e4, has_put_other e1, atKey_put_other e6, atKey_put_other e4, atKey_put_other e1]
  exact ⟨rfl, rfl⟩
theorem since_grown {w w1 w2 : World} {B b : Nat} (h : w.Since B w1) (g : w1.grownBy w2 (some b)) (hb : B ≤ b) (hB : B ≤ w1.heap.size) : w.Since B w2 :=
  ⟨g.os.trans h.os, g.tape.trans h.tape, g.output.trans h.output, Nat.le_trans h.size g.size, fun k hk => (g.block k (by omega) (fun e => by have := Option.some.inj e; omega)).trans (h.block k hk)⟩
set_option maxHeartbeats 2000000 in
theorem deeds_any (w : World) : Calls Try.prog 28 #[] w fun e w' => e = .returned (.map (some w.heap.size)) ∧ w'.ownsMap Try.prog 3 Rd w.heap.size 3 dD ∧ w.Since w.heap.size w' := by
  have hmm := @run_makeMap Try.prog
  have m0 := World.ownsMap_made w Try.prog 3 Rd
  have s0 : w.Since w.heap.size (w.alloc (.map #[] 0)) := (World.Since.refl _ _).alloc (Nat.le_refl _) _
  go_enter Try.func28, Try.ntmps28
  go_upto_region 1 with fail
  refine wp_region_lit ?_
  refine wpList_plain rfl fun _ hK => op_runW (w' := w.alloc (.map #[] 0)) (.map (some w.heap.size)) (by go_simp) (hK _ _ ?_)
  simp only [Act.put, List.setIfInBounds_toArray, List.set_cons_zero, List.set_cons_succ]
  refine wpList_insert_own _ rfl _ _ _ 79 rfl 3 77 intK Try.underlying79 Rd w.heap.size 0 (.map []) rfl m0 (by decide) (.int .i64 1) (.func (.func 32) #[] #[]) (.int .i64 1) rfl rfl (keyOf_int_mk Try.underlying3 (by decide)) (.held 32) [] rfl ?_
  intro w1 hw1 gw1
  simp only [Act.put]
  refine wpList_insert_own _ rfl _ _ _ 79 rfl 3 77 intK Try.underlying79 Rd w.heap.size 1 _ rfl hw1 (by decide) (.int .i64 4) (.func (.func 33) #[] #[]) (.int .i64 4) rfl rfl (keyOf_int_mk Try.underlying3 (by decide)) (.held 33) [] rfl ?_
  intro w2 hw2 gw2
  simp only [Act.put]
  refine wpList_insert_own _ rfl _ _ _ 79 rfl 3 77 intK Try.underlying79 Rd w.heap.size 2 _ rfl hw2 (by decide) (.int .i64 6) (.func (.func 34) #[] #[]) (.int .i64 6) rfl rfl (keyOf_int_mk Try.underlying3 (by decide)) (.held 34) [] rfl ?_
  intro w3 hw3 gw3
  simp only [Act.put]
  have s1 := since_grown s0 gw1 (Nat.le_refl _) s0.size
  have s2 := since_grown s1 gw2 (Nat.le_refl _) s1.size
  have s3 := since_grown s2 gw3 (Nat.le_refl _) s2.size
  have HE : Hid (w3.ownsMap Try.prog 3 Rd w.heap.size 3 dD ∧ w.Since w.heap.size w3) := ⟨hw3, s3⟩
  clear s0 s1 s2 s3 m0 hmm hw1 hw2 hw3 gw1 gw2 gw3
  go_wp2_with fail
  go_ret
  exact ⟨rfl, HE.out⟩
end Go.Proofs.Yteneaiaejdgpcaa

/- Package replica: Hear. -/
namespace Go.Proofs.Yteneaiaejdgpcaa
open Go.RowKit Go.Maps
set_option maxRecDepth 100000
set_option maxRecDepth 100000

/-- Where the value of an answer lies: nowhere, or in new memory. -/
def AnV (lo : Nat) (w : World) (a : Mg) (ga : Option Addr) (gc : Nat) : Prop := (ga = none ∧ gc = 0 ∧ a.s 10 = []) ∨ ∃ g, ga = some ⟨g, 0, none⟩ ∧ lo ≤ g ∧ FlB w g gc (strL (a.s 10))
theorem AnV.on {lo lo' : Nat} {w w' : World} {a : Mg} {ga : Option Addr} {gc : Nat} (h : AnV lo w a ga gc) (hl : lo' ≤ lo) (hb : ∀ g, lo ≤ g → w'.heap[g]? = w.heap[g]?) : AnV lo' w' a ga gc := by
  rcases h with h | ⟨g, h1, h2, h3⟩
  · exact .inl h
  · exact .inr ⟨g, h1, Nat.le_trans hl h2, h3.on (hb g h2)⟩
set_option maxHeartbeats 8000000 in
theorem hear_prepare {rb : Nat} {r : Rp} {w : World} (h : RpIs w rb r) (m : Mg) (va : Option Addr) (vc : Nat) (hk : m.n 0 = 1) (a : Mg) (b1 b2 b3 : Bool) (r' : Rp) (HC : ∀ W : World, w.Since w.heap.size W → Calls Try.prog 32 #[.pointer (some ⟨rb, 0, none⟩), mgV m va vc] W fun e w' => ∃ ga gc, e = .returned (hdV a ga gc b1 b2 b3) ∧ RpIs w' rb r' ∧ But rb W w' ∧ AnV W.heap.size w' a ga gc) :
    Calls Try.prog 13 #[.pointer (some ⟨rb, 0, none⟩), mgV m va vc] w fun e w' => ∃ ga gc, e = .returned (hdV a ga gc b1 b2 b3) ∧ RpIs w' rb r' ∧ But rb w w' ∧ AnV w.heap.size w' a ga gc := by
  obtain ⟨MM, HMM⟩ : ∃ x, Hid ((mgL m va vc).toArray = x) := ⟨_, rfl⟩
  have HINM : Hid ((Try.prog.info? 41).map (·.size) = some MM.size) := by rw [← HMM.out]; exact infoMgA _ _ _
  obtain ⟨W1, HW1⟩ : ∃ W, Hid (w.alloc (.cells MM 41) = W) := ⟨_, rfl⟩
  have s1 : w.Since w.heap.size W1 := by rw [← HW1.out]; exact (World.Since.refl _ _).alloc (Nat.le_refl _) _
  have z1 : W1.heap.size = w.heap.size + 1 := by rw [← HW1.out]; simp
  have r1 : W1.rowIs w.heap.size 41 22 (mgCell m va vc) := by rw [← HW1.out, ← HMM.out]; exact mg_row w m va vc
  obtain ⟨W2, HW2⟩ : ∃ W, Hid (W1.alloc hdZ = W) := ⟨_, rfl⟩
  have s2 : W1.Since W1.heap.size W2 := by rw [← HW2.out]; exact (World.Since.refl _ _).alloc (Nat.le_refl _) _
  have r2 : W2.rowIs (w.heap.size + 1) 46 25 (hdCell mg0 none 0 false false false) := by rw [← z1, ← HW2.out]; exact hdZ_row W1
  have rm2 := row_since r1 s2
  have sw2 : w.Since w.heap.size W2 := s1.trans (since_mono s2 s1.size)
  have z2 : W2.heap.size = w.heap.size + 1 + 1 := by rw [← HW2.out, ← z1]; simp
  have hR2 := h.since sw2
  have hrp := h.lt
  have c0 : W2.cell? ⟨w.heap.size, 0, none⟩ = some (.int .i64 (1 : Int)) := by
    have : W2.cell? ⟨w.heap.size, 0, none⟩ = some (.int .i64 (m.n 0)) := rm2.cell (i := 0) (by decide)
    rw [this, hk]
  have HD0 : Hid (Calls Try.prog 28 #[] W2.drew fun e w' => e = .returned (.map (some W2.heap.size)) ∧ Hid (w'.ownsMap Try.prog 3 Rd W2.heap.size 3 dD) ∧ Hid (W2.Since W2.heap.size w')) := (deeds_any W2.drew).mono fun e w' ⟨he, h1, h2⟩ => ⟨he, h1, ((World.Since.refl _ _).drew).trans h2⟩
  have HC0 : Hid (∀ W : World, W2.Since W2.heap.size W → W.cell? ⟨w.heap.size, 0, none⟩ = some (.int .i64 (1 : Int))) := fun W hW => cell_later hW c0
  have HHM : Hid (∀ W : World, W2.Since W2.heap.size W → W.heap[w.heap.size]? = some (.cells MM 41 (0, 0))) := fun W hW => by
    rw [← HMM.out]
    exact row_heap (row_since rm2 hW)
  have HCC : Hid (∀ W : World, W2.Since W2.heap.size W → Calls Try.prog 32 #[.pointer (some ⟨rb, 0, none⟩), .agg MM] W fun e w' => ∃ (HL : Array Value) (WE : World) (ga : Option Addr) (gc : Nat), e = .returned (.agg HL) ∧ Hid (hdV a ga gc b1 b2 b3 = .agg HL) ∧ Hid (w'.there (w.heap.size + 1) 0 HL.size) ∧ Hid ((Try.prog.info? 46).map (·.size) = some HL.size) ∧ Hid (HL.all (·.oneCell') = true) ∧ Hid (w'.setCells (w.heap.size + 1) 0 HL.toList = WE) ∧ Hid (WE.heap[w.heap.size + 1]? = some (.cells HL 46 (0, 0))) ∧ Hid (RpIs WE rb r' ∧ But rb w WE ∧ AnV w.heap.size WE a ga gc)) := fun W hW => by
    have sW : w.Since w.heap.size W := sw2.trans (since_mono hW sw2.size)
    have q := HC W sW
    unfold mgV at q
    rw [HMM.out] at q
    refine q.mono fun e w' ⟨ga, gc, he, hr, hb, hv⟩ => ?_
    have rr := hb.row (row_since r2 hW) (by omega)
    obtain ⟨WE, HWE, hhE, zE, bE, oE, tE, pE⟩ := cells_stored rr (hdL a ga gc b1 b2 b3) (hdL_len _ _ _ _ _ _)
    have bt : But rb w w' := (But.of_since sW).trans hb
    have hzW : w.heap.size + 1 < W.heap.size := by have := hW.size; omega
    refine ⟨(hdL a ga gc b1 b2 b3).toArray, WE, ga, gc, he, rfl, ?_, infoHrA _ _ _ _ _ _, hd_all _ _ _ _ _ _, HWE, hhE, hr.on (bE _ (by omega)), ⟨oE.trans bt.os, tE.trans bt.tape, pE.trans bt.output, by rw [zE]; exact bt.size, fun k hk hn => ?_⟩, hv.on (by omega) (fun g hg => bE g (by omega))⟩
    · have e : (hdL a ga gc b1 b2 b3).toArray.size = 25 := by rw [List.size_toArray, hdL_len]
      show World.there _ _ _ _
      rw [e]
      exact row_there rr
    · rw [bE k (by omega)]
      exact bt.block k hk hn
  have HLK : Hid (∀ W : World, W.ownsMap Try.prog 3 Rd W2.heap.size 3 dD → (Instr.lookup 79 (.map (some W2.heap.size)) (.int .i64 (1 : Int)) true).run Try.prog W = .ok (.tuple #[.func (.func 32) #[] #[], .bool true]) W) := fun W hW => by
    obtain ⟨v, ps, hrun, hR⟩ := hW.look_ok intK Try.underlying79 (z := .nilFunc) (Try.zeroValue77 W) (zd := .nil) (zp := []) rfl (key := .int .i64 (1 : Int)) (kl := .int .i64 (1 : Int)) (keyOf_int_mk Try.underlying3 (by decide))
    rw [dD_1.1] at hrun
    rw [dD_1.2] at hR
    rw [← Rd_inv hR]
    exact hrun
  have HSD : Hid (W2.Since W2.heap.size W2.drew) := (World.Since.refl _ _).drew
  unfold hdZ at HW2
  clear s1 r1 s2 r2 rm2 sw2 z2 hrp hR2 h hk HC c0
  unfold mgV
  rw [HMM.out]
  clear HMM
  go_enter Try.func13, Try.ntmps13
  go_upto_region 1 with fail
  rw [HW1.out]
  try rw [z1]
  rw [HW2.out]
  try rw [z1]
  clear HW1 HW2 z1
  refine wp_region_held_drew (S := fun W => W2.Since W2.heap.size W) (by kernel_rfl) HSD.out fun _ => ?_
  refine wpAnyH_take (i := 1) (v := .pointer (some ⟨w.heap.size, 0, none⟩)) rfl (by kernel_rfl) (by kernel_rfl) (by kernel_rfl) (fun _ _ _ h => h) (.inl ⟨rfl, fun W hW => by kernel_rfl⟩) HSD.out ?_
  simp only [List.getElem_toArray, List.getElem_cons_zero, List.getElem_cons_succ, Act.put, List.setIfInBounds_toArray, List.set_cons_zero, List.set_cons_succ]
  refine wpAnyH_take (i := 2) (v := .pointer (some ⟨w.heap.size, 0, none⟩)) rfl (by kernel_rfl) (by kernel_rfl) (by kernel_rfl) (fun _ _ _ h => h) (.inl ⟨rfl, fun W hW => by kernel_rfl⟩) HSD.out ?_
  simp only [List.getElem_toArray, List.getElem_cons_zero, List.getElem_cons_succ, Act.put, List.setIfInBounds_toArray, List.set_cons_zero, List.set_cons_succ]
  refine wpAnyH_take (i := 3) (v := .int .i64 (1 : Int)) rfl (by kernel_rfl) (by kernel_rfl) (by kernel_rfl) (fun _ _ _ h => h) (.inl ⟨rfl, fun W hW => by have c := HC0.out W hW; go_simp⟩) HSD.out ?_
  simp only [List.getElem_toArray, List.getElem_cons_zero, List.getElem_cons_succ, Act.put, List.setIfInBounds_toArray, List.set_cons_zero, List.set_cons_succ]
  refine wpAnyH_ready (rs := [0]) (by kernel_rfl) (by simp) ?_
  refine AllReadyH.cons rfl (fun K hK => ?_) AllReadyH.nil
  refine step_callW rfl 28 #[] (by kernel_rfl) HD0.out ?_
  rintro e w3 ⟨rfl, HM3, HS3⟩
  refine ⟨_, rfl, hK.out _ _ HS3.out fun _ => ?_⟩
  clear hK
  simp only [List.getElem_toArray, List.getElem_cons_zero, Act.put, List.setIfInBounds_toArray, List.set_cons_zero, List.set_cons_succ]
  refine wpAnyH_ready (rs := [4]) (by kernel_rfl) (by simp) ?_
  refine AllReadyH.cons rfl (fun K hK => ?_) AllReadyH.nil
  refine step_storeM rfl (op_run (.tuple #[.func (.func 32) #[] #[], .bool true]) ?_ ?_)
  · have r := HLK.out w3 HM3.out
    go_simp
  refine hK.out _ _ HS3.out fun _ => ?_
  clear hK
  simp only [List.getElem_toArray, List.getElem_cons_zero, List.getElem_cons_succ, Act.put, List.setIfInBounds_toArray, List.set_cons_zero, List.set_cons_succ]
  refine wpAnyH_take (i := 5) (v := .tuple #[.func (.func 32) #[] #[], .bool true]) rfl (by kernel_rfl) (by kernel_rfl) (by kernel_rfl) (fun _ _ _ h => h) (.inl ⟨rfl, fun W hW => by kernel_rfl⟩) HS3.out ?_
  simp only [List.getElem_toArray, List.getElem_cons_zero, List.getElem_cons_succ, Act.put, List.setIfInBounds_toArray, List.set_cons_zero, List.set_cons_succ]
  refine wpAnyH_take (i := 6) (v := .func (.func 32) #[] #[]) rfl (by kernel_rfl) (by kernel_rfl) (by kernel_rfl) (fun _ _ _ h => h) (.inl ⟨rfl, fun W hW => by kernel_rfl⟩) HS3.out ?_
  simp only [List.getElem_toArray, List.getElem_cons_zero, List.getElem_cons_succ, Act.put, List.setIfInBounds_toArray, List.set_cons_zero, List.set_cons_succ]
  refine wpAnyH_take (i := 7) (v := .bool true) rfl (by kernel_rfl) (by kernel_rfl) (by kernel_rfl) (fun _ _ _ h => h) (.inl ⟨rfl, fun W hW => by kernel_rfl⟩) HS3.out ?_
  simp only [List.getElem_toArray, List.getElem_cons_zero, List.getElem_cons_succ, Act.put, List.setIfInBounds_toArray, List.set_cons_zero, List.set_cons_succ]
  refine wpAnyH_take (i := 8) (v := .func (.func 32) #[] #[]) rfl (by kernel_rfl) (by kernel_rfl) (by kernel_rfl) (fun _ _ _ h => h) (.inl ⟨rfl, fun W hW => by kernel_rfl⟩) HS3.out ?_
  simp only [List.getElem_toArray, List.getElem_cons_zero, List.getElem_cons_succ, Act.put, List.setIfInBounds_toArray, List.set_cons_zero, List.set_cons_succ]
  refine wpAnyH_take (i := 9) (v := .bool true) rfl (by kernel_rfl) (by kernel_rfl) (by kernel_rfl) (fun _ _ _ h => h) (.inl ⟨rfl, fun W hW => by kernel_rfl⟩) HS3.out ?_
  simp only [List.getElem_toArray, List.getElem_cons_zero, List.getElem_cons_succ, Act.put, List.setIfInBounds_toArray, List.set_cons_zero, List.set_cons_succ]
  refine wpAnyH_done (by kernel_rfl) ?_ _
  have HM4 := hide (HHM.out w3 HS3.out)
  have HC4 := hide (HCC.out w3 HS3.out)
  clear HHM HCC HC0 HD0 HLK HSD HM3 HS3
  go_upto_region 4 with fail
  refine wp_region_lit ?_
  refine wpList_plain rfl fun _ hK => op_run (.func (.func 32) #[] #[]) (by kernel_rfl) (hK _ _ ?_)
  simp only [Act.put, List.setIfInBounds_toArray, List.set_cons_zero, List.set_cons_succ]
  refine wpList_plain rfl fun _ hK => op_run (.pointer (some ⟨rb, 0, none⟩)) (by kernel_rfl) (hK _ _ ?_)
  simp only [Act.put, List.setIfInBounds_toArray, List.set_cons_zero, List.set_cons_succ]
  refine wpList_load_row rfl 41 (.tmp 3) rfl w.heap.size rfl _ MM (0, 0) _ HM4.out Try.underlying41 rfl HINM.out ?_
  simp only [Act.put, List.setIfInBounds_toArray, List.set_cons_zero, List.set_cons_succ]
  refine wpList_plain rfl fun _ hK => op_call 32 #[.pointer (some ⟨rb, 0, none⟩), .agg MM] (by kernel_rfl) HC4.out ?_
  rintro e w5 ⟨HL, WE, ga, gc, rfl, HHL, HTE, HIR, HAL, HWE, HHE, HE⟩
  refine ⟨_, rfl, hK _ _ ?_⟩
  simp only [Act.put, List.setIfInBounds_toArray, List.set_cons_zero, List.set_cons_succ]
  refine wpList_store_mid rfl 46 (.tmp 4) (.tmp 21) rfl (w.heap.size + 1) 0 HL rfl rfl HTE.out HIR.out HAL.out ?_
  rw [HWE.out]
  clear hK HC4 HM4
  go_wp2_with fail
  exact bodyPost_ret_by (results_cell_row rfl _ _ (w.heap.size + 1) 46 _ (0, 0) _ rfl HHE.out Try.underlying46 rfl HIR.out) rfl ⟨ga, gc, congrArg Ending.returned HHL.out.symm, HE.out⟩
set_option maxHeartbeats 8000000 in
theorem hear_write {rb : Nat} {r : Rp} {w : World} (h : RpIs w rb r) (m : Mg) (va : Option Addr) (vc : Nat) (hk : m.n 0 = 4) (a : Mg) (b1 b2 b3 : Bool) (r' : Rp) (HC : ∀ W : World, w.Since w.heap.size W → Calls Try.prog 33 #[.pointer (some ⟨rb, 0, none⟩), mgV m va vc] W fun e w' => ∃ ga gc, e = .returned (hdV a ga gc b1 b2 b3) ∧ RpIs w' rb r' ∧ But rb W w' ∧ AnV W.heap.size w' a ga gc) :
    Calls Try.prog 13 #[.pointer (some ⟨rb, 0, none⟩), mgV m va vc] w fun e w' => ∃ ga gc, e = .returned (hdV a ga gc b1 b2 b3) ∧ RpIs w' rb r' ∧ But rb w w' ∧ AnV w.heap.size w' a ga gc := by
  obtain ⟨MM, HMM⟩ : ∃ x, Hid ((mgL m va vc).toArray = x) := ⟨_, rfl⟩
  have HINM : Hid ((Try.prog.info? 41).map (·.size) = some MM.size) := by rw [← HMM.out]; exact infoMgA _ _ _
  obtain ⟨W1, HW1⟩ : ∃ W, Hid (w.alloc (.cells MM 41) = W) := ⟨_, rfl⟩
  have s1 : w.Since w.heap.size W1 := by rw [← HW1.out]; exact (World.Since.refl _ _).alloc (Nat.le_refl _) _
  have z1 : W1.heap.size = w.heap.size + 1 := by rw [← HW1.out]; simp
  have r1 : W1.rowIs w.heap.size 41 22 (mgCell m va vc) := by rw [← HW1.out, ← HMM.out]; exact mg_row w m va vc
  obtain ⟨W2, HW2⟩ : ∃ W, Hid (W1.alloc hdZ = W) := ⟨_, rfl⟩
  have s2 : W1.Since W1.heap.size W2 := by rw [← HW2.out]; exact (World.Since.refl _ _).alloc (Nat.le_refl _) _
  have r2 : W2.rowIs (w.heap.size + 1) 46 25 (hdCell mg0 none 0 false false false) := by rw [← z1, ← HW2.out]; exact hdZ_row W1
  have rm2 := row_since r1 s2
  have sw2 : w.Since w.heap.size W2 := s1.trans (since_mono s2 s1.size)
  have z2 : W2.heap.size = w.heap.size + 1 + 1 := by rw [← HW2.out, ← z1]; simp
  have hR2 := h.since sw2
  have hrp := h.lt
  have c0 : W2.cell? ⟨w.heap.size, 0, none⟩ = some (.int .i64 (4 : Int)) := by
    have : W2.cell? ⟨w.heap.size, 0, none⟩ = some (.int .i64 (m.n 0)) := rm2.cell (i := 0) (by decide)
    rw [this, hk]
  have HD0 : Hid (Calls Try.prog 28 #[] W2.drew fun e w' => e = .returned (.map (some W2.heap.size)) ∧ Hid (w'.ownsMap Try.prog 3 Rd W2.heap.size 3 dD) ∧ Hid (W2.Since W2.heap.size w')) := (deeds_any W2.drew).mono fun e w' ⟨he, h1, h2⟩ => ⟨he, h1, ((World.Since.refl _ _).drew).trans h2⟩
  have HC0 : Hid (∀ W : World, W2.Since W2.heap.size W → W.cell? ⟨w.heap.size, 0, none⟩ = some (.int .i64 (4 : Int))) := fun W hW => cell_later hW c0
  have HHM : Hid (∀ W : World, W2.Since W2.heap.size W → W.heap[w.heap.size]? = some (.cells MM 41 (0, 0))) := fun W hW => by
    rw [← HMM.out]
    exact row_heap (row_since rm2 hW)
  have HCC : Hid (∀ W : World, W2.Since W2.heap.size W → Calls Try.prog 33 #[.pointer (some ⟨rb, 0, none⟩), .agg MM] W fun e w' => ∃ (HL : Array Value) (WE : World) (ga : Option Addr) (gc : Nat), e = .returned (.agg HL) ∧ Hid (hdV a ga gc b1 b2 b3 = .agg HL) ∧ Hid (w'.there (w.heap.size + 1) 0 HL.size) ∧ Hid ((Try.prog.info? 46).map (·.size) = some HL.size) ∧ Hid (HL.all (·.oneCell') = true) ∧ Hid (w'.setCells (w.heap.size + 1) 0 HL.toList = WE) ∧ Hid (WE.heap[w.heap.size + 1]? = some (.cells HL 46 (0, 0))) ∧ Hid (RpIs WE rb r' ∧ But rb w WE ∧ AnV w.heap.size WE a ga gc)) := fun W hW => by
    have sW : w.Since w.heap.size W := sw2.trans (since_mono hW sw2.size)
    have q := HC W sW
    unfold mgV at q
    rw [HMM.out] at q
    refine q.mono fun e w' ⟨ga, gc, he, hr, hb, hv⟩ => ?_
    have rr := hb.row (row_since r2 hW) (by omega)
    obtain ⟨WE, HWE, hhE, zE, bE, oE, tE, pE⟩ := cells_stored rr (hdL a ga gc b1 b2 b3) (hdL_len _ _ _ _ _ _)
    have bt : But rb w w' := (But.of_since sW).trans hb
    have hzW : w.heap.size + 1 < W.heap.size := by have := hW.size; omega
    refine ⟨(hdL a ga gc b1 b2 b3).toArray, WE, ga, gc, he, rfl, ?_, infoHrA _ _ _ _ _ _, hd_all _ _ _ _ _ _, HWE, hhE, hr.on (bE _ (by omega)), ⟨oE.trans bt.os, tE.trans bt.tape, pE.trans bt.output, by rw [zE]; exact bt.size, fun k hk hn => ?_⟩, hv.on (by omega) (fun g hg => bE g (by omega))⟩
    · have e : (hdL a ga gc b1 b2 b3).toArray.size = 25 := by rw [List.size_toArray, hdL_len]
      show World.there _ _ _ _
      rw [e]
      exact row_there rr
    · rw [bE k (by omega)]
      exact bt.block k hk hn
  have HLK : Hid (∀ W : World, W.ownsMap Try.prog 3 Rd W2.heap.size 3 dD → (Instr.lookup 79 (.map (some W2.heap.size)) (.int .i64 (4 : Int)) true).run Try.prog W = .ok (.tuple #[.func (.func 33) #[] #[], .bool true]) W) := fun W hW => by
    obtain ⟨v, ps, hrun, hR⟩ := hW.look_ok intK Try.underlying79 (z := .nilFunc) (Try.zeroValue77 W) (zd := .nil) (zp := []) rfl (key := .int .i64 (4 : Int)) (kl := .int .i64 (4 : Int)) (keyOf_int_mk Try.underlying3 (by decide))
    rw [dD_4.1] at hrun
    rw [dD_4.2] at hR
    rw [← Rd_inv hR]
    exact hrun
  have HSD : Hid (W2.Since W2.heap.size W2.drew) := (World.Since.refl _ _).drew
  unfold hdZ at HW2
  clear s1 r1 s2 r2 rm2 sw2 z2 hrp hR2 h hk HC c0
  unfold mgV
  rw [HMM.out]
  clear HMM
  go_enter Try.func13, Try.ntmps13
  go_upto_region 1 with fail
  rw [HW1.out]
  try rw [z1]
  rw [HW2.out]
  try rw [z1]
  clear HW1 HW2 z1
  refine wp_region_held_drew (S := fun W => W2.Since W2.heap.size W) (by kernel_rfl) HSD.out fun _ => ?_
  refine wpAnyH_take (i := 1) (v := .pointer (some ⟨w.heap.size, 0, none⟩)) rfl (by kernel_rfl) (by kernel_rfl) (by kernel_rfl) (fun _ _ _ h => h) (.inl ⟨rfl, fun W hW => by kernel_rfl⟩) HSD.out ?_
  simp only [List.getElem_toArray, List.getElem_cons_zero, List.getElem_cons_succ, Act.put, List.setIfInBounds_toArray, List.set_cons_zero, List.set_cons_succ]
  refine wpAnyH_take (i := 2) (v := .pointer (some ⟨w.heap.size, 0, none⟩)) rfl (by kernel_rfl) (by kernel_rfl) (by kernel_rfl) (fun _ _ _ h => h) (.inl ⟨rfl, fun W hW => by kernel_rfl⟩) HSD.out ?_
  simp only [List.getElem_toArray, List.getElem_cons_zero, List.getElem_cons_succ, Act.put, List.setIfInBounds_toArray, List.set_cons_zero, List.set_cons_succ]
  refine wpAnyH_take (i := 3) (v := .int .i64 (4 : Int)) rfl (by kernel_rfl) (by kernel_rfl) (by kernel_rfl) (fun _ _ _ h => h) (.inl ⟨rfl, fun W hW => by have c := HC0.out W hW; go_simp⟩) HSD.out ?_
  simp only [List.getElem_toArray, List.getElem_cons_zero, List.getElem_cons_succ, Act.put, List.setIfInBounds_toArray, List.set_cons_zero, List.set_cons_succ]
  refine wpAnyH_ready (rs := [0]) (by kernel_rfl) (by simp) ?_
  refine AllReadyH.cons rfl (fun K hK => ?_) AllReadyH.nil
  refine step_callW rfl 28 #[] (by kernel_rfl) HD0.out ?_
  rintro e w3 ⟨rfl, HM3, HS3⟩
  refine ⟨_, rfl, hK.out _ _ HS3.out fun _ => ?_⟩
  clear hK
  simp only [List.getElem_toArray, List.getElem_cons_zero, Act.put, List.setIfInBounds_toArray, List.set_cons_zero, List.set_cons_succ]
  refine wpAnyH_ready (rs := [4]) (by kernel_rfl) (by simp) ?_
  refine AllReadyH.cons rfl (fun K hK => ?_) AllReadyH.nil
  refine step_storeM rfl (op_run (.tuple #[.func (.func 33) #[] #[], .bool true]) ?_ ?_)
  · have r := HLK.out w3 HM3.out
    go_simp
  refine hK.out _ _ HS3.out fun _ => ?_
  clear hK
  simp only [List.getElem_toArray, List.getElem_cons_zero, List.getElem_cons_succ, Act.put, List.setIfInBounds_toArray, List.set_cons_zero, List.set_cons_succ]
  refine wpAnyH_take (i := 5) (v := .tuple #[.func (.func 33) #[] #[], .bool true]) rfl (by kernel_rfl) (by kernel_rfl) (by kernel_rfl) (fun _ _ _ h => h) (.inl ⟨rfl, fun W hW => by kernel_rfl⟩) HS3.out ?_
  simp only [List.getElem_toArray, List.getElem_cons_zero, List.getElem_cons_succ, Act.put, List.setIfInBounds_toArray, List.set_cons_zero, List.set_cons_succ]
  refine wpAnyH_take (i := 6) (v := .func (.func 33) #[] #[]) rfl (by kernel_rfl) (by kernel_rfl) (by kernel_rfl) (fun _ _ _ h => h) (.inl ⟨rfl, fun W hW => by kernel_rfl⟩) HS3.out ?_
  simp only [List.getElem_toArray, List.getElem_cons_zero, List.getElem_cons_succ, Act.put, List.setIfInBounds_toArray, List.set_cons_zero, List.set_cons_succ]
  refine wpAnyH_take (i := 7) (v := .bool true) rfl (by kernel_rfl) (by kernel_rfl) (by kernel_rfl) (fun _ _ _ h => h) (.inl ⟨rfl, fun W hW => by kernel_rfl⟩) HS3.out ?_
  simp only [List.getElem_toArray, List.getElem_cons_zero, List.getElem_cons_succ, Act.put, List.setIfInBounds_toArray, List.set_cons_zero, List.set_cons_succ]
  refine wpAnyH_take (i := 8) (v := .func (.func 33) #[] #[]) rfl (by kernel_rfl) (by kernel_rfl) (by kernel_rfl) (fun _ _ _ h => h) (.inl ⟨rfl, fun W hW => by kernel_rfl⟩) HS3.out ?_
  simp only [List.getElem_toArray, List.getElem_cons_zero, List.getElem_cons_succ, Act.put, List.setIfInBounds_toArray, List.set_cons_zero, List.set_cons_succ]
  refine wpAnyH_take (i := 9) (v := .bool true) rfl (by kernel_rfl) (by kernel_rfl) (by kernel_rfl) (fun _ _ _ h => h) (.inl ⟨rfl, fun W hW => by kernel_rfl⟩) HS3.out ?_
  simp only [List.getElem_toArray, List.getElem_cons_zero, List.getElem_cons_succ, Act.put, List.setIfInBounds_toArray, List.set_cons_zero, List.set_cons_succ]
  refine wpAnyH_done (by kernel_rfl) ?_ _
  have HM4 := hide (HHM.out w3 HS3.out)
  have HC4 := hide (HCC.out w3 HS3.out)
  clear HHM HCC HC0 HD0 HLK HSD HM3 HS3
  go_upto_region 4 with fail
  refine wp_region_lit ?_
  refine wpList_plain rfl fun _ hK => op_run (.func (.func 33) #[] #[]) (by kernel_rfl) (hK _ _ ?_)
  simp only [Act.put, List.setIfInBounds_toArray, List.set_cons_zero, List.set_cons_succ]
  refine wpList_plain rfl fun _ hK => op_run (.pointer (some ⟨rb, 0, none⟩)) (by kernel_rfl) (hK _ _ ?_)
  simp only [Act.put, List.setIfInBounds_toArray, List.set_cons_zero, List.set_cons_succ]
  refine wpList_load_row rfl 41 (.tmp 3) rfl w.heap.size rfl _ MM (0, 0) _ HM4.out Try.underlying41 rfl HINM.out ?_
  simp only [Act.put, List.setIfInBounds_toArray, List.set_cons_zero, List.set_cons_succ]
  refine wpList_plain rfl fun _ hK => op_call 33 #[.pointer (some ⟨rb, 0, none⟩), .agg MM] (by kernel_rfl) HC4.out ?_
  rintro e w5 ⟨HL, WE, ga, gc, rfl, HHL, HTE, HIR, HAL, HWE, HHE, HE⟩
  refine ⟨_, rfl, hK _ _ ?_⟩
  simp only [Act.put, List.setIfInBounds_toArray, List.set_cons_zero, List.set_cons_succ]
  refine wpList_store_mid rfl 46 (.tmp 4) (.tmp 21) rfl (w.heap.size + 1) 0 HL rfl rfl HTE.out HIR.out HAL.out ?_
  rw [HWE.out]
  clear hK HC4 HM4
  go_wp2_with fail
  exact bodyPost_ret_by (results_cell_row rfl _ _ (w.heap.size + 1) 46 _ (0, 0) _ rfl HHE.out Try.underlying46 rfl HIR.out) rfl ⟨ga, gc, congrArg Ending.returned HHL.out.symm, HE.out⟩
set_option maxHeartbeats 8000000 in
theorem hear_beat {rb : Nat} {r : Rp} {w : World} (h : RpIs w rb r) (m : Mg) (va : Option Addr) (vc : Nat) (hk : m.n 0 = 6) (a : Mg) (b1 b2 b3 : Bool) (r' : Rp) (HC : ∀ W : World, w.Since w.heap.size W → Calls Try.prog 34 #[.pointer (some ⟨rb, 0, none⟩), mgV m va vc] W fun e w' => ∃ ga gc, e = .returned (hdV a ga gc b1 b2 b3) ∧ RpIs w' rb r' ∧ But rb W w' ∧ AnV W.heap.size w' a ga gc) :
    Calls Try.prog 13 #[.pointer (some ⟨rb, 0, none⟩), mgV m va vc] w fun e w' => ∃ ga gc, e = .returned (hdV a ga gc b1 b2 b3) ∧ RpIs w' rb r' ∧ But rb w w' ∧ AnV w.heap.size w' a ga gc := by
  obtain ⟨MM, HMM⟩ : ∃ x, Hid ((mgL m va vc).toArray = x) := ⟨_, rfl⟩
  have HINM : Hid ((Try.prog.info? 41).map (·.size) = some MM.size) := by rw [← HMM.out]; exact infoMgA _ _ _
  obtain ⟨W1, HW1⟩ : ∃ W, Hid (w.alloc (.cells MM 41) = W) := ⟨_, rfl⟩
  have s1 : w.Since w.heap.size W1 := by rw [← HW1.out]; exact (World.Since.refl _ _).alloc (Nat.le_refl _) _
  have z1 : W1.heap.size = w.heap.size + 1 := by rw [← HW1.out]; simp
  have r1 : W1.rowIs w.heap.size 41 22 (mgCell m va vc) := by rw [← HW1.out, ← HMM.out]; exact mg_row w m va vc
  obtain ⟨W2, HW2⟩ : ∃ W, Hid (W1.alloc hdZ = W) := ⟨_, rfl⟩
  have s2 : W1.Since W1.heap.size W2 := by rw [← HW2.out]; exact (World.Since.refl _ _).alloc (Nat.le_refl _) _
  have r2 : W2.rowIs (w.heap.size + 1) 46 25 (hdCell mg0 none 0 false false false) := by rw [← z1, ← HW2.out]; exact hdZ_row W1
  have rm2 := row_since r1 s2
  have sw2 : w.Since w.heap.size W2 := s1.trans (since_mono s2 s1.size)
  have z2 : W2.heap.size = w.heap.size + 1 + 1 := by rw [← HW2.out, ← z1]; simp
  have hR2 := h.since sw2
  have hrp := h.lt
  have c0 : W2.cell? ⟨w.heap.size, 0, none⟩ = some (.int .i64 (6 : Int)) := by
    have : W2.cell? ⟨w.heap.size, 0, none⟩ = some (.int .i64 (m.n 0)) := rm2.cell (i := 0) (by decide)
    rw [this, hk]
  have HD0 : Hid (Calls Try.prog 28 #[] W2.drew fun e w' => e = .returned (.map (some W2.heap.size)) ∧ Hid (w'.ownsMap Try.prog 3 Rd W2.heap.size 3 dD) ∧ Hid (W2.Since W2.heap.size w')) := (deeds_any W2.drew).mono fun e w' ⟨he, h1, h2⟩ => ⟨he, h1, ((World.Since.refl _ _).drew).trans h2⟩
  have HC0 : Hid (∀ W : World, W2.Since W2.heap.size W → W.cell? ⟨w.heap.size, 0, none⟩ = some (.int .i64 (6 : Int))) := fun W hW => cell_later hW c0
  have HHM : Hid (∀ W : World, W2.Since W2.heap.size W → W.heap[w.heap.size]? = some (.cells MM 41 (0, 0))) := fun W hW => by
    rw [← HMM.out]
    exact row_heap (row_since rm2 hW)
  have HCC : Hid (∀ W : World, W2.Since W2.heap.size W → Calls Try.prog 34 #[.pointer (some ⟨rb, 0, none⟩), .agg MM] W fun e w' => ∃ (HL : Array Value) (WE : World) (ga : Option Addr) (gc : Nat), e = .returned (.agg HL) ∧ Hid (hdV a ga gc b1 b2 b3 = .agg HL) ∧ Hid (w'.there (w.heap.size + 1) 0 HL.size) ∧ Hid ((Try.prog.info? 46).map (·.size) = some HL.size) ∧ Hid (HL.all (·.oneCell') = true) ∧ Hid (w'.setCells (w.heap.size + 1) 0 HL.toList = WE) ∧ Hid (WE.heap[w.heap.size + 1]? = some (.cells HL 46 (0, 0))) ∧ Hid (RpIs WE rb r' ∧ But rb w WE ∧ AnV w.heap.size WE a ga gc)) := fun W hW => by
    have sW : w.Since w.heap.size W := sw2.trans (since_mono hW sw2.size)
    have q := HC W sW
    unfold mgV at q
    rw [HMM.out] at q
    refine q.mono fun e w' ⟨ga, gc, he, hr, hb, hv⟩ => ?_
    have rr := hb.row (row_since r2 hW) (by omega)
    obtain ⟨WE, HWE, hhE, zE, bE, oE, tE, pE⟩ := cells_stored rr (hdL a ga gc b1 b2 b3) (hdL_len _ _ _ _ _ _)
    have bt : But rb w w' := (But.of_since sW).trans hb
    have hzW : w.heap.size + 1 < W.heap.size := by have := hW.size; omega
    refine ⟨(hdL a ga gc b1 b2 b3).toArray, WE, ga, gc, he, rfl, ?_, infoHrA _ _ _ _ _ _, hd_all _ _ _ _ _ _, HWE, hhE, hr.on (bE _ (by omega)), ⟨oE.trans bt.os, tE.trans bt.tape, pE.trans bt.output, by rw [zE]; exact bt.size, fun k hk hn => ?_⟩, hv.on (by omega) (fun g hg => bE g (by omega))⟩
    · have e : (hdL a ga gc b1 b2 b3).toArray.size = 25 := by rw [List.size_toArray, hdL_len]
      show World.there _ _ _ _
      rw [e]
      exact row_there rr
    · rw [bE k (by omega)]
      exact bt.block k hk hn
  have HLK : Hid (∀ W : World, W.ownsMap Try.prog 3 Rd W2.heap.size 3 dD → (Instr.lookup 79 (.map (some W2.heap.size)) (.int .i64 (6 : Int)) true).run Try.prog W = .ok (.tuple #[.func (.func 34) #[] #[], .bool true]) W) := fun W hW => by
    obtain ⟨v, ps, hrun, hR⟩ := hW.look_ok intK Try.underlying79 (z := .nilFunc) (Try.zeroValue77 W) (zd := .nil) (zp := []) rfl (key := .int .i64 (6 : Int)) (kl := .int .i64 (6 : Int)) (keyOf_int_mk Try.underlying3 (by decide))
    rw [dD_6.1] at hrun
    rw [dD_6.2] at hR
    rw [← Rd_inv hR]
    exact hrun
  have HSD : Hid (W2.Since W2.heap.size W2.drew) := (World.Since.refl _ _).drew
  unfold hdZ at HW2
  clear s1 r1 s2 r2 rm2 sw2 z2 hrp hR2 h hk HC c0
  unfold mgV
  rw [HMM.out]
  clear HMM
  go_enter Try.func13, Try.ntmps13
  go_upto_region 1 with fail
  rw [HW1.out]
  try rw [z1]
  rw [HW2.out]
  try rw [z1]
  clear HW1 HW2 z1
  refine wp_region_held_drew (S := fun W => W2.Since W2.heap.size W) (by kernel_rfl) HSD.out fun _ => ?_
  refine wpAnyH_take (i := 1) (v := .pointer (some ⟨w.heap.size, 0, none⟩)) rfl (by kernel_rfl) (by kernel_rfl) (by kernel_rfl) (fun _ _ _ h => h) (.inl ⟨rfl, fun W hW => by kernel_rfl⟩) HSD.out ?_
  simp only [List.getElem_toArray, List.getElem_cons_zero, List.getElem_cons_succ, Act.put, List.setIfInBounds_toArray, List.set_cons_zero, List.set_cons_succ]
  refine wpAnyH_take (i := 2) (v := .pointer (some ⟨w.heap.size, 0, none⟩)) rfl (by kernel_rfl) (by kernel_rfl) (by kernel_rfl) (fun _ _ _ h => h) (.inl ⟨rfl, fun W hW => by kernel_rfl⟩) HSD.out ?_
  simp only [List.getElem_toArray, List.getElem_cons_zero, List.getElem_cons_succ, Act.put, List.setIfInBounds_toArray, List.set_cons_zero, List.set_cons_succ]
  refine wpAnyH_take (i := 3) (v := .int .i64 (6 : Int)) rfl (by kernel_rfl) (by kernel_rfl) (by kernel_rfl) (fun _ _ _ h => h) (.inl ⟨rfl, fun W hW => by have c := HC0.out W hW; go_simp⟩) HSD.out ?_
  simp only [List.getElem_toArray, List.getElem_cons_zero, List.getElem_cons_succ, Act.put, List.setIfInBounds_toArray, List.set_cons_zero, List.set_cons_succ]
  refine wpAnyH_ready (rs := [0]) (by kernel_rfl) (by simp) ?_
  refine AllReadyH.cons rfl (fun K hK => ?_) AllReadyH.nil
  refine step_callW rfl 28 #[] (by kernel_rfl) HD0.out ?_
  rintro e w3 ⟨rfl, HM3, HS3⟩
  refine ⟨_, rfl, hK.out _ _ HS3.out fun _ => ?_⟩
  clear hK
  simp only [List.getElem_toArray, List.getElem_cons_zero, Act.put, List.setIfInBounds_toArray, List.set_cons_zero, List.set_cons_succ]
  refine wpAnyH_ready (rs := [4]) (by kernel_rfl) (by simp) ?_
  refine AllReadyH.cons rfl (fun K hK => ?_) AllReadyH.nil
  refine step_storeM rfl (op_run (.tuple #[.func (.func 34) #[] #[], .bool true]) ?_ ?_)
  · have r := HLK.out w3 HM3.out
    go_simp
  refine hK.out _ _ HS3.out fun _ => ?_
  clear hK
  simp only [List.getElem_toArray, List.getElem_cons_zero, List.getElem_cons_succ, Act.put, List.setIfInBounds_toArray, List.set_cons_zero, List.set_cons_succ]
  refine wpAnyH_take (i := 5) (v := .tuple #[.func (.func 34) #[] #[], .bool true]) rfl (by kernel_rfl) (by kernel_rfl) (by kernel_rfl) (fun _ _ _ h => h) (.inl ⟨rfl, fun W hW => by kernel_rfl⟩) HS3.out ?_
  simp only [List.getElem_toArray, List.getElem_cons_zero, List.getElem_cons_succ, Act.put, List.setIfInBounds_toArray, List.set_cons_zero, List.set_cons_succ]
  refine wpAnyH_take (i := 6) (v := .func (.func 34) #[] #[]) rfl (by kernel_rfl) (by kernel_rfl) (by kernel_rfl) (fun _ _ _ h => h) (.inl ⟨rfl, fun W hW => by kernel_rfl⟩) HS3.out ?_
  simp only [List.getElem_toArray, List.getElem_cons_zero, List.getElem_cons_succ, Act.put, List.setIfInBounds_toArray, List.set_cons_zero, List.set_cons_succ]
  refine wpAnyH_take (i := 7) (v := .bool true) rfl (by kernel_rfl) (by kernel_rfl) (by kernel_rfl) (fun _ _ _ h => h) (.inl ⟨rfl, fun W hW => by kernel_rfl⟩) HS3.out ?_
  simp only [List.getElem_toArray, List.getElem_cons_zero, List.getElem_cons_succ, Act.put, List.setIfInBounds_toArray, List.set_cons_zero, List.set_cons_succ]
  refine wpAnyH_take (i := 8) (v := .func (.func 34) #[] #[]) rfl (by kernel_rfl) (by kernel_rfl) (by kernel_rfl) (fun _ _ _ h => h) (.inl ⟨rfl, fun W hW => by kernel_rfl⟩) HS3.out ?_
  simp only [List.getElem_toArray, List.getElem_cons_zero, List.getElem_cons_succ, Act.put, List.setIfInBounds_toArray, List.set_cons_zero, List.set_cons_succ]
  refine wpAnyH_take (i := 9) (v := .bool true) rfl (by kernel_rfl) (by kernel_rfl) (by kernel_rfl) (fun _ _ _ h => h) (.inl ⟨rfl, fun W hW => by kernel_rfl⟩) HS3.out ?_
  simp only [List.getElem_toArray, List.getElem_cons_zero, List.getElem_cons_succ, Act.put, List.setIfInBounds_toArray, List.set_cons_zero, List.set_cons_succ]
  refine wpAnyH_done (by kernel_rfl) ?_ _
  have HM4 := hide (HHM.out w3 HS3.out)
  have HC4 := hide (HCC.out w3 HS3.out)
  clear HHM HCC HC0 HD0 HLK HSD HM3 HS3
  go_upto_region 4 with fail
  refine wp_region_lit ?_
  refine wpList_plain rfl fun _ hK => op_run (.func (.func 34) #[] #[]) (by kernel_rfl) (hK _ _ ?_)
  simp only [Act.put, List.setIfInBounds_toArray, List.set_cons_zero, List.set_cons_succ]
  refine wpList_plain rfl fun _ hK => op_run (.pointer (some ⟨rb, 0, none⟩)) (by kernel_rfl) (hK _ _ ?_)
  simp only [Act.put, List.setIfInBounds_toArray, List.set_cons_zero, List.set_cons_succ]
  refine wpList_load_row rfl 41 (.tmp 3) rfl w.heap.size rfl _ MM (0, 0) _ HM4.out Try.underlying41 rfl HINM.out ?_
  simp only [Act.put, List.setIfInBounds_toArray, List.set_cons_zero, List.set_cons_succ]
  refine wpList_plain rfl fun _ hK => op_call 34 #[.pointer (some ⟨rb, 0, none⟩), .agg MM] (by kernel_rfl) HC4.out ?_
  rintro e w5 ⟨HL, WE, ga, gc, rfl, HHL, HTE, HIR, HAL, HWE, HHE, HE⟩
  refine ⟨_, rfl, hK _ _ ?_⟩
  simp only [Act.put, List.setIfInBounds_toArray, List.set_cons_zero, List.set_cons_succ]
  refine wpList_store_mid rfl 46 (.tmp 4) (.tmp 21) rfl (w.heap.size + 1) 0 HL rfl rfl HTE.out HIR.out HAL.out ?_
  rw [HWE.out]
  clear hK HC4 HM4
  go_wp2_with fail
  exact bodyPost_ret_by (results_cell_row rfl _ _ (w.heap.size + 1) 46 _ (0, 0) _ rfl HHE.out Try.underlying46 rfl HIR.out) rfl ⟨ga, gc, congrArg Ending.returned HHL.out.symm, HE.out⟩
set_option maxHeartbeats 8000000 in
theorem hear_none {rb : Nat} {r : Rp} {w : World} (h : RpIs w rb r) (m : Mg) (va : Option Addr) (vc : Nat) (K : Int) (hk : m.n 0 = K) (h1 : K ≠ 1) (h4 : K ≠ 4) (h6 : K ≠ 6) (hr1 : -9223372036854775808 ≤ K) (hr2 : K ≤ 9223372036854775807) :
    Calls Try.prog 13 #[.pointer (some ⟨rb, 0, none⟩), mgV m va vc] w fun e w' => e = .returned (hdV mg0 none 0 false false false) ∧ RpIs w' rb r ∧ But rb w w' := by
  obtain ⟨MM, HMM⟩ : ∃ x, Hid ((mgL m va vc).toArray = x) := ⟨_, rfl⟩
  have HINM : Hid ((Try.prog.info? 41).map (·.size) = some MM.size) := by rw [← HMM.out]; exact infoMgA _ _ _
  obtain ⟨W1, HW1⟩ : ∃ W, Hid (w.alloc (.cells MM 41) = W) := ⟨_, rfl⟩
  have s1 : w.Since w.heap.size W1 := by rw [← HW1.out]; exact (World.Since.refl _ _).alloc (Nat.le_refl _) _
  have z1 : W1.heap.size = w.heap.size + 1 := by rw [← HW1.out]; simp
  have r1 : W1.rowIs w.heap.size 41 22 (mgCell m va vc) := by rw [← HW1.out, ← HMM.out]; exact mg_row w m va vc
  obtain ⟨W2, HW2⟩ : ∃ W, Hid (W1.alloc hdZ = W) := ⟨_, rfl⟩
  have s2 : W1.Since W1.heap.size W2 := by rw [← HW2.out]; exact (World.Since.refl _ _).alloc (Nat.le_refl _) _
  have r2 : W2.rowIs (w.heap.size + 1) 46 25 (hdCell mg0 none 0 false false false) := by rw [← z1, ← HW2.out]; exact hdZ_row W1
  have rm2 := row_since r1 s2
  have sw2 : w.Since w.heap.size W2 := s1.trans (since_mono s2 s1.size)
  have z2 : W2.heap.size = w.heap.size + 1 + 1 := by rw [← HW2.out, ← z1]; simp
  have hR2 := h.since sw2
  have hrp := h.lt
  have c0 : W2.cell? ⟨w.heap.size, 0, none⟩ = some (.int .i64 K) := by
    have : W2.cell? ⟨w.heap.size, 0, none⟩ = some (.int .i64 (m.n 0)) := rm2.cell (i := 0) (by decide)
    rw [this, hk]
  have HD0 : Hid (Calls Try.prog 28 #[] W2.drew fun e w' => e = .returned (.map (some W2.heap.size)) ∧ Hid (w'.ownsMap Try.prog 3 Rd W2.heap.size 3 dD) ∧ Hid (W2.Since W2.heap.size w')) := (deeds_any W2.drew).mono fun e w' ⟨he, h1, h2⟩ => ⟨he, h1, ((World.Since.refl _ _).drew).trans h2⟩
  have HC0 : Hid (∀ W : World, W2.Since W2.heap.size W → W.cell? ⟨w.heap.size, 0, none⟩ = some (.int .i64 K)) := fun W hW => cell_later hW c0
  have HHM : Hid (∀ W : World, W2.Since W2.heap.size W → W.heap[w.heap.size]? = some (.cells MM 41 (0, 0))) := fun W hW => by
    rw [← HMM.out]
    exact row_heap (row_since rm2 hW)
  have HEND : Hid (∀ W : World, W2.Since W2.heap.size W → ∃ WE, Hid (W.setCells (w.heap.size + 1) 0 (hdL mg0 none 0 false false false).toArray.toList = WE) ∧ Hid (W.there (w.heap.size + 1) 0 (hdL mg0 none 0 false false false).toArray.size) ∧ Hid (WE.heap[w.heap.size + 1]? = some (.cells (hdL mg0 none 0 false false false).toArray 46 (0, 0))) ∧ Hid (RpIs WE rb r ∧ But rb w WE)) := fun W hW => by
    have rr := row_since r2 hW
    obtain ⟨WE, HWE, hhE, zE, bE, oE, tE, pE⟩ := cells_stored rr (hdL mg0 none 0 false false false) (hdL_len _ _ _ _ _ _)
    have sW : w.Since w.heap.size W := sw2.trans (since_mono hW sw2.size)
    refine ⟨WE, HWE, ?_, hhE, (hR2.since hW).on (bE _ (by omega)), oE.trans sW.os, tE.trans sW.tape, pE.trans sW.output, by rw [zE]; exact sW.size, fun k hk hn => ?_⟩
    · have e : (hdL mg0 none 0 false false false).toArray.size = 25 := by rw [List.size_toArray, hdL_len]
      show World.there _ _ _ _
      rw [e]
      exact row_there rr
    · rw [bE k (by omega)]
      exact sW.block k hk
  have HLK : Hid (∀ W : World, W.ownsMap Try.prog 3 Rd W2.heap.size 3 dD → (Instr.lookup 79 (.map (some W2.heap.size)) (.int .i64 K) true).run Try.prog W = .ok (.tuple #[.nilFunc, .bool false]) W) := fun W hW => by
    obtain ⟨v, ps, hrun, hR⟩ := hW.look_ok intK Try.underlying79 (z := .nilFunc) (Try.zeroValue77 W) (zd := .nil) (zp := []) rfl (key := .int .i64 K) (kl := .int .i64 K) (keyOf_int_mk Try.underlying3 (WalkArith.wf_i64 (by omega)))
    rw [(dD_no K h1 h4 h6).1] at hrun
    rw [(dD_no K h1 h4 h6).2] at hR
    rw [← Rd_nil hR]
    exact hrun
  have HSD : Hid (W2.Since W2.heap.size W2.drew) := (World.Since.refl _ _).drew
  unfold hdZ at HW2
  clear s1 r1 s2 r2 rm2 sw2 z2 hrp hR2 h hk h1 h4 h6 hr1 hr2 c0
  unfold mgV
  rw [HMM.out]
  clear HMM
  go_enter Try.func13, Try.ntmps13
  go_upto_region 1 with fail
  rw [HW1.out]
  try rw [z1]
  rw [HW2.out]
  try rw [z1]
  clear HW1 HW2 z1
  refine wp_region_held_drew (S := fun W => W2.Since W2.heap.size W) (by kernel_rfl) HSD.out fun _ => ?_
  refine wpAnyH_take (i := 1) (v := .pointer (some ⟨w.heap.size, 0, none⟩)) rfl (by kernel_rfl) (by kernel_rfl) (by kernel_rfl) (fun _ _ _ h => h) (.inl ⟨rfl, fun W hW => by kernel_rfl⟩) HSD.out ?_
  simp only [List.getElem_toArray, List.getElem_cons_zero, List.getElem_cons_succ, Act.put, List.setIfInBounds_toArray, List.set_cons_zero, List.set_cons_succ]
  refine wpAnyH_take (i := 2) (v := .pointer (some ⟨w.heap.size, 0, none⟩)) rfl (by kernel_rfl) (by kernel_rfl) (by kernel_rfl) (fun _ _ _ h => h) (.inl ⟨rfl, fun W hW => by kernel_rfl⟩) HSD.out ?_
  simp only [List.getElem_toArray, List.getElem_cons_zero, List.getElem_cons_succ, Act.put, List.setIfInBounds_toArray, List.set_cons_zero, List.set_cons_succ]
  refine wpAnyH_take (i := 3) (v := .int .i64 K) rfl (by kernel_rfl) (by kernel_rfl) (by kernel_rfl) (fun _ _ _ h => h) (.inl ⟨rfl, fun W hW => by have c := HC0.out W hW; go_simp⟩) HSD.out ?_
  simp only [List.getElem_toArray, List.getElem_cons_zero, List.getElem_cons_succ, Act.put, List.setIfInBounds_toArray, List.set_cons_zero, List.set_cons_succ]
  refine wpAnyH_ready (rs := [0]) (by kernel_rfl) (by simp) ?_
  refine AllReadyH.cons rfl (fun K hK => ?_) AllReadyH.nil
  refine step_callW rfl 28 #[] (by kernel_rfl) HD0.out ?_
  rintro e w3 ⟨rfl, HM3, HS3⟩
  refine ⟨_, rfl, hK.out _ _ HS3.out fun _ => ?_⟩
  clear hK
  simp only [List.getElem_toArray, List.getElem_cons_zero, Act.put, List.setIfInBounds_toArray, List.set_cons_zero, List.set_cons_succ]
  refine wpAnyH_ready (rs := [4]) (by kernel_rfl) (by simp) ?_
  refine AllReadyH.cons rfl (fun K hK => ?_) AllReadyH.nil
  refine step_storeM rfl (op_run (.tuple #[.nilFunc, .bool false]) ?_ ?_)
  · have r := HLK.out w3 HM3.out
    go_simp
  refine hK.out _ _ HS3.out fun _ => ?_
  clear hK
  simp only [List.getElem_toArray, List.getElem_cons_zero, List.getElem_cons_succ, Act.put, List.setIfInBounds_toArray, List.set_cons_zero, List.set_cons_succ]
  refine wpAnyH_take (i := 5) (v := .tuple #[.nilFunc, .bool false]) rfl (by kernel_rfl) (by kernel_rfl) (by kernel_rfl) (fun _ _ _ h => h) (.inl ⟨rfl, fun W hW => by kernel_rfl⟩) HS3.out ?_
  simp only [List.getElem_toArray, List.getElem_cons_zero, List.getElem_cons_succ, Act.put, List.setIfInBounds_toArray, List.set_cons_zero, List.set_cons_succ]
  refine wpAnyH_take (i := 6) (v := .nilFunc) rfl (by kernel_rfl) (by kernel_rfl) (by kernel_rfl) (fun _ _ _ h => h) (.inl ⟨rfl, fun W hW => by kernel_rfl⟩) HS3.out ?_
  simp only [List.getElem_toArray, List.getElem_cons_zero, List.getElem_cons_succ, Act.put, List.setIfInBounds_toArray, List.set_cons_zero, List.set_cons_succ]
  refine wpAnyH_take (i := 7) (v := .bool false) rfl (by kernel_rfl) (by kernel_rfl) (by kernel_rfl) (fun _ _ _ h => h) (.inl ⟨rfl, fun W hW => by kernel_rfl⟩) HS3.out ?_
  simp only [List.getElem_toArray, List.getElem_cons_zero, List.getElem_cons_succ, Act.put, List.setIfInBounds_toArray, List.set_cons_zero, List.set_cons_succ]
  refine wpAnyH_take (i := 8) (v := .nilFunc) rfl (by kernel_rfl) (by kernel_rfl) (by kernel_rfl) (fun _ _ _ h => h) (.inl ⟨rfl, fun W hW => by kernel_rfl⟩) HS3.out ?_
  simp only [List.getElem_toArray, List.getElem_cons_zero, List.getElem_cons_succ, Act.put, List.setIfInBounds_toArray, List.set_cons_zero, List.set_cons_succ]
  refine wpAnyH_take (i := 9) (v := .bool false) rfl (by kernel_rfl) (by kernel_rfl) (by kernel_rfl) (fun _ _ _ h => h) (.inl ⟨rfl, fun W hW => by kernel_rfl⟩) HS3.out ?_
  simp only [List.getElem_toArray, List.getElem_cons_zero, List.getElem_cons_succ, Act.put, List.setIfInBounds_toArray, List.set_cons_zero, List.set_cons_succ]
  refine wpAnyH_done (by kernel_rfl) ?_ _
  obtain ⟨WE, HWE, HTE, HHE, HE⟩ := HEND.out w3 HS3.out
  clear HHM HEND HC0 HD0 HLK HSD HM3 HS3
  go_upto_region 3 with fail
  refine wp_region_lit ?_
  refine wpList_plain rfl fun _ hK => op_run (hdV mg0 none 0 false false false) (by kernel_rfl) (hK _ _ ?_)
  refine wpList_store_mid rfl 46 (.tmp 4) (.tmp 17) rfl (w.heap.size + 1) 0 (hdL mg0 none 0 false false false).toArray rfl rfl HTE.out (infoHrA _ _ _ _ _ _) (hd_all _ _ _ _ _ _) ?_
  rw [HWE.out]
  go_wp2_with fail
  exact bodyPost_ret_by (results_cell_row rfl _ _ (w.heap.size + 1) 46 _ (0, 0) _ rfl HHE.out Try.underlying46 rfl (infoHrA _ _ _ _ _ _)) rfl ⟨rfl, HE.out⟩
end Go.Proofs.Yteneaiaejdgpcaa

/- Package replica: Hear as a plain function; New. -/
namespace Go.Proofs.Yteneaiaejdgpcaa
open Go.RowKit Go.Maps
set_option maxRecDepth 100000
set_option maxRecDepth 100000

/-- What is heard: the answer, the three flags, the copy behind it. -/
structure Hd where
  a : Mg
  b1 : Bool
  b2 : Bool
  b3 : Bool
  r : Rp
def hearP (r : Rp) (m : Mg) (E : Nat) : Hd := if E < r.p ∨ (r.p < E ∧ 0 < r.wt) then ⟨refG m E r.p, true, false, false, r⟩ else ⟨prG m E r, true, false, decide (r.p ≠ E), { r with p := E }⟩
def hearW (r : Rp) (m : Mg) (E Q : Nat) (S : Int) : Hd := if E < r.p then ⟨refG m E r.p, true, false, false, r⟩ else if 0 < cmT E Q r.te r.ts then ⟨wrG m E Q, true, true, true, ⟨E, E, Q, m.s 10, wtM S⟩⟩ else if cmT E Q r.te r.ts = 0 then ⟨wrG m E Q, true, true, decide (r.p ≠ E), { r with p := E, wt := wtM S }⟩ else ⟨mg0, false, true, decide (r.p ≠ E), { r with p := E, wt := wtM S }⟩
def hearB (r : Rp) (m : Mg) (E R : Nat) (S : Int) : Hd := if E < r.p then ⟨refG m E r.p, true, false, false, r⟩ else ⟨btG m E R, true, true, decide (r.p ≠ E), { r with p := E, wt := wtM S }⟩
def hearM (r : Rp) (m : Mg) : Hd := if m.n 0 = 1 then hearP r m (m.n 4).toNat else if m.n 0 = 4 then hearW r m (m.n 5).toNat (m.n 6).toNat (m.n 8) else if m.n 0 = 6 then hearB r m (m.n 4).toNat (m.n 7).toNat (m.n 8) else ⟨mg0, false, false, false, r⟩
/-- The numbers of a message are what their types hold. -/
structure MgN (m : Mg) : Prop where
  u : ∀ c, isU c = true → 0 ≤ m.n c ∧ m.n c < 18446744073709551616
  i : ∀ c, isU c = false → -9223372036854775808 ≤ m.n c ∧ m.n c ≤ 9223372036854775807
theorem MgN.nat {m : Mg} (h : MgN m) (c : Nat) (hc : isU c = true) : m.n c = ((m.n c).toNat : Nat) ∧ (m.n c).toNat < 18446744073709551616 := by
  have := h.u c hc
  omega
theorem refG_s (m : Mg) (E P : Nat) : (refG m E P).s 10 = [] := rfl
theorem AnV.nil (lo : Nat) (w : World) {a : Mg} (h : a.s 10 = []) : AnV lo w a none 0 := .inl ⟨rfl, rfl, h⟩
set_option maxHeartbeats 1000000 in
/-- Hear. -/
theorem hear_any {rb : Nat} {r : Rp} {w : World} (h : RpIs w rb r) (m : Mg) (va : Option Addr) (vc : Nat) (hA : MgA w m va vc) (hN : MgN m) :
    Calls Try.prog 13 #[.pointer (some ⟨rb, 0, none⟩), mgV m va vc] w fun e w' => ∃ ga gc, e = .returned (hdV (hearM r m).a ga gc (hearM r m).b1 (hearM r m).b2 (hearM r m).b3) ∧ RpIs w' rb (hearM r m).r ∧ But rb w w' ∧ AnV w.heap.size w' (hearM r m).a ga gc := by
  have h4 := hN.nat 4 rfl
  have h5 := hN.nat 5 rfl
  have h6 := hN.nat 6 rfl
  have h7 := hN.nat 7 rfl
  have h8 := (hN.i 8 rfl).2
  unfold hearM
  by_cases k1 : m.n 0 = 1
  · rw [if_pos k1]
    refine hear_prepare h m va vc k1 _ _ _ _ _ (fun W hW => ?_)
    unfold hearP
    by_cases q : (m.n 4).toNat < r.p ∨ (r.p < (m.n 4).toNat ∧ 0 < r.wt)
    · rw [if_pos q]
      exact (prepare_refused (h.since hW) m va vc _ h4.1 q).mono fun e w' ⟨he, h1, h2⟩ => ⟨_, _, he, h1, h2, AnV.nil _ _ rfl⟩
    · rw [if_neg q]
      have hw := h.ok.w0
      exact (prepare_taken (h.since hW) m va vc _ h4.1 h4.2 (by omega)).mono fun e w' ⟨g, c, he, h1, h2, h3, h4⟩ => ⟨_, _, he, h1, h2, .inr ⟨g, rfl, h3, h4⟩⟩
  · rw [if_neg k1]
    by_cases k4 : m.n 0 = 4
    · rw [if_pos k4]
      refine hear_write h m va vc k4 _ _ _ _ _ (fun W hW => ?_)
      unfold hearW
      by_cases q : (m.n 5).toNat < r.p
      · rw [if_pos q]
        exact (write_refused (h.since hW) m va vc _ h5.1 q).mono fun e w' ⟨he, h1, h2⟩ => ⟨_, _, he, h1, h2, AnV.nil _ _ rfl⟩
      · rw [if_neg q]
        by_cases q1 : 0 < cmT (m.n 5).toNat (m.n 6).toNat r.te r.ts
        · rw [if_pos q1]
          exact (write_greater (h.since hW) m va vc _ _ _ (hA.since hW) h5.1 h6.1 rfl h5.2 h6.2 h8 (by omega) q1).mono fun e w' ⟨he, h1, h2⟩ => ⟨_, _, he, h1, h2, AnV.nil _ _ rfl⟩
        · rw [if_neg q1]
          by_cases q2 : cmT (m.n 5).toNat (m.n 6).toNat r.te r.ts = 0
          · rw [if_pos q2]
            exact (write_equal (h.since hW) m va vc _ _ _ (hA.since hW) h5.1 h6.1 rfl h5.2 h6.2 h8 (by omega) q2).mono fun e w' ⟨he, h1, h2⟩ => ⟨_, _, he, h1, h2, AnV.nil _ _ rfl⟩
          · rw [if_neg q2]
            exact (write_less (h.since hW) m va vc _ _ _ (hA.since hW) h5.1 h6.1 rfl h5.2 h6.2 h8 (by omega) (by omega)).mono fun e w' ⟨he, h1, h2⟩ => ⟨_, _, he, h1, h2, AnV.nil _ _ rfl⟩
    · rw [if_neg k4]
      by_cases k6 : m.n 0 = 6
      · rw [if_pos k6]
        refine hear_beat h m va vc k6 _ _ _ _ _ (fun W hW => ?_)
        unfold hearB
        by_cases q : (m.n 4).toNat < r.p
        · rw [if_pos q]
          exact (beat_refused (h.since hW) m va vc _ h4.1 q).mono fun e w' ⟨he, h1, h2⟩ => ⟨_, _, he, h1, h2, AnV.nil _ _ rfl⟩
        · rw [if_neg q]
          exact (beat_taken (h.since hW) m va vc _ _ _ h4.1 h7.1 rfl h4.2 h8 (by omega)).mono fun e w' ⟨he, h1, h2⟩ => ⟨_, _, he, h1, h2, AnV.nil _ _ rfl⟩
      · rw [if_neg k6]
        have h0 := hN.i 0 rfl
        exact (hear_none h m va vc _ rfl k1 k4 k6 h0.1 h0.2).mono fun e w' ⟨he, h1, h2⟩ => ⟨_, _, he, h1, h2, AnV.nil _ _ rfl⟩
theorem new_any (va : Option Addr) (n c : Nat) (x : Nat → Nat) (w : World) (hb : Byt w va n x) (hx : ∀ j, x j < 256) (hnil : va = none → n = 0) (hn : n ≤ 140737488351232) :
    Calls Try.prog 19 #[.slice va n c] w fun e w' => ∃ rb, e = .returned (.pointer (some ⟨rb, 0, none⟩)) ∧ w.heap.size ≤ rb ∧ RpIs w' rb ⟨0, 0, 0, (List.range n).map x, 0⟩ ∧ w.Since w.heap.size w' := by
  have HL := hide (load_any 0 0 0 va n c x 0 w (by decide) (by decide) (by decide) hb hx hnil hn (by decide))
  clear hb hx hnil hn
  go_enter Try.func19, Try.ntmps19
  go_wp2_with fail
  refine HL.out.mono ?_
  rintro e w1 ⟨rb, rfl, h1, h2, h3⟩
  have HE : Hid (w.heap.size ≤ rb ∧ RpIs w1 rb ⟨0, 0, 0, (List.range n).map x, 0⟩ ∧ w.Since w.heap.size w1) := ⟨h1, h2, h3⟩
  clear h1 h2 h3 HL
  go_wp2_with fail
  go_ret
  exact ⟨_, rfl, HE.out⟩
end Go.Proofs.Yteneaiaejdgpcaa

/- Cmp and Eq of any bytes. -/
namespace Go.Proofs.Yteneaiaejdgpcaa
open Go.RowKit
set_option maxRecDepth 100000
set_option maxRecDepth 100000

set_option maxHeartbeats 800000 in
theorem cmp_same (a b : Option Addr) (n c d : Nat) (x : Nat → Nat) (w : World) (ha : Byt w a n x) (hb : Byt w b n x) (hmax : n ≤ 281474976710656) :
    Calls Try.prog 29 #[.slice a n c, .slice b n d] w fun e w' => e = .returned (.int .i64 0) ∧ ∃ m, w' = w.drewN m := by
  go_enter Try.func29, Try.ntmps29
  go_wp2_with fail
  go_loopg [5] n (fun q s5 wx => ∃ (i m : Nat), i ≤ n ∧ q = n - i ∧ s5 = .int .i64 i ∧ wx = w.drewN m)
  case atStart => exact ⟨0, 0, Nat.zero_le _, rfl, rfl, rfl⟩
  case round =>
    obtain ⟨i, m, hi, rfl, rfl, rfl⟩ := hrel
    by_cases hlt : i < n
    · obtain ⟨b1, o1, rfl, hc1⟩ := ha i hlt
      obtain ⟨b2, o2, rfl, hc2⟩ := hb i hlt
      have hc1' : (w.drewN m).cell? ⟨b1, o1 + i, none⟩ = some (.int .u8 (x i : Nat)) := hc1
      have hc2' : (w.drewN m).cell? ⟨b2, o2 + i, none⟩ = some (.int .u8 (x i : Nat)) := hc2
      have hz : (i : Int) < (n : Int) := by omega
      have HD : Hid (∀ n, (w.drewN m).drewN n = w.drewN (m + n)) := fun n => World.drewN_drewN _ _ _
      generalize w.drewN m = wd at *
      clear hc1 hc2 ha hb
      go_wp2_with fail
      go_quiet (fail)
      go_wp2_with fail
      go_quiet (fail)
      go_wp2_with fail
      go_roundg (n - (i + 1))
      case measure => go_light; omega
      case rel => go_light; exact ⟨i + 1, _, by omega, rfl, by simp, (unhide HD) _⟩
    · obtain rfl : i = n := by omega
      clear ha hb
      go_wp2_with fail
      go_ret
      exact ⟨rfl, m, rfl⟩
theorem eq_same (a b : Option Addr) (n c d : Nat) (x : Nat → Nat) (w : World) (ha : Byt w a n x) (hb : Byt w b n x) (hmax : n ≤ 281474976710656) :
    Calls Try.prog 24 #[.slice a n c, .slice b n d] w fun e w' => e = .returned (.bool true) ∧ ∃ m, w' = w.drewN m := by
  have hc := cmp_same a b n c d x w ha hb hmax
  go_enter Try.func24, Try.ntmps24
  go_wp2_with fail
  refine hc.mono ?_
  rintro e w1 ⟨rfl, m, rfl⟩
  go_wp2_with fail
  go_ret
  exact ⟨rfl, m, rfl⟩

set_option maxHeartbeats 800000 in
/-- Cmp of bytes that differ. -/
theorem cmp_diff (a b : Option Addr) (n m c d : Nat) (x y : Nat → Nat) (w : World) (ha : Byt w a n x) (hb : Byt w b m y) (hn : n ≤ 140737488355328) (_hm : m ≤ 140737488355328) (hne : ¬ (n = m ∧ ∀ j, j < n → x j = y j)) :
    Calls Try.prog 29 #[.slice a n c, .slice b m d] w fun e w' => (e = .returned (.int .i64 (-1)) ∨ e = .returned (.int .i64 1)) ∧ ∃ k, w' = w.drewN k := by
  go_enter Try.func29, Try.ntmps29
  go_wp2_with fail
  go_loopg [5] n (fun q s5 wx => ∃ i k : Nat, i ≤ n ∧ i ≤ m ∧ q = n - i ∧ s5 = .int .i64 i ∧ wx = w.drewN k ∧ ∀ j, j < i → x j = y j)
  case atStart => exact ⟨0, 0, Nat.zero_le _, Nat.zero_le _, rfl, rfl, rfl, fun j hj => absurd hj (Nat.not_lt_zero _)⟩
  case round =>
    obtain ⟨i, k, hi, him, rfl, rfl, rfl, hq⟩ := hrel
    by_cases hlt : i < n ∧ i < m
    · obtain ⟨b1, o1, rfl, hc1⟩ := ha i hlt.1
      obtain ⟨b2, o2, rfl, hc2⟩ := hb i hlt.2
      have hc1' : (w.drewN k).cell? ⟨b1, o1 + i, none⟩ = some (.int .u8 (x i : Nat)) := hc1
      have hc2' : (w.drewN k).cell? ⟨b2, o2 + i, none⟩ = some (.int .u8 (y i : Nat)) := hc2
      have hz : (i : Int) < (n : Int) := by omega
      have hz2 : (i : Int) < (m : Int) := by omega
      have HD : Hid (∀ n, (w.drewN k).drewN n = w.drewN (k + n)) := fun n => World.drewN_drewN _ _ _
      generalize w.drewN k = wd at *
      clear hc1 hc2 ha hb
      by_cases h1 : x i < y i
      · have h1' : (x i : Int) < (y i : Int) := by omega
        clear hne hq
        go_wp2_with fail
        go_quiet (fail)
        go_wp2_with fail
        go_ret
        exact ⟨Or.inl rfl, _, (unhide HD) _⟩
      · have h1' : ¬ ((x i : Int) < (y i : Int)) := by omega
        by_cases h2 : y i < x i
        · have h2' : (y i : Int) < (x i : Int) := by omega
          clear hne hq
          go_wp2_with fail
          go_quiet (fail)
          go_wp2_with fail
          go_quiet (fail)
          go_wp2_with fail
          go_ret
          exact ⟨Or.inr rfl, _, by rw [World.drewN_drewN]; exact (unhide HD) _⟩
        · have h2' : ¬ ((y i : Int) < (x i : Int)) := by omega
          have hxy : ∀ j, j < i + 1 → x j = y j := fun j hj => by
            rcases Nat.lt_or_ge j i with h | h
            · exact hq j h
            · obtain rfl : j = i := by omega
              omega
          clear hne hq h1 h2
          have HX := hide hxy
          clear hxy
          go_wp2_with fail
          go_quiet (fail)
          go_wp2_with fail
          go_quiet (fail)
          go_wp2_with fail
          go_roundg (n - (i + 1))
          case measure => go_light; omega
          case rel => go_light; exact ⟨i + 1, _, by omega, by omega, rfl, by simp, by first | exact (unhide HD) _ | (rw [World.drewN_drewN]; exact (unhide HD) _), unhide HX⟩
    · clear ha hb
      have hnm : n ≠ m := fun e => hne ⟨e, fun j hj => hq j (by omega)⟩
      clear hq hne
      have hil : (i : Int) < (n : Int) → ¬ ((i : Int) < (m : Int)) := by omega
      by_cases hin : (i : Int) < (n : Int)
      · have := hil hin
        have h3 : ¬ ((n : Int) < (m : Int)) := by omega
        have h4 : (m : Int) < (n : Int) := by omega
        clear hil
        go_wp2_with fail
        go_ret
        exact ⟨Or.inr rfl, k, rfl⟩
      · have h4 : (n : Int) < (m : Int) := by omega
        clear hil
        go_wp2_with fail
        go_ret
        exact ⟨Or.inl rfl, k, rfl⟩
theorem eq_diff (a b : Option Addr) (n m c d : Nat) (x y : Nat → Nat) (w : World) (ha : Byt w a n x) (hb : Byt w b m y) (hn : n ≤ 140737488355328) (hm : m ≤ 140737488355328) (hne : ¬ (n = m ∧ ∀ j, j < n → x j = y j)) :
    Calls Try.prog 24 #[.slice a n c, .slice b m d] w fun e w' => e = .returned (.bool false) ∧ ∃ m, w' = w.drewN m := by
  have hc := cmp_diff a b n m c d x y w ha hb hn hm hne
  go_enter Try.func24, Try.ntmps24
  go_wp2_with fail
  refine hc.mono ?_
  rintro e w1 ⟨rfl | rfl, k, rfl⟩
  · go_wp2
    go_ret
    exact ⟨rfl, k, rfl⟩
  · go_wp2
    go_ret
    exact ⟨rfl, k, rfl⟩
theorem eq_any (a b : Option Addr) (n m c d : Nat) (x y : Nat → Nat) (w : World) (ha : Byt w a n x) (hb : Byt w b m y) (hn : n ≤ 140737488355328) (hm : m ≤ 140737488355328) :
    Calls Try.prog 24 #[.slice a n c, .slice b m d] w fun e w' => e = .returned (.bool (decide ((List.range n).map x = (List.range m).map y))) ∧ ∃ m, w' = w.drewN m := by
  by_cases h : n = m ∧ ∀ j, j < n → x j = y j
  · obtain ⟨rfl, hx⟩ := h
    have e : (List.range n).map x = (List.range n).map y := List.map_congr_left (fun j hj => hx j (List.mem_range.1 hj))
    rw [decide_eq_true e]
    exact eq_same a b n c d x w ha (fun j hj => by
      obtain ⟨p, q, e1, e2⟩ := hb j hj
      exact ⟨p, q, e1, by rw [hx j hj]; exact e2⟩) (by omega)
  · have e : (List.range n).map x ≠ (List.range m).map y := fun e => h (by
      have hl := congrArg List.length e
      simp only [List.length_map, List.length_range] at hl
      refine ⟨hl, fun j hj => ?_⟩
      have := congrArg (fun l => l[j]?) e
      simpa [hj, hl ▸ hj] using this)
    rw [decide_eq_false e]
    exact eq_diff a b n m c d x y w ha hb hn hm h
/-- Cmp of any bytes: zero just where they are the same. -/
theorem cmpB_any (a b : Option Addr) (n m c d : Nat) (x y : Nat → Nat) (w : World) (ha : Byt w a n x) (hb : Byt w b m y) (hn : n ≤ 140737488355328) (hm : m ≤ 140737488355328) :
    Calls Try.prog 29 #[.slice a n c, .slice b m d] w fun e w' => ∃ k : Int, e = .returned (.int .i64 k) ∧ (k == 0) = decide ((List.range n).map x = (List.range m).map y) ∧ ∃ m, w' = w.drewN m := by
  by_cases h : n = m ∧ ∀ j, j < n → x j = y j
  · obtain ⟨rfl, hx⟩ := h
    have e : (List.range n).map x = (List.range n).map y := List.map_congr_left (fun j hj => hx j (List.mem_range.1 hj))
    rw [decide_eq_true e]
    exact (cmp_same a b n c d x w ha (fun j hj => by
      obtain ⟨p, q, e1, e2⟩ := hb j hj
      exact ⟨p, q, e1, by rw [hx j hj]; exact e2⟩) (by omega)).mono fun e w' ⟨h1, h2⟩ => ⟨0, h1, rfl, h2⟩
  · have e : (List.range n).map x ≠ (List.range m).map y := fun e => h (by
      have hl := congrArg List.length e
      simp only [List.length_map, List.length_range] at hl
      refine ⟨hl, fun j hj => ?_⟩
      have := congrArg (fun l => l[j]?) e
      simpa [hj, hl ▸ hj] using this)
    rw [decide_eq_false e]
    refine (cmp_diff a b n m c d x y w ha hb hn hm h).mono fun e w' ⟨h1, h2⟩ => ?_
    rcases h1 with h1 | h1
    · exact ⟨-1, h1, rfl, h2⟩
    · exact ⟨1, h1, rfl, h2⟩
end Go.Proofs.Yteneaiaejdgpcaa
