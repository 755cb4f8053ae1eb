/- Own texts, joined: R14, R15, R16, EqB, R17, R18, R19, R20. -/
import Derived.Test.YtfmndfgdchhaeaaM2
import Derived.Maps.OwnSet
import Derived.Maps.Keyed
import Derived.Carry
import Derived.Test.YtfmndfgdchhaeaaM1
import Derived.Lib.SlBytesConst
import Derived.BigQuiet

/- Package replica: what a kind does, Hear, New. -/
namespace Go.Proofs.Ytfmndfgdchhaeaa
open Go.RowKit Go.Maps
set_option maxRecDepth 100000
set_option maxRecDepth 100000

/-- How a function of a package reads. -/
def Rd (v : Value) : Option (DataW Nat × List MemPlace) :=
  match v with
  | .nilFunc => some (.nil, [])
  | .func (.func k) a b => if a.size = 0 ∧ b.size = 0 then some (.held k, []) else none
  | _ => none
theorem Rd_inv {v : Value} {k : Nat} {ps : List MemPlace} (h : Rd v = some (.held k, ps)) : v = .func (.func k) #[] #[] := by
  unfold Rd at h
  split at h
  · simp at h
  · rename_i k' a b
    split at h
    · rename_i h0
      simp only [Option.some.injEq, Prod.mk.injEq, DataW.held.injEq] at h
      rw [h.1, Array.eq_empty_of_size_eq_zero h0.1, Array.eq_empty_of_size_eq_zero h0.2]
    · cases h
  · cases h
theorem Rd_nil {v : Value} {ps : List MemPlace} (h : Rd v = some (.nil, ps)) : v = .nilFunc := by
  unfold Rd at h
  split at h
  · rfl
  · split at h
    · simp at h
    · cases h
  · cases h
theorem intK : Keyed Try.prog 3 := int_keyed Try.underlying3
theorem wpList_insert_own {H : Type} {P : Program} (w : World) {ops : Array Oper} {rest : List Oper} {o : Oper} {a : Act} {Q : Exit → Act → World → Prop}
    (hg : o.guard = none) (m x v : Operand) (t : TypeId) (hop : o.op = Op.insert t m x v)
    (k e : TypeId) (K : Keyed P k) (ht : P.underlying t = some (.map k e)) (R : Value → Option (DataW H × List MemPlace)) (b n : Nat) (D : DataW H)
    (hm : a.eval m = .map (some b)) (hown : w.ownsMap P k R b n D) (hn : n < maxLen) (key val : Value) (kl : Lit) (hx : a.eval x = key) (hv : a.eval v = val) (hkey : keyOf P k key = some kl)
    (d : DataW H) (ps : List MemPlace) (hval : R val = some (d, ps))
    (hK : ∀ w', w'.ownsMap P k R b (n + 1) (D.put kl d) → w.grownBy w' (some b) → wpList P ops Q rest (a.put o.dst undef) w') :
    wpList P ops Q (o :: rest) a w := by
  refine wpList_plain hg fun K' hK' => ?_
  obtain ⟨w', hrun, r1, r2⟩ := hown.update K ht hn hkey hval
  unfold Oper.wp
  simp [execOp, hop, hm, hx, hv, hrun, Result.andThen]
  exact hK' _ _ (hK w' r1 r2)
/-- What the map of deeds reads as. -/
def dD : DataW Nat := (((DataW.map []).put (.int .i64 1) (.held 22)).put (.int .i64 4) (.held 23)).put (.int .i64 6) (.held 24)
theorem dD_1 : has dD (.int .i64 1) = true ∧ dD.atKey (.int .i64 1) .nil = .held 22 := ⟨rfl, rfl⟩
theorem dD_4 : has dD (.int .i64 4) = true ∧ dD.atKey (.int .i64 4) .nil = .held 23 := ⟨rfl, rfl⟩
theorem dD_6 : has dD (.int .i64 6) = true ∧ dD.atKey (.int .i64 6) .nil = .held 24 := ⟨rfl, rfl⟩
theorem litI (k : Int) : WideAt.IsKeyLit (.int .i64 k) := trivial
theorem dD_no (k : Int) (h1 : k ≠ 1) (h4 : k ≠ 4) (h6 : k ≠ 6) : has dD (.int .i64 k) = false ∧ dD.atKey (.int .i64 k) .nil = .nil := by
  have e1 : (Lit.int .i64 k) ≠ .int .i64 1 := by intro h; injection h with _ h; exact h1 h
  have e4 : (Lit.int .i64 k) ≠ .int .i64 4 := by intro h; injection h with _ h; exact h4 h
  have e6 : (Lit.int .i64 k) ≠ .int .i64 6 := by intro h; injection h with _ h; exact h6 h
  unfold dD
  rw [has_put_other e6, has_put_other e4, has_put_other e1, atKey_put_other e6, atKey_put_other e4, atKey_put_other e1]
  exact ⟨rfl, rfl⟩
theorem since_grown {w w1 w2 : World} {B b : Nat} (h : w.Since B w1) (g : w1.grownBy w2 (some b)) (hb : B ≤ b) (hB : B ≤ w1.heap.size) : w.Since B w2 :=
  ⟨g.os.trans h.os, g.tape.trans h.tape, g.output.trans h.output, Nat.le_trans h.size g.size, fun k hk => (g.block k (by omega) (fun e => by have := Option.some.inj e; omega)).trans (h.block k hk)⟩
set_option maxHeartbeats 2000000 in
theorem deeds_any (w : World) : Calls Try.prog 16 #[] w fun e w' => e = .returned (.map (some w.heap.size)) ∧ w'.ownsMap Try.prog 3 Rd w.heap.size 3 dD ∧ w.Since w.heap.size w' := by
  have hmm := @run_makeMap Try.prog
  have m0 := World.ownsMap_made w Try.prog 3 Rd
  have s0 : w.Since w.heap.size (w.alloc (.map #[] 0)) := (World.Since.refl _ _).alloc (Nat.le_refl _) _
  go_enter Try.func16, Try.ntmps16
  go_upto_region 1 with fail
  refine wp_region_lit ?_
  refine wpList_plain rfl fun _ hK => op_runW (w' := w.alloc (.map #[] 0)) (.map (some w.heap.size)) (by go_simp) (hK _ _ ?_)
  simp only [Act.put, List.setIfInBounds_toArray, List.set_cons_zero, List.set_cons_succ]
  refine wpList_insert_own _ rfl _ _ _ 65 rfl 3 63 intK Try.underlying65 Rd w.heap.size 0 (.map []) rfl m0 (by decide) (.int .i64 1) (.func (.func 22) #[] #[]) (.int .i64 1) rfl rfl (keyOf_int_mk Try.underlying3 (by decide)) (.held 22) [] rfl ?_
  intro w1 hw1 gw1
  simp only [Act.put]
  refine wpList_insert_own _ rfl _ _ _ 65 rfl 3 63 intK Try.underlying65 Rd w.heap.size 1 _ rfl hw1 (by decide) (.int .i64 4) (.func (.func 23) #[] #[]) (.int .i64 4) rfl rfl (keyOf_int_mk Try.underlying3 (by decide)) (.held 23) [] rfl ?_
  intro w2 hw2 gw2
  simp only [Act.put]
  refine wpList_insert_own _ rfl _ _ _ 65 rfl 3 63 intK Try.underlying65 Rd w.heap.size 2 _ rfl hw2 (by decide) (.int .i64 6) (.func (.func 24) #[] #[]) (.int .i64 6) rfl rfl (keyOf_int_mk Try.underlying3 (by decide)) (.held 24) [] rfl ?_
  intro w3 hw3 gw3
  simp only [Act.put]
  have s1 := since_grown s0 gw1 (Nat.le_refl _) s0.size
  have s2 := since_grown s1 gw2 (Nat.le_refl _) s1.size
  have s3 := since_grown s2 gw3 (Nat.le_refl _) s2.size
  have HE : Hid (w3.ownsMap Try.prog 3 Rd w.heap.size 3 dD ∧ w.Since w.heap.size w3) := ⟨hw3, s3⟩
  clear s0 s1 s2 s3 m0 hmm hw1 hw2 hw3 gw1 gw2 gw3
  go_wp2_with fail
  go_ret
  exact ⟨rfl, HE.out⟩
end Go.Proofs.Ytfmndfgdchhaeaa

/- Package replica: Hear. -/
namespace Go.Proofs.Ytfmndfgdchhaeaa
open Go.RowKit Go.Maps
set_option maxRecDepth 100000
set_option maxRecDepth 100000

/-- Where the value of an answer lies: nowhere, or in new memory. -/
def AnV (lo : Nat) (w : World) (a : Mg) (ga : Option Addr) (gc : Nat) : Prop := (ga = none ∧ gc = 0 ∧ a.s 10 = []) ∨ ∃ g, ga = some ⟨g, 0, none⟩ ∧ lo ≤ g ∧ FlB w g gc (strL (a.s 10))
theorem AnV.on {lo lo' : Nat} {w w' : World} {a : Mg} {ga : Option Addr} {gc : Nat} (h : AnV lo w a ga gc) (hl : lo' ≤ lo) (hb : ∀ g, lo ≤ g → w'.heap[g]? = w.heap[g]?) : AnV lo' w' a ga gc := by
  rcases h with h | ⟨g, h1, h2, h3⟩
  · exact .inl h
  · exact .inr ⟨g, h1, Nat.le_trans hl h2, h3.on (hb g h2)⟩
set_option maxHeartbeats 8000000 in
theorem hear_prepare {rb : Nat} {r : Rp} {w : World} (h : RpIs w rb r) (m : Mg) (va : Option Addr) (vc : Nat) (hk : m.n 0 = 1) (a : Mg) (b1 b2 b3 : Bool) (r' : Rp) (HC : ∀ W : World, w.Since w.heap.size W → Calls Try.prog 22 #[.pointer (some ⟨rb, 0, none⟩), mgV m va vc] W fun e w' => ∃ ga gc, e = .returned (hdV a ga gc b1 b2 b3) ∧ RpIs w' rb r' ∧ But rb W w' ∧ AnV W.heap.size w' a ga gc) :
    Calls Try.prog 8 #[.pointer (some ⟨rb, 0, none⟩), mgV m va vc] w fun e w' => ∃ ga gc, e = .returned (hdV a ga gc b1 b2 b3) ∧ RpIs w' rb r' ∧ But rb w w' ∧ AnV w.heap.size w' a ga gc := by
  obtain ⟨MM, HMM⟩ : ∃ x, Hid ((mgL m va vc).toArray = x) := ⟨_, rfl⟩
  have HINM : Hid ((Try.prog.info? 42).map (·.size) = some MM.size) := by rw [← HMM.out]; exact infoMgA _ _ _
  obtain ⟨W1, HW1⟩ : ∃ W, Hid (w.alloc (.cells MM 42) = W) := ⟨_, rfl⟩
  have s1 : w.Since w.heap.size W1 := by rw [← HW1.out]; exact (World.Since.refl _ _).alloc (Nat.le_refl _) _
  have z1 : W1.heap.size = w.heap.size + 1 := by rw [← HW1.out]; simp
  have r1 : W1.rowIs w.heap.size 42 22 (mgCell m va vc) := by rw [← HW1.out, ← HMM.out]; exact mg_row w m va vc
  obtain ⟨W2, HW2⟩ : ∃ W, Hid (W1.alloc hdZ = W) := ⟨_, rfl⟩
  have s2 : W1.Since W1.heap.size W2 := by rw [← HW2.out]; exact (World.Since.refl _ _).alloc (Nat.le_refl _) _
  have r2 : W2.rowIs (w.heap.size + 1) 49 25 (hdCell mg0 none 0 false false false) := by rw [← z1, ← HW2.out]; exact hdZ_row W1
  have rm2 := row_since r1 s2
  have sw2 : w.Since w.heap.size W2 := s1.trans (since_mono s2 s1.size)
  have z2 : W2.heap.size = w.heap.size + 1 + 1 := by rw [← HW2.out, ← z1]; simp
  have hR2 := h.since sw2
  have hrp := h.lt
  have c0 : W2.cell? ⟨w.heap.size, 0, none⟩ = some (.int .i64 (1 : Int)) := by
    have : W2.cell? ⟨w.heap.size, 0, none⟩ = some (.int .i64 (m.n 0)) := rm2.cell (i := 0) (by decide)
    rw [this, hk]
  have HD0 : Hid (Calls Try.prog 16 #[] W2.drew fun e w' => e = .returned (.map (some W2.heap.size)) ∧ Hid (w'.ownsMap Try.prog 3 Rd W2.heap.size 3 dD) ∧ Hid (W2.Since W2.heap.size w')) := (deeds_any W2.drew).mono fun e w' ⟨he, h1, h2⟩ => ⟨he, h1, ((World.Since.refl _ _).drew).trans h2⟩
  have HC0 : Hid (∀ W : World, W2.Since W2.heap.size W → W.cell? ⟨w.heap.size, 0, none⟩ = some (.int .i64 (1 : Int))) := fun W hW => cell_later hW c0
  have HHM : Hid (∀ W : World, W2.Since W2.heap.size W → W.heap[w.heap.size]? = some (.cells MM 42 (0, 0))) := fun W hW => by
    rw [← HMM.out]
    exact row_heap (row_since rm2 hW)
  have HCC : Hid (∀ W : World, W2.Since W2.heap.size W → Calls Try.prog 22 #[.pointer (some ⟨rb, 0, none⟩), .agg MM] W fun e w' => ∃ (HL : Array Value) (WE : World) (ga : Option Addr) (gc : Nat), e = .returned (.agg HL) ∧ Hid (hdV a ga gc b1 b2 b3 = .agg HL) ∧ Hid (w'.there (w.heap.size + 1) 0 HL.size) ∧ Hid ((Try.prog.info? 49).map (·.size) = some HL.size) ∧ Hid (HL.all (·.oneCell') = true) ∧ Hid (w'.setCells (w.heap.size + 1) 0 HL.toList = WE) ∧ Hid (WE.heap[w.heap.size + 1]? = some (.cells HL 49 (0, 0))) ∧ Hid (RpIs WE rb r' ∧ But rb w WE ∧ AnV w.heap.size WE a ga gc)) := fun W hW => by
    have sW : w.Since w.heap.size W := sw2.trans (since_mono hW sw2.size)
    have q := HC W sW
    unfold mgV at q
    rw [HMM.out] at q
    refine q.mono fun e w' ⟨ga, gc, he, hr, hb, hv⟩ => ?_
    have rr := hb.row (row_since r2 hW) (by omega)
    obtain ⟨WE, HWE, hhE, zE, bE, oE, tE, pE⟩ := cells_stored rr (hdL a ga gc b1 b2 b3) (hdL_len _ _ _ _ _ _)
    have bt : But rb w w' := (But.of_since sW).trans hb
    have hzW : w.heap.size + 1 < W.heap.size := by have := hW.size; omega
    refine ⟨(hdL a ga gc b1 b2 b3).toArray, WE, ga, gc, he, rfl, ?_, infoHrA _ _ _ _ _ _, hd_all _ _ _ _ _ _, HWE, hhE, hr.on (bE _ (by omega)), ⟨oE.trans bt.os, tE.trans bt.tape, pE.trans bt.output, by rw [zE]; exact bt.size, fun k hk hn => ?_⟩, hv.on (by omega) (fun g hg => bE g (by omega))⟩
    · have e : (hdL a ga gc b1 b2 b3).toArray.size = 25 := by rw [List.size_toArray, hdL_len]
      show World.there _ _ _ _
      rw [e]
      exact row_there rr
    · rw [bE k (by omega)]
      exact bt.block k hk hn
  have HLK : Hid (∀ W : World, W.ownsMap Try.prog 3 Rd W2.heap.size 3 dD → (Instr.lookup 65 (.map (some W2.heap.size)) (.int .i64 (1 : Int)) true).run Try.prog W = .ok (.tuple #[.func (.func 22) #[] #[], .bool true]) W) := fun W hW => by
    obtain ⟨v, ps, hrun, hR⟩ := hW.look_ok intK Try.underlying65 (z := .nilFunc) (Try.zeroValue63 W) (zd := .nil) (zp := []) rfl (key := .int .i64 (1 : Int)) (kl := .int .i64 (1 : Int)) (keyOf_int_mk Try.underlying3 (by decide))
    rw [dD_1.1] at hrun
    rw [dD_1.2] at hR
    rw [← Rd_inv hR]
    exact hrun
  have HSD : Hid (W2.Since W2.heap.size W2.drew) := (World.Since.refl _ _).drew
  unfold hdZ at HW2
  clear s1 r1 s2 r2 rm2 sw2 z2 hrp hR2 h hk HC c0
  unfold mgV
  rw [HMM.out]
  clear HMM
  go_enter Try.func8, Try.ntmps8
  go_upto_region 1 with fail
  rw [HW1.out]
  try rw [z1]
  rw [HW2.out]
  try rw [z1]
  clear HW1 HW2 z1
  refine wp_region_held_drew (S := fun W => W2.Since W2.heap.size W) (by kernel_rfl) HSD.out fun _ => ?_
  refine wpAnyH_take (i := 1) (v := .pointer (some ⟨w.heap.size, 0, none⟩)) rfl (by kernel_rfl) (by kernel_rfl) (by kernel_rfl) (fun _ _ _ h => h) (.inl ⟨rfl, fun W hW => by kernel_rfl⟩) HSD.out ?_
  simp only [List.getElem_toArray, List.getElem_cons_zero, List.getElem_cons_succ, Act.put, List.setIfInBounds_toArray, List.set_cons_zero, List.set_cons_succ]
  refine wpAnyH_take (i := 2) (v := .pointer (some ⟨w.heap.size, 0, none⟩)) rfl (by kernel_rfl) (by kernel_rfl) (by kernel_rfl) (fun _ _ _ h => h) (.inl ⟨rfl, fun W hW => by kernel_rfl⟩) HSD.out ?_
  simp only [List.getElem_toArray, List.getElem_cons_zero, List.getElem_cons_succ, Act.put, List.setIfInBounds_toArray, List.set_cons_zero, List.set_cons_succ]
  refine wpAnyH_take (i := 3) (v := .int .i64 (1 : Int)) rfl (by kernel_rfl) (by kernel_rfl) (by kernel_rfl) (fun _ _ _ h => h) (.inl ⟨rfl, fun W hW => by have c := HC0.out W hW; go_simp⟩) HSD.out ?_
  simp only [List.getElem_toArray, List.getElem_cons_zero, List.getElem_cons_succ, Act.put, List.setIfInBounds_toArray, List.set_cons_zero, List.set_cons_succ]
  refine wpAnyH_ready (rs := [0]) (by kernel_rfl) (by simp) ?_
  refine AllReadyH.cons rfl (fun K hK => ?_) AllReadyH.nil
  refine step_callW rfl 16 #[] (by kernel_rfl) HD0.out ?_
  rintro e w3 ⟨rfl, HM3, HS3⟩
  refine ⟨_, rfl, hK.out _ _ HS3.out fun _ => ?_⟩
  clear hK
  simp only [List.getElem_toArray, List.getElem_cons_zero, Act.put, List.setIfInBounds_toArray, List.set_cons_zero, List.set_cons_succ]
  refine wpAnyH_ready (rs := [4]) (by kernel_rfl) (by simp) ?_
  refine AllReadyH.cons rfl (fun K hK => ?_) AllReadyH.nil
  refine step_storeM rfl (op_run (.tuple #[.func (.func 22) #[] #[], .bool true]) ?_ ?_)
  · have r := HLK.out w3 HM3.out
    go_simp
  refine hK.out _ _ HS3.out fun _ => ?_
  clear hK
  simp only [List.getElem_toArray, List.getElem_cons_zero, List.getElem_cons_succ, Act.put, List.setIfInBounds_toArray, List.set_cons_zero, List.set_cons_succ]
  refine wpAnyH_take (i := 5) (v := .tuple #[.func (.func 22) #[] #[], .bool true]) rfl (by kernel_rfl) (by kernel_rfl) (by kernel_rfl) (fun _ _ _ h => h) (.inl ⟨rfl, fun W hW => by kernel_rfl⟩) HS3.out ?_
  simp only [List.getElem_toArray, List.getElem_cons_zero, List.getElem_cons_succ, Act.put, List.setIfInBounds_toArray, List.set_cons_zero, List.set_cons_succ]
  refine wpAnyH_take (i := 6) (v := .func (.func 22) #[] #[]) rfl (by kernel_rfl) (by kernel_rfl) (by kernel_rfl) (fun _ _ _ h => h) (.inl ⟨rfl, fun W hW => by kernel_rfl⟩) HS3.out ?_
  simp only [List.getElem_toArray, List.getElem_cons_zero, List.getElem_cons_succ, Act.put, List.setIfInBounds_toArray, List.set_cons_zero, List.set_cons_succ]
  refine wpAnyH_take (i := 7) (v := .bool true) rfl (by kernel_rfl) (by kernel_rfl) (by kernel_rfl) (fun _ _ _ h => h) (.inl ⟨rfl, fun W hW => by kernel_rfl⟩) HS3.out ?_
  simp only [List.getElem_toArray, List.getElem_cons_zero, List.getElem_cons_succ, Act.put, List.setIfInBounds_toArray, List.set_cons_zero, List.set_cons_succ]
  refine wpAnyH_take (i := 8) (v := .func (.func 22) #[] #[]) rfl (by kernel_rfl) (by kernel_rfl) (by kernel_rfl) (fun _ _ _ h => h) (.inl ⟨rfl, fun W hW => by kernel_rfl⟩) HS3.out ?_
  simp only [List.getElem_toArray, List.getElem_cons_zero, List.getElem_cons_succ, Act.put, List.setIfInBounds_toArray, List.set_cons_zero, List.set_cons_succ]
  refine wpAnyH_take (i := 9) (v := .bool true) rfl (by kernel_rfl) (by kernel_rfl) (by kernel_rfl) (fun _ _ _ h => h) (.inl ⟨rfl, fun W hW => by kernel_rfl⟩) HS3.out ?_
  simp only [List.getElem_toArray, List.getElem_cons_zero, List.getElem_cons_succ, Act.put, List.setIfInBounds_toArray, List.set_cons_zero, List.set_cons_succ]
  refine wpAnyH_done (by kernel_rfl) ?_ _
  have HM4 := hide (HHM.out w3 HS3.out)
  have HC4 := hide (HCC.out w3 HS3.out)
  clear HHM HCC HC0 HD0 HLK HSD HM3 HS3
  go_upto_region 4 with fail
  refine wp_region_lit ?_
  refine wpList_plain rfl fun _ hK => op_run (.func (.func 22) #[] #[]) (by kernel_rfl) (hK _ _ ?_)
  simp only [Act.put, List.setIfInBounds_toArray, List.set_cons_zero, List.set_cons_succ]
  refine wpList_plain rfl fun _ hK => op_run (.pointer (some ⟨rb, 0, none⟩)) (by kernel_rfl) (hK _ _ ?_)
  simp only [Act.put, List.setIfInBounds_toArray, List.set_cons_zero, List.set_cons_succ]
  refine wpList_load_row rfl 42 (.tmp 3) rfl w.heap.size rfl _ MM (0, 0) _ HM4.out Try.underlying42 rfl HINM.out ?_
  simp only [Act.put, List.setIfInBounds_toArray, List.set_cons_zero, List.set_cons_succ]
  refine wpList_plain rfl fun _ hK => op_call 22 #[.pointer (some ⟨rb, 0, none⟩), .agg MM] (by kernel_rfl) HC4.out ?_
  rintro e w5 ⟨HL, WE, ga, gc, rfl, HHL, HTE, HIR, HAL, HWE, HHE, HE⟩
  refine ⟨_, rfl, hK _ _ ?_⟩
  simp only [Act.put, List.setIfInBounds_toArray, List.set_cons_zero, List.set_cons_succ]
  refine wpList_store_mid rfl 49 (.tmp 4) (.tmp 21) rfl (w.heap.size + 1) 0 HL rfl rfl HTE.out HIR.out HAL.out ?_
  rw [HWE.out]
  clear hK HC4 HM4
  go_wp2_with fail
  exact bodyPost_ret_by (results_cell_row rfl _ _ (w.heap.size + 1) 49 _ (0, 0) _ rfl HHE.out Try.underlying49 rfl HIR.out) rfl ⟨ga, gc, congrArg Ending.returned HHL.out.symm, HE.out⟩
set_option maxHeartbeats 8000000 in
theorem hear_write {rb : Nat} {r : Rp} {w : World} (h : RpIs w rb r) (m : Mg) (va : Option Addr) (vc : Nat) (hk : m.n 0 = 4) (a : Mg) (b1 b2 b3 : Bool) (r' : Rp) (HC : ∀ W : World, w.Since w.heap.size W → Calls Try.prog 23 #[.pointer (some ⟨rb, 0, none⟩), mgV m va vc] W fun e w' => ∃ ga gc, e = .returned (hdV a ga gc b1 b2 b3) ∧ RpIs w' rb r' ∧ But rb W w' ∧ AnV W.heap.size w' a ga gc) :
    Calls Try.prog 8 #[.pointer (some ⟨rb, 0, none⟩), mgV m va vc] w fun e w' => ∃ ga gc, e = .returned (hdV a ga gc b1 b2 b3) ∧ RpIs w' rb r' ∧ But rb w w' ∧ AnV w.heap.size w' a ga gc := by
  obtain ⟨MM, HMM⟩ : ∃ x, Hid ((mgL m va vc).toArray = x) := ⟨_, rfl⟩
  have HINM : Hid ((Try.prog.info? 42).map (·.size) = some MM.size) := by rw [← HMM.out]; exact infoMgA _ _ _
  obtain ⟨W1, HW1⟩ : ∃ W, Hid (w.alloc (.cells MM 42) = W) := ⟨_, rfl⟩
  have s1 : w.Since w.heap.size W1 := by rw [← HW1.out]; exact (World.Since.refl _ _).alloc (Nat.le_refl _) _
  have z1 : W1.heap.size = w.heap.size + 1 := by rw [← HW1.out]; simp
  have r1 : W1.rowIs w.heap.size 42 22 (mgCell m va vc) := by rw [← HW1.out, ← HMM.out]; exact mg_row w m va vc
  obtain ⟨W2, HW2⟩ : ∃ W, Hid (W1.alloc hdZ = W) := ⟨_, rfl⟩
  have s2 : W1.Since W1.heap.size W2 := by rw [← HW2.out]; exact (World.Since.refl _ _).alloc (Nat.le_refl _) _
  have r2 : W2.rowIs (w.heap.size + 1) 49 25 (hdCell mg0 none 0 false false false) := by rw [← z1, ← HW2.out]; exact hdZ_row W1
  have rm2 := row_since r1 s2
  have sw2 : w.Since w.heap.size W2 := s1.trans (since_mono s2 s1.size)
  have z2 : W2.heap.size = w.heap.size + 1 + 1 := by rw [← HW2.out, ← z1]; simp
  have hR2 := h.since sw2
  have hrp := h.lt
  have c0 : W2.cell? ⟨w.heap.size, 0, none⟩ = some (.int .i64 (4 : Int)) := by
    have : W2.cell? ⟨w.heap.size, 0, none⟩ = some (.int .i64 (m.n 0)) := rm2.cell (i := 0) (by decide)
    rw [this, hk]
  have HD0 : Hid (Calls Try.prog 16 #[] W2.drew fun e w' => e = .returned (.map (some W2.heap.size)) ∧ Hid (w'.ownsMap Try.prog 3 Rd W2.heap.size 3 dD) ∧ Hid (W2.Since W2.heap.size w')) := (deeds_any W2.drew).mono fun e w' ⟨he, h1, h2⟩ => ⟨he, h1, ((World.Since.refl _ _).drew).trans h2⟩
  have HC0 : Hid (∀ W : World, W2.Since W2.heap.size W → W.cell? ⟨w.heap.size, 0, none⟩ = some (.int .i64 (4 : Int))) := fun W hW => cell_later hW c0
  have HHM : Hid (∀ W : World, W2.Since W2.heap.size W → W.heap[w.heap.size]? = some (.cells MM 42 (0, 0))) := fun W hW => by
    rw [← HMM.out]
    exact row_heap (row_since rm2 hW)
  have HCC : Hid (∀ W : World, W2.Since W2.heap.size W → Calls Try.prog 23 #[.pointer (some ⟨rb, 0, none⟩), .agg MM] W fun e w' => ∃ (HL : Array Value) (WE : World) (ga : Option Addr) (gc : Nat), e = .returned (.agg HL) ∧ Hid (hdV a ga gc b1 b2 b3 = .agg HL) ∧ Hid (w'.there (w.heap.size + 1) 0 HL.size) ∧ Hid ((Try.prog.info? 49).map (·.size) = some HL.size) ∧ Hid (HL.all (·.oneCell') = true) ∧ Hid (w'.setCells (w.heap.size + 1) 0 HL.toList = WE) ∧ Hid (WE.heap[w.heap.size + 1]? = some (.cells HL 49 (0, 0))) ∧ Hid (RpIs WE rb r' ∧ But rb w WE ∧ AnV w.heap.size WE a ga gc)) := fun W hW => by
    have sW : w.Since w.heap.size W := sw2.trans (since_mono hW sw2.size)
    have q := HC W sW
    unfold mgV at q
    rw [HMM.out] at q
    refine q.mono fun e w' ⟨ga, gc, he, hr, hb, hv⟩ => ?_
    have rr := hb.row (row_since r2 hW) (by omega)
    obtain ⟨WE, HWE, hhE, zE, bE, oE, tE, pE⟩ := cells_stored rr (hdL a ga gc b1 b2 b3) (hdL_len _ _ _ _ _ _)
    have bt : But rb w w' := (But.of_since sW).trans hb
    have hzW : w.heap.size + 1 < W.heap.size := by have := hW.size; omega
    refine ⟨(hdL a ga gc b1 b2 b3).toArray, WE, ga, gc, he, rfl, ?_, infoHrA _ _ _ _ _ _, hd_all _ _ _ _ _ _, HWE, hhE, hr.on (bE _ (by omega)), ⟨oE.trans bt.os, tE.trans bt.tape, pE.trans bt.output, by rw [zE]; exact bt.size, fun k hk hn => ?_⟩, hv.on (by omega) (fun g hg => bE g (by omega))⟩
    · have e : (hdL a ga gc b1 b2 b3).toArray.size = 25 := by rw [List.size_toArray, hdL_len]
      show World.there _ _ _ _
      rw [e]
      exact row_there rr
    · rw [bE k (by omega)]
      exact bt.block k hk hn
  have HLK : Hid (∀ W : World, W.ownsMap Try.prog 3 Rd W2.heap.size 3 dD → (Instr.lookup 65 (.map (some W2.heap.size)) (.int .i64 (4 : Int)) true).run Try.prog W = .ok (.tuple #[.func (.func 23) #[] #[], .bool true]) W) := fun W hW => by
    obtain ⟨v, ps, hrun, hR⟩ := hW.look_ok intK Try.underlying65 (z := .nilFunc) (Try.zeroValue63 W) (zd := .nil) (zp := []) rfl (key := .int .i64 (4 : Int)) (kl := .int .i64 (4 : Int)) (keyOf_int_mk Try.underlying3 (by decide))
    rw [dD_4.1] at hrun
    rw [dD_4.2] at hR
    rw [← Rd_inv hR]
    exact hrun
  have HSD : Hid (W2.Since W2.heap.size W2.drew) := (World.Since.refl _ _).drew
  unfold hdZ at HW2
  clear s1 r1 s2 r2 rm2 sw2 z2 hrp hR2 h hk HC c0
  unfold mgV
  rw [HMM.out]
  clear HMM
  go_enter Try.func8, Try.ntmps8
  go_upto_region 1 with fail
  rw [HW1.out]
  try rw [z1]
  rw [HW2.out]
  try rw [z1]
  clear HW1 HW2 z1
  refine wp_region_held_drew (S := fun W => W2.Since W2.heap.size W) (by kernel_rfl) HSD.out fun _ => ?_
  refine wpAnyH_take (i := 1) (v := .pointer (some ⟨w.heap.size, 0, none⟩)) rfl (by kernel_rfl) (by kernel_rfl) (by kernel_rfl) (fun _ _ _ h => h) (.inl ⟨rfl, fun W hW => by kernel_rfl⟩) HSD.out ?_
  simp only [List.getElem_toArray, List.getElem_cons_zero, List.getElem_cons_succ, Act.put, List.setIfInBounds_toArray, List.set_cons_zero, List.set_cons_succ]
  refine wpAnyH_take (i := 2) (v := .pointer (some ⟨w.heap.size, 0, none⟩)) rfl (by kernel_rfl) (by kernel_rfl) (by kernel_rfl) (fun _ _ _ h => h) (.inl ⟨rfl, fun W hW => by kernel_rfl⟩) HSD.out ?_
  simp only [List.getElem_toArray, List.getElem_cons_zero, List.getElem_cons_succ, Act.put, List.setIfInBounds_toArray, List.set_cons_zero, List.set_cons_succ]
  refine wpAnyH_take (i := 3) (v := .int .i64 (4 : Int)) rfl (by kernel_rfl) (by kernel_rfl) (by kernel_rfl) (fun _ _ _ h => h) (.inl ⟨rfl, fun W hW => by have c := HC0.out W hW; go_simp⟩) HSD.out ?_
  simp only [List.getElem_toArray, List.getElem_cons_zero, List.getElem_cons_succ, Act.put, List.setIfInBounds_toArray, List.set_cons_zero, List.set_cons_succ]
  refine wpAnyH_ready (rs := [0]) (by kernel_rfl) (by simp) ?_
  refine AllReadyH.cons rfl (fun K hK => ?_) AllReadyH.nil
  refine step_callW rfl 16 #[] (by kernel_rfl) HD0.out ?_
  rintro e w3 ⟨rfl, HM3, HS3⟩
  refine ⟨_, rfl, hK.out _ _ HS3.out fun _ => ?_⟩
  clear hK
  simp only [List.getElem_toArray, List.getElem_cons_zero, Act.put, List.setIfInBounds_toArray, List.set_cons_zero, List.set_cons_succ]
  refine wpAnyH_ready (rs := [4]) (by kernel_rfl) (by simp) ?_
  refine AllReadyH.cons rfl (fun K hK => ?_) AllReadyH.nil
  refine step_storeM rfl (op_run (.tuple #[.func (.func 23) #[] #[], .bool true]) ?_ ?_)
  · have r := HLK.out w3 HM3.out
    go_simp
  refine hK.out _ _ HS3.out fun _ => ?_
  clear hK
  simp only [List.getElem_toArray, List.getElem_cons_zero, List.getElem_cons_succ, Act.put, List.setIfInBounds_toArray, List.set_cons_zero, List.set_cons_succ]
  refine wpAnyH_take (i := 5) (v := .tuple #[.func (.func 23) #[] #[], .bool true]) rfl (by kernel_rfl) (by kernel_rfl) (by kernel_rfl) (fun _ _ _ h => h) (.inl ⟨rfl, fun W hW => by kernel_rfl⟩) HS3.out ?_
  simp only [List.getElem_toArray, List.getElem_cons_zero, List.getElem_cons_succ, Act.put, List.setIfInBounds_toArray, List.set_cons_zero, List.set_cons_succ]
  refine wpAnyH_take (i := 6) (v := .func (.func 23) #[] #[]) rfl (by kernel_rfl) (by kernel_rfl) (by kernel_rfl) (fun _ _ _ h => h) (.inl ⟨rfl, fun W hW => by kernel_rfl⟩) HS3.out ?_
  simp only [List.getElem_toArray, List.getElem_cons_zero, List.getElem_cons_succ, Act.put, List.setIfInBounds_toArray, List.set_cons_zero, List.set_cons_succ]
  refine wpAnyH_take (i := 7) (v := .bool true) rfl (by kernel_rfl) (by kernel_rfl) (by kernel_rfl) (fun _ _ _ h => h) (.inl ⟨rfl, fun W hW => by kernel_rfl⟩) HS3.out ?_
  simp only [List.getElem_toArray, List.getElem_cons_zero, List.getElem_cons_succ, Act.put, List.setIfInBounds_toArray, List.set_cons_zero, List.set_cons_succ]
  refine wpAnyH_take (i := 8) (v := .func (.func 23) #[] #[]) rfl (by kernel_rfl) (by kernel_rfl) (by kernel_rfl) (fun _ _ _ h => h) (.inl ⟨rfl, fun W hW => by kernel_rfl⟩) HS3.out ?_
  simp only [List.getElem_toArray, List.getElem_cons_zero, List.getElem_cons_succ, Act.put, List.setIfInBounds_toArray, List.set_cons_zero, List.set_cons_succ]
  refine wpAnyH_take (i := 9) (v := .bool true) rfl (by kernel_rfl) (by kernel_rfl) (by kernel_rfl) (fun _ _ _ h => h) (.inl ⟨rfl, fun W hW => by kernel_rfl⟩) HS3.out ?_
  simp only [List.getElem_toArray, List.getElem_cons_zero, List.getElem_cons_succ, Act.put, List.setIfInBounds_toArray, List.set_cons_zero, List.set_cons_succ]
  refine wpAnyH_done (by kernel_rfl) ?_ _
  have HM4 := hide (HHM.out w3 HS3.out)
  have HC4 := hide (HCC.out w3 HS3.out)
  clear HHM HCC HC0 HD0 HLK HSD HM3 HS3
  go_upto_region 4 with fail
  refine wp_region_lit ?_
  refine wpList_plain rfl fun _ hK => op_run (.func (.func 23) #[] #[]) (by kernel_rfl) (hK _ _ ?_)
  simp only [Act.put, List.setIfInBounds_toArray, List.set_cons_zero, List.set_cons_succ]
  refine wpList_plain rfl fun _ hK => op_run (.pointer (some ⟨rb, 0, none⟩)) (by kernel_rfl) (hK _ _ ?_)
  simp only [Act.put, List.setIfInBounds_toArray, List.set_cons_zero, List.set_cons_succ]
  refine wpList_load_row rfl 42 (.tmp 3) rfl w.heap.size rfl _ MM (0, 0) _ HM4.out Try.underlying42 rfl HINM.out ?_
  simp only [Act.put, List.setIfInBounds_toArray, List.set_cons_zero, List.set_cons_succ]
  refine wpList_plain rfl fun _ hK => op_call 23 #[.pointer (some ⟨rb, 0, none⟩), .agg MM] (by kernel_rfl) HC4.out ?_
  rintro e w5 ⟨HL, WE, ga, gc, rfl, HHL, HTE, HIR, HAL, HWE, HHE, HE⟩
  refine ⟨_, rfl, hK _ _ ?_⟩
  simp only [Act.put, List.setIfInBounds_toArray, List.set_cons_zero, List.set_cons_succ]
  refine wpList_store_mid rfl 49 (.tmp 4) (.tmp 21) rfl (w.heap.size + 1) 0 HL rfl rfl HTE.out HIR.out HAL.out ?_
  rw [HWE.out]
  clear hK HC4 HM4
  go_wp2_with fail
  exact bodyPost_ret_by (results_cell_row rfl _ _ (w.heap.size + 1) 49 _ (0, 0) _ rfl HHE.out Try.underlying49 rfl HIR.out) rfl ⟨ga, gc, congrArg Ending.returned HHL.out.symm, HE.out⟩
set_option maxHeartbeats 8000000 in
theorem hear_beat {rb : Nat} {r : Rp} {w : World} (h : RpIs w rb r) (m : Mg) (va : Option Addr) (vc : Nat) (hk : m.n 0 = 6) (a : Mg) (b1 b2 b3 : Bool) (r' : Rp) (HC : ∀ W : World, w.Since w.heap.size W → Calls Try.prog 24 #[.pointer (some ⟨rb, 0, none⟩), mgV m va vc] W fun e w' => ∃ ga gc, e = .returned (hdV a ga gc b1 b2 b3) ∧ RpIs w' rb r' ∧ But rb W w' ∧ AnV W.heap.size w' a ga gc) :
    Calls Try.prog 8 #[.pointer (some ⟨rb, 0, none⟩), mgV m va vc] w fun e w' => ∃ ga gc, e = .returned (hdV a ga gc b1 b2 b3) ∧ RpIs w' rb r' ∧ But rb w w' ∧ AnV w.heap.size w' a ga gc := by
  obtain ⟨MM, HMM⟩ : ∃ x, Hid ((mgL m va vc).toArray = x) := ⟨_, rfl⟩
  have HINM : Hid ((Try.prog.info? 42).map (·.size) = some MM.size) := by rw [← HMM.out]; exact infoMgA _ _ _
  obtain ⟨W1, HW1⟩ : ∃ W, Hid (w.alloc (.cells MM 42) = W) := ⟨_, rfl⟩
  have s1 : w.Since w.heap.size W1 := by rw [← HW1.out]; exact (World.Since.refl _ _).alloc (Nat.le_refl _) _
  have z1 : W1.heap.size = w.heap.size + 1 := by rw [← HW1.out]; simp
  have r1 : W1.rowIs w.heap.size 42 22 (mgCell m va vc) := by rw [← HW1.out, ← HMM.out]; exact mg_row w m va vc
  obtain ⟨W2, HW2⟩ : ∃ W, Hid (W1.alloc hdZ = W) := ⟨_, rfl⟩
  have s2 : W1.Since W1.heap.size W2 := by rw [← HW2.out]; exact (World.Since.refl _ _).alloc (Nat.le_refl _) _
  have r2 : W2.rowIs (w.heap.size + 1) 49 25 (hdCell mg0 none 0 false false false) := by rw [← z1, ← HW2.out]; exact hdZ_row W1
  have rm2 := row_since r1 s2
  have sw2 : w.Since w.heap.size W2 := s1.trans (since_mono s2 s1.size)
  have z2 : W2.heap.size = w.heap.size + 1 + 1 := by rw [← HW2.out, ← z1]; simp
  have hR2 := h.since sw2
  have hrp := h.lt
  have c0 : W2.cell? ⟨w.heap.size, 0, none⟩ = some (.int .i64 (6 : Int)) := by
    have : W2.cell? ⟨w.heap.size, 0, none⟩ = some (.int .i64 (m.n 0)) := rm2.cell (i := 0) (by decide)
    rw [this, hk]
  have HD0 : Hid (Calls Try.prog 16 #[] W2.drew fun e w' => e = .returned (.map (some W2.heap.size)) ∧ Hid (w'.ownsMap Try.prog 3 Rd W2.heap.size 3 dD) ∧ Hid (W2.Since W2.heap.size w')) := (deeds_any W2.drew).mono fun e w' ⟨he, h1, h2⟩ => ⟨he, h1, ((World.Since.refl _ _).drew).trans h2⟩
  have HC0 : Hid (∀ W : World, W2.Since W2.heap.size W → W.cell? ⟨w.heap.size, 0, none⟩ = some (.int .i64 (6 : Int))) := fun W hW => cell_later hW c0
  have HHM : Hid (∀ W : World, W2.Since W2.heap.size W → W.heap[w.heap.size]? = some (.cells MM 42 (0, 0))) := fun W hW => by
    rw [← HMM.out]
    exact row_heap (row_since rm2 hW)
  have HCC : Hid (∀ W : World, W2.Since W2.heap.size W → Calls Try.prog 24 #[.pointer (some ⟨rb, 0, none⟩), .agg MM] W fun e w' => ∃ (HL : Array Value) (WE : World) (ga : Option Addr) (gc : Nat), e = .returned (.agg HL) ∧ Hid (hdV a ga gc b1 b2 b3 = .agg HL) ∧ Hid (w'.there (w.heap.size + 1) 0 HL.size) ∧ Hid ((Try.prog.info? 49).map (·.size) = some HL.size) ∧ Hid (HL.all (·.oneCell') = true) ∧ Hid (w'.setCells (w.heap.size + 1) 0 HL.toList = WE) ∧ Hid (WE.heap[w.heap.size + 1]? = some (.cells HL 49 (0, 0))) ∧ Hid (RpIs WE rb r' ∧ But rb w WE ∧ AnV w.heap.size WE a ga gc)) := fun W hW => by
    have sW : w.Since w.heap.size W := sw2.trans (since_mono hW sw2.size)
    have q := HC W sW
    unfold mgV at q
    rw [HMM.out] at q
    refine q.mono fun e w' ⟨ga, gc, he, hr, hb, hv⟩ => ?_
    have rr := hb.row (row_since r2 hW) (by omega)
    obtain ⟨WE, HWE, hhE, zE, bE, oE, tE, pE⟩ := cells_stored rr (hdL a ga gc b1 b2 b3) (hdL_len _ _ _ _ _ _)
    have bt : But rb w w' := (But.of_since sW).trans hb
    have hzW : w.heap.size + 1 < W.heap.size := by have := hW.size; omega
    refine ⟨(hdL a ga gc b1 b2 b3).toArray, WE, ga, gc, he, rfl, ?_, infoHrA _ _ _ _ _ _, hd_all _ _ _ _ _ _, HWE, hhE, hr.on (bE _ (by omega)), ⟨oE.trans bt.os, tE.trans bt.tape, pE.trans bt.output, by rw [zE]; exact bt.size, fun k hk hn => ?_⟩, hv.on (by omega) (fun g hg => bE g (by omega))⟩
    · have e : (hdL a ga gc b1 b2 b3).toArray.size = 25 := by rw [List.size_toArray, hdL_len]
      show World.there _ _ _ _
      rw [e]
      exact row_there rr
    · rw [bE k (by omega)]
      exact bt.block k hk hn
  have HLK : Hid (∀ W : World, W.ownsMap Try.prog 3 Rd W2.heap.size 3 dD → (Instr.lookup 65 (.map (some W2.heap.size)) (.int .i64 (6 : Int)) true).run Try.prog W = .ok (.tuple #[.func (.func 24) #[] #[], .bool true]) W) := fun W hW => by
    obtain ⟨v, ps, hrun, hR⟩ := hW.look_ok intK Try.underlying65 (z := .nilFunc) (Try.zeroValue63 W) (zd := .nil) (zp := []) rfl (key := .int .i64 (6 : Int)) (kl := .int .i64 (6 : Int)) (keyOf_int_mk Try.underlying3 (by decide))
    rw [dD_6.1] at hrun
    rw [dD_6.2] at hR
    rw [← Rd_inv hR]
    exact hrun
  have HSD : Hid (W2.Since W2.heap.size W2.drew) := (World.Since.refl _ _).drew
  unfold hdZ at HW2
  clear s1 r1 s2 r2 rm2 sw2 z2 hrp hR2 h hk HC c0
  unfold mgV
  rw [HMM.out]
  clear HMM
  go_enter Try.func8, Try.ntmps8
  go_upto_region 1 with fail
  rw [HW1.out]
  try rw [z1]
  rw [HW2.out]
  try rw [z1]
  clear HW1 HW2 z1
  refine wp_region_held_drew (S := fun W => W2.Since W2.heap.size W) (by kernel_rfl) HSD.out fun _ => ?_
  refine wpAnyH_take (i := 1) (v := .pointer (some ⟨w.heap.size, 0, none⟩)) rfl (by kernel_rfl) (by kernel_rfl) (by kernel_rfl) (fun _ _ _ h => h) (.inl ⟨rfl, fun W hW => by kernel_rfl⟩) HSD.out ?_
  simp only [List.getElem_toArray, List.getElem_cons_zero, List.getElem_cons_succ, Act.put, List.setIfInBounds_toArray, List.set_cons_zero, List.set_cons_succ]
  refine wpAnyH_take (i := 2) (v := .pointer (some ⟨w.heap.size, 0, none⟩)) rfl (by kernel_rfl) (by kernel_rfl) (by kernel_rfl) (fun _ _ _ h => h) (.inl ⟨rfl, fun W hW => by kernel_rfl⟩) HSD.out ?_
  simp only [List.getElem_toArray, List.getElem_cons_zero, List.getElem_cons_succ, Act.put, List.setIfInBounds_toArray, List.set_cons_zero, List.set_cons_succ]
  refine wpAnyH_take (i := 3) (v := .int .i64 (6 : Int)) rfl (by kernel_rfl) (by kernel_rfl) (by kernel_rfl) (fun _ _ _ h => h) (.inl ⟨rfl, fun W hW => by have c := HC0.out W hW; go_simp⟩) HSD.out ?_
  simp only [List.getElem_toArray, List.getElem_cons_zero, List.getElem_cons_succ, Act.put, List.setIfInBounds_toArray, List.set_cons_zero, List.set_cons_succ]
  refine wpAnyH_ready (rs := [0]) (by kernel_rfl) (by simp) ?_
  refine AllReadyH.cons rfl (fun K hK => ?_) AllReadyH.nil
  refine step_callW rfl 16 #[] (by kernel_rfl) HD0.out ?_
  rintro e w3 ⟨rfl, HM3, HS3⟩
  refine ⟨_, rfl, hK.out _ _ HS3.out fun _ => ?_⟩
  clear hK
  simp only [List.getElem_toArray, List.getElem_cons_zero, Act.put, List.setIfInBounds_toArray, List.set_cons_zero, List.set_cons_succ]
  refine wpAnyH_ready (rs := [4]) (by kernel_rfl) (by simp) ?_
  refine AllReadyH.cons rfl (fun K hK => ?_) AllReadyH.nil
  refine step_storeM rfl (op_run (.tuple #[.func (.func 24) #[] #[], .bool true]) ?_ ?_)
  · have r := HLK.out w3 HM3.out
    go_simp
  refine hK.out _ _ HS3.out fun _ => ?_
  clear hK
  simp only [List.getElem_toArray, List.getElem_cons_zero, List.getElem_cons_succ, Act.put, List.setIfInBounds_toArray, List.set_cons_zero, List.set_cons_succ]
  refine wpAnyH_take (i := 5) (v := .tuple #[.func (.func 24) #[] #[], .bool true]) rfl (by kernel_rfl) (by kernel_rfl) (by kernel_rfl) (fun _ _ _ h => h) (.inl ⟨rfl, fun W hW => by kernel_rfl⟩) HS3.out ?_
  simp only [List.getElem_toArray, List.getElem_cons_zero, List.getElem_cons_succ, Act.put, List.setIfInBounds_toArray, List.set_cons_zero, List.set_cons_succ]
  refine wpAnyH_take (i := 6) (v := .func (.func 24) #[] #[]) rfl (by kernel_rfl) (by kernel_rfl) (by kernel_rfl) (fun _ _ _ h => h) (.inl ⟨rfl, fun W hW => by kernel_rfl⟩) HS3.out ?_
  simp only [List.getElem_toArray, List.getElem_cons_zero, List.getElem_cons_succ, Act.put, List.setIfInBounds_toArray, List.set_cons_zero, List.set_cons_succ]
  refine wpAnyH_take (i := 7) (v := .bool true) rfl (by kernel_rfl) (by kernel_rfl) (by kernel_rfl) (fun _ _ _ h => h) (.inl ⟨rfl, fun W hW => by kernel_rfl⟩) HS3.out ?_
  simp only [List.getElem_toArray, List.getElem_cons_zero, List.getElem_cons_succ, Act.put, List.setIfInBounds_toArray, List.set_cons_zero, List.set_cons_succ]
  refine wpAnyH_take (i := 8) (v := .func (.func 24) #[] #[]) rfl (by kernel_rfl) (by kernel_rfl) (by kernel_rfl) (fun _ _ _ h => h) (.inl ⟨rfl, fun W hW => by kernel_rfl⟩) HS3.out ?_
  simp only [List.getElem_toArray, List.getElem_cons_zero, List.getElem_cons_succ, Act.put, List.setIfInBounds_toArray, List.set_cons_zero, List.set_cons_succ]
  refine wpAnyH_take (i := 9) (v := .bool true) rfl (by kernel_rfl) (by kernel_rfl) (by kernel_rfl) (fun _ _ _ h => h) (.inl ⟨rfl, fun W hW => by kernel_rfl⟩) HS3.out ?_
  simp only [List.getElem_toArray, List.getElem_cons_zero, List.getElem_cons_succ, Act.put, List.setIfInBounds_toArray, List.set_cons_zero, List.set_cons_succ]
  refine wpAnyH_done (by kernel_rfl) ?_ _
  have HM4 := hide (HHM.out w3 HS3.out)
  have HC4 := hide (HCC.out w3 HS3.out)
  clear HHM HCC HC0 HD0 HLK HSD HM3 HS3
  go_upto_region 4 with fail
  refine wp_region_lit ?_
  refine wpList_plain rfl fun _ hK => op_run (.func (.func 24) #[] #[]) (by kernel_rfl) (hK _ _ ?_)
  simp only [Act.put, List.setIfInBounds_toArray, List.set_cons_zero, List.set_cons_succ]
  refine wpList_plain rfl fun _ hK => op_run (.pointer (some ⟨rb, 0, none⟩)) (by kernel_rfl) (hK _ _ ?_)
  simp only [Act.put, List.setIfInBounds_toArray, List.set_cons_zero, List.set_cons_succ]
  refine wpList_load_row rfl 42 (.tmp 3) rfl w.heap.size rfl _ MM (0, 0) _ HM4.out Try.underlying42 rfl HINM.out ?_
  simp only [Act.put, List.setIfInBounds_toArray, List.set_cons_zero, List.set_cons_succ]
  refine wpList_plain rfl fun _ hK => op_call 24 #[.pointer (some ⟨rb, 0, none⟩), .agg MM] (by kernel_rfl) HC4.out ?_
  rintro e w5 ⟨HL, WE, ga, gc, rfl, HHL, HTE, HIR, HAL, HWE, HHE, HE⟩
  refine ⟨_, rfl, hK _ _ ?_⟩
  simp only [Act.put, List.setIfInBounds_toArray, List.set_cons_zero, List.set_cons_succ]
  refine wpList_store_mid rfl 49 (.tmp 4) (.tmp 21) rfl (w.heap.size + 1) 0 HL rfl rfl HTE.out HIR.out HAL.out ?_
  rw [HWE.out]
  clear hK HC4 HM4
  go_wp2_with fail
  exact bodyPost_ret_by (results_cell_row rfl _ _ (w.heap.size + 1) 49 _ (0, 0) _ rfl HHE.out Try.underlying49 rfl HIR.out) rfl ⟨ga, gc, congrArg Ending.returned HHL.out.symm, HE.out⟩
set_option maxHeartbeats 8000000 in
theorem hear_none {rb : Nat} {r : Rp} {w : World} (h : RpIs w rb r) (m : Mg) (va : Option Addr) (vc : Nat) (K : Int) (hk : m.n 0 = K) (h1 : K ≠ 1) (h4 : K ≠ 4) (h6 : K ≠ 6) (hr1 : -9223372036854775808 ≤ K) (hr2 : K ≤ 9223372036854775807) :
    Calls Try.prog 8 #[.pointer (some ⟨rb, 0, none⟩), mgV m va vc] w fun e w' => e = .returned (hdV mg0 none 0 false false false) ∧ RpIs w' rb r ∧ But rb w w' := by
  obtain ⟨MM, HMM⟩ : ∃ x, Hid ((mgL m va vc).toArray = x) := ⟨_, rfl⟩
  have HINM : Hid ((Try.prog.info? 42).map (·.size) = some MM.size) := by rw [← HMM.out]; exact infoMgA _ _ _
  obtain ⟨W1, HW1⟩ : ∃ W, Hid (w.alloc (.cells MM 42) = W) := ⟨_, rfl⟩
  have s1 : w.Since w.heap.size W1 := by rw [← HW1.out]; exact (World.Since.refl _ _).alloc (Nat.le_refl _) _
  have z1 : W1.heap.size = w.heap.size + 1 := by rw [← HW1.out]; simp
  have r1 : W1.rowIs w.heap.size 42 22 (mgCell m va vc) := by rw [← HW1.out, ← HMM.out]; exact mg_row w m va vc
  obtain ⟨W2, HW2⟩ : ∃ W, Hid (W1.alloc hdZ = W) := ⟨_, rfl⟩
  have s2 : W1.Since W1.heap.size W2 := by rw [← HW2.out]; exact (World.Since.refl _ _).alloc (Nat.le_refl _) _
  have r2 : W2.rowIs (w.heap.size + 1) 49 25 (hdCell mg0 none 0 false false false) := by rw [← z1, ← HW2.out]; exact hdZ_row W1
  have rm2 := row_since r1 s2
  have sw2 : w.Since w.heap.size W2 := s1.trans (since_mono s2 s1.size)
  have z2 : W2.heap.size = w.heap.size + 1 + 1 := by rw [← HW2.out, ← z1]; simp
  have hR2 := h.since sw2
  have hrp := h.lt
  have c0 : W2.cell? ⟨w.heap.size, 0, none⟩ = some (.int .i64 K) := by
    have : W2.cell? ⟨w.heap.size, 0, none⟩ = some (.int .i64 (m.n 0)) := rm2.cell (i := 0) (by decide)
    rw [this, hk]
  have HD0 : Hid (Calls Try.prog 16 #[] W2.drew fun e w' => e = .returned (.map (some W2.heap.size)) ∧ Hid (w'.ownsMap Try.prog 3 Rd W2.heap.size 3 dD) ∧ Hid (W2.Since W2.heap.size w')) := (deeds_any W2.drew).mono fun e w' ⟨he, h1, h2⟩ => ⟨he, h1, ((World.Since.refl _ _).drew).trans h2⟩
  have HC0 : Hid (∀ W : World, W2.Since W2.heap.size W → W.cell? ⟨w.heap.size, 0, none⟩ = some (.int .i64 K)) := fun W hW => cell_later hW c0
  have HHM : Hid (∀ W : World, W2.Since W2.heap.size W → W.heap[w.heap.size]? = some (.cells MM 42 (0, 0))) := fun W hW => by
    rw [← HMM.out]
    exact row_heap (row_since rm2 hW)
  have HEND : Hid (∀ W : World, W2.Since W2.heap.size W → ∃ WE, Hid (W.setCells (w.heap.size + 1) 0 (hdL mg0 none 0 false false false).toArray.toList = WE) ∧ Hid (W.there (w.heap.size + 1) 0 (hdL mg0 none 0 false false false).toArray.size) ∧ Hid (WE.heap[w.heap.size + 1]? = some (.cells (hdL mg0 none 0 false false false).toArray 49 (0, 0))) ∧ Hid (RpIs WE rb r ∧ But rb w WE)) := fun W hW => by
    have rr := row_since r2 hW
    obtain ⟨WE, HWE, hhE, zE, bE, oE, tE, pE⟩ := cells_stored rr (hdL mg0 none 0 false false false) (hdL_len _ _ _ _ _ _)
    have sW : w.Since w.heap.size W := sw2.trans (since_mono hW sw2.size)
    refine ⟨WE, HWE, ?_, hhE, (hR2.since hW).on (bE _ (by omega)), oE.trans sW.os, tE.trans sW.tape, pE.trans sW.output, by rw [zE]; exact sW.size, fun k hk hn => ?_⟩
    · have e : (hdL mg0 none 0 false false false).toArray.size = 25 := by rw [List.size_toArray, hdL_len]
      show World.there _ _ _ _
      rw [e]
      exact row_there rr
    · rw [bE k (by omega)]
      exact sW.block k hk
  have HLK : Hid (∀ W : World, W.ownsMap Try.prog 3 Rd W2.heap.size 3 dD → (Instr.lookup 65 (.map (some W2.heap.size)) (.int .i64 K) true).run Try.prog W = .ok (.tuple #[.nilFunc, .bool false]) W) := fun W hW => by
    obtain ⟨v, ps, hrun, hR⟩ := hW.look_ok intK Try.underlying65 (z := .nilFunc) (Try.zeroValue63 W) (zd := .nil) (zp := []) rfl (key := .int .i64 K) (kl := .int .i64 K) (keyOf_int_mk Try.underlying3 (WalkArith.wf_i64 (by omega)))
    rw [(dD_no K h1 h4 h6).1] at hrun
    rw [(dD_no K h1 h4 h6).2] at hR
    rw [← Rd_nil hR]
    exact hrun
  have HSD : Hid (W2.Since W2.heap.size W2.drew) := (World.Since.refl _ _).drew
  unfold hdZ at HW2
  clear s1 r1 s2 r2 rm2 sw2 z2 hrp hR2 h hk h1 h4 h6 hr1 hr2 c0
  unfold mgV
  rw [HMM.out]
  clear HMM
  go_enter Try.func8, Try.ntmps8
  go_upto_region 1 with fail
  rw [HW1.out]
  try rw [z1]
  rw [HW2.out]
  try rw [z1]
  clear HW1 HW2 z1
  refine wp_region_held_drew (S := fun W => W2.Since W2.heap.size W) (by kernel_rfl) HSD.out fun _ => ?_
  refine wpAnyH_take (i := 1) (v := .pointer (some ⟨w.heap.size, 0, none⟩)) rfl (by kernel_rfl) (by kernel_rfl) (by kernel_rfl) (fun _ _ _ h => h) (.inl ⟨rfl, fun W hW => by kernel_rfl⟩) HSD.out ?_
  simp only [List.getElem_toArray, List.getElem_cons_zero, List.getElem_cons_succ, Act.put, List.setIfInBounds_toArray, List.set_cons_zero, List.set_cons_succ]
  refine wpAnyH_take (i := 2) (v := .pointer (some ⟨w.heap.size, 0, none⟩)) rfl (by kernel_rfl) (by kernel_rfl) (by kernel_rfl) (fun _ _ _ h => h) (.inl ⟨rfl, fun W hW => by kernel_rfl⟩) HSD.out ?_
  simp only [List.getElem_toArray, List.getElem_cons_zero, List.getElem_cons_succ, Act.put, List.setIfInBounds_toArray, List.set_cons_zero, List.set_cons_succ]
  refine wpAnyH_take (i := 3) (v := .int .i64 K) rfl (by kernel_rfl) (by kernel_rfl) (by kernel_rfl) (fun _ _ _ h => h) (.inl ⟨rfl, fun W hW => by have c := HC0.out W hW; go_simp⟩) HSD.out ?_
  simp only [List.getElem_toArray, List.getElem_cons_zero, List.getElem_cons_succ, Act.put, List.setIfInBounds_toArray, List.set_cons_zero, List.set_cons_succ]
  refine wpAnyH_ready (rs := [0]) (by kernel_rfl) (by simp) ?_
  refine AllReadyH.cons rfl (fun K hK => ?_) AllReadyH.nil
  refine step_callW rfl 16 #[] (by kernel_rfl) HD0.out ?_
  rintro e w3 ⟨rfl, HM3, HS3⟩
  refine ⟨_, rfl, hK.out _ _ HS3.out fun _ => ?_⟩
  clear hK
  simp only [List.getElem_toArray, List.getElem_cons_zero, Act.put, List.setIfInBounds_toArray, List.set_cons_zero, List.set_cons_succ]
  refine wpAnyH_ready (rs := [4]) (by kernel_rfl) (by simp) ?_
  refine AllReadyH.cons rfl (fun K hK => ?_) AllReadyH.nil
  refine step_storeM rfl (op_run (.tuple #[.nilFunc, .bool false]) ?_ ?_)
  · have r := HLK.out w3 HM3.out
    go_simp
  refine hK.out _ _ HS3.out fun _ => ?_
  clear hK
  simp only [List.getElem_toArray, List.getElem_cons_zero, List.getElem_cons_succ, Act.put, List.setIfInBounds_toArray, List.set_cons_zero, List.set_cons_succ]
  refine wpAnyH_take (i := 5) (v := .tuple #[.nilFunc, .bool false]) rfl (by kernel_rfl) (by kernel_rfl) (by kernel_rfl) (fun _ _ _ h => h) (.inl ⟨rfl, fun W hW => by kernel_rfl⟩) HS3.out ?_
  simp only [List.getElem_toArray, List.getElem_cons_zero, List.getElem_cons_succ, Act.put, List.setIfInBounds_toArray, List.set_cons_zero, List.set_cons_succ]
  refine wpAnyH_take (i := 6) (v := .nilFunc) rfl (by kernel_rfl) (by kernel_rfl) (by kernel_rfl) (fun _ _ _ h => h) (.inl ⟨rfl, fun W hW => by kernel_rfl⟩) HS3.out ?_
  simp only [List.getElem_toArray, List.getElem_cons_zero, List.getElem_cons_succ, Act.put, List.setIfInBounds_toArray, List.set_cons_zero, List.set_cons_succ]
  refine wpAnyH_take (i := 7) (v := .bool false) rfl (by kernel_rfl) (by kernel_rfl) (by kernel_rfl) (fun _ _ _ h => h) (.inl ⟨rfl, fun W hW => by kernel_rfl⟩) HS3.out ?_
  simp only [List.getElem_toArray, List.getElem_cons_zero, List.getElem_cons_succ, Act.put, List.setIfInBounds_toArray, List.set_cons_zero, List.set_cons_succ]
  refine wpAnyH_take (i := 8) (v := .nilFunc) rfl (by kernel_rfl) (by kernel_rfl) (by kernel_rfl) (fun _ _ _ h => h) (.inl ⟨rfl, fun W hW => by kernel_rfl⟩) HS3.out ?_
  simp only [List.getElem_toArray, List.getElem_cons_zero, List.getElem_cons_succ, Act.put, List.setIfInBounds_toArray, List.set_cons_zero, List.set_cons_succ]
  refine wpAnyH_take (i := 9) (v := .bool false) rfl (by kernel_rfl) (by kernel_rfl) (by kernel_rfl) (fun _ _ _ h => h) (.inl ⟨rfl, fun W hW => by kernel_rfl⟩) HS3.out ?_
  simp only [List.getElem_toArray, List.getElem_cons_zero, List.getElem_cons_succ, Act.put, List.setIfInBounds_toArray, List.set_cons_zero, List.set_cons_succ]
  refine wpAnyH_done (by kernel_rfl) ?_ _
  obtain ⟨WE, HWE, HTE, HHE, HE⟩ := HEND.out w3 HS3.out
  clear HHM HEND HC0 HD0 HLK HSD HM3 HS3
  go_upto_region 3 with fail
  refine wp_region_lit ?_
  refine wpList_plain rfl fun _ hK => op_run (hdV mg0 none 0 false false false) (by kernel_rfl) (hK _ _ ?_)
  refine wpList_store_mid rfl 49 (.tmp 4) (.tmp 17) rfl (w.heap.size + 1) 0 (hdL mg0 none 0 false false false).toArray rfl rfl HTE.out (infoHrA _ _ _ _ _ _) (hd_all _ _ _ _ _ _) ?_
  rw [HWE.out]
  go_wp2_with fail
  exact bodyPost_ret_by (results_cell_row rfl _ _ (w.heap.size + 1) 49 _ (0, 0) _ rfl HHE.out Try.underlying49 rfl (infoHrA _ _ _ _ _ _)) rfl ⟨rfl, HE.out⟩
end Go.Proofs.Ytfmndfgdchhaeaa

/- Package replica: Hear as a plain function; New. -/
namespace Go.Proofs.Ytfmndfgdchhaeaa
open Go.RowKit Go.Maps
set_option maxRecDepth 100000
set_option maxRecDepth 100000

/-- What is heard: the answer, the three flags, the copy behind it. -/
structure Hd where
  a : Mg
  b1 : Bool
  b2 : Bool
  b3 : Bool
  r : Rp
def hearP (r : Rp) (m : Mg) (E : Nat) : Hd := if E < r.p ∨ (r.p < E ∧ 0 < r.wt) then ⟨refG m E r.p, true, false, false, r⟩ else ⟨prG m E r, true, false, decide (r.p ≠ E), { r with p := E }⟩
def hearW (r : Rp) (m : Mg) (E Q : Nat) (S : Int) : Hd := if E < r.p then ⟨refG m E r.p, true, false, false, r⟩ else if 0 < cmT E Q r.te r.ts then ⟨wrG m E Q, true, true, true, ⟨E, E, Q, m.s 10, wtM S⟩⟩ else if cmT E Q r.te r.ts = 0 then ⟨wrG m E Q, true, true, decide (r.p ≠ E), { r with p := E, wt := wtM S }⟩ else ⟨mg0, false, true, decide (r.p ≠ E), { r with p := E, wt := wtM S }⟩
def hearB (r : Rp) (m : Mg) (E R : Nat) (S : Int) : Hd := if E < r.p then ⟨refG m E r.p, true, false, false, r⟩ else ⟨btG m E R, true, true, decide (r.p ≠ E), { r with p := E, wt := wtM S }⟩
def hearM (r : Rp) (m : Mg) : Hd := if m.n 0 = 1 then hearP r m (m.n 4).toNat else if m.n 0 = 4 then hearW r m (m.n 5).toNat (m.n 6).toNat (m.n 8) else if m.n 0 = 6 then hearB r m (m.n 4).toNat (m.n 7).toNat (m.n 8) else ⟨mg0, false, false, false, r⟩
/-- The numbers of a message are what their types hold. -/
structure MgN (m : Mg) : Prop where
  u : ∀ c, isU c = true → 0 ≤ m.n c ∧ m.n c < 18446744073709551616
  i : ∀ c, isU c = false → -9223372036854775808 ≤ m.n c ∧ m.n c ≤ 9223372036854775807
theorem MgN.nat {m : Mg} (h : MgN m) (c : Nat) (hc : isU c = true) : m.n c = ((m.n c).toNat : Nat) ∧ (m.n c).toNat < 18446744073709551616 := by
  have := h.u c hc
  omega
theorem refG_s (m : Mg) (E P : Nat) : (refG m E P).s 10 = [] := rfl
theorem AnV.nil (lo : Nat) (w : World) {a : Mg} (h : a.s 10 = []) : AnV lo w a none 0 := .inl ⟨rfl, rfl, h⟩
set_option maxHeartbeats 1000000 in
/-- Hear. -/
theorem hear_any {rb : Nat} {r : Rp} {w : World} (h : RpIs w rb r) (m : Mg) (va : Option Addr) (vc : Nat) (hA : MgA w m va vc) (hN : MgN m) :
    Calls Try.prog 8 #[.pointer (some ⟨rb, 0, none⟩), mgV m va vc] w fun e w' => ∃ ga gc, e = .returned (hdV (hearM r m).a ga gc (hearM r m).b1 (hearM r m).b2 (hearM r m).b3) ∧ RpIs w' rb (hearM r m).r ∧ But rb w w' ∧ AnV w.heap.size w' (hearM r m).a ga gc := by
  have h4 := hN.nat 4 rfl
  have h5 := hN.nat 5 rfl
  have h6 := hN.nat 6 rfl
  have h7 := hN.nat 7 rfl
  have h8 := (hN.i 8 rfl).2
  unfold hearM
  by_cases k1 : m.n 0 = 1
  · rw [if_pos k1]
    refine hear_prepare h m va vc k1 _ _ _ _ _ (fun W hW => ?_)
    unfold hearP
    by_cases q : (m.n 4).toNat < r.p ∨ (r.p < (m.n 4).toNat ∧ 0 < r.wt)
    · rw [if_pos q]
      exact (prepare_refused (h.since hW) m va vc _ h4.1 q).mono fun e w' ⟨he, h1, h2⟩ => ⟨_, _, he, h1, h2, AnV.nil _ _ rfl⟩
    · rw [if_neg q]
      have hw := h.ok.w0
      exact (prepare_taken (h.since hW) m va vc _ h4.1 h4.2 (by omega)).mono fun e w' ⟨g, c, he, h1, h2, h3, h4⟩ => ⟨_, _, he, h1, h2, .inr ⟨g, rfl, h3, h4⟩⟩
  · rw [if_neg k1]
    by_cases k4 : m.n 0 = 4
    · rw [if_pos k4]
      refine hear_write h m va vc k4 _ _ _ _ _ (fun W hW => ?_)
      unfold hearW
      by_cases q : (m.n 5).toNat < r.p
      · rw [if_pos q]
        exact (write_refused (h.since hW) m va vc _ h5.1 q).mono fun e w' ⟨he, h1, h2⟩ => ⟨_, _, he, h1, h2, AnV.nil _ _ rfl⟩
      · rw [if_neg q]
        by_cases q1 : 0 < cmT (m.n 5).toNat (m.n 6).toNat r.te r.ts
        · rw [if_pos q1]
          exact (write_greater (h.since hW) m va vc _ _ _ (hA.since hW) h5.1 h6.1 rfl h5.2 h6.2 h8 (by omega) q1).mono fun e w' ⟨he, h1, h2⟩ => ⟨_, _, he, h1, h2, AnV.nil _ _ rfl⟩
        · rw [if_neg q1]
          by_cases q2 : cmT (m.n 5).toNat (m.n 6).toNat r.te r.ts = 0
          · rw [if_pos q2]
            exact (write_equal (h.since hW) m va vc _ _ _ (hA.since hW) h5.1 h6.1 rfl h5.2 h6.2 h8 (by omega) q2).mono fun e w' ⟨he, h1, h2⟩ => ⟨_, _, he, h1, h2, AnV.nil _ _ rfl⟩
          · rw [if_neg q2]
            exact (write_less (h.since hW) m va vc _ _ _ (hA.since hW) h5.1 h6.1 rfl h5.2 h6.2 h8 (by omega) (by omega)).mono fun e w' ⟨he, h1, h2⟩ => ⟨_, _, he, h1, h2, AnV.nil _ _ rfl⟩
    · rw [if_neg k4]
      by_cases k6 : m.n 0 = 6
      · rw [if_pos k6]
        refine hear_beat h m va vc k6 _ _ _ _ _ (fun W hW => ?_)
        unfold hearB
        by_cases q : (m.n 4).toNat < r.p
        · rw [if_pos q]
          exact (beat_refused (h.since hW) m va vc _ h4.1 q).mono fun e w' ⟨he, h1, h2⟩ => ⟨_, _, he, h1, h2, AnV.nil _ _ rfl⟩
        · rw [if_neg q]
          exact (beat_taken (h.since hW) m va vc _ _ _ h4.1 h7.1 rfl h4.2 h8 (by omega)).mono fun e w' ⟨he, h1, h2⟩ => ⟨_, _, he, h1, h2, AnV.nil _ _ rfl⟩
      · rw [if_neg k6]
        have h0 := hN.i 0 rfl
        exact (hear_none h m va vc _ rfl k1 k4 k6 h0.1 h0.2).mono fun e w' ⟨he, h1, h2⟩ => ⟨_, _, he, h1, h2, AnV.nil _ _ rfl⟩
theorem new_any (va : Option Addr) (n c : Nat) (x : Nat → Nat) (w : World) (hb : Byt w va n x) (hx : ∀ j, x j < 256) (hnil : va = none → n = 0) (hn : n ≤ 140737488351232) :
    Calls Try.prog 5 #[.slice va n c] w fun e w' => ∃ rb, e = .returned (.pointer (some ⟨rb, 0, none⟩)) ∧ w.heap.size ≤ rb ∧ RpIs w' rb ⟨0, 0, 0, (List.range n).map x, 0⟩ ∧ w.Since w.heap.size w' := by
  have HL := hide (load_any 0 0 0 va n c x 0 w (by decide) (by decide) (by decide) hb hx hnil hn (by decide))
  clear hb hx hnil hn
  go_enter Try.func5, Try.ntmps5
  go_wp2_with fail
  refine HL.out.mono ?_
  rintro e w1 ⟨rb, rfl, h1, h2, h3⟩
  have HE : Hid (w.heap.size ≤ rb ∧ RpIs w1 rb ⟨0, 0, 0, (List.range n).map x, 0⟩ ∧ w.Since w.heap.size w1) := ⟨h1, h2, h3⟩
  clear h1 h2 h3 HL
  go_wp2_with fail
  go_ret
  exact ⟨_, rfl, HE.out⟩
end Go.Proofs.Ytfmndfgdchhaeaa

/- Cmp and Eq of any bytes. -/
namespace Go.Proofs.Ytfmndfgdchhaeaa
open Go.RowKit
set_option maxRecDepth 100000
set_option maxRecDepth 100000

set_option maxHeartbeats 800000 in
theorem cmp_same (a b : Option Addr) (n c d : Nat) (x : Nat → Nat) (w : World) (ha : Byt w a n x) (hb : Byt w b n x) (hmax : n ≤ 281474976710656) :
    Calls Try.prog 25 #[.slice a n c, .slice b n d] w fun e w' => e = .returned (.int .i64 0) ∧ ∃ m, w' = w.drewN m := by
  go_enter Try.func25, Try.ntmps25
  go_wp2_with fail
  go_loopg [5] n (fun q s5 wx => ∃ (i m : Nat), i ≤ n ∧ q = n - i ∧ s5 = .int .i64 i ∧ wx = w.drewN m)
  case atStart => exact ⟨0, 0, Nat.zero_le _, rfl, rfl, rfl⟩
  case round =>
    obtain ⟨i, m, hi, rfl, rfl, rfl⟩ := hrel
    by_cases hlt : i < n
    · obtain ⟨b1, o1, rfl, hc1⟩ := ha i hlt
      obtain ⟨b2, o2, rfl, hc2⟩ := hb i hlt
      have hc1' : (w.drewN m).cell? ⟨b1, o1 + i, none⟩ = some (.int .u8 (x i : Nat)) := hc1
      have hc2' : (w.drewN m).cell? ⟨b2, o2 + i, none⟩ = some (.int .u8 (x i : Nat)) := hc2
      have hz : (i : Int) < (n : Int) := by omega
      have HD : Hid (∀ n, (w.drewN m).drewN n = w.drewN (m + n)) := fun n => World.drewN_drewN _ _ _
      generalize w.drewN m = wd at *
      clear hc1 hc2 ha hb
      go_wp2_with fail
      go_quiet (fail)
      go_wp2_with fail
      go_quiet (fail)
      go_wp2_with fail
      go_roundg (n - (i + 1))
      case measure => go_light; omega
      case rel => go_light; exact ⟨i + 1, _, by omega, rfl, by simp, (unhide HD) _⟩
    · obtain rfl : i = n := by omega
      clear ha hb
      go_wp2_with fail
      go_ret
      exact ⟨rfl, m, rfl⟩
theorem eq_same (a b : Option Addr) (n c d : Nat) (x : Nat → Nat) (w : World) (ha : Byt w a n x) (hb : Byt w b n x) (hmax : n ≤ 281474976710656) :
    Calls Try.prog 19 #[.slice a n c, .slice b n d] w fun e w' => e = .returned (.bool true) ∧ ∃ m, w' = w.drewN m := by
  have hc := cmp_same a b n c d x w ha hb hmax
  go_enter Try.func19, Try.ntmps19
  go_wp2_with fail
  refine hc.mono ?_
  rintro e w1 ⟨rfl, m, rfl⟩
  go_wp2_with fail
  go_ret
  exact ⟨rfl, m, rfl⟩

set_option maxHeartbeats 800000 in
/-- Cmp of bytes that differ. -/
theorem cmp_diff (a b : Option Addr) (n m c d : Nat) (x y : Nat → Nat) (w : World) (ha : Byt w a n x) (hb : Byt w b m y) (hn : n ≤ 140737488355328) (_hm : m ≤ 140737488355328) (hne : ¬ (n = m ∧ ∀ j, j < n → x j = y j)) :
    Calls Try.prog 25 #[.slice a n c, .slice b m d] w fun e w' => (e = .returned (.int .i64 (-1)) ∨ e = .returned (.int .i64 1)) ∧ ∃ k, w' = w.drewN k := by
  go_enter Try.func25, Try.ntmps25
  go_wp2_with fail
  go_loopg [5] n (fun q s5 wx => ∃ i k : Nat, i ≤ n ∧ i ≤ m ∧ q = n - i ∧ s5 = .int .i64 i ∧ wx = w.drewN k ∧ ∀ j, j < i → x j = y j)
  case atStart => exact ⟨0, 0, Nat.zero_le _, Nat.zero_le _, rfl, rfl, rfl, fun j hj => absurd hj (Nat.not_lt_zero _)⟩
  case round =>
    obtain ⟨i, k, hi, him, rfl, rfl, rfl, hq⟩ := hrel
    by_cases hlt : i < n ∧ i < m
    · obtain ⟨b1, o1, rfl, hc1⟩ := ha i hlt.1
      obtain ⟨b2, o2, rfl, hc2⟩ := hb i hlt.2
      have hc1' : (w.drewN k).cell? ⟨b1, o1 + i, none⟩ = some (.int .u8 (x i : Nat)) := hc1
      have hc2' : (w.drewN k).cell? ⟨b2, o2 + i, none⟩ = some (.int .u8 (y i : Nat)) := hc2
      have hz : (i : Int) < (n : Int) := by omega
      have hz2 : (i : Int) < (m : Int) := by omega
      have HD : Hid (∀ n, (w.drewN k).drewN n = w.drewN (k + n)) := fun n => World.drewN_drewN _ _ _
      generalize w.drewN k = wd at *
      clear hc1 hc2 ha hb
      by_cases h1 : x i < y i
      · have h1' : (x i : Int) < (y i : Int) := by omega
        clear hne hq
        go_wp2_with fail
        go_quiet (fail)
        go_wp2_with fail
        go_ret
        exact ⟨Or.inl rfl, _, (unhide HD) _⟩
      · have h1' : ¬ ((x i : Int) < (y i : Int)) := by omega
        by_cases h2 : y i < x i
        · have h2' : (y i : Int) < (x i : Int) := by omega
          clear hne hq
          go_wp2_with fail
          go_quiet (fail)
          go_wp2_with fail
          go_quiet (fail)
          go_wp2_with fail
          go_ret
          exact ⟨Or.inr rfl, _, by rw [World.drewN_drewN]; exact (unhide HD) _⟩
        · have h2' : ¬ ((y i : Int) < (x i : Int)) := by omega
          have hxy : ∀ j, j < i + 1 → x j = y j := fun j hj => by
            rcases Nat.lt_or_ge j i with h | h
            · exact hq j h
            · obtain rfl : j = i := by omega
              omega
          clear hne hq h1 h2
          have HX := hide hxy
          clear hxy
          go_wp2_with fail
          go_quiet (fail)
          go_wp2_with fail
          go_quiet (fail)
          go_wp2_with fail
          go_roundg (n - (i + 1))
          case measure => go_light; omega
          case rel => go_light; exact ⟨i + 1, _, by omega, by omega, rfl, by simp, by first | exact (unhide HD) _ | (rw [World.drewN_drewN]; exact (unhide HD) _), unhide HX⟩
    · clear ha hb
      have hnm : n ≠ m := fun e => hne ⟨e, fun j hj => hq j (by omega)⟩
      clear hq hne
      have hil : (i : Int) < (n : Int) → ¬ ((i : Int) < (m : Int)) := by omega
      by_cases hin : (i : Int) < (n : Int)
      · have := hil hin
        have h3 : ¬ ((n : Int) < (m : Int)) := by omega
        have h4 : (m : Int) < (n : Int) := by omega
        clear hil
        go_wp2_with fail
        go_ret
        exact ⟨Or.inr rfl, k, rfl⟩
      · have h4 : (n : Int) < (m : Int) := by omega
        clear hil
        go_wp2_with fail
        go_ret
        exact ⟨Or.inl rfl, k, rfl⟩
theorem eq_diff (a b : Option Addr) (n m c d : Nat) (x y : Nat → Nat) (w : World) (ha : Byt w a n x) (hb : Byt w b m y) (hn : n ≤ 140737488355328) (hm : m ≤ 140737488355328) (hne : ¬ (n = m ∧ ∀ j, j < n → x j = y j)) :
    Calls Try.prog 19 #[.slice a n c, .slice b m d] w fun e w' => e = .returned (.bool false) ∧ ∃ m, w' = w.drewN m := by
  have hc := cmp_diff a b n m c d x y w ha hb hn hm hne
  go_enter Try.func19, Try.ntmps19
  go_wp2_with fail
  refine hc.mono ?_
  rintro e w1 ⟨rfl | rfl, k, rfl⟩
  · go_wp2
    go_ret
    exact ⟨rfl, k, rfl⟩
  · go_wp2
    go_ret
    exact ⟨rfl, k, rfl⟩
theorem eq_any (a b : Option Addr) (n m c d : Nat) (x y : Nat → Nat) (w : World) (ha : Byt w a n x) (hb : Byt w b m y) (hn : n ≤ 140737488355328) (hm : m ≤ 140737488355328) :
    Calls Try.prog 19 #[.slice a n c, .slice b m d] w fun e w' => e = .returned (.bool (decide ((List.range n).map x = (List.range m).map y))) ∧ ∃ m, w' = w.drewN m := by
  by_cases h : n = m ∧ ∀ j, j < n → x j = y j
  · obtain ⟨rfl, hx⟩ := h
    have e : (List.range n).map x = (List.range n).map y := List.map_congr_left (fun j hj => hx j (List.mem_range.1 hj))
    rw [decide_eq_true e]
    exact eq_same a b n c d x w ha (fun j hj => by
      obtain ⟨p, q, e1, e2⟩ := hb j hj
      exact ⟨p, q, e1, by rw [hx j hj]; exact e2⟩) (by omega)
  · have e : (List.range n).map x ≠ (List.range m).map y := fun e => h (by
      have hl := congrArg List.length e
      simp only [List.length_map, List.length_range] at hl
      refine ⟨hl, fun j hj => ?_⟩
      have := congrArg (fun l => l[j]?) e
      simpa [hj, hl ▸ hj] using this)
    rw [decide_eq_false e]
    exact eq_diff a b n m c d x y w ha hb hn hm h
/-- Cmp of any bytes: zero just where they are the same. -/
theorem cmpB_any (a b : Option Addr) (n m c d : Nat) (x y : Nat → Nat) (w : World) (ha : Byt w a n x) (hb : Byt w b m y) (hn : n ≤ 140737488355328) (hm : m ≤ 140737488355328) :
    Calls Try.prog 25 #[.slice a n c, .slice b m d] w fun e w' => ∃ k : Int, e = .returned (.int .i64 k) ∧ (k == 0) = decide ((List.range n).map x = (List.range m).map y) ∧ ∃ m, w' = w.drewN m := by
  by_cases h : n = m ∧ ∀ j, j < n → x j = y j
  · obtain ⟨rfl, hx⟩ := h
    have e : (List.range n).map x = (List.range n).map y := List.map_congr_left (fun j hj => hx j (List.mem_range.1 hj))
    rw [decide_eq_true e]
    exact (cmp_same a b n c d x w ha (fun j hj => by
      obtain ⟨p, q, e1, e2⟩ := hb j hj
      exact ⟨p, q, e1, by rw [hx j hj]; exact e2⟩) (by omega)).mono fun e w' ⟨h1, h2⟩ => ⟨0, h1, rfl, h2⟩
  · have e : (List.range n).map x ≠ (List.range m).map y := fun e => h (by
      have hl := congrArg List.length e
      simp only [List.length_map, List.length_range] at hl
      refine ⟨hl, fun j hj => ?_⟩
      have := congrArg (fun l => l[j]?) e
      simpa [hj, hl ▸ hj] using this)
    rw [decide_eq_false e]
    refine (cmp_diff a b n m c d x y w ha hb hn hm h).mono fun e w' ⟨h1, h2⟩ => ?_
    rcases h1 with h1 | h1
    · exact ⟨-1, h1, rfl, h2⟩
    · exact ⟨1, h1, rfl, h2⟩
end Go.Proofs.Ytfmndfgdchhaeaa

/- The document's help: CopyMsg, CmpTag; less, epoch. -/
namespace Go.Proofs.Ytfmndfgdchhaeaa
open Go.RowKit Go.Maps
set_option maxRecDepth 100000
set_option maxRecDepth 100000

set_option maxHeartbeats 4000000 in
theorem copyMsg_any (m : Mg) (va : Option Addr) (vc : Nat) (w : World) (hA : MgA w m va vc) :
    Calls Try.prog 7 #[mgV m va vc] w fun e w' => ∃ g, e = .returned (mgV m (some ⟨g, 0, none⟩) (m.s 10).length) ∧ MgA w' m (some ⟨g, 0, none⟩) (m.s 10).length ∧ w.Since w.heap.size w' ∧ w.heap.size ≤ g := by
  obtain ⟨MM, HMM⟩ : ∃ x, Hid ((mgL m va vc).toArray = x) := ⟨_, rfl⟩
  obtain ⟨W1, HW1⟩ : ∃ W, Hid (w.alloc (.cells MM 42) = W) := ⟨_, rfl⟩
  have s1 : w.Since w.heap.size W1 := by rw [← HW1.out]; exact (World.Since.refl _ _).alloc (Nat.le_refl _) _
  have z1 : W1.heap.size = w.heap.size + 1 := by rw [← HW1.out]; simp
  have r1 : W1.rowIs w.heap.size 42 22 (mgCell m va vc) := by rw [← HW1.out, ← HMM.out]; exact mg_row w m va vc
  obtain ⟨W2, HW2⟩ : ∃ W, Hid (W1.alloc mgZ = W) := ⟨_, rfl⟩
  have s2 : W1.Since W1.heap.size W2 := by rw [← HW2.out]; exact (World.Since.refl _ _).alloc (Nat.le_refl _) _
  have r2 : W2.rowIs (w.heap.size + 1) 42 22 (mgCell mg0 none 0) := by rw [← z1, ← HW2.out]; exact mgZ_row W1
  have rm2 := row_since r1 s2
  have sw2 : w.Since w.heap.size W2 := s1.trans (since_mono s2 s1.size)
  have z2 : W2.heap.size = w.heap.size + 1 + 1 := by rw [← HW2.out, ← z1]; simp
  have hA2 := hA.since sw2
  have c10 : W2.cell? ⟨w.heap.size, 10, none⟩ = some (.slice va (m.s 10).length vc) := rm2.cell (i := 10) (by decide)
  have HCP := hide (copy_any va (m.s 10).length vc _ W2 (by have := hA.len 10; omega) hA2.val)
  have HS2 := hide sw2
  have HR2 := hide r2
  have HRM := hide rm2
  have Hz2 := hide z2
  have HA := hide hA
  unfold mgZ at HW2
  clear s1 r1 s2 r2 rm2 sw2 z2 hA hA2
  unfold mgV
  rw [HMM.out]
  clear HMM
  go_enter Try.func7, Try.ntmps7
  go_upto_region 1 with fail
  rw [HW1.out]
  try rw [z1]
  rw [HW2.out]
  try rw [z1]
  clear HW1 HW2 z1
  refine wp_region_lit ?_
  refine wpList_plain rfl fun _ hK => op_run (.pointer (some ⟨w.heap.size, 10, none⟩)) (by kernel_rfl) (hK _ _ ?_)
  simp only [Act.put, List.setIfInBounds_toArray, List.set_cons_zero, List.set_cons_succ]
  refine wpList_plain rfl fun _ hK => op_run (.slice va (m.s 10).length vc) (by go_simp) (hK _ _ ?_)
  simp only [Act.put, List.setIfInBounds_toArray, List.set_cons_zero, List.set_cons_succ]
  refine wpList_plain rfl fun _ hK => op_call 15 #[.slice va (m.s 10).length vc] (by kernel_rfl) HCP.out ?_
  rintro e w3 ⟨rfl, hs3, hz3, hr3⟩
  refine ⟨_, rfl, hK _ _ ?_⟩
  clear hK
  simp only [Act.put, List.setIfInBounds_toArray, List.set_cons_zero, List.set_cons_succ]
  refine wpList_plain rfl fun _ hK => op_run (.pointer (some ⟨w.heap.size, 10, none⟩)) (by kernel_rfl) (hK _ _ ?_)
  simp only [Act.put, List.setIfInBounds_toArray, List.set_cons_zero, List.set_cons_succ]
  have r3 := row_since HRM.out hs3
  refine wpList_plain rfl fun _ hK => wp_store_cell 29 (.tmp 6) (.tmp 5) rfl w.heap.size 10 (.slice (some ⟨W2.heap.size, 0, none⟩) (m.s 10).length (m.s 10).length) _ rfl rfl (r3.cell (i := 10) (by decide)) (r3.frozen 10) (by kernel_rfl) rfl (hK _ _ ?_)
  simp only [Act.put]
  have hz2 := Hz2.out
  have r4 : (w3.setCell ⟨w.heap.size, 10, none⟩ (.slice (some ⟨W2.heap.size, 0, none⟩) (m.s 10).length (m.s 10).length)).rowIs w.heap.size 42 22 (mgCell m (some ⟨W2.heap.size, 0, none⟩) (m.s 10).length) := (row_setV r3 (m.s 10) (some ⟨W2.heap.size, 0, none⟩) (m.s 10).length).congr (fun i hi => by
    have e : m.setS 10 (m.s 10) = m := Mg.ext' (fun _ => rfl) (fun c => by
      show (if c = 10 then m.s 10 else m.s c) = m.s c
      by_cases e : c = 10
      · rw [if_pos e, e]
      · rw [if_neg e])
    rw [e])
  have b4 : But w.heap.size w3 (w3.setCell ⟨w.heap.size, 10, none⟩ (.slice (some ⟨W2.heap.size, 0, none⟩) (m.s 10).length (m.s 10).length)) := (But.of_since (World.Since.refl _ _)).setCell 10 _
  generalize w3.setCell ⟨w.heap.size, 10, none⟩ (.slice (some ⟨W2.heap.size, 0, none⟩) (m.s 10).length (m.s 10).length) = w4 at *
  have sw3 : w.Since w.heap.size w3 := HS2.out.trans (since_mono hs3 HS2.out.size)
  have sw4 : w.Since w.heap.size w4 := b4.since sw3 (Nat.le_refl _) sw3.size
  have ro4 := b4.row (row_since HR2.out hs3) (by omega)
  obtain ⟨WE, HWE, rE, hhE, zE, bE, oE, tE, pE⟩ := mg_stored ro4 m (some ⟨W2.heap.size, 0, none⟩) (m.s 10).length
  have hg3 : w3.rowIs W2.heap.size 5 (m.s 10).length (fun j => .int .u8 ((m.s 10).getD j 0 : Nat)) := hr3
  have hgE : WE.rowIs W2.heap.size 5 (m.s 10).length (fun j => .int .u8 ((m.s 10).getD j 0 : Nat)) := (b4.row hg3 (by omega)).of_block (bE _ (by omega))
  have HE : Hid (MgA WE m (some ⟨W2.heap.size, 0, none⟩) (m.s 10).length ∧ w.Since w.heap.size WE ∧ w.heap.size ≤ W2.heap.size) := by
    refine ⟨⟨fun j hj => ⟨_, _, rfl, by rw [Nat.zero_add]; exact hgE.cell hj⟩, (fun e => by cases e), fun q e _ => ?_, HA.out.len, HA.out.byte⟩, ⟨oE.trans sw4.os, tE.trans sw4.tape, pE.trans sw4.output, by rw [zE]; exact sw4.size, fun k hk => (bE k (by omega)).trans (sw4.block k hk)⟩, by omega⟩
    have := Option.some.inj e
    subst this
    exact hgE.lt
  obtain ⟨ML, HML⟩ : ∃ x, Hid ((mgL m (some ⟨W2.heap.size, 0, none⟩) (m.s 10).length).toArray = x) := ⟨_, rfl⟩
  have HIN : Hid ((Try.prog.info? 42).map (·.size) = some ML.size) := by rw [← HML.out]; exact infoMgA _ _ _
  have HAL : Hid (ML.all (·.oneCell') = true) := by rw [← HML.out]; exact mg_all _ _ _
  have HH4 : Hid (w4.heap[w.heap.size]? = some (.cells ML 42 (0, 0))) := by rw [← HML.out]; exact row_heap r4
  have HTE : Hid (w4.there (w.heap.size + 1) 0 ML.size) := by
    have e : ML.size = 22 := by rw [← HML.out, List.size_toArray, mgL_len]
    show World.there _ _ _ _
    rw [e]
    exact row_there ro4
  have HWE' : Hid (w4.setCells (w.heap.size + 1) 0 ML.toList = WE) := by
    rw [← HML.out]
    exact HWE
  have HHE : Hid (WE.heap[w.heap.size + 1]? = some (.cells ML 42 (0, 0))) := by rw [← HML.out]; exact hhE
  clear r3 r4 b4 sw3 sw4 ro4 rE hhE zE bE oE tE pE hg3 hgE hr3 hz3 hs3 c10 HCP hz2
  go_upto_region 2 with fail
  refine wp_region_lit ?_
  refine wpList_load_row rfl 42 (.tmp 1) rfl w.heap.size rfl _ ML (0, 0) _ HH4.out Try.underlying42 rfl HIN.out ?_
  simp only [Act.put, List.setIfInBounds_toArray, List.set_cons_zero, List.set_cons_succ]
  refine wpList_store_mid rfl 42 (.tmp 2) (.tmp 7) rfl (w.heap.size + 1) 0 ML rfl rfl HTE.out HIN.out HAL.out ?_
  rw [HWE'.out]
  go_wp2_with fail
  exact bodyPost_ret_by (results_cell_row rfl _ _ (w.heap.size + 1) 42 _ (0, 0) _ rfl HHE.out Try.underlying42 rfl HIN.out) rfl ⟨_, congrArg (fun x => Ending.returned (.agg x)) HML.out.symm, HE.out⟩
/-- How two tags stand, by the document. -/
def ctM (a b c d : Nat) : Int := if a < c ∨ (a = c ∧ b < d) then -1 else if a = c ∧ b = d then 0 else 1
set_option maxHeartbeats 4000000 in
theorem cmpTag_any (a b c d : Nat) (w : World) : Calls Try.prog 17 #[.agg #[.int .u64 (a : Nat), .int .u64 (b : Nat)], .agg #[.int .u64 (c : Nat), .int .u64 (d : Nat)]] w fun e w' => e = .returned (.int .i64 (ctM a b c d)) ∧ w.Since w.heap.size w' := by
  obtain ⟨W1, HW1⟩ : ∃ W, Hid (w.alloc (.cells #[.int .u64 (a : Nat), .int .u64 (b : Nat)] 37) = W) := ⟨_, rfl⟩
  have s1 : w.Since w.heap.size W1 := by rw [← HW1.out]; exact (World.Since.refl _ _).alloc (Nat.le_refl _) _
  have z1 : W1.heap.size = w.heap.size + 1 := by rw [← HW1.out]; simp
  have a0 : W1.cell? ⟨w.heap.size, 0, none⟩ = some (.int .u64 (a : Nat)) := by rw [← HW1.out]; simp
  have a1 : W1.cell? ⟨w.heap.size, 1, none⟩ = some (.int .u64 (b : Nat)) := by rw [← HW1.out]; simp
  obtain ⟨W2, HW2⟩ : ∃ W, Hid (W1.alloc (.cells #[.int .u64 (c : Nat), .int .u64 (d : Nat)] 37) = W) := ⟨_, rfl⟩
  have s2 : W1.Since W1.heap.size W2 := by rw [← HW2.out]; exact (World.Since.refl _ _).alloc (Nat.le_refl _) _
  have b0 : W2.cell? ⟨w.heap.size + 1, 0, none⟩ = some (.int .u64 (c : Nat)) := by rw [← z1, ← HW2.out]; simp
  have b1 : W2.cell? ⟨w.heap.size + 1, 1, none⟩ = some (.int .u64 (d : Nat)) := by rw [← z1, ← HW2.out]; simp
  replace a0 := cell_later s2 a0
  replace a1 := cell_later s2 a1
  have HS : Hid (w.Since w.heap.size W2) := s1.trans (since_mono s2 s1.size)
  clear s1 s2
  rcases (show a < c ∨ (a = c ∧ b < d) ∨ (a = c ∧ b = d) ∨ (a = c ∧ d < b) ∨ c < a by omega) with p | p | p | p | p
  · skip
    have HE : ctM a b c d = -1 := by unfold ctM; rw [if_pos (by omega)]
    rw [HE]
    have q1 : (a : Int) < (c : Int) := by omega
    have q2 : decide ((a : Int) < (c : Int)) = true := by simp; omega
    clear HE p
    go_enter Try.func17, Try.ntmps17
    go_upto_region 1 with fail
    rw [HW1.out]
    try rw [z1]
    rw [HW2.out]
    try rw [z1]
    clear HW1 HW2 z1
    go_wp2_with fail
    go_ret
    exact ⟨rfl, HS.out⟩
  · skip
    have HE : ctM a b c d = -1 := by unfold ctM; rw [if_pos (by omega)]
    rw [HE]
    have q1 : ¬ ((a : Int) < (c : Int)) := by omega
    have q2 : decide ((a : Int) < (c : Int)) = false := by simp; omega
    have q3 : ((a : Int) == (c : Int)) = true := by simp; omega
    have q4 : (b : Int) < (d : Int) := by omega
    have q5 : decide ((b : Int) < (d : Int)) = true := by simp; omega
    clear HE p
    go_enter Try.func17, Try.ntmps17
    go_upto_region 1 with fail
    rw [HW1.out]
    try rw [z1]
    rw [HW2.out]
    try rw [z1]
    clear HW1 HW2 z1
    go_wp2_with fail
    go_ret
    exact ⟨rfl, HS.out⟩
  · skip
    have HE : ctM a b c d = 0 := by unfold ctM; rw [if_neg (by omega), if_pos (by omega)]
    rw [HE]
    have q1 : ¬ ((a : Int) < (c : Int)) := by omega
    have q2 : decide ((a : Int) < (c : Int)) = false := by simp; omega
    have q3 : ((a : Int) == (c : Int)) = true := by simp; omega
    have q4 : ¬ ((b : Int) < (d : Int)) := by omega
    have q5 : decide ((b : Int) < (d : Int)) = false := by simp; omega
    have q6 : ((b : Int) == (d : Int)) = true := by simp; omega
    clear HE p
    go_enter Try.func17, Try.ntmps17
    go_upto_region 1 with fail
    rw [HW1.out]
    try rw [z1]
    rw [HW2.out]
    try rw [z1]
    clear HW1 HW2 z1
    go_wp2_with fail
    go_ret
    exact ⟨rfl, HS.out⟩
  · skip
    have HE : ctM a b c d = 1 := by unfold ctM; rw [if_neg (by omega), if_neg (by omega)]
    rw [HE]
    have q1 : ¬ ((a : Int) < (c : Int)) := by omega
    have q2 : decide ((a : Int) < (c : Int)) = false := by simp; omega
    have q3 : ((a : Int) == (c : Int)) = true := by simp; omega
    have q4 : ¬ ((b : Int) < (d : Int)) := by omega
    have q5 : decide ((b : Int) < (d : Int)) = false := by simp; omega
    have q6 : ((b : Int) == (d : Int)) = false := by simp; omega
    clear HE p
    go_enter Try.func17, Try.ntmps17
    go_upto_region 1 with fail
    rw [HW1.out]
    try rw [z1]
    rw [HW2.out]
    try rw [z1]
    clear HW1 HW2 z1
    go_wp2_with fail
    go_ret
    exact ⟨rfl, HS.out⟩
  · skip
    have HE : ctM a b c d = 1 := by unfold ctM; rw [if_neg (by omega), if_neg (by omega)]
    rw [HE]
    have q1 : ¬ ((a : Int) < (c : Int)) := by omega
    have q2 : decide ((a : Int) < (c : Int)) = false := by simp; omega
    have q3 : ((a : Int) == (c : Int)) = false := by simp; omega
    clear HE p
    go_enter Try.func17, Try.ntmps17
    go_upto_region 1 with fail
    rw [HW1.out]
    try rw [z1]
    rw [HW2.out]
    try rw [z1]
    clear HW1 HW2 z1
    go_wp2_with fail
    go_ret
    exact ⟨rfl, HS.out⟩
end Go.Proofs.Ytfmndfgdchhaeaa

/- Stage 9's laws: less, epoch; EqStored. -/
namespace Go.Proofs.Ytfmndfgdchhaeaa
open Go.RowKit Go.Maps
set_option maxRecDepth 100000
set_option maxRecDepth 100000

theorem tag_box (w : World) (a b : Nat) : ∃ W, Hid (w.alloc (.cells #[.int .u64 (a : Nat), .int .u64 (b : Nat)] 37) = W) ∧ w.Since w.heap.size W ∧ W.heap.size = w.heap.size + 1 ∧ W.cell? ⟨w.heap.size, 0, none⟩ = some (.int .u64 (a : Nat)) ∧ W.cell? ⟨w.heap.size, 1, none⟩ = some (.int .u64 (b : Nat)) :=
  ⟨_, rfl, (World.Since.refl _ _).alloc (Nat.le_refl _) _, by simp, by simp, by simp⟩
theorem less_any (a b c d : Nat) (w : World) : Calls Try.prog 9 #[.agg #[.int .u64 (a : Nat), .int .u64 (b : Nat)], .agg #[.int .u64 (c : Nat), .int .u64 (d : Nat)]] w fun e w' => e = .returned (.bool (decide (ctM a b c d < 0))) ∧ w.Since w.heap.size w' := by
  obtain ⟨W1, HW1, s1, z1, a0, a1⟩ := tag_box w a b
  obtain ⟨W2, HW2, s2, z2, b0, b1⟩ := tag_box W1 c d
  rw [z1] at b0 b1
  replace a0 := cell_later s2 a0
  replace a1 := cell_later s2 a1
  have HC : Hid (Calls Try.prog 17 #[.agg #[.int .u64 (a : Nat), .int .u64 (b : Nat)], .agg #[.int .u64 (c : Nat), .int .u64 (d : Nat)]] W2 fun e w' => e = .returned (.int .i64 (ctM a b c d)) ∧ Hid (w.Since w.heap.size w')) := (cmpTag_any a b c d W2).mono fun e w' ⟨he, hs⟩ => ⟨he, (s1.trans (since_mono s2 s1.size)).trans (since_mono hs (s1.trans (since_mono s2 s1.size)).size)⟩
  generalize ctM a b c d = K at *
  clear s1 s2 z2
  go_enter Try.func9, Try.ntmps9
  go_upto_region 1 with fail
  rw [HW1.out]
  try rw [z1]
  rw [HW2.out]
  try rw [z1]
  clear HW1 HW2 z1
  go_wp2_with fail
  refine HC.out.mono ?_
  rintro e w3 ⟨rfl, H3⟩
  go_wp2_with fail
  go_ret
  exact ⟨rfl, H3.out⟩
/-- The epoch that a write or beat comes with. -/
def epM (m : Mg) : Int := if m.n 0 = 4 then m.n 5 else m.n 4
end Go.Proofs.Ytfmndfgdchhaeaa

/- Stage 9's laws: lives. -/
namespace Go.Proofs.Ytfmndfgdchhaeaa
open Go.RowKit Go.Maps
set_option maxRecDepth 100000
set_option maxRecDepth 100000

theorem wpList_want {P : Program} {ops : Array Oper} {rest : List Oper} {o : Oper} {a : Act} {w : World} {Q : Exit → Act → World → Prop} (hw : Region.wanted o (yielded ops a.tmps) = true)
    (h : ∀ K : Act → World → Prop, (∀ a' w', wpList P ops Q rest a' w' → K a' w') → Oper.wp P o a w K Q) : wpList P ops Q (o :: rest) a w :=
  wpList_step fun _ hK => by
    rw [if_pos hw]
    exact h _ hK
theorem op_convert {P : Program} {o : Oper} {a : Act} {w w' : World} {K : Act → World → Prop} {Q : Exit → Act → World → Prop} (t t' : TypeId) (x : Operand) (ho : o.op = .convert t t' x) (v v' : Value) (hx : a.eval x = v) (hr : (convert t t' v).run P w = .ok v' w') (h : K (a.put o.dst v') w') : Oper.wp P o a w K Q := by
  unfold Oper.wp
  simp [execOp, ho, hx, hr, Result.andThen]
  exact h
/-- The two messages of lives. -/
def lvP : Mg := ⟨fun c => if c = 0 then 1 else if c = 1 then 2 else if c = 2 then 1 else if c = 4 then 5 else 0, fun _ => []⟩
def lvW : Mg := ⟨fun c => if c = 0 then 4 else if c = 1 then 2 else if c = 2 then 1 else if c = 5 then 5 else if c = 6 then 1 else if c = 8 then 3 else 0, fun c => if c = 10 then [119] else []⟩
theorem lvP_v : mgV lvP none 0 = .agg #[.int .i64 1, .int .i64 2, .int .i64 1, .int .i64 0, .int .u64 5, .int .u64 0, .int .u64 0, .int .u64 0, .int .i64 0, .int .u64 0, .slice none 0 0, .int .i64 0, .int .u64 0, .string ⟨#[]⟩, .string ⟨#[]⟩, .int .u64 0, .int .u64 0, .int .u64 0, .int .i64 0, .int .i64 0, .int .i64 0, .int .i64 0] := rfl
theorem lvW_v (va : Option Addr) : mgV lvW va 1 = .agg #[.int .i64 4, .int .i64 2, .int .i64 1, .int .i64 0, .int .u64 0, .int .u64 5, .int .u64 1, .int .u64 0, .int .i64 3, .int .u64 0, .slice va 1 1, .int .i64 0, .int .u64 0, .string ⟨#[]⟩, .string ⟨#[]⟩, .int .u64 0, .int .u64 0, .int .u64 0, .int .i64 0, .int .i64 0, .int .i64 0, .int .i64 0] := rfl
theorem mgN_of {m : Mg} (h : ∀ c, 0 ≤ m.n c ∧ m.n c ≤ 5) : MgN m :=
  ⟨fun c _ => ⟨(h c).1, by have := (h c).2; omega⟩, fun c _ => ⟨by have := (h c).1; omega, by have := (h c).2; omega⟩⟩
theorem lvP_n : MgN lvP := mgN_of (fun c => by unfold lvP; dsimp only; (repeat' split) <;> omega)
theorem lvW_n : MgN lvW := mgN_of (fun c => by unfold lvW; dsimp only; (repeat' split) <;> omega)
theorem lvP_a (w : World) : MgA w lvP none 0 := ⟨fun j hj => absurd hj (Nat.not_lt_zero _), fun _ => ⟨rfl, rfl⟩, fun _ e => (by cases e), fun _ => Nat.zero_le _, fun _ v hv => absurd hv List.not_mem_nil⟩
theorem lvW_a {w : World} {g : Nat} (h : Byt w (some ⟨g, 0, none⟩) 1 (fun _ => 119)) : MgA w lvW (some ⟨g, 0, none⟩) 1 := by
  refine ⟨fun j hj => ?_, fun e => (by cases e), fun q e _ => ?_, fun c => ?_, fun c v hv => ?_⟩
  · have hj : j < 1 := hj
    obtain ⟨b, o, e, hc⟩ := h j hj
    refine ⟨b, o, e, ?_⟩
    have : j = 0 := by omega
    subst this
    exact hc
  · obtain ⟨b, o, e1, hc⟩ := h 0 (by decide)
    rw [e] at e1
    rw [Option.some.inj e1]
    exact World.block_lt_of_cell? _ _ hc
  · unfold lvW; dsimp only; split <;> simp
  · unfold lvW at hv; dsimp only at hv
    split at hv
    · simp at hv; omega
    · simp at hv
theorem lv_h1 : hearM ⟨0, 0, 0, [118], 0⟩ lvP = ⟨prG lvP 5 ⟨0, 0, 0, [118], 0⟩, true, false, true, ⟨5, 0, 0, [118], 0⟩⟩ := rfl
theorem lv_h2 : hearM ⟨5, 0, 0, [118], 0⟩ lvW = ⟨wrG lvW 5 1, true, true, true, ⟨5, 5, 1, [119], 3⟩⟩ := rfl
/-- The world behind a constant of one byte as a list. -/
def byteW (w : World) (b : Nat) : World := w.alloc (.cells #[.int .u8 (b : Nat)] 5 (1, 2))
theorem byteW_since (w : World) (b : Nat) : w.Since w.heap.size (byteW w b) := (World.Since.refl _ _).alloc (Nat.le_refl _) _
theorem byteW_size (w : World) (b : Nat) : (byteW w b).heap.size = w.heap.size + 1 := by unfold byteW; simp
theorem byteW_byt (w : World) (b : Nat) : Byt (byteW w b) (some ⟨w.heap.size, 0, none⟩) 1 (fun _ => b) := fun j hj => ⟨_, _, rfl, by
  have : j = 0 := by omega
  subst this
  unfold byteW
  rw [World.cell?_alloc_mark]
  rfl⟩
theorem conv_byte (w : World) (b : Nat) : (convert 29 29 (.slice (some ⟨w.heap.size, 0, none⟩) 1 1)).run Try.prog (w.alloc (.cells #[.int .u8 (b : Nat)] 5)) = .ok (.slice (some ⟨w.heap.size, 0, none⟩) 1 1) (byteW w b) :=
  Lib.run_convert_bytes_const (P := Try.prog) w 29 5 #[.int .u8 (b : Nat)] 1 1 Try.underlying29 Try.underlying5
theorem row_byt {w : World} {g n : Nat} {x : Nat → Nat} (h : w.rowIs g 5 n (fun j => .int .u8 (x j : Nat))) : Byt w (some ⟨g, 0, none⟩) n x := fun j hj => ⟨g, 0, rfl, by rw [Nat.zero_add]; exact h.cell hj⟩
/-- What Stored answers, laid into new memory. -/
theorem st_put (w : World) (vs : List Value) (hl : vs.length = 4) (h1 : vs.toArray.all (·.oneCell') = true) : ∃ (W : World) (SA : Array Value), Hid (vs.toArray = SA) ∧ Hid ((w.alloc (.cells #[.int .u64 0, .int .u64 0, .int .u64 0, .slice none 0 0] 44)).there w.heap.size 0 SA.size) ∧ Hid ((w.alloc (.cells #[.int .u64 0, .int .u64 0, .int .u64 0, .slice none 0 0] 44)).setCells w.heap.size 0 SA.toList = W) ∧ Hid ((Try.prog.info? 44).map (·.size) = some SA.size) ∧ Hid (SA.all (·.oneCell') = true) ∧ Hid (W.rowIs w.heap.size 44 4 (fun i => vs.getD i undef)) ∧ Hid (w.Since w.heap.size W) := by
  have r0 : (w.alloc (.cells #[.int .u64 0, .int .u64 0, .int .u64 0, .slice none 0 0] 44)).rowIs w.heap.size 44 4 (fun i => if i = 3 then .slice none 0 0 else .int .u64 0) :=
    World.rowIs_alloc w _ _ _ (fun i hi => by
      have hi' : i < 4 := hi
      match i, hi' with
      | 0, _ => rfl
      | 1, _ => rfl
      | 2, _ => rfl
      | 3, _ => rfl)
  obtain ⟨W, HW, h7, z7, b7, o7, t7, p7⟩ := cells_stored r0 vs hl
  have s6 : w.Since w.heap.size (w.alloc (.cells #[.int .u64 0, .int .u64 0, .int .u64 0, .slice none 0 0] 44)) := (World.Since.refl _ _).alloc (Nat.le_refl _) _
  have hz : vs.toArray.size = 4 := by rw [List.size_toArray, hl]
  refine ⟨W, vs.toArray, rfl, ?_, HW, by rw [hz]; exact infoSt, h1, ⟨vs.toArray, h7, hz, fun i hi => ?_⟩, o7.trans s6.os, t7.trans s6.tape, p7.trans s6.output, by rw [z7]; exact s6.size, fun k hk => (b7 k (by omega)).trans (s6.block k hk)⟩
  · show World.there _ _ _ _
    rw [hz]
    exact row_there r0
  · rw [List.getElem?_toArray]
    simp [List.getD, show i < vs.length by omega]
/-- What lives has in memory. -/
structure Lv (hb wb sb rb : Nat) (ga : Option Addr) (gc sg sc : Nat) (W : World) : Prop where
  h : W.rowIs hb 49 25 (hdCell (prG lvP 5 ⟨0, 0, 0, [118], 0⟩) ga gc true false true)
  w : ∃ xa xc, W.rowIs wb 49 25 (hdCell (wrG lvW 5 1) xa xc true true true)
  s : W.rowIs sb 44 4 (fun i => [.int .u64 (5 : Nat), .int .u64 (5 : Nat), .int .u64 (1 : Nat), .slice (some ⟨sg, 0, none⟩) 1 sc].getD i undef)
  hv : Byt W ga 1 (fun _ => 118)
  sv : Byt W (some ⟨sg, 0, none⟩) 1 (fun _ => 119)
  rp : RpIs W rb ⟨5, 5, 1, [119], 3⟩
theorem Lv.since {hb wb sb rb : Nat} {ga : Option Addr} {gc sg sc : Nat} {W W' : World} (h : Lv hb wb sb rb ga gc sg sc W) (hs : W.Since W.heap.size W') : Lv hb wb sb rb ga gc sg sc W' :=
  ⟨row_since h.h hs, by obtain ⟨a, c, q⟩ := h.w; exact ⟨a, c, row_since q hs⟩, row_since h.s hs, h.hv.since hs, h.sv.since hs, h.rp.since hs⟩
set_option maxHeartbeats 8000000 in
theorem lives_any (w : World) : Calls Try.prog 13 #[] w fun e w' => e = .returned (.bool true) ∧ w.Since w.heap.size w' := by
  have s1 := byteW_since w 118
  have HNW : Hid (Calls Try.prog 5 #[.slice (some ⟨w.heap.size, 0, none⟩) 1 1] (byteW w 118) fun e w' => ∃ rb, e = .returned (.pointer (some ⟨rb, 0, none⟩)) ∧ Hid (w.heap.size < rb) ∧ Hid (RpIs w' rb ⟨0, 0, 0, [118], 0⟩) ∧ Hid (w.Since w.heap.size w')) := (new_any (some ⟨w.heap.size, 0, none⟩) 1 1 (fun _ => 118) _ (byteW_byt w 118) (fun _ => by decide) (fun e => by cases e) (by decide)).mono fun e w' ⟨rb, he, h1, h2, h3⟩ => ⟨rb, he, by
    have := byteW_size w 118
    show w.heap.size < rb
    omega, h2, s1.trans (since_mono h3 s1.size)⟩
  clear s1
  go_enter Try.func13, Try.ntmps13
  go_upto_region 1 with fail
  refine wp_region_lit ?_
  refine wpList_plain rfl fun _ hK => op_runW (w' := w.alloc (.cells #[.int .u8 (118 : Nat)] 5)) (.slice (some ⟨w.heap.size, 0, none⟩) 1 1) (by go_simp) (hK _ _ ?_)
  simp only [Act.put, List.setIfInBounds_toArray, List.set_cons_zero, List.set_cons_succ]
  refine wpList_plain rfl fun _ hK => op_convert _ _ _ rfl _ _ rfl (conv_byte w 118) (hK _ _ ?_)
  simp only [Act.put, List.setIfInBounds_toArray, List.set_cons_zero, List.set_cons_succ]
  refine wpList_plain rfl fun _ hK => op_call 5 #[.slice (some ⟨w.heap.size, 0, none⟩) 1 1] (by kernel_rfl) HNW.out ?_
  rintro e w1 ⟨rb, rfl, HB, HR1, HS1⟩
  refine ⟨_, rfl, hK _ _ ?_⟩
  clear hK
  simp only [Act.put, List.setIfInBounds_toArray, List.set_cons_zero, List.set_cons_succ]
  have HP := hide (hear_any HR1.out lvP none 0 (lvP_a w1) lvP_n)
  rw [lv_h1] at HP
  have HP2 : Hid (Calls Try.prog 8 #[.pointer (some ⟨rb, 0, none⟩), mgV lvP none 0] w1 fun e w' => ∃ ga gc, e = .returned (hdV (prG lvP 5 ⟨0, 0, 0, [118], 0⟩) ga gc true false true) ∧ Hid (RpIs w' rb ⟨5, 0, 0, [118], 0⟩) ∧ Hid (w.Since w.heap.size w') ∧ Hid (Byt w' ga 1 (fun _ => 118))) := HP.out.mono fun e w' ⟨ga, gc, he, h1, h2, h3⟩ => ⟨ga, gc, he, h1, h2.since HS1.out (by have := HB.out; omega) HS1.out.size, by
    rcases h3 with ⟨_, _, h3⟩ | ⟨g, rfl, h4, h5⟩
    · exact absurd h3 (by decide)
    · intro j hj
      obtain ⟨b, o, e, hc⟩ := h5.byt j hj
      refine ⟨b, o, e, hc.trans ?_⟩
      have : j = 0 := by omega
      subst this
      rfl⟩
  clear HP HR1 HNW HS1
  go_upto_region 4 with fail
  refine wp_region_lit ?_
  refine wpList_plain rfl fun _ hK => op_run (.pointer (some ⟨rb, 0, none⟩)) (by kernel_rfl) (hK _ _ ?_)
  simp only [Act.put, List.setIfInBounds_toArray, List.set_cons_zero, List.set_cons_succ]
  refine wpList_plain rfl fun _ hK => op_run (.agg #[.int .i64 1, .int .i64 2, .int .i64 1, .int .i64 0]) (by kernel_rfl) (hK _ _ ?_)
  simp only [Act.put, List.setIfInBounds_toArray, List.set_cons_zero, List.set_cons_succ]
  refine wpList_plain rfl fun _ hK => op_run (mgV lvP none 0) (by kernel_rfl) (hK _ _ ?_)
  simp only [Act.put, List.setIfInBounds_toArray, List.set_cons_zero, List.set_cons_succ]
  refine wpList_plain rfl fun _ hK => op_call 8 #[.pointer (some ⟨rb, 0, none⟩), mgV lvP none 0] (by kernel_rfl) HP2.out ?_
  rintro e w2 ⟨ga, gc, rfl, HR2, HS2, HV2⟩
  refine ⟨_, rfl, hK _ _ ?_⟩
  clear hK HP2
  obtain ⟨W3, HA3, HVv3, HT3, HW3, HI3, HO3, HRo3, HSi3⟩ := hd_put w2 (prG lvP 5 ⟨0, 0, 0, [118], 0⟩) ga gc true false true
  rw [HVv3.out]
  simp only [Act.put, List.setIfInBounds_toArray, List.set_cons_zero, List.set_cons_succ]
  go_upto_region 5 with (refine wpList_store_mid rfl 49 _ _ rfl w2.heap.size 0 _ rfl rfl HT3.out HI3.out HO3.out ?_; rw [HW3.out])
  have s3 : w.Since w.heap.size W3 := HS2.out.trans (since_mono HSi3.out HS2.out.size)
  have s4 := byteW_since W3 119
  have b4 := byteW_byt W3 119
  have HQ := hide (hear_any ((HR2.out.since HSi3.out).since s4) lvW (some ⟨W3.heap.size, 0, none⟩) 1 (lvW_a b4) lvW_n)
  rw [lv_h2] at HQ
  have HQ2 : Hid (Calls Try.prog 8 #[.pointer (some ⟨rb, 0, none⟩), mgV lvW (some ⟨W3.heap.size, 0, none⟩) 1] (byteW W3 119) fun e w' => ∃ xa xc, e = .returned (hdV (wrG lvW 5 1) xa xc true true true) ∧ Hid (RpIs w' rb ⟨5, 5, 1, [119], 3⟩) ∧ Hid (w.Since w.heap.size w') ∧ Hid (Byt w' ga 1 (fun _ => 118)) ∧ Hid (w'.rowIs w2.heap.size 49 25 (hdCell (prG lvP 5 ⟨0, 0, 0, [118], 0⟩) ga gc true false true))) := HQ.out.mono fun e w' ⟨xa, xc, he, h1, h2, _⟩ => ⟨xa, xc, he, h1, h2.since (s3.trans (since_mono s4 s3.size)) (by have := HB.out; omega) (by have := s3.size; have := s4.size; omega), byt_but ((HV2.out.since HSi3.out).since s4) ((HR2.out.since HSi3.out).since s4) h2, h2.row (row_since HRo3.out s4) (by have := HR2.out.lt; omega)⟩
  clear HQ s3 s4 b4 HSi3 HT3 HW3 HI3 HO3 HVv3 HRo3
  refine wp_region_lit ?_
  refine wpList_plain rfl fun _ hK => op_run (.pointer (some ⟨rb, 0, none⟩)) (by kernel_rfl) (hK _ _ ?_)
  simp only [Act.put, List.setIfInBounds_toArray, List.set_cons_zero, List.set_cons_succ]
  refine wpList_plain rfl fun _ hK => op_run (.agg #[.int .i64 4, .int .i64 2, .int .i64 1, .int .i64 0]) (by kernel_rfl) (hK _ _ ?_)
  simp only [Act.put, List.setIfInBounds_toArray, List.set_cons_zero, List.set_cons_succ]
  refine wpList_plain rfl fun _ hK => op_run (.agg #[.int .u64 5, .int .u64 1]) (by kernel_rfl) (hK _ _ ?_)
  simp only [Act.put, List.setIfInBounds_toArray, List.set_cons_zero, List.set_cons_succ]
  refine wpList_plain rfl fun _ hK => op_runW (w' := W3.alloc (.cells #[.int .u8 (119 : Nat)] 5)) (.slice (some ⟨W3.heap.size, 0, none⟩) 1 1) (by go_simp) (hK _ _ ?_)
  simp only [Act.put, List.setIfInBounds_toArray, List.set_cons_zero, List.set_cons_succ]
  refine wpList_plain rfl fun _ hK => op_convert _ _ _ rfl _ _ rfl (conv_byte W3 119) (hK _ _ ?_)
  simp only [Act.put, List.setIfInBounds_toArray, List.set_cons_zero, List.set_cons_succ]
  refine wpList_plain rfl fun _ hK => op_run (mgV lvW (some ⟨W3.heap.size, 0, none⟩) 1) (by rw [lvW_v]; kernel_rfl) (hK _ _ ?_)
  simp only [Act.put, List.setIfInBounds_toArray, List.set_cons_zero, List.set_cons_succ]
  refine wpList_plain rfl fun _ hK => op_call 8 #[.pointer (some ⟨rb, 0, none⟩), mgV lvW (some ⟨W3.heap.size, 0, none⟩) 1] (by kernel_rfl) HQ2.out ?_
  rintro e w5 ⟨xa, xc, rfl, HR5, HS5, HV5, HH5⟩
  refine ⟨_, rfl, hK _ _ ?_⟩
  clear hK HQ2 HR2 HS2 HV2
  obtain ⟨W6, HA6, HVv6, HT6, HW6, HI6, HO6, HRo6, HSi6⟩ := hd_put w5 (wrG lvW 5 1) xa xc true true true
  rw [HVv6.out]
  simp only [Act.put, List.setIfInBounds_toArray, List.set_cons_zero, List.set_cons_succ]
  go_upto_region 6 with (refine wpList_store_mid rfl 49 _ _ rfl w5.heap.size 0 _ rfl rfl HT6.out HI6.out HO6.out ?_; rw [HW6.out])
  have HST := hide (stored_any (HR5.out.since HSi6.out))
  refine wp_region_lit ?_
  refine wpList_plain rfl fun _ hK => op_run (.pointer (some ⟨rb, 0, none⟩)) (by kernel_rfl) (hK _ _ ?_)
  simp only [Act.put, List.setIfInBounds_toArray, List.set_cons_zero, List.set_cons_succ]
  refine wpList_plain rfl fun _ hK => op_call 18 #[.pointer (some ⟨rb, 0, none⟩)] (by kernel_rfl) HST.out ?_
  rintro e w7 ⟨sg, sc, rfl, hsg, hsc, hsv, hs7⟩
  refine ⟨_, rfl, hK _ _ ?_⟩
  clear hK HST
  obtain ⟨W8, SA, HSA, HT8, HW8, HI8, HO8, HRo8, HSi8⟩ := st_put w7 [.int .u64 (5 : Nat), .int .u64 (5 : Nat), .int .u64 (1 : Nat), .slice (some ⟨sg, 0, none⟩) 1 sc] rfl (by simp [Value.oneCell'])
  rw [show stV ⟨5, 5, 1, [119], 3⟩ sg sc = .agg SA from congrArg Value.agg HSA.out]
  simp only [Act.put, List.setIfInBounds_toArray, List.set_cons_zero, List.set_cons_succ]
  have s68 : W6.Since W6.heap.size W8 := hs7.trans (since_mono HSi8.out hs7.size)
  have s58 : w5.Since w5.heap.size W8 := HSi6.out.trans (since_mono s68 HSi6.out.size)
  have HL8 : Hid (Lv w2.heap.size w5.heap.size w7.heap.size rb ga gc sg sc W8) := ⟨row_since HH5.out s58, ⟨xa, xc, row_since HRo6.out s68⟩, HRo8.out, HV5.out.since s58, fun j hj => by
    obtain ⟨b, o, e, hc⟩ := (hsv.since HSi8.out) j hj
    refine ⟨b, o, e, hc.trans ?_⟩
    have : j = 0 := by omega
    subst this
    rfl, HR5.out.since s58⟩
  have HE8 : Hid (w.Since w.heap.size W8) := HS5.out.trans (since_mono s58 HS5.out.size)
  go_upto_region 7 with (refine wpList_store_mid rfl 44 _ _ rfl w7.heap.size 0 _ rfl rfl HT8.out HI8.out HO8.out ?_; rw [HW8.out])
  clear s68 s58 hsg hsc hsv hs7 HR5 HS5 HV5 HH5 HVv6 HT6 HW6 HI6 HO6 HRo6 HSi6 HSA HT8 HW8 HI8 HO8 HRo8 HSi8 HB
  generalize w2.heap.size = hb at *
  generalize w5.heap.size = wb at *
  generalize w7.heap.size = sb at *
  refine wp_region_lit ?_
  refine wpList_plain rfl fun _ hK => op_run (.pointer (some ⟨hb, 22, none⟩)) (by first | kernel_rfl | go_simp) (hK _ _ ?_)
  simp only [Act.put, List.setIfInBounds_toArray, List.set_cons_zero, List.set_cons_succ]
  refine wpList_plain rfl fun _ hK => op_run (.bool true) (by have c : W8.cell? ⟨hb, 22, none⟩ = some (.bool true) := HL8.out.h.cell (i := 22) (by decide); go_simp) (hK _ _ ?_)
  simp only [Act.put, List.setIfInBounds_toArray, List.set_cons_zero, List.set_cons_succ]
  refine wpList_plain rfl fun _ hK => op_run (.bool true) (by first | kernel_rfl | go_simp) (hK _ _ ?_)
  simp only [Act.put, List.setIfInBounds_toArray, List.set_cons_zero, List.set_cons_succ]
  refine wpList_want rfl fun _ hK => op_run (.pointer (some ⟨hb, 0, none⟩)) (by first | kernel_rfl | go_simp) (hK _ _ ?_)
  simp only [Act.put, List.setIfInBounds_toArray, List.set_cons_zero, List.set_cons_succ]
  refine wpList_want rfl fun _ hK => op_run (.pointer (some ⟨hb, 0, none⟩)) (by first | kernel_rfl | go_simp) (hK _ _ ?_)
  simp only [Act.put, List.setIfInBounds_toArray, List.set_cons_zero, List.set_cons_succ]
  refine wpList_want rfl fun _ hK => op_run (.pointer (some ⟨hb, 0, none⟩)) (by first | kernel_rfl | go_simp) (hK _ _ ?_)
  simp only [Act.put, List.setIfInBounds_toArray, List.set_cons_zero, List.set_cons_succ]
  refine wpList_want rfl fun _ hK => op_run (.int .i64 2) (by have c : W8.cell? ⟨hb, 0, none⟩ = some (.int .i64 2) := HL8.out.h.cell (i := 0) (by decide); go_simp) (hK _ _ ?_)
  simp only [Act.put, List.setIfInBounds_toArray, List.set_cons_zero, List.set_cons_succ]
  refine wpList_want rfl fun _ hK => op_run (.bool true) (by first | kernel_rfl | go_simp) (hK _ _ ?_)
  simp only [Act.put, List.setIfInBounds_toArray, List.set_cons_zero, List.set_cons_succ]
  refine wpList_plain rfl fun _ hK => op_run (.bool true) (by first | kernel_rfl | go_simp) (hK _ _ ?_)
  simp only [Act.put, List.setIfInBounds_toArray, List.set_cons_zero, List.set_cons_succ]
  refine wpList_plain rfl fun _ hK => op_run (.bool true) (by first | kernel_rfl | go_simp) (hK _ _ ?_)
  simp only [Act.put, List.setIfInBounds_toArray, List.set_cons_zero, List.set_cons_succ]
  refine wpList_want rfl fun _ hK => op_run (.pointer (some ⟨hb, 0, none⟩)) (by first | kernel_rfl | go_simp) (hK _ _ ?_)
  simp only [Act.put, List.setIfInBounds_toArray, List.set_cons_zero, List.set_cons_succ]
  refine wpList_want rfl fun _ hK => op_run (.pointer (some ⟨hb, 10, none⟩)) (by first | kernel_rfl | go_simp) (hK _ _ ?_)
  simp only [Act.put, List.setIfInBounds_toArray, List.set_cons_zero, List.set_cons_succ]
  refine wpList_want rfl fun _ hK => op_run (.slice ga 1 gc) (by have c : W8.cell? ⟨hb, 10, none⟩ = some (.slice ga 1 gc) := HL8.out.h.cell (i := 10) (by decide); go_simp) (hK _ _ ?_)
  simp only [Act.put, List.setIfInBounds_toArray, List.set_cons_zero, List.set_cons_succ]
  have sw9 := byteW_since W8 118
  have HEQw9 : Hid (Calls Try.prog 19 #[.slice ga 1 gc, .slice (some ⟨W8.heap.size, 0, none⟩) 1 1] (byteW W8 118) fun e w' => e = .returned (.bool true) ∧ Hid (W8.Since W8.heap.size w')) := (eq_same _ _ 1 _ 1 (fun _ => 118) _ (HL8.out.hv.since sw9) (byteW_byt W8 118) (by decide)).mono fun e w' ⟨he, m, hm⟩ => ⟨he, by rw [hm]; exact since_drewN' sw9 m⟩
  refine wpList_want rfl fun _ hK => op_runW (w' := W8.alloc (.cells #[.int .u8 (118 : Nat)] 5)) (.slice (some ⟨W8.heap.size, 0, none⟩) 1 1) (by go_simp) (hK _ _ ?_)
  simp only [Act.put, List.setIfInBounds_toArray, List.set_cons_zero, List.set_cons_succ]
  refine wpList_want rfl fun _ hK => op_convert _ _ _ rfl _ _ rfl (conv_byte W8 118) (hK _ _ ?_)
  simp only [Act.put, List.setIfInBounds_toArray, List.set_cons_zero, List.set_cons_succ]
  refine wpList_want rfl fun _ hK => op_call 19 #[.slice ga 1 gc, .slice (some ⟨W8.heap.size, 0, none⟩) 1 1] (by kernel_rfl) HEQw9.out ?_
  rintro e w9 ⟨rfl, Hsw9⟩
  refine ⟨_, rfl, hK _ _ ?_⟩
  clear hK HEQw9 sw9
  simp only [Act.put, List.setIfInBounds_toArray, List.set_cons_zero, List.set_cons_succ]
  have HL9 := hide (HL8.out.since Hsw9.out)
  have HE9 : Hid (w.Since w.heap.size w9) := HE8.out.trans (since_mono Hsw9.out HE8.out.size)
  obtain ⟨xa', xc', hw9⟩ := HL9.out.w
  have HW9 := hide hw9
  clear hw9 HL8 HE8
  refine wpList_plain rfl fun _ hK => op_run (.bool true) (by first | kernel_rfl | go_simp) (hK _ _ ?_)
  simp only [Act.put, List.setIfInBounds_toArray, List.set_cons_zero, List.set_cons_succ]
  refine wpList_plain rfl fun _ hK => op_run (.bool true) (by first | kernel_rfl | go_simp) (hK _ _ ?_)
  simp only [Act.put, List.setIfInBounds_toArray, List.set_cons_zero, List.set_cons_succ]
  refine wpList_want rfl fun _ hK => op_run (.pointer (some ⟨wb, 23, none⟩)) (by first | kernel_rfl | go_simp) (hK _ _ ?_)
  simp only [Act.put, List.setIfInBounds_toArray, List.set_cons_zero, List.set_cons_succ]
  refine wpList_want rfl fun _ hK => op_run (.bool true) (by have c : w9.cell? ⟨wb, 23, none⟩ = some (.bool true) := HW9.out.cell (i := 23) (by decide); go_simp) (hK _ _ ?_)
  simp only [Act.put, List.setIfInBounds_toArray, List.set_cons_zero, List.set_cons_succ]
  refine wpList_plain rfl fun _ hK => op_run (.bool true) (by first | kernel_rfl | go_simp) (hK _ _ ?_)
  simp only [Act.put, List.setIfInBounds_toArray, List.set_cons_zero, List.set_cons_succ]
  refine wpList_plain rfl fun _ hK => op_run (.bool true) (by first | kernel_rfl | go_simp) (hK _ _ ?_)
  simp only [Act.put, List.setIfInBounds_toArray, List.set_cons_zero, List.set_cons_succ]
  refine wpList_want rfl fun _ hK => op_run (.pointer (some ⟨wb, 24, none⟩)) (by first | kernel_rfl | go_simp) (hK _ _ ?_)
  simp only [Act.put, List.setIfInBounds_toArray, List.set_cons_zero, List.set_cons_succ]
  refine wpList_want rfl fun _ hK => op_run (.bool true) (by have c : w9.cell? ⟨wb, 24, none⟩ = some (.bool true) := HW9.out.cell (i := 24) (by decide); go_simp) (hK _ _ ?_)
  simp only [Act.put, List.setIfInBounds_toArray, List.set_cons_zero, List.set_cons_succ]
  refine wpList_plain rfl fun _ hK => op_run (.bool true) (by first | kernel_rfl | go_simp) (hK _ _ ?_)
  simp only [Act.put, List.setIfInBounds_toArray, List.set_cons_zero, List.set_cons_succ]
  refine wpList_plain rfl fun _ hK => op_run (.bool true) (by first | kernel_rfl | go_simp) (hK _ _ ?_)
  simp only [Act.put, List.setIfInBounds_toArray, List.set_cons_zero, List.set_cons_succ]
  refine wpList_want rfl fun _ hK => op_run (.pointer (some ⟨wb, 0, none⟩)) (by first | kernel_rfl | go_simp) (hK _ _ ?_)
  simp only [Act.put, List.setIfInBounds_toArray, List.set_cons_zero, List.set_cons_succ]
  refine wpList_want rfl fun _ hK => op_run (.pointer (some ⟨wb, 0, none⟩)) (by first | kernel_rfl | go_simp) (hK _ _ ?_)
  simp only [Act.put, List.setIfInBounds_toArray, List.set_cons_zero, List.set_cons_succ]
  refine wpList_want rfl fun _ hK => op_run (.pointer (some ⟨wb, 0, none⟩)) (by first | kernel_rfl | go_simp) (hK _ _ ?_)
  simp only [Act.put, List.setIfInBounds_toArray, List.set_cons_zero, List.set_cons_succ]
  refine wpList_want rfl fun _ hK => op_run (.int .i64 5) (by have c : w9.cell? ⟨wb, 0, none⟩ = some (.int .i64 5) := HW9.out.cell (i := 0) (by decide); go_simp) (hK _ _ ?_)
  simp only [Act.put, List.setIfInBounds_toArray, List.set_cons_zero, List.set_cons_succ]
  refine wpList_want rfl fun _ hK => op_run (.bool true) (by first | kernel_rfl | go_simp) (hK _ _ ?_)
  simp only [Act.put, List.setIfInBounds_toArray, List.set_cons_zero, List.set_cons_succ]
  refine wpList_plain rfl fun _ hK => op_run (.bool true) (by first | kernel_rfl | go_simp) (hK _ _ ?_)
  simp only [Act.put, List.setIfInBounds_toArray, List.set_cons_zero, List.set_cons_succ]
  refine wpList_plain rfl fun _ hK => op_run (.bool true) (by first | kernel_rfl | go_simp) (hK _ _ ?_)
  simp only [Act.put, List.setIfInBounds_toArray, List.set_cons_zero, List.set_cons_succ]
  refine wpList_want rfl fun _ hK => op_run (.pointer (some ⟨sb, 0, none⟩)) (by first | kernel_rfl | go_simp) (hK _ _ ?_)
  simp only [Act.put, List.setIfInBounds_toArray, List.set_cons_zero, List.set_cons_succ]
  refine wpList_want rfl fun _ hK => op_run (.int .u64 5) (by have c : w9.cell? ⟨sb, 0, none⟩ = some (.int .u64 (5 : Nat)) := HL9.out.s.cell (i := 0) (by decide); go_simp) (hK _ _ ?_)
  simp only [Act.put, List.setIfInBounds_toArray, List.set_cons_zero, List.set_cons_succ]
  refine wpList_want rfl fun _ hK => op_run (.bool true) (by first | kernel_rfl | go_simp) (hK _ _ ?_)
  simp only [Act.put, List.setIfInBounds_toArray, List.set_cons_zero, List.set_cons_succ]
  refine wpList_plain rfl fun _ hK => op_run (.bool true) (by first | kernel_rfl | go_simp) (hK _ _ ?_)
  simp only [Act.put, List.setIfInBounds_toArray, List.set_cons_zero, List.set_cons_succ]
  refine wpList_plain rfl fun _ hK => op_run (.bool true) (by first | kernel_rfl | go_simp) (hK _ _ ?_)
  simp only [Act.put, List.setIfInBounds_toArray, List.set_cons_zero, List.set_cons_succ]
  refine wpList_want rfl fun _ hK => op_run (.pointer (some ⟨sb, 3, none⟩)) (by first | kernel_rfl | go_simp) (hK _ _ ?_)
  simp only [Act.put, List.setIfInBounds_toArray, List.set_cons_zero, List.set_cons_succ]
  refine wpList_want rfl fun _ hK => op_run (.slice (some ⟨sg, 0, none⟩) 1 sc) (by have c : w9.cell? ⟨sb, 3, none⟩ = some (.slice (some ⟨sg, 0, none⟩) 1 sc) := HL9.out.s.cell (i := 3) (by decide); go_simp) (hK _ _ ?_)
  simp only [Act.put, List.setIfInBounds_toArray, List.set_cons_zero, List.set_cons_succ]
  have swa := byteW_since w9 119
  have HEQwa : Hid (Calls Try.prog 19 #[.slice (some ⟨sg, 0, none⟩) 1 sc, .slice (some ⟨w9.heap.size, 0, none⟩) 1 1] (byteW w9 119) fun e w' => e = .returned (.bool true) ∧ Hid (w9.Since w9.heap.size w')) := (eq_same _ _ 1 _ 1 (fun _ => 119) _ (HL9.out.sv.since swa) (byteW_byt w9 119) (by decide)).mono fun e w' ⟨he, m, hm⟩ => ⟨he, by rw [hm]; exact since_drewN' swa m⟩
  refine wpList_want rfl fun _ hK => op_runW (w' := w9.alloc (.cells #[.int .u8 (119 : Nat)] 5)) (.slice (some ⟨w9.heap.size, 0, none⟩) 1 1) (by go_simp) (hK _ _ ?_)
  simp only [Act.put, List.setIfInBounds_toArray, List.set_cons_zero, List.set_cons_succ]
  refine wpList_want rfl fun _ hK => op_convert _ _ _ rfl _ _ rfl (conv_byte w9 119) (hK _ _ ?_)
  simp only [Act.put, List.setIfInBounds_toArray, List.set_cons_zero, List.set_cons_succ]
  refine wpList_want rfl fun _ hK => op_call 19 #[.slice (some ⟨sg, 0, none⟩) 1 sc, .slice (some ⟨w9.heap.size, 0, none⟩) 1 1] (by kernel_rfl) HEQwa.out ?_
  rintro e wa ⟨rfl, Hswa⟩
  refine ⟨_, rfl, hK _ _ ?_⟩
  clear hK HEQwa swa
  simp only [Act.put, List.setIfInBounds_toArray, List.set_cons_zero, List.set_cons_succ]
  have HWT := hide (wait_any (HL9.out.rp.since Hswa.out))
  have HEa : Hid (w.Since w.heap.size wa) := HE9.out.trans (since_mono Hswa.out HE9.out.size)
  refine wpList_plain rfl fun _ hK => op_run (.bool true) (by first | kernel_rfl | go_simp) (hK _ _ ?_)
  simp only [Act.put, List.setIfInBounds_toArray, List.set_cons_zero, List.set_cons_succ]
  refine wpList_plain rfl fun _ hK => op_run (.bool true) (by first | kernel_rfl | go_simp) (hK _ _ ?_)
  simp only [Act.put, List.setIfInBounds_toArray, List.set_cons_zero, List.set_cons_succ]
  refine wpList_want rfl fun _ hK => op_run (.pointer (some ⟨rb, 0, none⟩)) (by first | kernel_rfl | go_simp) (hK _ _ ?_)
  simp only [Act.put, List.setIfInBounds_toArray, List.set_cons_zero, List.set_cons_succ]
  refine wpList_want rfl fun _ hK => op_call 20 #[.pointer (some ⟨rb, 0, none⟩)] (by kernel_rfl) HWT.out ?_
  rintro e wz ⟨rfl, rfl⟩
  refine ⟨_, rfl, hK _ _ ?_⟩
  clear hK
  simp only [Act.put, List.setIfInBounds_toArray, List.set_cons_zero, List.set_cons_succ]
  refine wpList_want rfl fun _ hK => op_run (.bool true) (by first | kernel_rfl | go_simp) (hK _ _ ?_)
  simp only [Act.put, List.setIfInBounds_toArray, List.set_cons_zero, List.set_cons_succ]
  refine wpList_plain rfl fun _ hK => op_run (.bool true) (by first | kernel_rfl | go_simp) (hK _ _ ?_)
  simp only [Act.put, List.setIfInBounds_toArray, List.set_cons_zero, List.set_cons_succ]
  clear HWT HL9 HW9
  go_wp2_with fail
  go_ret
  exact ⟨rfl, HEa.out⟩
end Go.Proofs.Ytfmndfgdchhaeaa

/- Stage 9's laws: a step of a life. -/
namespace Go.Proofs.Ytfmndfgdchhaeaa
open Go.RowKit Go.Maps
set_option maxRecDepth 100000
set_option maxRecDepth 100000

/-- A call that is handed in. -/
structure Od where
  d : Int
  wh : Int
  sp : Int
  ep : Nat
  m : Mg
  va : Option Addr
  vc : Nat
  s1 : Nat
  s2 : Nat
  s3 : Nat
  sa : Option Addr
  sl : Nat
  sc : Nat
def opL (o : Od) : List Value := [.int .i64 o.d, .int .i64 o.wh, .int .i64 o.sp, .int .u64 (o.ep : Nat)] ++ mgL o.m o.va o.vc ++ [.int .u64 (o.s1 : Nat), .int .u64 (o.s2 : Nat), .int .u64 (o.s3 : Nat), .slice o.sa o.sl o.sc]
theorem opL_len (o : Od) : (opL o).length = 30 := by unfold opL; simp [mgL_len]
theorem opL_one (o : Od) : (opL o).toArray.all (·.oneCell') = true := all_oneCell_toArray (fun v hv => by
  unfold opL at hv
  rcases List.mem_append.1 hv with h | h
  · rcases List.mem_append.1 h with h | h
    · simp only [List.mem_cons, List.not_mem_nil, or_false] at h
      rcases h with rfl | rfl | rfl | rfl <;> rfl
    · exact mgL_one _ _ _ v h
  · simp only [List.mem_cons, List.not_mem_nil, or_false] at h
    rcases h with rfl | rfl | rfl | rfl <;> rfl)
theorem opL_m (o : Od) (i : Nat) (hi : i < 22) : (opL o)[4 + i]? = (mgL o.m o.va o.vc)[i]? := by
  unfold opL
  rw [List.append_assoc, List.getElem?_append_right (by simp), List.getElem?_append_left (by simp [mgL_len]; omega)]
  congr 1
  simp
theorem infoOp : (Try.prog.info? 46).map (·.size) = some 30 := by kernel_rfl
/-- The calls that are handed in. -/
structure OpsIn (w : World) (oa : Option Addr) (on : Nat) (O : Nat → Od) : Prop where
  at' : ∀ i, i < on → ∃ b o, oa = some ⟨b, o, none⟩ ∧ w.rangeAt b (o + i * 30) (opL (O i)) ∧ b < w.heap.size
  ok : ∀ i, i < on → MgA w (O i).m (O i).va (O i).vc ∧ MgN (O i).m ∧ (O i).ep < 18446744073709551616
theorem rangeS {w w' : World} {b o : Nat} {cs : List Value} (h : w.rangeAt b o cs) (hl : b < w.heap.size) (hs : w.Since w.heap.size w') : w'.rangeAt b o cs := fun j v hv => by
  rw [World.cell?_of_block (a := ⟨b, o + j, none⟩) (hs.block b hl)]
  exact h j v hv
theorem OpsIn.since {w w' : World} {oa : Option Addr} {on : Nat} {O : Nat → Od} (h : OpsIn w oa on O) (hs : w.Since w.heap.size w') : OpsIn w' oa on O :=
  ⟨fun i hi => by
    obtain ⟨b, o, e, h1, h2⟩ := h.at' i hi
    exact ⟨b, o, e, rangeS h1 h2 hs, Nat.lt_of_lt_of_le h2 hs.size⟩, fun i hi => ⟨(h.ok i hi).1.since hs, (h.ok i hi).2⟩⟩
theorem opZ_row (w : World) : ∃ f, (w.alloc (.cells #[.int .i64 0, .int .i64 0, .int .i64 0, .int .u64 0, .int .i64 0, .int .i64 0, .int .i64 0, .int .i64 0, .int .u64 0, .int .u64 0, .int .u64 0, .int .u64 0, .int .i64 0, .int .u64 0, .slice none 0 0, .int .i64 0, .int .u64 0, .string ⟨#[]⟩, .string ⟨#[]⟩, .int .u64 0, .int .u64 0, .int .u64 0, .int .i64 0, .int .i64 0, .int .i64 0, .int .i64 0, .int .u64 0, .int .u64 0, .int .u64 0, .slice none 0 0] 46)).rowIs w.heap.size 46 30 f :=
  ⟨_, World.rowIs_alloc w _ _ (fun i => (#[.int .i64 0, .int .i64 0, .int .i64 0, .int .u64 0, .int .i64 0, .int .i64 0, .int .i64 0, .int .i64 0, .int .u64 0, .int .u64 0, .int .u64 0, .int .u64 0, .int .i64 0, .int .u64 0, .slice none 0 0, .int .i64 0, .int .u64 0, .string ⟨#[]⟩, .string ⟨#[]⟩, .int .u64 0, .int .u64 0, .int .u64 0, .int .i64 0, .int .i64 0, .int .i64 0, .int .i64 0, .int .u64 0, .int .u64 0, .int .u64 0, .slice none 0 0] : Array Value).getD i undef) (fun i hi => by
    rw [Array.getElem?_eq_getElem hi, Array.getD_eq_getD_getElem?, Array.getElem?_eq_getElem hi]
    rfl)⟩
/-- A call is laid into new memory. -/
theorem op_put (w : World) (o : Od) : ∃ (W : World) (OA : Array Value), Hid ((opL o).toArray = OA) ∧ Hid ((w.alloc (.cells #[.int .i64 0, .int .i64 0, .int .i64 0, .int .u64 0, .int .i64 0, .int .i64 0, .int .i64 0, .int .i64 0, .int .u64 0, .int .u64 0, .int .u64 0, .int .u64 0, .int .i64 0, .int .u64 0, .slice none 0 0, .int .i64 0, .int .u64 0, .string ⟨#[]⟩, .string ⟨#[]⟩, .int .u64 0, .int .u64 0, .int .u64 0, .int .i64 0, .int .i64 0, .int .i64 0, .int .i64 0, .int .u64 0, .int .u64 0, .int .u64 0, .slice none 0 0] 46)).there w.heap.size 0 OA.size) ∧ Hid ((w.alloc (.cells #[.int .i64 0, .int .i64 0, .int .i64 0, .int .u64 0, .int .i64 0, .int .i64 0, .int .i64 0, .int .i64 0, .int .u64 0, .int .u64 0, .int .u64 0, .int .u64 0, .int .i64 0, .int .u64 0, .slice none 0 0, .int .i64 0, .int .u64 0, .string ⟨#[]⟩, .string ⟨#[]⟩, .int .u64 0, .int .u64 0, .int .u64 0, .int .i64 0, .int .i64 0, .int .i64 0, .int .i64 0, .int .u64 0, .int .u64 0, .int .u64 0, .slice none 0 0] 46)).setCells w.heap.size 0 OA.toList = W) ∧ Hid ((Try.prog.info? 46).map (·.size) = some OA.size) ∧ Hid (OA.all (·.oneCell') = true) ∧ Hid (W.rowIs w.heap.size 46 30 (fun i => (opL o).getD i undef)) ∧ Hid (w.Since w.heap.size W) := by
  obtain ⟨f, r0⟩ := opZ_row w
  obtain ⟨W, HW, h7, z7, b7, o7, t7, p7⟩ := cells_stored r0 (opL o) (opL_len o)
  have s6 : w.Since w.heap.size (w.alloc (.cells #[.int .i64 0, .int .i64 0, .int .i64 0, .int .u64 0, .int .i64 0, .int .i64 0, .int .i64 0, .int .i64 0, .int .u64 0, .int .u64 0, .int .u64 0, .int .u64 0, .int .i64 0, .int .u64 0, .slice none 0 0, .int .i64 0, .int .u64 0, .string ⟨#[]⟩, .string ⟨#[]⟩, .int .u64 0, .int .u64 0, .int .u64 0, .int .i64 0, .int .i64 0, .int .i64 0, .int .i64 0, .int .u64 0, .int .u64 0, .int .u64 0, .slice none 0 0] 46)) := (World.Since.refl _ _).alloc (Nat.le_refl _) _
  have hz : (opL o).toArray.size = 30 := by rw [List.size_toArray, opL_len]
  refine ⟨W, (opL o).toArray, rfl, ?_, HW, by rw [hz]; exact infoOp, opL_one o, ⟨(opL o).toArray, h7, hz, fun i hi => ?_⟩, o7.trans s6.os, t7.trans s6.tape, p7.trans s6.output, by rw [z7]; exact s6.size, fun k hk => (b7 k (by omega)).trans (s6.block k hk)⟩
  · show World.there _ _ _ _
    rw [hz]
    exact row_there r0
  · rw [List.getElem?_toArray]
    simp [List.getD, show i < (opL o).length by rw [opL_len]; exact hi]
theorem res_cc {P : Program} {fn : Func} {p q : Tmp} {ty tz : TypeId} (h : fn.results = #[.cell p ty, .cell q tz]) (tmps : Array Value) (w : World) (g k : Nat) (t u : TypeId) (cs ds : Array Value) (fr fs : Nat × Nat) (d e : TypeDesc)
    (hp : tmps.getD p undef = .pointer (some ⟨g, 0, none⟩)) (hg : w.heap[g]? = some (.cells cs t fr)) (hu : P.underlying ty = some d) (hd : (match d with | .struct _ | .array _ _ => true | _ => false) = true) (hi : (P.info? ty).map (·.size) = some cs.size)
    (hq : tmps.getD q undef = .pointer (some ⟨k, 0, none⟩)) (hk : w.heap[k]? = some (.cells ds u fs)) (hv : P.underlying tz = some e) (he : (match e with | .struct _ | .array _ _ => true | _ => false) = true) (hj : (P.info? tz).map (·.size) = some ds.size) :
    (results fn tmps).run P w = .ok (.tuple #[.agg cs, .agg ds]) w := by
  have hp' : tmps[p]?.getD undef = .pointer (some ⟨g, 0, none⟩) := by simpa using hp
  have hq' : tmps[q]?.getD undef = .pointer (some ⟨k, 0, none⟩) := by simpa using hq
  simp [results, h, hp', hq', asAddr, run_loadVar_row w g t ty cs fr d hg hu hd hi, run_loadVar_row w k u tz ds fs e hk hv he hj, Sem.run_bind, Result.andThen]
/-- What a step of a life makes of the copy, and what it tells. -/
def atM (o : Od) (r : Rp) : Mg × Hd := if o.d = 1 then (o.m, hearM r o.m) else (mg0, ⟨mg0, false, false, false, if o.d = 2 then { r with wt := wtM (r.wt - 1) } else if o.d = 3 then (if r.p < o.ep then { r with p := o.ep } else r) else r⟩)
/-- While a step of a life is made. -/
structure Az (w : World) (rb : Nat) (r : Rp) (o : Od) (f6 : Nat → Value) (W : World) : Prop where
  rp : RpIs W rb r
  mga : MgA W o.m o.va o.vc
  op : W.rowIs (w.heap.size + 3) 46 30 (fun i => (opL o).getD i undef)
  r6 : W.rowIs (w.heap.size + 1) 42 22 f6
  r7 : W.rowIs (w.heap.size + 2) 49 25 (hdCell mg0 none 0 false false false)
  but : But rb w W
  lt : rb < w.heap.size
theorem heap_setCells (b : Nat) : ∀ (vs : List Value) (o : Nat) (W : World) (k : Nat), k ≠ b → (W.setCells b o vs).heap[k]? = W.heap[k]?
  | [], _, _, _, _ => rfl
  | v :: vs, o, W, k, h => (heap_setCells b vs (o + 1) (W.setCell ⟨b, o, none⟩ v) k h).trans (Below.heap_setCell _ _ _ _ h)
section
variable {w W W' : World} {rb : Nat} {r r' : Rp} {o : Od} {f6 : Nat → Value}
theorem Az.since (h : Az w rb r o f6 W) (hs : W.Since W.heap.size W') : Az w rb r o f6 W' :=
  ⟨h.rp.since hs, h.mga.since hs, row_since h.op hs, row_since h.r6 hs, row_since h.r7 hs, h.but.sin hs, h.lt⟩
theorem mga_but {m : Mg} {va : Option Addr} {vc : Nat} (h : MgA W m va vc) (hr : RpIs W rb r) (hb : But rb W W') : MgA W' m va vc :=
  ⟨byt_but h.val hr hb, h.nil, fun q e h0 => Nat.lt_of_lt_of_le (h.lt q e h0) hb.size, h.len, h.byte⟩
theorem Az.turn (h : Az w rb r o f6 W) (hb : But rb W W') (hr : RpIs W' rb r') : Az w rb r' o f6 W' :=
  ⟨hr, mga_but h.mga h.rp hb, hb.row h.op (by have := h.lt; omega), hb.row h.r6 (by have := h.lt; omega), hb.row h.r7 (by have := h.lt; omega), h.but.trans hb, h.lt⟩
theorem mga_other {m : Mg} {va : Option Addr} {vc b t : Nat} {f : Nat → Value} (h : MgA W m va vc) (hr : W.rowIs b t 22 f) (hn : ∀ i, i < 22 → ∀ n, f i ≠ .int .u8 n) (hb : But b W W') : MgA W' m va vc := by
  refine ⟨fun j hj => ?_, h.nil, fun q e h0 => Nat.lt_of_lt_of_le (h.lt q e h0) hb.size, h.len, h.byte⟩
  obtain ⟨g, off, e, hc⟩ := h.val j hj
  refine ⟨g, off, e, ?_⟩
  have hl := World.block_lt_of_cell? _ _ hc
  have hne : g ≠ b := fun e => by
    subst e
    by_cases hi : off + j < 22
    · rw [hr.cell hi] at hc
      exact hn _ hi _ (Option.some.inj hc)
    · obtain ⟨cs, h1, h2, h3⟩ := hr
      simp only [World.cell?, h1] at hc
      rw [Array.getElem?_eq_none (by omega)] at hc
      exact absurd hc (by simp)
  rw [World.cell?_of_block (a := ⟨g, off + j, none⟩) (hb.block g hl hne)]
  exact hc
theorem mgCell_no8 (m : Mg) (va : Option Addr) (vc i : Nat) (n : Int) : mgCell m va vc i ≠ .int .u8 n := by
  unfold mgCell
  repeat' split
  all_goals simp
theorem Az.put (h : Az w rb r o (mgCell mg0 none 0) W) (m : Mg) (va : Option Addr) (vc : Nat) : Az w rb r o (mgCell m va vc) (W.setCells (w.heap.size + 1) 0 (mgL m va vc)) := by
  have hb : But (w.heap.size + 1) W (W.setCells (w.heap.size + 1) 0 (mgL m va vc)) := (But.of_since (World.Since.refl _ _)).setCells _ 0
  obtain ⟨W1, HW, r1, _⟩ := mg_stored h.r6 m va vc
  have hl := h.lt
  have hs := h.but.size
  rw [show W.setCells (w.heap.size + 1) 0 (mgL m va vc) = W1 from HW.out] at hb ⊢
  exact ⟨h.rp.but hb (by omega), mga_other h.mga h.r6 (fun i _ => mgCell_no8 _ _ _ i) hb, hb.row h.op (by omega), r1, hb.row h.r7 (by omega), ⟨hb.os.trans h.but.os, hb.tape.trans h.but.tape, hb.output.trans h.but.output, Nat.le_trans hs hb.size, fun k hk hn => (hb.block k (by omega) (by omega)).trans (h.but.block k hk hn)⟩, hl⟩
theorem Az.range (h : Az w rb r o f6 W) : W.rangeAt (w.heap.size + 3) 4 (mgL o.m o.va o.vc) := fun j v hv => by
  have hj : j < 22 := by have := (List.getElem?_eq_some_iff.1 hv).1; rwa [mgL_len] at this
  rw [h.op.cell (i := 4 + j) (by omega)]
  have := opL_m o j hj
  rw [hv] at this
  simp [List.getD, this]
/-- The end of a step: the second answer is laid. -/
theorem Az.fin (h : Az w rb r o f6 W) (a : Mg) (ga : Option Addr) (gc : Nat) (b1 b2 b3 : Bool) : ∃ (HL : Array Value) (WE : World), Hid (hdV a ga gc b1 b2 b3 = .agg HL) ∧ Hid (W.there (w.heap.size + 2) 0 HL.size) ∧ Hid ((Try.prog.info? 49).map (·.size) = some HL.size) ∧ Hid (HL.all (·.oneCell') = true) ∧ Hid (W.setCells (w.heap.size + 2) 0 HL.toList = WE) ∧ Hid (WE.heap[w.heap.size + 2]? = some (.cells HL 49 (0, 0))) ∧ Hid (WE.rowIs (w.heap.size + 1) 42 22 f6) ∧ Hid (RpIs WE rb r ∧ But rb w WE ∧ ∀ k, k ≠ w.heap.size + 2 → WE.heap[k]? = W.heap[k]?) := by
  obtain ⟨WE, HWE, hhE, zE, bE, oE, tE, pE⟩ := cells_stored h.r7 (hdL a ga gc b1 b2 b3) (hdL_len _ _ _ _ _ _)
  have hl := h.lt
  refine ⟨(hdL a ga gc b1 b2 b3).toArray, WE, rfl, ?_, infoHrA _ _ _ _ _ _, hd_all _ _ _ _ _ _, HWE, hhE, h.r6.of_block (bE _ (by omega)), h.rp.on (bE _ (by omega)), ⟨oE.trans h.but.os, tE.trans h.but.tape, pE.trans h.but.output, by rw [zE]; exact h.but.size, fun k hk hn => ?_⟩, bE⟩
  · have e : (hdL a ga gc b1 b2 b3).toArray.size = 25 := by rw [List.size_toArray, hdL_len]
    show World.there _ _ _ _
    rw [e]
    exact row_there h.r7
  · rw [bE k (by omega)]
    exact h.but.block k hk hn
end
def lfV (p te ts : Nat) (sa : Option Addr) (sn sc : Nat) (span : Int) (oa : Option Addr) (on oc : Nat) : Value := .agg #[.int .u64 (p : Nat), .int .u64 (te : Nat), .int .u64 (ts : Nat), .slice sa sn sc, .int .i64 span, .slice oa on oc]
end Go.Proofs.Ytfmndfgdchhaeaa
