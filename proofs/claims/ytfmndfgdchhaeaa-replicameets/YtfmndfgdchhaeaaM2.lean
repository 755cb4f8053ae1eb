/- Own texts, joined: R6, R7, R8, R9, R10, R11, R12, R13. -/
import Derived.Test.YtfmndfgdchhaeaaM1

/- Package replica: beat. -/
namespace Go.Proofs.Ytfmndfgdchhaeaa
open Go.RowKit
set_option maxRecDepth 100000
set_option maxRecDepth 100000

theorem since_drewN' {B : Nat} {w w' : World} (h : w.Since B w') (n : Nat) : w.Since B (w'.drewN n) := ⟨h.os, h.tape, h.output, h.size, h.block⟩
/-- What a beat that is taken is answered. -/
def btG (m : Mg) (E R : Nat) : Mg := ((ansG m 7).setN 4 (E : Nat)).setN 7 (R : Nat)
theorem btG_v (m : Mg) (E R : Nat) (c : Bool) : hdV (btG m E R) none 0 true true c = .agg #[.int .i64 7, .int .i64 (m.n 2), .int .i64 (m.n 1), .int .i64 (m.n 3), .int .u64 (E : Nat), .int .u64 0, .int .u64 0, .int .u64 (R : Nat), .int .i64 0, .int .u64 0, .slice none 0 0, .int .i64 0, .int .u64 0, .string ⟨#[]⟩, .string ⟨#[]⟩, .int .u64 0, .int .u64 0, .int .u64 0, .int .i64 0, .int .i64 0, .int .i64 0, .int .i64 0, .bool true, .bool true, .bool c] := rfl
set_option maxHeartbeats 8000000 in
theorem beat_taken {rb : Nat} {r : Rp} {w : World} (h : RpIs w rb r) (m : Mg) (va : Option Addr) (vc : Nat) (E R : Nat) (S : Int) (h4 : m.n 4 = (E : Nat)) (h7 : m.n 7 = (R : Nat)) (h8 : m.n 8 = S) (hE : E < 18446744073709551616) (hS : S ≤ 9223372036854775807) (hge : r.p ≤ E) :
    Calls Try.prog 24 #[.pointer (some ⟨rb, 0, none⟩), mgV m va vc] w fun e w' => e = .returned (hdV (btG m E R) none 0 true true (decide (r.p ≠ E))) ∧ RpIs w' rb { r with p := E, wt := wtM S } ∧ But rb w w' := by
  obtain ⟨MM, HMM⟩ : ∃ x, Hid ((mgL m va vc).toArray = x) := ⟨_, rfl⟩
  have HINM : Hid ((Try.prog.info? 42).map (·.size) = some MM.size) := by rw [← HMM.out]; exact infoMgA _ _ _
  obtain ⟨W1, HW1⟩ : ∃ W, Hid (w.alloc (.cells MM 42) = W) := ⟨_, rfl⟩
  have s1 : w.Since w.heap.size W1 := by rw [← HW1.out]; exact (World.Since.refl _ _).alloc (Nat.le_refl _) _
  have z1 : W1.heap.size = w.heap.size + 1 := by rw [← HW1.out]; simp
  have r1 : W1.rowIs w.heap.size 42 22 (mgCell m va vc) := by rw [← HW1.out, ← HMM.out]; exact mg_row w m va vc
  obtain ⟨W2, HW2⟩ : ∃ W, Hid (W1.alloc hdZ = W) := ⟨_, rfl⟩
  have s2 : W1.Since W1.heap.size W2 := by rw [← HW2.out]; exact (World.Since.refl _ _).alloc (Nat.le_refl _) _
  have r2 : W2.rowIs (w.heap.size + 1) 49 25 (hdCell mg0 none 0 false false false) := by rw [← z1, ← HW2.out]; exact hdZ_row W1
  have rm2 := row_since r1 s2
  have sw2 : w.Since w.heap.size W2 := s1.trans (since_mono s2 s1.size)
  have z2 : W2.heap.size = w.heap.size + 1 + 1 := by rw [← HW2.out, ← z1]; simp
  have hR2 := h.since sw2
  have hrp := h.lt
  have c4 : W2.cell? ⟨w.heap.size, 4, none⟩ = some (.int .u64 (E : Nat)) := by
    have : W2.cell? ⟨w.heap.size, 4, none⟩ = some (.int .u64 (m.n 4)) := rm2.cell (i := 4) (by decide)
    rw [this, h4]
  have cp := hR2.c0
  have HPR : Hid (∀ W : World, W2.Since W2.heap.size W → Calls Try.prog 27 #[.pointer (some ⟨rb, 0, none⟩), .int .u64 (E : Nat)] W fun e w' => e = .returned (.bool (decide (r.p ≠ E))) ∧ w'.cell? ⟨w.heap.size, 8, none⟩ = some (.int .i64 S) ∧ Hid (RpIs w' rb { r with p := E } ∧ But rb W2 w')) := fun W hW => (promise_any (hR2.since hW) E hE).mono fun e w' ⟨he, h1, h2⟩ => by
    have h2 := (But.of_since (r := rb) hW).trans h2
    refine ⟨he, ?_, h1, h2⟩
    have : w'.cell? ⟨w.heap.size, 8, none⟩ = some (.int .i64 (m.n 8)) := (h2.row rm2 (by omega)).cell (i := 8) (by decide)
    rw [this, h8]
  have hq : decide ((E : Int) < (r.p : Int)) = false := by simp; omega
  have hq2 : ¬ ((E : Int) < (r.p : Int)) := by omega
  obtain ⟨CH, HCH⟩ : ∃ x, Hid (decide (r.p ≠ E) = x) := ⟨_, rfl⟩
  rw [HCH.out] at HPR ⊢
  have HRM := hide rm2
  have HRW := hide r2
  have HS2 := hide sw2
  have Hz2 := hide z2
  have HLT := hide hrp
  have H44 := hide h4
  unfold hdZ at HW2
  generalize r.p = P at cp hq hq2
  clear s1 r1 s2 r2 rm2 sw2 z2 hrp hR2 h h4 h8 hge HCH
  unfold mgV
  rw [HMM.out]
  go_enter Try.func24, Try.ntmps24
  go_upto_region 1 with fail
  rw [HW1.out]
  try rw [z1]
  rw [HW2.out]
  try rw [z1]
  clear HW1 HW2 z1
  have HC4 : Hid (∀ W : World, W2.Since W2.heap.size W → W.cell? ⟨w.heap.size, 4, none⟩ = some (.int .u64 (E : Nat))) := fun W hW => cell_later hW c4
  go_quiet (fail)
  have hsq : W2.Since W2.heap.size (W2.drewN nq) := since_drewN' (World.Since.refl _ _) nq
  generalize W2.drewN nq = Wq at *
  have cq4 := HC4.out Wq hsq
  have HQ3 := hide (HPR.out Wq hsq)
  clear HPR c4 cp hq hq2 HC4
  go_wp2_with fail
  refine HQ3.out.mono ?_
  rintro e w3 ⟨rfl, c8, H3⟩
  have HK4 : Hid (Calls Try.prog 21 #[.pointer (some ⟨rb, 0, none⟩), .int .i64 S] w3 fun e w' => e = .returned (.tuple #[]) ∧ Hid (RpIs w' rb { r with p := E, wt := wtM S } ∧ But rb W2 w')) := (keepOut_any H3.out.1 S hS).mono fun e w' ⟨he, h1, h2⟩ => ⟨he, h1, H3.out.2.trans h2⟩
  clear HQ3 cq4 hsq
  go_wp2_with fail
  refine HK4.out.mono ?_
  rintro e w4 ⟨rfl, H4⟩
  have hne : w.heap.size ≠ rb := by have := HLT.out; omega
  have HH4 : Hid (w4.heap[w.heap.size]? = some (.cells MM 42 (0, 0))) := by rw [← HMM.out]; exact row_heap (H4.out.2.row HRM.out hne)
  have HAN : Hid (Calls Try.prog 28 #[.agg MM, .int .i64 7] w4 fun e w' => e = .returned (mgV (ansG m 7) none 0) ∧ w4.Since w4.heap.size w') := by
    have q := answer_any m va vc 7 w4
    unfold mgV at q
    rw [HMM.out] at q
    exact q
  clear HK4 c8 H3
  go_wp2_with (refine wpList_load_row rfl 42 _ rfl w.heap.size rfl _ _ (0, 0) _ HH4.out Try.underlying42 rfl HINM.out ?_)
  refine HAN.out.mono ?_
  rintro e w5 ⟨rfl, hs5⟩
  obtain ⟨W6, MA, HMV, HT6, HW6, HIN, HON, HH6, HS6⟩ := mg_put w5 (ansG m 7) none 0
  rw [HMV.out]
  go_upto_region 6 with (refine wpList_store_mid rfl 42 _ _ rfl w5.heap.size 0 _ rfl rfl HT6.out HIN.out HON.out ?_; rw [HW6.out])
  have s46 : w4.Since w4.heap.size W6 := hs5.trans (since_mono HS6.out hs5.size)
  have hz2 := Hz2.out
  have hz4 : W2.heap.size ≤ w4.heap.size := H4.out.2.size
  have hz5 := hs5.size
  have r6 : W6.rowIs w5.heap.size 42 22 (mgCell (ansG m 7) none 0) := mg_cells (HH6.out W6 (World.Since.refl _ _)) HMV.out
  have r7 := row_setN (row_setN r6 4 (E : Nat) (by decide) (by decide) (by decide)) 7 (R : Nat) (by decide) (by decide) (by decide)
  have hrm6 := row_since (H4.out.2.row HRM.out hne) s46
  have c4 : W6.cell? ⟨w.heap.size, 4, none⟩ = some (.int .u64 (E : Nat)) := by
    have : W6.cell? ⟨w.heap.size, 4, none⟩ = some (.int .u64 (m.n 4)) := hrm6.cell (i := 4) (by decide)
    rw [this, H44.out]
  have c7 : W6.cell? ⟨w.heap.size, 7, none⟩ = some (.int .u64 (R : Nat)) := by
    have : W6.cell? ⟨w.heap.size, 7, none⟩ = some (.int .u64 (m.n 7)) := hrm6.cell (i := 7) (by decide)
    rw [this, h7]
  have d4 : W6.cell? ⟨w5.heap.size, 4, none⟩ = some (.int .u64 0) := r6.cell (i := 4) (by decide)
  have d7 : W6.cell? ⟨w5.heap.size, 7, none⟩ = some (.int .u64 0) := r6.cell (i := 7) (by decide)
  have f4 : W6.frozen? ⟨w5.heap.size, 4, none⟩ = false := r6.frozen 4
  have f7 : W6.frozen? ⟨w5.heap.size, 7, none⟩ = false := r6.frozen 7
  have hbl : (w5.heap.size == w.heap.size) = false := by simp; omega
  have hbl2 : ¬ (w5.heap.size = w.heap.size) := by omega
  obtain ⟨W7, HW7⟩ : ∃ W, Hid (((W6.setCell ⟨w5.heap.size, 4, none⟩ (.int .u64 (E : Nat))).setCell ⟨w5.heap.size, 7, none⟩ (.int .u64 (R : Nat))).drew = W) := ⟨_, rfl⟩
  have r7d : W7.rowIs w5.heap.size 42 22 (mgCell (btG m E R) none 0) := by rw [← HW7.out]; exact r7.of_block rfl
  have s47 : w4.Since w4.heap.size W7 := by
    rw [← HW7.out]
    exact (((But.of_since (r := w5.heap.size) (World.Since.refl _ _)).setCell 4 _).setCell 7 _).drew.since s46 hz5 s46.size
  have HH7 : Hid (W7.heap[w5.heap.size]? = some (.cells (mgL (btG m E R) none 0).toArray 42 (0, 0))) := row_heap r7d
  have hhn : w.heap.size + 1 ≠ rb := by have := HLT.out; omega
  have rr7 := row_since (H4.out.2.row HRW.out hhn) s47
  obtain ⟨W8, HW8, hh8, z8, b8, o8, t8, p8⟩ := cells_stored rr7 (hdL (btG m E R) none 0 true true CH) (hdL_len _ _ _ _ _ _)
  have bt7 : But rb w W7 := ((But.of_since HS2.out).trans H4.out.2).trans (But.of_since s47)
  have HE : Hid (RpIs W8 rb { r with p := E, wt := wtM S } ∧ But rb w W8) := by
    refine ⟨(H4.out.1.since s47).on (b8 _ (fun e => hhn e.symm)), o8.trans bt7.os, t8.trans bt7.tape, p8.trans bt7.output, by rw [z8]; exact bt7.size, fun k hk hr => ?_⟩
    rw [b8 k (by omega)]
    exact bt7.block k hk hr
  have HT7 : Hid (W7.there (w.heap.size + 1) 0 (hdL (btG m E R) none 0 true true CH).toArray.size) := by
    have e : (hdL (btG m E R) none 0 true true CH).toArray.size = 25 := by rw [List.size_toArray, hdL_len]
    show World.there _ _ _ _
    rw [e]
    exact row_there rr7
  have HH8 := hide hh8
  clear r6 r7 r7d s46 s47 rr7 hh8 z8 b8 o8 t8 p8 bt7 HH6 HS6 HT6 HON HIN HMV hs5 HW6 HH4 HAN H4 HRM HRW HS2 Hz2 HLT hz2 hz4 hz5 hrm6 hne hhn h7 HMM HINM
  go_region
  all_goals
    rw [HW7.out]
    go_upto_region 7 with fail
    refine wp_region_lit ?_
    refine wpList_load_row rfl 42 (.tmp 6) rfl w5.heap.size rfl _ (mgL (btG m E R) none 0).toArray (0, 0) _ HH7.out Try.underlying42 rfl (infoMgA _ _ _) ?_
    simp only [Act.put, List.setIfInBounds_toArray, List.set_cons_zero, List.set_cons_succ]
    refine wpList_plain rfl fun _ hK => op_run (.bool CH) (by kernel_rfl) (hK _ _ ?_)
    simp only [Act.put, List.setIfInBounds_toArray, List.set_cons_zero, List.set_cons_succ]
    refine wpList_plain rfl fun _ hK => op_run (hdV (btG m E R) none 0 true true CH) (by rw [btG_v]; kernel_rfl) (hK _ _ ?_)
    refine wpList_store_mid rfl 49 (.tmp 4) (.tmp 37) rfl (w.heap.size + 1) 0 (hdL (btG m E R) none 0 true true CH).toArray rfl rfl HT7.out (infoHrA _ _ _ _ _ _) (hd_all _ _ _ _ _ _) ?_
    rw [show (hdL (btG m E R) none 0 true true CH).toArray.toList = hdL (btG m E R) none 0 true true CH from rfl, HW8.out]
    go_wp2_with fail
    exact bodyPost_ret_by (results_cell_row rfl _ _ (w.heap.size + 1) 49 _ (0, 0) _ rfl HH8.out Try.underlying49 rfl (infoHrA _ _ _ _ _ _)) rfl ⟨rfl, HE.out⟩
end Go.Proofs.Ytfmndfgdchhaeaa

/- Package replica: a beat that is refused. -/
namespace Go.Proofs.Ytfmndfgdchhaeaa
open Go.RowKit
set_option maxRecDepth 100000
set_option maxRecDepth 100000

set_option maxHeartbeats 8000000 in
theorem beat_refused {rb : Nat} {r : Rp} {w : World} (h : RpIs w rb r) (m : Mg) (va : Option Addr) (vc : Nat) (E : Nat) (h4 : m.n 4 = (E : Nat)) (hlt : E < r.p) :
    Calls Try.prog 24 #[.pointer (some ⟨rb, 0, none⟩), mgV m va vc] w fun e w' => e = .returned (hdV (refG m E r.p) none 0 true false false) ∧ RpIs w' rb r ∧ But rb w w' := by
  obtain ⟨MM, HMM⟩ : ∃ x, Hid ((mgL m va vc).toArray = x) := ⟨_, rfl⟩
  have HINM : Hid ((Try.prog.info? 42).map (·.size) = some MM.size) := by rw [← HMM.out]; exact infoMgA _ _ _
  obtain ⟨W1, HW1⟩ : ∃ W, Hid (w.alloc (.cells MM 42) = W) := ⟨_, rfl⟩
  have s1 : w.Since w.heap.size W1 := by rw [← HW1.out]; exact (World.Since.refl _ _).alloc (Nat.le_refl _) _
  have z1 : W1.heap.size = w.heap.size + 1 := by rw [← HW1.out]; simp
  have r1 : W1.rowIs w.heap.size 42 22 (mgCell m va vc) := by rw [← HW1.out, ← HMM.out]; exact mg_row w m va vc
  obtain ⟨W2, HW2⟩ : ∃ W, Hid (W1.alloc hdZ = W) := ⟨_, rfl⟩
  have s2 : W1.Since W1.heap.size W2 := by rw [← HW2.out]; exact (World.Since.refl _ _).alloc (Nat.le_refl _) _
  have r2 : W2.rowIs (w.heap.size + 1) 49 25 (hdCell mg0 none 0 false false false) := by rw [← z1, ← HW2.out]; exact hdZ_row W1
  have rm2 := row_since r1 s2
  have sw2 : w.Since w.heap.size W2 := s1.trans (since_mono s2 s1.size)
  have z2 : W2.heap.size = w.heap.size + 1 + 1 := by rw [← HW2.out, ← z1]; simp
  have hR2 := h.since sw2
  have hrp := h.lt
  have HC4 : Hid (∀ W : World, W2.Since W2.heap.size W → W.cell? ⟨w.heap.size, 4, none⟩ = some (.int .u64 (E : Nat))) := fun W hW => by
    have : W.cell? ⟨w.heap.size, 4, none⟩ = some (.int .u64 (m.n 4)) := (row_since rm2 hW).cell (i := 4) (by decide)
    rw [this, h4]
  have c4 := HC4.out W2 (World.Since.refl _ _)
  have cp := hR2.c0
  have HHM : Hid (∀ W : World, W2.Since W2.heap.size W → W.heap[w.heap.size]? = some (.cells MM 42 (0, 0))) := fun W hW => by
    rw [← HMM.out]
    exact row_heap (row_since rm2 hW)
  have HRF : Hid (∀ W : World, W2.Since W2.heap.size W → Calls Try.prog 26 #[.pointer (some ⟨rb, 0, none⟩), .agg MM, .int .u64 (E : Nat)] W fun e w' => e = .returned (hdV (refG m E r.p) none 0 true false false) ∧ W2.Since W2.heap.size w') := fun W hW => by
    have q := refuse_any (hR2.since hW) m va vc E
    unfold mgV at q
    rw [HMM.out] at q
    exact q.mono fun e w' ⟨he, hs⟩ => ⟨he, hW.trans (since_mono hs hW.size)⟩
  have hq : decide ((E : Int) < (r.p : Int)) = true := by simp; omega
  have hq2 : (E : Int) < (r.p : Int) := by omega
  have HEND : Hid (∀ W : World, W2.Since W2.heap.size W → ∃ W8, Hid (W.setCells (w.heap.size + 1) 0 (hdL (refG m E r.p) none 0 true false false).toArray.toList = W8) ∧ Hid (W.there (w.heap.size + 1) 0 (hdL (refG m E r.p) none 0 true false false).toArray.size) ∧ Hid (W8.heap[w.heap.size + 1]? = some (.cells (hdL (refG m E r.p) none 0 true false false).toArray 49 (0, 0))) ∧ Hid (RpIs W8 rb r ∧ But rb w W8)) := fun W hW => by
    have rr := row_since r2 hW
    obtain ⟨W8, HW8, hh8, z8, b8, o8, t8, p8⟩ := cells_stored rr (hdL (refG m E r.p) none 0 true false false) (hdL_len _ _ _ _ _ _)
    have e : (hdL (refG m E r.p) none 0 true false false).toArray.size = 25 := by rw [List.size_toArray, hdL_len]
    have a := sw2.trans (since_mono hW sw2.size)
    refine ⟨W8, HW8, ?_, hh8, (hR2.since hW).on (b8 _ (by omega)), o8.trans a.os, t8.trans a.tape, p8.trans a.output, by rw [z8]; exact a.size, fun k hk _ => ?_⟩
    · show World.there _ _ _ _
      rw [e]
      exact row_there rr
    · rw [b8 k (by omega)]
      exact a.block k hk
  unfold hdZ at HW2
  unfold hdV at HRF ⊢
  have HIR := hide (infoHrA (refG m E r.p) none 0 true false false)
  have HAL := hide (hd_all (refG m E r.p) none 0 true false false)
  obtain ⟨HL, HHL⟩ : ∃ x, Hid ((hdL (refG m E r.p) none 0 true false false).toArray = x) := ⟨_, rfl⟩
  rw [HHL.out] at HRF HEND HIR HAL ⊢
  generalize hpp : r.p = P at cp hq hq2
  clear s1 r1 s2 r2 rm2 sw2 z2 hrp hR2 h h4 hlt hpp HHL
  unfold mgV
  rw [HMM.out]
  go_enter Try.func24, Try.ntmps24
  go_upto_region 1 with fail
  rw [HW1.out]
  try rw [z1]
  rw [HW2.out]
  try rw [z1]
  clear HW1 HW2 z1 HMM
  go_quiet (fail)
  have hsq : W2.Since W2.heap.size (W2.drewN nq) := since_drewN' (World.Since.refl _ _) nq
  generalize W2.drewN nq = Wq at *
  have cq4 := HC4.out Wq hsq
  have HHq := hide (HHM.out Wq hsq)
  have HQ3 := hide (HRF.out Wq hsq)
  clear HRF c4 cp hq hq2 HC4 HHM hsq
  go_wp2_with (refine wpList_load_row rfl 42 _ rfl w.heap.size rfl _ _ (0, 0) _ HHq.out Try.underlying42 rfl HINM.out ?_)
  refine HQ3.out.mono ?_
  rintro e w3 ⟨rfl, hs3⟩
  obtain ⟨W8, HW8, HT8, HH8, HE⟩ := HEND.out w3 hs3
  clear HQ3 HEND hs3 cq4 HHq
  go_wp2_with (refine wpList_store_mid rfl 49 _ _ rfl (w.heap.size + 1) 0 _ rfl rfl HT8.out HIR.out HAL.out ?_; rw [HW8.out])
  exact bodyPost_ret_by (results_cell_row rfl _ _ (w.heap.size + 1) 49 _ (0, 0) _ rfl HH8.out Try.underlying49 rfl HIR.out) rfl ⟨rfl, HE.out⟩
end Go.Proofs.Ytfmndfgdchhaeaa

/- Package replica: a prepare that is refused. -/
namespace Go.Proofs.Ytfmndfgdchhaeaa
open Go.RowKit
set_option maxRecDepth 100000
set_option maxRecDepth 100000

set_option maxHeartbeats 8000000 in
theorem prepare_refused {rb : Nat} {r : Rp} {w : World} (h : RpIs w rb r) (m : Mg) (va : Option Addr) (vc : Nat) (E : Nat) (h4 : m.n 4 = (E : Nat)) (hlt : E < r.p ∨ (r.p < E ∧ 0 < r.wt)) :
    Calls Try.prog 22 #[.pointer (some ⟨rb, 0, none⟩), mgV m va vc] w fun e w' => e = .returned (hdV (refG m E r.p) none 0 true false false) ∧ RpIs w' rb r ∧ But rb w w' := by
  obtain ⟨MM, HMM⟩ : ∃ x, Hid ((mgL m va vc).toArray = x) := ⟨_, rfl⟩
  have HINM : Hid ((Try.prog.info? 42).map (·.size) = some MM.size) := by rw [← HMM.out]; exact infoMgA _ _ _
  obtain ⟨W1, HW1⟩ : ∃ W, Hid (w.alloc (.cells MM 42) = W) := ⟨_, rfl⟩
  have s1 : w.Since w.heap.size W1 := by rw [← HW1.out]; exact (World.Since.refl _ _).alloc (Nat.le_refl _) _
  have z1 : W1.heap.size = w.heap.size + 1 := by rw [← HW1.out]; simp
  have r1 : W1.rowIs w.heap.size 42 22 (mgCell m va vc) := by rw [← HW1.out, ← HMM.out]; exact mg_row w m va vc
  obtain ⟨W2, HW2⟩ : ∃ W, Hid (W1.alloc hdZ = W) := ⟨_, rfl⟩
  have s2 : W1.Since W1.heap.size W2 := by rw [← HW2.out]; exact (World.Since.refl _ _).alloc (Nat.le_refl _) _
  have r2 : W2.rowIs (w.heap.size + 1) 49 25 (hdCell mg0 none 0 false false false) := by rw [← z1, ← HW2.out]; exact hdZ_row W1
  have rm2 := row_since r1 s2
  have sw2 : w.Since w.heap.size W2 := s1.trans (since_mono s2 s1.size)
  have z2 : W2.heap.size = w.heap.size + 1 + 1 := by rw [← HW2.out, ← z1]; simp
  have hR2 := h.since sw2
  have hrp := h.lt
  have HC4 : Hid (∀ W : World, W2.Since W2.heap.size W → W.cell? ⟨w.heap.size, 4, none⟩ = some (.int .u64 (E : Nat))) := fun W hW => by
    have : W.cell? ⟨w.heap.size, 4, none⟩ = some (.int .u64 (m.n 4)) := (row_since rm2 hW).cell (i := 4) (by decide)
    rw [this, h4]
  have c4 := HC4.out W2 (World.Since.refl _ _)
  have cp := hR2.c0
  have HHM : Hid (∀ W : World, W2.Since W2.heap.size W → W.heap[w.heap.size]? = some (.cells MM 42 (0, 0))) := fun W hW => by
    rw [← HMM.out]
    exact row_heap (row_since rm2 hW)
  have HRF : Hid (∀ W : World, W2.Since W2.heap.size W → Calls Try.prog 26 #[.pointer (some ⟨rb, 0, none⟩), .agg MM, .int .u64 (E : Nat)] W fun e w' => e = .returned (hdV (refG m E r.p) none 0 true false false) ∧ W2.Since W2.heap.size w') := fun W hW => by
    have q := refuse_any (hR2.since hW) m va vc E
    unfold mgV at q
    rw [HMM.out] at q
    exact q.mono fun e w' ⟨he, hs⟩ => ⟨he, hW.trans (since_mono hs hW.size)⟩
  have cw := hR2.c4
  have HEND : Hid (∀ W : World, W2.Since W2.heap.size W → ∃ W8, Hid (W.setCells (w.heap.size + 1) 0 (hdL (refG m E r.p) none 0 true false false).toArray.toList = W8) ∧ Hid (W.there (w.heap.size + 1) 0 (hdL (refG m E r.p) none 0 true false false).toArray.size) ∧ Hid (W8.heap[w.heap.size + 1]? = some (.cells (hdL (refG m E r.p) none 0 true false false).toArray 49 (0, 0))) ∧ Hid (RpIs W8 rb r ∧ But rb w W8)) := fun W hW => by
    have rr := row_since r2 hW
    obtain ⟨W8, HW8, hh8, z8, b8, o8, t8, p8⟩ := cells_stored rr (hdL (refG m E r.p) none 0 true false false) (hdL_len _ _ _ _ _ _)
    have e : (hdL (refG m E r.p) none 0 true false false).toArray.size = 25 := by rw [List.size_toArray, hdL_len]
    have a := sw2.trans (since_mono hW sw2.size)
    refine ⟨W8, HW8, ?_, hh8, (hR2.since hW).on (b8 _ (by omega)), o8.trans a.os, t8.trans a.tape, p8.trans a.output, by rw [z8]; exact a.size, fun k hk _ => ?_⟩
    · show World.there _ _ _ _
      rw [e]
      exact row_there rr
    · rw [b8 k (by omega)]
      exact a.block k hk
  unfold hdZ at HW2
  unfold hdV at HRF ⊢
  have HIR := hide (infoHrA (refG m E r.p) none 0 true false false)
  have HAL := hide (hd_all (refG m E r.p) none 0 true false false)
  obtain ⟨HL, HHL⟩ : ∃ x, Hid ((hdL (refG m E r.p) none 0 true false false).toArray = x) := ⟨_, rfl⟩
  rw [HHL.out] at HRF HEND HIR HAL ⊢
  rcases hlt with hlt | ⟨hlt, hlw⟩
  · skip
    have hq : decide ((E : Int) < (r.p : Int)) = true := by simp; omega
    have hq2 : (E : Int) < (r.p : Int) := by omega
    generalize hpp : r.p = P at cp hq hq2
    generalize hww : r.wt = WT at cw
    clear s1 r1 s2 r2 rm2 sw2 z2 hrp hR2 h h4 hlt hpp hww HHL
    unfold mgV
    rw [HMM.out]
    go_enter Try.func22, Try.ntmps22
    go_upto_region 1 with fail
    rw [HW1.out]
    try rw [z1]
    rw [HW2.out]
    try rw [z1]
    clear HW1 HW2 z1 HMM
    go_quiet (fail)
    have hsq : W2.Since W2.heap.size (W2.drewN nq) := since_drewN' (World.Since.refl _ _) nq
    generalize W2.drewN nq = Wq at *
    have cq4 := HC4.out Wq hsq
    have HHq := hide (HHM.out Wq hsq)
    have HQ3 := hide (HRF.out Wq hsq)
    clear HRF c4 cp cw hq hq2 HC4 HHM hsq
    go_wp2_with (refine wpList_load_row rfl 42 _ rfl w.heap.size rfl _ _ (0, 0) _ HHq.out Try.underlying42 rfl HINM.out ?_)
    refine HQ3.out.mono ?_
    rintro e w3 ⟨rfl, hs3⟩
    obtain ⟨W8, HW8, HT8, HH8, HE⟩ := HEND.out w3 hs3
    clear HQ3 HEND hs3 cq4 HHq
    go_wp2_with (refine wpList_store_mid rfl 49 _ _ rfl (w.heap.size + 1) 0 _ rfl rfl HT8.out HIR.out HAL.out ?_; rw [HW8.out])
    exact bodyPost_ret_by (results_cell_row rfl _ _ (w.heap.size + 1) 49 _ (0, 0) _ rfl HH8.out Try.underlying49 rfl HIR.out) rfl ⟨rfl, HE.out⟩
  · skip
    have hq : decide ((E : Int) < (r.p : Int)) = false := by simp; omega
    have hq2 : ¬ ((E : Int) < (r.p : Int)) := by omega
    have hq3 : decide ((E : Int) > (r.p : Int)) = true := by simp; omega
    have hq4 : (E : Int) > (r.p : Int) := by omega
    have hq5 : decide (r.wt > 0) = true := by simp; omega
    have hq6 : r.wt > 0 := by omega
    generalize hpp : r.p = P at cp hq hq2 hq3 hq4
    generalize hww : r.wt = WT at cw hq5 hq6
    clear s1 r1 s2 r2 rm2 sw2 z2 hrp hR2 h h4 hlt hlw hpp hww HHL
    unfold mgV
    rw [HMM.out]
    go_enter Try.func22, Try.ntmps22
    go_upto_region 1 with fail
    rw [HW1.out]
    try rw [z1]
    rw [HW2.out]
    try rw [z1]
    clear HW1 HW2 z1 HMM
    go_quiet (fail)
    have hsq : W2.Since W2.heap.size (W2.drewN nq) := since_drewN' (World.Since.refl _ _) nq
    generalize W2.drewN nq = Wq at *
    have cq4 := HC4.out Wq hsq
    have HHq := hide (HHM.out Wq hsq)
    have HQ3 := hide (HRF.out Wq hsq)
    clear HRF c4 cp cw hq hq2 hq3 hq4 hq5 hq6 HC4 HHM hsq
    go_wp2_with (refine wpList_load_row rfl 42 _ rfl w.heap.size rfl _ _ (0, 0) _ HHq.out Try.underlying42 rfl HINM.out ?_)
    refine HQ3.out.mono ?_
    rintro e w3 ⟨rfl, hs3⟩
    obtain ⟨W8, HW8, HT8, HH8, HE⟩ := HEND.out w3 hs3
    clear HQ3 HEND hs3 cq4 HHq
    go_wp2_with (refine wpList_store_mid rfl 49 _ _ rfl (w.heap.size + 1) 0 _ rfl rfl HT8.out HIR.out HAL.out ?_; rw [HW8.out])
    exact bodyPost_ret_by (results_cell_row rfl _ _ (w.heap.size + 1) 49 _ (0, 0) _ rfl HH8.out Try.underlying49 rfl HIR.out) rfl ⟨rfl, HE.out⟩
end Go.Proofs.Ytfmndfgdchhaeaa

/- Package replica: a prepare that is promised. -/
namespace Go.Proofs.Ytfmndfgdchhaeaa
open Go.RowKit
set_option maxRecDepth 100000
set_option maxRecDepth 100000

/-- What a prepare that is promised is answered. -/
def prG (m : Mg) (E : Nat) (r : Rp) : Mg := ((((ansG m 2).setN 4 (E : Nat)).setN 5 (r.te : Nat)).setN 6 (r.ts : Nat)).setS 10 r.v
theorem prG_v (m : Mg) (E : Nat) (r : Rp) (va : Option Addr) (vc : Nat) (c : Bool) : hdV (prG m E r) va vc true false c = .agg #[.int .i64 2, .int .i64 (m.n 2), .int .i64 (m.n 1), .int .i64 (m.n 3), .int .u64 (E : Nat), .int .u64 (r.te : Nat), .int .u64 (r.ts : Nat), .int .u64 0, .int .i64 0, .int .u64 0, .slice va r.v.length vc, .int .i64 0, .int .u64 0, .string ⟨#[]⟩, .string ⟨#[]⟩, .int .u64 0, .int .u64 0, .int .u64 0, .int .i64 0, .int .i64 0, .int .i64 0, .int .i64 0, .bool true, .bool false, .bool c] := rfl
theorem setCells_two (W : World) (b o : Nat) (x y : Value) : W.setCells b o [x, y] = (W.setCell ⟨b, o, none⟩ x).setCell ⟨b, o + 1, none⟩ y := rfl
theorem infoTg : (Try.prog.info? 37).map (·.size) = some 2 := by kernel_rfl
theorem run_storeVar_cell {P : Program} (w : World) (b o : Nat) (ty : TypeId) (v old : Value) (hc : w.cell? ⟨b, o, none⟩ = some old) (hf : w.frozen? ⟨b, o, none⟩ = false) (hi : (P.info? ty).map (·.size) = some 1) (h1 : v.oneCell' = true) :
    (storeVar ty ⟨b, o, none⟩ v).run P w = .ok () (w.setCell ⟨b, o, none⟩ v) := by
  have := run_storeCells_cells (P := P) b o [v] 0 w (fun j hj => by
    have : j = 0 := by simpa using hj
    subst this
    simp [hc]) (fun j hj => by
    have : j = 0 := by simpa using hj
    subst this
    simpa using hf) (fun x hx => by simp at hx; subst hx; exact h1)
  have hcs : v.cells = #[v] := by cases v <;> first | rfl | cases h1
  cases hq : P.info? ty with
  | none => simp [hq] at hi
  | some i =>
    have hs : i.size = 1 := by simpa [hq] using hi
    simp only [Nat.add_zero] at this
    simp [storeVar, sizeOf, typeInfo, hq, hcs, hs, this]
    rfl
theorem wp_store_cell {P : Program} {op : Oper} {a : Act} {w : World} {K : Act → World → Prop} {Q : Exit → Act → World → Prop} (ty : TypeId) (x y : Operand) (ho : op.op = .store ty x y) (b o : Nat) (v old : Value) (hx : a.eval x = .pointer (some ⟨b, o, none⟩)) (hy : a.eval y = v)
    (hc : w.cell? ⟨b, o, none⟩ = some old) (hf : w.frozen? ⟨b, o, none⟩ = false) (hi : (P.info? ty).map (·.size) = some 1) (h1 : v.oneCell' = true) (h : K (a.put op.dst undef) (w.setCell ⟨b, o, none⟩ v)) : op.wp P a w K Q := by
  unfold Oper.wp execOp
  simp only [ho, hx, hy, Instr.storeAt, Instr.sureAddr, Sem.run_bind, Sem.run_pure, Result.andThen_ok, run_storeVar_cell w b o ty v old hc hf hi h1]
  exact h
/-- While an answer is being filled: the copy, the message, the answer's row. -/
structure Pz (w4 : World) (rb : Nat) (r : Rp) (mb E ab N : Nat) (W : World) (mm : Mg) (va : Option Addr) (vc : Nat) : Prop where
  rp : RpIs W rb r
  c4 : W.cell? ⟨mb, 4, none⟩ = some (.int .u64 (E : Nat))
  row : W.rowIs ab 42 22 (mgCell mm va vc)
  since : w4.Since w4.heap.size W
  size : W.heap.size = N
  ge : w4.heap.size ≤ ab
  ne : rb ≠ ab ∧ mb ≠ ab
theorem Pz.set {w4 : World} {rb mb E ab N : Nat} {r : Rp} {W : World} {mm mm' : Mg} {va va' : Option Addr} {vc vc' : Nat} (h : Pz w4 rb r mb E ab N W mm va vc) (c : Nat) (v : Value) (hr : (W.setCell ⟨ab, c, none⟩ v).rowIs ab 42 22 (mgCell mm' va' vc')) : Pz w4 rb r mb E ab N (W.setCell ⟨ab, c, none⟩ v) mm' va' vc' := by
  have b : But ab W (W.setCell ⟨ab, c, none⟩ v) := (But.of_since (World.Since.refl _ _)).setCell c v
  refine ⟨h.rp.but b h.ne.1, ?_, hr, b.since h.since h.ge h.since.size, by rw [← h.size]; simp [World.setCell], h.ge, h.ne⟩
  rw [World.cell?_of_block (a := ⟨mb, 4, none⟩) (Below.heap_setCell _ _ _ _ h.ne.2)]
  exact h.c4
theorem Pz.conv {w4 : World} {rb mb E ab N : Nat} {r : Rp} {W : World} {mm : Mg} {va : Option Addr} {vc : Nat} (h : Pz w4 rb r mb E ab N W mm va vc) (V : List Nat) : ∃ (C : Nat) (W' : World), Hid ((convert 9 29 (.string (strL V))).run Try.prog W = .ok (.slice (some ⟨N, 0, none⟩) V.length C) W') ∧ Hid (Pz w4 rb r mb E ab (N + 1) W' mm va vc) ∧ Hid (FlB W' N C (strL V)) := by
  have hcv := Lib.run_convert_string_bytes (P := Try.prog) W 9 29 5 (strL V) Try.underlying9 Try.underlying29 Try.underlying5
  have hF := flb_new W (strL V)
  have hs := since_bytes W (strL V)
  have hz := Lib.bytesWorld_size W 5 (strL V)
  rw [strL_size V] at hcv
  rw [h.size] at hcv hF
  refine ⟨_, _, hcv, ⟨h.rp.since hs, cell_later hs h.c4, row_since h.row hs, h.since.trans (since_mono hs h.since.size), ?_, h.ge, h.ne⟩, by rw [strL_size V] at hF; exact hF⟩
  rw [hz, h.size]
theorem FlB.set {W : World} {g C ab c : Nat} {s : ByteArray} {v : Value} (h : FlB W g C s) (hne : g ≠ ab) : FlB (W.setCell ⟨ab, c, none⟩ v) g C s := h.on (Below.heap_setCell _ _ _ _ hne)
set_option maxHeartbeats 8000000 in
theorem prepare_taken {rb : Nat} {r : Rp} {w : World} (h : RpIs w rb r) (m : Mg) (va : Option Addr) (vc : Nat) (E : Nat) (h4 : m.n 4 = (E : Nat)) (hE : E < 18446744073709551616) (hge : E = r.p ∨ (r.p < E ∧ r.wt = 0)) :
    Calls Try.prog 22 #[.pointer (some ⟨rb, 0, none⟩), mgV m va vc] w fun e w' => ∃ g c, e = .returned (hdV (prG m E r) (some ⟨g, 0, none⟩) c true false (decide (r.p ≠ E))) ∧ RpIs w' rb { r with p := E } ∧ But rb w w' ∧ w.heap.size ≤ g ∧ FlB w' g c (strL r.v) := by
  obtain ⟨MM, HMM⟩ : ∃ x, Hid ((mgL m va vc).toArray = x) := ⟨_, rfl⟩
  have HINM : Hid ((Try.prog.info? 42).map (·.size) = some MM.size) := by rw [← HMM.out]; exact infoMgA _ _ _
  obtain ⟨W1, HW1⟩ : ∃ W, Hid (w.alloc (.cells MM 42) = W) := ⟨_, rfl⟩
  have s1 : w.Since w.heap.size W1 := by rw [← HW1.out]; exact (World.Since.refl _ _).alloc (Nat.le_refl _) _
  have z1 : W1.heap.size = w.heap.size + 1 := by rw [← HW1.out]; simp
  have r1 : W1.rowIs w.heap.size 42 22 (mgCell m va vc) := by rw [← HW1.out, ← HMM.out]; exact mg_row w m va vc
  obtain ⟨W2, HW2⟩ : ∃ W, Hid (W1.alloc hdZ = W) := ⟨_, rfl⟩
  have s2 : W1.Since W1.heap.size W2 := by rw [← HW2.out]; exact (World.Since.refl _ _).alloc (Nat.le_refl _) _
  have r2 : W2.rowIs (w.heap.size + 1) 49 25 (hdCell mg0 none 0 false false false) := by rw [← z1, ← HW2.out]; exact hdZ_row W1
  have rm2 := row_since r1 s2
  have sw2 : w.Since w.heap.size W2 := s1.trans (since_mono s2 s1.size)
  have z2 : W2.heap.size = w.heap.size + 1 + 1 := by rw [← HW2.out, ← z1]; simp
  have hR2 := h.since sw2
  have hrp := h.lt
  have c4 : W2.cell? ⟨w.heap.size, 4, none⟩ = some (.int .u64 (E : Nat)) := by
    have : W2.cell? ⟨w.heap.size, 4, none⟩ = some (.int .u64 (m.n 4)) := rm2.cell (i := 4) (by decide)
    rw [this, h4]
  have cp := hR2.c0
  have cw := hR2.c4
  have HPR : Hid (∀ W : World, W2.Since W2.heap.size W → Calls Try.prog 27 #[.pointer (some ⟨rb, 0, none⟩), .int .u64 (E : Nat)] W fun e w' => e = .returned (.bool (decide (r.p ≠ E))) ∧ Hid (RpIs w' rb { r with p := E } ∧ But rb W2 w')) := fun W hW => (promise_any (hR2.since hW) E hE).mono fun e w' ⟨he, h1, h2⟩ => ⟨he, h1, (But.of_since (r := rb) hW).trans h2⟩
  have hq : decide ((E : Int) < (r.p : Int)) = false := by simp; omega
  have hq2 : ¬ ((E : Int) < (r.p : Int)) := by omega
  obtain ⟨CH, HCH⟩ : ∃ x, Hid (decide (r.p ≠ E) = x) := ⟨_, rfl⟩
  rw [HCH.out] at HPR ⊢
  have HRM := hide rm2
  have HRW := hide r2
  have HS2 := hide sw2
  have Hz2 := hide z2
  have HLT := hide hrp
  have H44 := hide h4
  have HEE := hide hE
  unfold hdZ at HW2
  have HC4 : Hid (∀ W : World, W2.Since W2.heap.size W → W.cell? ⟨w.heap.size, 4, none⟩ = some (.int .u64 (E : Nat))) := fun W hW => cell_later hW c4
  have HWL : Hid (∀ (Wq : World) (Q : Prop), (W2.Since W2.heap.size Wq → Q) → W2.Since W2.heap.size Wq → Q) := fun _ _ f x => f x
  have hok := hide h.ok
  have KEY : ∀ (b : Bool), True := fun _ => trivial
  obtain ⟨P, TE, TS, V, WT⟩ := r
  replace cp : W2.cell? ⟨rb, 0, none⟩ = some (.int .u64 (P : Nat)) := cp
  replace cw : W2.cell? ⟨rb, 4, none⟩ = some (.int .i64 WT) := cw
  replace hq : decide ((E : Int) < (P : Int)) = false := hq
  replace hq2 : ¬ ((E : Int) < (P : Int)) := hq2
  replace HPR : Hid (∀ W : World, W2.Since W2.heap.size W → Calls Try.prog 27 #[.pointer (some ⟨rb, 0, none⟩), .int .u64 (E : Nat)] W fun e w' => e = .returned (.bool CH) ∧ Hid (RpIs w' rb ⟨E, TE, TS, V, WT⟩ ∧ But rb W2 w')) := HPR
  rcases hge with hge | ⟨hge, hg0⟩
  · replace hge : E = P := hge
    have hq3 : decide ((E : Int) > (P : Int)) = false := by simp; omega
    have hq4 : ¬ ((E : Int) > (P : Int)) := by omega
    clear s1 r1 s2 r2 rm2 sw2 z2 hrp hR2 h h4 hge HCH hE KEY HWL
    unfold mgV
    rw [HMM.out]
    go_enter Try.func22, Try.ntmps22
    go_upto_region 1 with fail
    rw [HW1.out]
    try rw [z1]
    rw [HW2.out]
    try rw [z1]
    clear HW1 HW2 z1
    go_quiet (fail)
    have hsq : W2.Since W2.heap.size (W2.drewN nq) := since_drewN' (World.Since.refl _ _) nq
    generalize W2.drewN nq = Wq at *
    have cq4 := HC4.out Wq hsq
    have HQ3 := hide (HPR.out Wq hsq)
    clear HPR c4 cp cw hq hq2 hq3 hq4 HC4
    go_wp2_with fail
    refine HQ3.out.mono ?_
    rintro e w4 ⟨rfl, H4⟩
    clear HQ3 cq4 hsq
    have hne : w.heap.size ≠ rb := by have := HLT.out; omega
    have HH4 : Hid (w4.heap[w.heap.size]? = some (.cells MM 42 (0, 0))) := by rw [← HMM.out]; exact row_heap (H4.out.2.row HRM.out hne)
    have HAN : Hid (Calls Try.prog 28 #[.agg MM, .int .i64 2] w4 fun e w' => e = .returned (mgV (ansG m 2) none 0) ∧ w4.Since w4.heap.size w') := by
      have q := answer_any m va vc 2 w4
      unfold mgV at q
      rw [HMM.out] at q
      exact q
    go_wp2_with (refine wpList_load_row rfl 42 _ rfl w.heap.size rfl _ _ (0, 0) _ HH4.out Try.underlying42 rfl HINM.out ?_)
    refine HAN.out.mono ?_
    rintro e w5 ⟨rfl, hs5⟩
    obtain ⟨W6, MA, HMV, HT6, HW6, HIN, HON, HH6, HS6⟩ := mg_put w5 (ansG m 2) none 0
    rw [HMV.out]
    go_upto_region 5 with (refine wpList_store_mid rfl 42 _ _ rfl w5.heap.size 0 _ rfl rfl HT6.out HIN.out HON.out ?_; rw [HW6.out])
    have s46 : w4.Since w4.heap.size W6 := hs5.trans (since_mono HS6.out hs5.size)
    have hz2 := Hz2.out
    have hz4 : W2.heap.size ≤ w4.heap.size := H4.out.2.size
    have hz5 := hs5.size
    have r6 : W6.rowIs w5.heap.size 42 22 (mgCell (ansG m 2) none 0) := mg_cells (HH6.out W6 (World.Since.refl _ _)) HMV.out
    have hz6 : w5.heap.size < W6.heap.size := r6.lt
    have hrm6 := row_since (H4.out.2.row HRM.out hne) s46
    have hR6 : RpIs W6 rb ⟨E, TE, TS, V, WT⟩ := H4.out.1.since s46
    have hltr := HLT.out
    have hc6 : W6.drew.cell? ⟨w.heap.size, 4, none⟩ = some (.int .u64 (E : Nat)) := by
      have : W6.drew.cell? ⟨w.heap.size, 4, none⟩ = some (.int .u64 (m.n 4)) := hrm6.cell (i := 4) (by decide)
      rw [this, H44.out]
    have HZ0 : Hid (Pz w4 rb ⟨E, TE, TS, V, WT⟩ w.heap.size E w5.heap.size W6.heap.size W6.drew (ansG m 2) none 0) := ⟨hR6.since ((World.Since.refl _ _).drew), hc6, r6, s46.drew, rfl, hz5, by omega, by omega⟩
    have hhn : w.heap.size + 1 ≠ rb := by omega
    have HEND : Hid (∀ (W9 : World) (C : Nat), Pz w4 rb ⟨E, TE, TS, V, WT⟩ w.heap.size E w5.heap.size (W6.heap.size + 1) W9 (prG m E ⟨P, TE, TS, V, WT⟩) (some ⟨W6.heap.size, 0, none⟩) C → FlB W9 W6.heap.size C (strL V) → ∃ (MB HL : Array Value) (WA : World), Hid (W9.heap[w5.heap.size]? = some (.cells MB 42 (0, 0))) ∧ Hid ((Try.prog.info? 42).map (·.size) = some MB.size) ∧ Hid (MB = (mgL (prG m E ⟨P, TE, TS, V, WT⟩) (some ⟨W6.heap.size, 0, none⟩) C).toArray) ∧ Hid (hdV (prG m E ⟨P, TE, TS, V, WT⟩) (some ⟨W6.heap.size, 0, none⟩) C true false CH = .agg HL) ∧ Hid (W9.there (w.heap.size + 1) 0 HL.size) ∧ Hid ((Try.prog.info? 49).map (·.size) = some HL.size) ∧ Hid (HL.all (·.oneCell') = true) ∧ Hid (W9.setCells (w.heap.size + 1) 0 HL.toList = WA) ∧ Hid (WA.heap[w.heap.size + 1]? = some (.cells HL 49 (0, 0))) ∧ Hid (RpIs WA rb ⟨E, TE, TS, V, WT⟩ ∧ But rb w WA ∧ w.heap.size ≤ W6.heap.size ∧ FlB WA W6.heap.size C (strL V))) := fun W9 C hz hF => by
      have s49 := hz.since
      have rr9 := row_since (H4.out.2.row HRW.out hhn) s49
      obtain ⟨WA, HWA, hhA, zA, bA, oA, tA, pA⟩ := cells_stored rr9 (hdL (prG m E ⟨P, TE, TS, V, WT⟩) (some ⟨W6.heap.size, 0, none⟩) C true false CH) (hdL_len _ _ _ _ _ _)
      have bt9 : But rb w W9 := ((But.of_since HS2.out).trans H4.out.2).trans (But.of_since s49)
      have e : (hdL (prG m E ⟨P, TE, TS, V, WT⟩) (some ⟨W6.heap.size, 0, none⟩) C true false CH).toArray.size = 25 := by rw [List.size_toArray, hdL_len]
      refine ⟨_, _, WA, row_heap hz.row, infoMgA _ _ _, rfl, rfl, ?_, infoHrA _ _ _ _ _ _, hd_all _ _ _ _ _ _, HWA, hhA, (H4.out.1.since s49).on (bA _ (fun e => hhn e.symm)), ⟨oA.trans bt9.os, tA.trans bt9.tape, pA.trans bt9.output, by rw [zA]; exact bt9.size, fun k hk hr => ?_⟩, by omega, hF.on (bA _ (by omega))⟩
      · show World.there _ _ _ _
        rw [e]
        exact row_there rr9
      · rw [bA k (by omega)]
        exact bt9.block k hk hr
    have hzd : W6.heap.size ≠ w5.heap.size := by omega
    have HNE := hide hzd
    clear r6 s46 HH6 HS6 HT6 HON HIN HMV hs5 HW6 HH4 HAN H4 HRM HRW HS2 Hz2 HLT hz2 hz4 hz5 hz6 hrm6 hne hhn HMM HINM hR6 hc6 hltr hok HEE H44 hzd
    generalize W6.heap.size = N at *
    refine wp_region_held_drew (S := fun W => RpIs W rb ⟨E, TE, TS, V, WT⟩ ∧ W.cell? ⟨w.heap.size, 4, none⟩ = some (.int .u64 (E : Nat))) (by kernel_rfl) ⟨HZ0.out.rp, HZ0.out.c4⟩ fun _ => ?_
    refine wpAnyH_take (i := 0) (v := .pointer (some ⟨w.heap.size, 4, none⟩)) rfl (by kernel_rfl) (by kernel_rfl) (by kernel_rfl) (fun _ _ _ h => h) (.inl ⟨rfl, fun W hW => by kernel_rfl⟩) ⟨HZ0.out.rp, HZ0.out.c4⟩ ?_
    simp only [List.getElem_toArray, List.getElem_cons_zero, Act.put, List.setIfInBounds_toArray, List.set_cons_zero, List.set_cons_succ]
    refine wpAnyH_take (i := 1) (v := .int .u64 (E : Nat)) rfl (by kernel_rfl) (by kernel_rfl) (by kernel_rfl) (fun _ _ _ h => h) (.inl ⟨rfl, fun W hW => by have c := hW.2; go_simp⟩) ⟨HZ0.out.rp, HZ0.out.c4⟩ ?_
    simp only [List.getElem_toArray, List.getElem_cons_zero, List.getElem_cons_succ, Act.put, List.setIfInBounds_toArray, List.set_cons_zero, List.set_cons_succ]
    refine wpAnyH_take (i := 2) (v := .pointer (some ⟨rb, 0, none⟩)) rfl (by kernel_rfl) (by kernel_rfl) (by kernel_rfl) (fun _ _ _ h => h) (.inl ⟨rfl, fun W hW => by kernel_rfl⟩) ⟨HZ0.out.rp, HZ0.out.c4⟩ ?_
    simp only [List.getElem_toArray, List.getElem_cons_zero, List.getElem_cons_succ, Act.put, List.setIfInBounds_toArray, List.set_cons_zero, List.set_cons_succ]
    refine wpAnyH_take (i := 3) (v := .pointer (some ⟨rb, 0, none⟩)) rfl (by kernel_rfl) (by kernel_rfl) (by kernel_rfl) (fun _ _ _ h => h) (.inl ⟨rfl, fun W hW => by first | kernel_rfl | go_simp⟩) ⟨HZ0.out.rp, HZ0.out.c4⟩ ?_
    simp only [List.getElem_toArray, List.getElem_cons_zero, List.getElem_cons_succ, Act.put, List.setIfInBounds_toArray, List.set_cons_zero, List.set_cons_succ]
    refine wpAnyH_take (i := 4) (v := .pointer (some ⟨rb, 1, none⟩)) rfl (by kernel_rfl) (by kernel_rfl) (by kernel_rfl) (fun _ _ _ h => h) (.inl ⟨rfl, fun W hW => by kernel_rfl⟩) ⟨HZ0.out.rp, HZ0.out.c4⟩ ?_
    simp only [List.getElem_toArray, List.getElem_cons_zero, List.getElem_cons_succ, Act.put, List.setIfInBounds_toArray, List.set_cons_zero, List.set_cons_succ]
    refine wpAnyH_take (i := 5) (v := .agg #[.int .u64 (TE : Nat), .int .u64 (TS : Nat)]) rfl (by kernel_rfl) (by kernel_rfl) (by kernel_rfl) (fun _ _ _ h => h) (.inl ⟨rfl, fun W hW => by have c := hW.1.c1; have c2 := hW.1.c2; go_simp⟩) ⟨HZ0.out.rp, HZ0.out.c4⟩ ?_
    simp only [List.getElem_toArray, List.getElem_cons_zero, List.getElem_cons_succ, Act.put, List.setIfInBounds_toArray, List.set_cons_zero, List.set_cons_succ]
    refine wpAnyH_take (i := 6) (v := .pointer (some ⟨rb, 0, none⟩)) rfl (by kernel_rfl) (by kernel_rfl) (by kernel_rfl) (fun _ _ _ h => h) (.inl ⟨rfl, fun W hW => by kernel_rfl⟩) ⟨HZ0.out.rp, HZ0.out.c4⟩ ?_
    simp only [List.getElem_toArray, List.getElem_cons_zero, List.getElem_cons_succ, Act.put, List.setIfInBounds_toArray, List.set_cons_zero, List.set_cons_succ]
    refine wpAnyH_take (i := 7) (v := .pointer (some ⟨rb, 0, none⟩)) rfl (by kernel_rfl) (by kernel_rfl) (by kernel_rfl) (fun _ _ _ h => h) (.inl ⟨rfl, fun W hW => by first | kernel_rfl | go_simp⟩) ⟨HZ0.out.rp, HZ0.out.c4⟩ ?_
    simp only [List.getElem_toArray, List.getElem_cons_zero, List.getElem_cons_succ, Act.put, List.setIfInBounds_toArray, List.set_cons_zero, List.set_cons_succ]
    refine wpAnyH_take (i := 8) (v := .pointer (some ⟨rb, 3, none⟩)) rfl (by kernel_rfl) (by kernel_rfl) (by kernel_rfl) (fun _ _ _ h => h) (.inl ⟨rfl, fun W hW => by kernel_rfl⟩) ⟨HZ0.out.rp, HZ0.out.c4⟩ ?_
    simp only [List.getElem_toArray, List.getElem_cons_zero, List.getElem_cons_succ, Act.put, List.setIfInBounds_toArray, List.set_cons_zero, List.set_cons_succ]
    refine wpAnyH_take (i := 9) (v := .string (strL V)) rfl (by kernel_rfl) (by kernel_rfl) (by kernel_rfl) (fun _ _ _ h => h) (.inl ⟨rfl, fun W hW => by have c := hW.1.c3; go_simp⟩) ⟨HZ0.out.rp, HZ0.out.c4⟩ ?_
    simp only [List.getElem_toArray, List.getElem_cons_zero, List.getElem_cons_succ, Act.put, List.setIfInBounds_toArray, List.set_cons_zero, List.set_cons_succ]
    refine wpAnyH_take (i := 11) (v := .pointer (some ⟨w5.heap.size, 4, none⟩)) rfl (by kernel_rfl) (by kernel_rfl) (by kernel_rfl) (fun _ _ _ h => h) (.inl ⟨rfl, fun W hW => by kernel_rfl⟩) ⟨HZ0.out.rp, HZ0.out.c4⟩ ?_
    simp only [List.getElem_toArray, List.getElem_cons_zero, List.getElem_cons_succ, Act.put, List.setIfInBounds_toArray, List.set_cons_zero, List.set_cons_succ]
    refine wpAnyH_ready (rs := [10, 12]) (by kernel_rfl) (by simp) ?_
    refine AllReadyH.cons rfl (fun K hK => ?_) ?_
    · skip
      obtain ⟨C, Wc, HCV, HZc, HFc⟩ := HZ0.out.conv V
      refine step_storeM rfl (op_runW (w' := Wc) (.slice (some ⟨N, 0, none⟩) V.length C) ?_ ?_)
      · have r := HCV.out
        go_simp
      refine hK.out _ _ ⟨HZc.out.rp, HZc.out.c4⟩ fun _ => ?_
      clear hK
      simp only [List.getElem_toArray, List.getElem_cons_zero, List.getElem_cons_succ, Act.put, List.setIfInBounds_toArray, List.set_cons_zero, List.set_cons_succ]
      refine wpAnyH_ready (rs := [12]) (by kernel_rfl) (by simp) ?_
      refine AllReadyH.cons rfl (fun K hK => ?_) AllReadyH.nil
      refine step_storeM rfl (wp_store_cell 33 (.tmp 52) (.tmp 42) rfl w5.heap.size 4 (.int .u64 (E : Nat)) _ rfl rfl (HZc.out.row.cell (i := 4) (by decide)) (HZc.out.row.frozen 4) (by kernel_rfl) rfl ?_)
      have HZ7 : Hid (Pz w4 rb ⟨E, TE, TS, V, WT⟩ w.heap.size E w5.heap.size (N + 1) (Wc.setCell ⟨w5.heap.size, 4, none⟩ (.int .u64 (E : Nat))) ((ansG m 2).setN 4 (E : Nat)) none 0) := (HZc.out.set 4 _ (row_setN HZc.out.row 4 (E : Nat) (by decide) (by decide) (by decide)))
      have HF7 := hide (HFc.out.set (ab := w5.heap.size) (c := 4) (v := .int .u64 (E : Nat)) HNE.out)
      generalize World.setCell _ ⟨w5.heap.size, 4, none⟩ (.int .u64 (E : Nat)) = W7 at *
      refine hK.out _ _ ⟨HZ7.out.rp, HZ7.out.c4⟩ fun _ => ?_
      clear hK
      simp only [List.getElem_toArray, List.getElem_cons_zero, List.getElem_cons_succ, Act.put]
      refine wpAnyH_take (i := 13) (v := .pointer (some ⟨w5.heap.size, 5, none⟩)) rfl (by kernel_rfl) (by kernel_rfl) (by kernel_rfl) (fun _ _ _ h => h) (.inl ⟨rfl, fun W hW => by kernel_rfl⟩) ⟨HZ7.out.rp, HZ7.out.c4⟩ ?_
      simp only [List.getElem_toArray, List.getElem_cons_zero, List.getElem_cons_succ, Act.put, List.setIfInBounds_toArray, List.set_cons_zero, List.set_cons_succ]
      refine wpAnyH_ready (rs := [14]) (by kernel_rfl) (by simp) ?_
      refine AllReadyH.cons rfl (fun K hK => ?_) AllReadyH.nil
      refine step_storeM rfl (wp_store_mid 37 (.tmp 53) (.tmp 46) rfl w5.heap.size 5 _ rfl rfl (fun j hj => ⟨by rw [HZ7.out.row.cell (by have : j < 2 := hj; omega)]; rfl, HZ7.out.row.frozen _⟩) infoTg (by simp [Value.oneCell']) ?_)
      rw [show (W7.setCells w5.heap.size 5 _) = (W7.setCell ⟨w5.heap.size, 5, none⟩ (.int .u64 (TE : Nat))).setCell ⟨w5.heap.size, 6, none⟩ (.int .u64 (TS : Nat)) from rfl]
      have HZ8 : Hid (Pz w4 rb ⟨E, TE, TS, V, WT⟩ w.heap.size E w5.heap.size (N + 1) ((W7.setCell ⟨w5.heap.size, 5, none⟩ (.int .u64 (TE : Nat))).setCell ⟨w5.heap.size, 6, none⟩ (.int .u64 (TS : Nat))) ((((ansG m 2).setN 4 (E : Nat)).setN 5 (TE : Nat)).setN 6 (TS : Nat)) none 0) := (HZ7.out.set 5 _ (row_setN HZ7.out.row 5 (TE : Nat) (by decide) (by decide) (by decide))).set 6 _ (row_setN (row_setN HZ7.out.row 5 (TE : Nat) (by decide) (by decide) (by decide)) 6 (TS : Nat) (by decide) (by decide) (by decide))
      have HF8 := hide ((HF7.out.set (ab := w5.heap.size) (c := 5) (v := .int .u64 (TE : Nat)) HNE.out).set (ab := w5.heap.size) (c := 6) (v := .int .u64 (TS : Nat)) HNE.out)
      generalize World.setCell _ ⟨w5.heap.size, 6, none⟩ (.int .u64 (TS : Nat)) = W8 at *
      refine hK.out _ _ ⟨HZ8.out.rp, HZ8.out.c4⟩ fun _ => ?_
      clear hK
      simp only [List.getElem_toArray, List.getElem_cons_zero, List.getElem_cons_succ, Act.put]
      refine wpAnyH_take (i := 15) (v := .pointer (some ⟨w5.heap.size, 10, none⟩)) rfl (by kernel_rfl) (by kernel_rfl) (by kernel_rfl) (fun _ _ _ h => h) (.inl ⟨rfl, fun W hW => by kernel_rfl⟩) ⟨HZ8.out.rp, HZ8.out.c4⟩ ?_
      simp only [List.getElem_toArray, List.getElem_cons_zero, List.getElem_cons_succ, Act.put, List.setIfInBounds_toArray, List.set_cons_zero, List.set_cons_succ]
      refine wpAnyH_ready (rs := [16]) (by kernel_rfl) (by simp) ?_
      refine AllReadyH.cons rfl (fun K hK => ?_) AllReadyH.nil
      refine step_storeM rfl (wp_store_cell 29 (.tmp 54) (.tmp 51) rfl w5.heap.size 10 (.slice (some ⟨N, 0, none⟩) V.length C) _ rfl rfl (HZ8.out.row.cell (i := 10) (by decide)) (HZ8.out.row.frozen 10) (by kernel_rfl) rfl ?_)
      have HZ9 : Hid (Pz w4 rb ⟨E, TE, TS, V, WT⟩ w.heap.size E w5.heap.size (N + 1) (W8.setCell ⟨w5.heap.size, 10, none⟩ (.slice (some ⟨N, 0, none⟩) V.length C)) (prG m E ⟨P, TE, TS, V, WT⟩) (some ⟨N, 0, none⟩) C) := HZ8.out.set 10 _ (row_setV HZ8.out.row V (some ⟨N, 0, none⟩) C)
      have HF9 := hide (HF8.out.set (ab := w5.heap.size) (c := 10) (v := .slice (some ⟨N, 0, none⟩) V.length C) HNE.out)
      generalize World.setCell _ ⟨w5.heap.size, 10, none⟩ (.slice (some ⟨N, 0, none⟩) V.length C) = W9 at *
      refine hK.out _ _ ⟨HZ9.out.rp, HZ9.out.c4⟩ fun _ => ?_
      clear hK
      simp only [List.getElem_toArray, List.getElem_cons_zero, List.getElem_cons_succ, Act.put]
      obtain ⟨MB, HL, WA, HMB, HIM, HME, HHL, HTA, HIH, HAL, HWA, HHA, HE⟩ := HEND.out W9 C HZ9.out HF9.out
      refine wpAnyH_done (by kernel_rfl) ?_ _
      go_upto_region 6 with fail
      refine wp_region_lit ?_
      refine wpList_load_row rfl 42 (.tmp 6) rfl w5.heap.size rfl _ MB (0, 0) _ HMB.out Try.underlying42 rfl HIM.out ?_
      simp only [Act.put, List.setIfInBounds_toArray, List.set_cons_zero, List.set_cons_succ]
      refine wpList_plain rfl fun _ hK => op_run (.bool CH) (by kernel_rfl) (hK _ _ ?_)
      simp only [Act.put, List.setIfInBounds_toArray, List.set_cons_zero, List.set_cons_succ]
      refine wpList_plain rfl fun _ hK => op_run (.agg HL) (by rw [← HHL.out, prG_v, HME.out]; kernel_rfl) (hK _ _ ?_)
      refine wpList_store_mid rfl 49 (.tmp 4) (.tmp 57) rfl (w.heap.size + 1) 0 HL rfl rfl HTA.out HIH.out HAL.out ?_
      rw [HWA.out]
      go_wp2_with fail
      exact bodyPost_ret_by (results_cell_row rfl _ _ (w.heap.size + 1) 49 _ (0, 0) _ rfl HHA.out Try.underlying49 rfl HIH.out) rfl ⟨_, _, congrArg _ HHL.out.symm, HE.out⟩
    refine AllReadyH.cons rfl (fun K hK => ?_) AllReadyH.nil
    refine step_storeM rfl (wp_store_cell 33 (.tmp 52) (.tmp 42) rfl w5.heap.size 4 (.int .u64 (E : Nat)) _ rfl rfl (HZ0.out.row.cell (i := 4) (by decide)) (HZ0.out.row.frozen 4) (by kernel_rfl) rfl ?_)
    have HZ7 : Hid (Pz w4 rb ⟨E, TE, TS, V, WT⟩ w.heap.size E w5.heap.size N (W6.drew.setCell ⟨w5.heap.size, 4, none⟩ (.int .u64 (E : Nat))) ((ansG m 2).setN 4 (E : Nat)) none 0) := (HZ0.out.set 4 _ (row_setN HZ0.out.row 4 (E : Nat) (by decide) (by decide) (by decide)))
    generalize World.setCell _ ⟨w5.heap.size, 4, none⟩ (.int .u64 (E : Nat)) = W7 at *
    refine hK.out _ _ ⟨HZ7.out.rp, HZ7.out.c4⟩ fun _ => ?_
    clear hK
    simp only [List.getElem_toArray, List.getElem_cons_zero, List.getElem_cons_succ, Act.put]
    refine wpAnyH_take (i := 13) (v := .pointer (some ⟨w5.heap.size, 5, none⟩)) rfl (by kernel_rfl) (by kernel_rfl) (by kernel_rfl) (fun _ _ _ h => h) (.inl ⟨rfl, fun W hW => by kernel_rfl⟩) ⟨HZ7.out.rp, HZ7.out.c4⟩ ?_
    simp only [List.getElem_toArray, List.getElem_cons_zero, List.getElem_cons_succ, Act.put, List.setIfInBounds_toArray, List.set_cons_zero, List.set_cons_succ]
    refine wpAnyH_ready (rs := [10, 14]) (by kernel_rfl) (by simp) ?_
    refine AllReadyH.cons rfl (fun K hK => ?_) ?_
    · skip
      obtain ⟨C, Wc, HCV, HZc, HFc⟩ := HZ7.out.conv V
      refine step_storeM rfl (op_runW (w' := Wc) (.slice (some ⟨N, 0, none⟩) V.length C) ?_ ?_)
      · have r := HCV.out
        go_simp
      refine hK.out _ _ ⟨HZc.out.rp, HZc.out.c4⟩ fun _ => ?_
      clear hK
      simp only [List.getElem_toArray, List.getElem_cons_zero, List.getElem_cons_succ, Act.put, List.setIfInBounds_toArray, List.set_cons_zero, List.set_cons_succ]
      refine wpAnyH_ready (rs := [14]) (by kernel_rfl) (by simp) ?_
      refine AllReadyH.cons rfl (fun K hK => ?_) AllReadyH.nil
      refine step_storeM rfl (wp_store_mid 37 (.tmp 53) (.tmp 46) rfl w5.heap.size 5 _ rfl rfl (fun j hj => ⟨by rw [HZc.out.row.cell (by have : j < 2 := hj; omega)]; rfl, HZc.out.row.frozen _⟩) infoTg (by simp [Value.oneCell']) ?_)
      rw [show (Wc.setCells w5.heap.size 5 _) = (Wc.setCell ⟨w5.heap.size, 5, none⟩ (.int .u64 (TE : Nat))).setCell ⟨w5.heap.size, 6, none⟩ (.int .u64 (TS : Nat)) from rfl]
      have HZ8 : Hid (Pz w4 rb ⟨E, TE, TS, V, WT⟩ w.heap.size E w5.heap.size (N + 1) ((Wc.setCell ⟨w5.heap.size, 5, none⟩ (.int .u64 (TE : Nat))).setCell ⟨w5.heap.size, 6, none⟩ (.int .u64 (TS : Nat))) ((((ansG m 2).setN 4 (E : Nat)).setN 5 (TE : Nat)).setN 6 (TS : Nat)) none 0) := (HZc.out.set 5 _ (row_setN HZc.out.row 5 (TE : Nat) (by decide) (by decide) (by decide))).set 6 _ (row_setN (row_setN HZc.out.row 5 (TE : Nat) (by decide) (by decide) (by decide)) 6 (TS : Nat) (by decide) (by decide) (by decide))
      have HF8 := hide ((HFc.out.set (ab := w5.heap.size) (c := 5) (v := .int .u64 (TE : Nat)) HNE.out).set (ab := w5.heap.size) (c := 6) (v := .int .u64 (TS : Nat)) HNE.out)
      generalize World.setCell _ ⟨w5.heap.size, 6, none⟩ (.int .u64 (TS : Nat)) = W8 at *
      refine hK.out _ _ ⟨HZ8.out.rp, HZ8.out.c4⟩ fun _ => ?_
      clear hK
      simp only [List.getElem_toArray, List.getElem_cons_zero, List.getElem_cons_succ, Act.put]
      refine wpAnyH_take (i := 15) (v := .pointer (some ⟨w5.heap.size, 10, none⟩)) rfl (by kernel_rfl) (by kernel_rfl) (by kernel_rfl) (fun _ _ _ h => h) (.inl ⟨rfl, fun W hW => by kernel_rfl⟩) ⟨HZ8.out.rp, HZ8.out.c4⟩ ?_
      simp only [List.getElem_toArray, List.getElem_cons_zero, List.getElem_cons_succ, Act.put, List.setIfInBounds_toArray, List.set_cons_zero, List.set_cons_succ]
      refine wpAnyH_ready (rs := [16]) (by kernel_rfl) (by simp) ?_
      refine AllReadyH.cons rfl (fun K hK => ?_) AllReadyH.nil
      refine step_storeM rfl (wp_store_cell 29 (.tmp 54) (.tmp 51) rfl w5.heap.size 10 (.slice (some ⟨N, 0, none⟩) V.length C) _ rfl rfl (HZ8.out.row.cell (i := 10) (by decide)) (HZ8.out.row.frozen 10) (by kernel_rfl) rfl ?_)
      have HZ9 : Hid (Pz w4 rb ⟨E, TE, TS, V, WT⟩ w.heap.size E w5.heap.size (N + 1) (W8.setCell ⟨w5.heap.size, 10, none⟩ (.slice (some ⟨N, 0, none⟩) V.length C)) (prG m E ⟨P, TE, TS, V, WT⟩) (some ⟨N, 0, none⟩) C) := HZ8.out.set 10 _ (row_setV HZ8.out.row V (some ⟨N, 0, none⟩) C)
      have HF9 := hide (HF8.out.set (ab := w5.heap.size) (c := 10) (v := .slice (some ⟨N, 0, none⟩) V.length C) HNE.out)
      generalize World.setCell _ ⟨w5.heap.size, 10, none⟩ (.slice (some ⟨N, 0, none⟩) V.length C) = W9 at *
      refine hK.out _ _ ⟨HZ9.out.rp, HZ9.out.c4⟩ fun _ => ?_
      clear hK
      simp only [List.getElem_toArray, List.getElem_cons_zero, List.getElem_cons_succ, Act.put]
      obtain ⟨MB, HL, WA, HMB, HIM, HME, HHL, HTA, HIH, HAL, HWA, HHA, HE⟩ := HEND.out W9 C HZ9.out HF9.out
      refine wpAnyH_done (by kernel_rfl) ?_ _
      go_upto_region 6 with fail
      refine wp_region_lit ?_
      refine wpList_load_row rfl 42 (.tmp 6) rfl w5.heap.size rfl _ MB (0, 0) _ HMB.out Try.underlying42 rfl HIM.out ?_
      simp only [Act.put, List.setIfInBounds_toArray, List.set_cons_zero, List.set_cons_succ]
      refine wpList_plain rfl fun _ hK => op_run (.bool CH) (by kernel_rfl) (hK _ _ ?_)
      simp only [Act.put, List.setIfInBounds_toArray, List.set_cons_zero, List.set_cons_succ]
      refine wpList_plain rfl fun _ hK => op_run (.agg HL) (by rw [← HHL.out, prG_v, HME.out]; kernel_rfl) (hK _ _ ?_)
      refine wpList_store_mid rfl 49 (.tmp 4) (.tmp 57) rfl (w.heap.size + 1) 0 HL rfl rfl HTA.out HIH.out HAL.out ?_
      rw [HWA.out]
      go_wp2_with fail
      exact bodyPost_ret_by (results_cell_row rfl _ _ (w.heap.size + 1) 49 _ (0, 0) _ rfl HHA.out Try.underlying49 rfl HIH.out) rfl ⟨_, _, congrArg _ HHL.out.symm, HE.out⟩
    refine AllReadyH.cons rfl (fun K hK => ?_) AllReadyH.nil
    refine step_storeM rfl (wp_store_mid 37 (.tmp 53) (.tmp 46) rfl w5.heap.size 5 _ rfl rfl (fun j hj => ⟨by rw [HZ7.out.row.cell (by have : j < 2 := hj; omega)]; rfl, HZ7.out.row.frozen _⟩) infoTg (by simp [Value.oneCell']) ?_)
    rw [show (W7.setCells w5.heap.size 5 _) = (W7.setCell ⟨w5.heap.size, 5, none⟩ (.int .u64 (TE : Nat))).setCell ⟨w5.heap.size, 6, none⟩ (.int .u64 (TS : Nat)) from rfl]
    have HZ8 : Hid (Pz w4 rb ⟨E, TE, TS, V, WT⟩ w.heap.size E w5.heap.size N ((W7.setCell ⟨w5.heap.size, 5, none⟩ (.int .u64 (TE : Nat))).setCell ⟨w5.heap.size, 6, none⟩ (.int .u64 (TS : Nat))) ((((ansG m 2).setN 4 (E : Nat)).setN 5 (TE : Nat)).setN 6 (TS : Nat)) none 0) := (HZ7.out.set 5 _ (row_setN HZ7.out.row 5 (TE : Nat) (by decide) (by decide) (by decide))).set 6 _ (row_setN (row_setN HZ7.out.row 5 (TE : Nat) (by decide) (by decide) (by decide)) 6 (TS : Nat) (by decide) (by decide) (by decide))
    generalize World.setCell _ ⟨w5.heap.size, 6, none⟩ (.int .u64 (TS : Nat)) = W8 at *
    refine hK.out _ _ ⟨HZ8.out.rp, HZ8.out.c4⟩ fun _ => ?_
    clear hK
    simp only [List.getElem_toArray, List.getElem_cons_zero, List.getElem_cons_succ, Act.put]
    refine wpAnyH_ready (rs := [10]) (by kernel_rfl) (by simp) ?_
    refine AllReadyH.cons rfl (fun K hK => ?_) AllReadyH.nil
    obtain ⟨C, Wc, HCV, HZc, HFc⟩ := HZ8.out.conv V
    refine step_storeM rfl (op_runW (w' := Wc) (.slice (some ⟨N, 0, none⟩) V.length C) ?_ ?_)
    · have r := HCV.out
      go_simp
    refine hK.out _ _ ⟨HZc.out.rp, HZc.out.c4⟩ fun _ => ?_
    clear hK
    simp only [List.getElem_toArray, List.getElem_cons_zero, List.getElem_cons_succ, Act.put, List.setIfInBounds_toArray, List.set_cons_zero, List.set_cons_succ]
    refine wpAnyH_take (i := 15) (v := .pointer (some ⟨w5.heap.size, 10, none⟩)) rfl (by kernel_rfl) (by kernel_rfl) (by kernel_rfl) (fun _ _ _ h => h) (.inl ⟨rfl, fun W hW => by kernel_rfl⟩) ⟨HZc.out.rp, HZc.out.c4⟩ ?_
    simp only [List.getElem_toArray, List.getElem_cons_zero, List.getElem_cons_succ, Act.put, List.setIfInBounds_toArray, List.set_cons_zero, List.set_cons_succ]
    refine wpAnyH_ready (rs := [16]) (by kernel_rfl) (by simp) ?_
    refine AllReadyH.cons rfl (fun K hK => ?_) AllReadyH.nil
    refine step_storeM rfl (wp_store_cell 29 (.tmp 54) (.tmp 51) rfl w5.heap.size 10 (.slice (some ⟨N, 0, none⟩) V.length C) _ rfl rfl (HZc.out.row.cell (i := 10) (by decide)) (HZc.out.row.frozen 10) (by kernel_rfl) rfl ?_)
    have HZ9 : Hid (Pz w4 rb ⟨E, TE, TS, V, WT⟩ w.heap.size E w5.heap.size (N + 1) (Wc.setCell ⟨w5.heap.size, 10, none⟩ (.slice (some ⟨N, 0, none⟩) V.length C)) (prG m E ⟨P, TE, TS, V, WT⟩) (some ⟨N, 0, none⟩) C) := HZc.out.set 10 _ (row_setV HZc.out.row V (some ⟨N, 0, none⟩) C)
    have HF9 := hide (HFc.out.set (ab := w5.heap.size) (c := 10) (v := .slice (some ⟨N, 0, none⟩) V.length C) HNE.out)
    generalize World.setCell _ ⟨w5.heap.size, 10, none⟩ (.slice (some ⟨N, 0, none⟩) V.length C) = W9 at *
    refine hK.out _ _ ⟨HZ9.out.rp, HZ9.out.c4⟩ fun _ => ?_
    clear hK
    simp only [List.getElem_toArray, List.getElem_cons_zero, List.getElem_cons_succ, Act.put]
    obtain ⟨MB, HL, WA, HMB, HIM, HME, HHL, HTA, HIH, HAL, HWA, HHA, HE⟩ := HEND.out W9 C HZ9.out HF9.out
    refine wpAnyH_done (by kernel_rfl) ?_ _
    go_upto_region 6 with fail
    refine wp_region_lit ?_
    refine wpList_load_row rfl 42 (.tmp 6) rfl w5.heap.size rfl _ MB (0, 0) _ HMB.out Try.underlying42 rfl HIM.out ?_
    simp only [Act.put, List.setIfInBounds_toArray, List.set_cons_zero, List.set_cons_succ]
    refine wpList_plain rfl fun _ hK => op_run (.bool CH) (by kernel_rfl) (hK _ _ ?_)
    simp only [Act.put, List.setIfInBounds_toArray, List.set_cons_zero, List.set_cons_succ]
    refine wpList_plain rfl fun _ hK => op_run (.agg HL) (by rw [← HHL.out, prG_v, HME.out]; kernel_rfl) (hK _ _ ?_)
    refine wpList_store_mid rfl 49 (.tmp 4) (.tmp 57) rfl (w.heap.size + 1) 0 HL rfl rfl HTA.out HIH.out HAL.out ?_
    rw [HWA.out]
    go_wp2_with fail
    exact bodyPost_ret_by (results_cell_row rfl _ _ (w.heap.size + 1) 49 _ (0, 0) _ rfl HHA.out Try.underlying49 rfl HIH.out) rfl ⟨_, _, congrArg _ HHL.out.symm, HE.out⟩
  · replace hge : P < E := hge
    replace hg0 : WT = 0 := hg0
    have hq5 : decide (WT > 0) = false := by simp; omega
    have hq6 : ¬ (WT > 0) := by omega
    have hq3 : decide ((E : Int) > (P : Int)) = true := by simp; omega
    have hq4 : ((E : Int) > (P : Int)) := by omega
    clear s1 r1 s2 r2 rm2 sw2 z2 hrp hR2 h h4 hge hg0 HCH hE KEY HWL
    unfold mgV
    rw [HMM.out]
    go_enter Try.func22, Try.ntmps22
    go_upto_region 1 with fail
    rw [HW1.out]
    try rw [z1]
    rw [HW2.out]
    try rw [z1]
    clear HW1 HW2 z1
    go_quiet (fail)
    have hsq : W2.Since W2.heap.size (W2.drewN nq) := since_drewN' (World.Since.refl _ _) nq
    generalize W2.drewN nq = Wq at *
    have cq4 := HC4.out Wq hsq
    have HQ3 := hide (HPR.out Wq hsq)
    clear HPR c4 cp cw hq hq2 hq3 hq4 hq5 hq6 HC4
    go_wp2_with fail
    refine HQ3.out.mono ?_
    rintro e w4 ⟨rfl, H4⟩
    clear HQ3 cq4 hsq
    have hne : w.heap.size ≠ rb := by have := HLT.out; omega
    have HH4 : Hid (w4.heap[w.heap.size]? = some (.cells MM 42 (0, 0))) := by rw [← HMM.out]; exact row_heap (H4.out.2.row HRM.out hne)
    have HAN : Hid (Calls Try.prog 28 #[.agg MM, .int .i64 2] w4 fun e w' => e = .returned (mgV (ansG m 2) none 0) ∧ w4.Since w4.heap.size w') := by
      have q := answer_any m va vc 2 w4
      unfold mgV at q
      rw [HMM.out] at q
      exact q
    go_wp2_with (refine wpList_load_row rfl 42 _ rfl w.heap.size rfl _ _ (0, 0) _ HH4.out Try.underlying42 rfl HINM.out ?_)
    refine HAN.out.mono ?_
    rintro e w5 ⟨rfl, hs5⟩
    obtain ⟨W6, MA, HMV, HT6, HW6, HIN, HON, HH6, HS6⟩ := mg_put w5 (ansG m 2) none 0
    rw [HMV.out]
    go_upto_region 5 with (refine wpList_store_mid rfl 42 _ _ rfl w5.heap.size 0 _ rfl rfl HT6.out HIN.out HON.out ?_; rw [HW6.out])
    have s46 : w4.Since w4.heap.size W6 := hs5.trans (since_mono HS6.out hs5.size)
    have hz2 := Hz2.out
    have hz4 : W2.heap.size ≤ w4.heap.size := H4.out.2.size
    have hz5 := hs5.size
    have r6 : W6.rowIs w5.heap.size 42 22 (mgCell (ansG m 2) none 0) := mg_cells (HH6.out W6 (World.Since.refl _ _)) HMV.out
    have hz6 : w5.heap.size < W6.heap.size := r6.lt
    have hrm6 := row_since (H4.out.2.row HRM.out hne) s46
    have hR6 : RpIs W6 rb ⟨E, TE, TS, V, WT⟩ := H4.out.1.since s46
    have hltr := HLT.out
    have hc6 : W6.drew.cell? ⟨w.heap.size, 4, none⟩ = some (.int .u64 (E : Nat)) := by
      have : W6.drew.cell? ⟨w.heap.size, 4, none⟩ = some (.int .u64 (m.n 4)) := hrm6.cell (i := 4) (by decide)
      rw [this, H44.out]
    have HZ0 : Hid (Pz w4 rb ⟨E, TE, TS, V, WT⟩ w.heap.size E w5.heap.size W6.heap.size W6.drew (ansG m 2) none 0) := ⟨hR6.since ((World.Since.refl _ _).drew), hc6, r6, s46.drew, rfl, hz5, by omega, by omega⟩
    have hhn : w.heap.size + 1 ≠ rb := by omega
    have HEND : Hid (∀ (W9 : World) (C : Nat), Pz w4 rb ⟨E, TE, TS, V, WT⟩ w.heap.size E w5.heap.size (W6.heap.size + 1) W9 (prG m E ⟨P, TE, TS, V, WT⟩) (some ⟨W6.heap.size, 0, none⟩) C → FlB W9 W6.heap.size C (strL V) → ∃ (MB HL : Array Value) (WA : World), Hid (W9.heap[w5.heap.size]? = some (.cells MB 42 (0, 0))) ∧ Hid ((Try.prog.info? 42).map (·.size) = some MB.size) ∧ Hid (MB = (mgL (prG m E ⟨P, TE, TS, V, WT⟩) (some ⟨W6.heap.size, 0, none⟩) C).toArray) ∧ Hid (hdV (prG m E ⟨P, TE, TS, V, WT⟩) (some ⟨W6.heap.size, 0, none⟩) C true false CH = .agg HL) ∧ Hid (W9.there (w.heap.size + 1) 0 HL.size) ∧ Hid ((Try.prog.info? 49).map (·.size) = some HL.size) ∧ Hid (HL.all (·.oneCell') = true) ∧ Hid (W9.setCells (w.heap.size + 1) 0 HL.toList = WA) ∧ Hid (WA.heap[w.heap.size + 1]? = some (.cells HL 49 (0, 0))) ∧ Hid (RpIs WA rb ⟨E, TE, TS, V, WT⟩ ∧ But rb w WA ∧ w.heap.size ≤ W6.heap.size ∧ FlB WA W6.heap.size C (strL V))) := fun W9 C hz hF => by
      have s49 := hz.since
      have rr9 := row_since (H4.out.2.row HRW.out hhn) s49
      obtain ⟨WA, HWA, hhA, zA, bA, oA, tA, pA⟩ := cells_stored rr9 (hdL (prG m E ⟨P, TE, TS, V, WT⟩) (some ⟨W6.heap.size, 0, none⟩) C true false CH) (hdL_len _ _ _ _ _ _)
      have bt9 : But rb w W9 := ((But.of_since HS2.out).trans H4.out.2).trans (But.of_since s49)
      have e : (hdL (prG m E ⟨P, TE, TS, V, WT⟩) (some ⟨W6.heap.size, 0, none⟩) C true false CH).toArray.size = 25 := by rw [List.size_toArray, hdL_len]
      refine ⟨_, _, WA, row_heap hz.row, infoMgA _ _ _, rfl, rfl, ?_, infoHrA _ _ _ _ _ _, hd_all _ _ _ _ _ _, HWA, hhA, (H4.out.1.since s49).on (bA _ (fun e => hhn e.symm)), ⟨oA.trans bt9.os, tA.trans bt9.tape, pA.trans bt9.output, by rw [zA]; exact bt9.size, fun k hk hr => ?_⟩, by omega, hF.on (bA _ (by omega))⟩
      · show World.there _ _ _ _
        rw [e]
        exact row_there rr9
      · rw [bA k (by omega)]
        exact bt9.block k hk hr
    have hzd : W6.heap.size ≠ w5.heap.size := by omega
    have HNE := hide hzd
    clear r6 s46 HH6 HS6 HT6 HON HIN HMV hs5 HW6 HH4 HAN H4 HRM HRW HS2 Hz2 HLT hz2 hz4 hz5 hz6 hrm6 hne hhn HMM HINM hR6 hc6 hltr hok HEE H44 hzd
    generalize W6.heap.size = N at *
    refine wp_region_held_drew (S := fun W => RpIs W rb ⟨E, TE, TS, V, WT⟩ ∧ W.cell? ⟨w.heap.size, 4, none⟩ = some (.int .u64 (E : Nat))) (by kernel_rfl) ⟨HZ0.out.rp, HZ0.out.c4⟩ fun _ => ?_
    refine wpAnyH_take (i := 0) (v := .pointer (some ⟨w.heap.size, 4, none⟩)) rfl (by kernel_rfl) (by kernel_rfl) (by kernel_rfl) (fun _ _ _ h => h) (.inl ⟨rfl, fun W hW => by kernel_rfl⟩) ⟨HZ0.out.rp, HZ0.out.c4⟩ ?_
    simp only [List.getElem_toArray, List.getElem_cons_zero, Act.put, List.setIfInBounds_toArray, List.set_cons_zero, List.set_cons_succ]
    refine wpAnyH_take (i := 1) (v := .int .u64 (E : Nat)) rfl (by kernel_rfl) (by kernel_rfl) (by kernel_rfl) (fun _ _ _ h => h) (.inl ⟨rfl, fun W hW => by have c := hW.2; go_simp⟩) ⟨HZ0.out.rp, HZ0.out.c4⟩ ?_
    simp only [List.getElem_toArray, List.getElem_cons_zero, List.getElem_cons_succ, Act.put, List.setIfInBounds_toArray, List.set_cons_zero, List.set_cons_succ]
    refine wpAnyH_take (i := 2) (v := .pointer (some ⟨rb, 0, none⟩)) rfl (by kernel_rfl) (by kernel_rfl) (by kernel_rfl) (fun _ _ _ h => h) (.inl ⟨rfl, fun W hW => by kernel_rfl⟩) ⟨HZ0.out.rp, HZ0.out.c4⟩ ?_
    simp only [List.getElem_toArray, List.getElem_cons_zero, List.getElem_cons_succ, Act.put, List.setIfInBounds_toArray, List.set_cons_zero, List.set_cons_succ]
    refine wpAnyH_take (i := 3) (v := .pointer (some ⟨rb, 0, none⟩)) rfl (by kernel_rfl) (by kernel_rfl) (by kernel_rfl) (fun _ _ _ h => h) (.inl ⟨rfl, fun W hW => by first | kernel_rfl | go_simp⟩) ⟨HZ0.out.rp, HZ0.out.c4⟩ ?_
    simp only [List.getElem_toArray, List.getElem_cons_zero, List.getElem_cons_succ, Act.put, List.setIfInBounds_toArray, List.set_cons_zero, List.set_cons_succ]
    refine wpAnyH_take (i := 4) (v := .pointer (some ⟨rb, 1, none⟩)) rfl (by kernel_rfl) (by kernel_rfl) (by kernel_rfl) (fun _ _ _ h => h) (.inl ⟨rfl, fun W hW => by kernel_rfl⟩) ⟨HZ0.out.rp, HZ0.out.c4⟩ ?_
    simp only [List.getElem_toArray, List.getElem_cons_zero, List.getElem_cons_succ, Act.put, List.setIfInBounds_toArray, List.set_cons_zero, List.set_cons_succ]
    refine wpAnyH_take (i := 5) (v := .agg #[.int .u64 (TE : Nat), .int .u64 (TS : Nat)]) rfl (by kernel_rfl) (by kernel_rfl) (by kernel_rfl) (fun _ _ _ h => h) (.inl ⟨rfl, fun W hW => by have c := hW.1.c1; have c2 := hW.1.c2; go_simp⟩) ⟨HZ0.out.rp, HZ0.out.c4⟩ ?_
    simp only [List.getElem_toArray, List.getElem_cons_zero, List.getElem_cons_succ, Act.put, List.setIfInBounds_toArray, List.set_cons_zero, List.set_cons_succ]
    refine wpAnyH_take (i := 6) (v := .pointer (some ⟨rb, 0, none⟩)) rfl (by kernel_rfl) (by kernel_rfl) (by kernel_rfl) (fun _ _ _ h => h) (.inl ⟨rfl, fun W hW => by kernel_rfl⟩) ⟨HZ0.out.rp, HZ0.out.c4⟩ ?_
    simp only [List.getElem_toArray, List.getElem_cons_zero, List.getElem_cons_succ, Act.put, List.setIfInBounds_toArray, List.set_cons_zero, List.set_cons_succ]
    refine wpAnyH_take (i := 7) (v := .pointer (some ⟨rb, 0, none⟩)) rfl (by kernel_rfl) (by kernel_rfl) (by kernel_rfl) (fun _ _ _ h => h) (.inl ⟨rfl, fun W hW => by first | kernel_rfl | go_simp⟩) ⟨HZ0.out.rp, HZ0.out.c4⟩ ?_
    simp only [List.getElem_toArray, List.getElem_cons_zero, List.getElem_cons_succ, Act.put, List.setIfInBounds_toArray, List.set_cons_zero, List.set_cons_succ]
    refine wpAnyH_take (i := 8) (v := .pointer (some ⟨rb, 3, none⟩)) rfl (by kernel_rfl) (by kernel_rfl) (by kernel_rfl) (fun _ _ _ h => h) (.inl ⟨rfl, fun W hW => by kernel_rfl⟩) ⟨HZ0.out.rp, HZ0.out.c4⟩ ?_
    simp only [List.getElem_toArray, List.getElem_cons_zero, List.getElem_cons_succ, Act.put, List.setIfInBounds_toArray, List.set_cons_zero, List.set_cons_succ]
    refine wpAnyH_take (i := 9) (v := .string (strL V)) rfl (by kernel_rfl) (by kernel_rfl) (by kernel_rfl) (fun _ _ _ h => h) (.inl ⟨rfl, fun W hW => by have c := hW.1.c3; go_simp⟩) ⟨HZ0.out.rp, HZ0.out.c4⟩ ?_
    simp only [List.getElem_toArray, List.getElem_cons_zero, List.getElem_cons_succ, Act.put, List.setIfInBounds_toArray, List.set_cons_zero, List.set_cons_succ]
    refine wpAnyH_take (i := 11) (v := .pointer (some ⟨w5.heap.size, 4, none⟩)) rfl (by kernel_rfl) (by kernel_rfl) (by kernel_rfl) (fun _ _ _ h => h) (.inl ⟨rfl, fun W hW => by kernel_rfl⟩) ⟨HZ0.out.rp, HZ0.out.c4⟩ ?_
    simp only [List.getElem_toArray, List.getElem_cons_zero, List.getElem_cons_succ, Act.put, List.setIfInBounds_toArray, List.set_cons_zero, List.set_cons_succ]
    refine wpAnyH_ready (rs := [10, 12]) (by kernel_rfl) (by simp) ?_
    refine AllReadyH.cons rfl (fun K hK => ?_) ?_
    · skip
      obtain ⟨C, Wc, HCV, HZc, HFc⟩ := HZ0.out.conv V
      refine step_storeM rfl (op_runW (w' := Wc) (.slice (some ⟨N, 0, none⟩) V.length C) ?_ ?_)
      · have r := HCV.out
        go_simp
      refine hK.out _ _ ⟨HZc.out.rp, HZc.out.c4⟩ fun _ => ?_
      clear hK
      simp only [List.getElem_toArray, List.getElem_cons_zero, List.getElem_cons_succ, Act.put, List.setIfInBounds_toArray, List.set_cons_zero, List.set_cons_succ]
      refine wpAnyH_ready (rs := [12]) (by kernel_rfl) (by simp) ?_
      refine AllReadyH.cons rfl (fun K hK => ?_) AllReadyH.nil
      refine step_storeM rfl (wp_store_cell 33 (.tmp 52) (.tmp 42) rfl w5.heap.size 4 (.int .u64 (E : Nat)) _ rfl rfl (HZc.out.row.cell (i := 4) (by decide)) (HZc.out.row.frozen 4) (by kernel_rfl) rfl ?_)
      have HZ7 : Hid (Pz w4 rb ⟨E, TE, TS, V, WT⟩ w.heap.size E w5.heap.size (N + 1) (Wc.setCell ⟨w5.heap.size, 4, none⟩ (.int .u64 (E : Nat))) ((ansG m 2).setN 4 (E : Nat)) none 0) := (HZc.out.set 4 _ (row_setN HZc.out.row 4 (E : Nat) (by decide) (by decide) (by decide)))
      have HF7 := hide (HFc.out.set (ab := w5.heap.size) (c := 4) (v := .int .u64 (E : Nat)) HNE.out)
      generalize World.setCell _ ⟨w5.heap.size, 4, none⟩ (.int .u64 (E : Nat)) = W7 at *
      refine hK.out _ _ ⟨HZ7.out.rp, HZ7.out.c4⟩ fun _ => ?_
      clear hK
      simp only [List.getElem_toArray, List.getElem_cons_zero, List.getElem_cons_succ, Act.put]
      refine wpAnyH_take (i := 13) (v := .pointer (some ⟨w5.heap.size, 5, none⟩)) rfl (by kernel_rfl) (by kernel_rfl) (by kernel_rfl) (fun _ _ _ h => h) (.inl ⟨rfl, fun W hW => by kernel_rfl⟩) ⟨HZ7.out.rp, HZ7.out.c4⟩ ?_
      simp only [List.getElem_toArray, List.getElem_cons_zero, List.getElem_cons_succ, Act.put, List.setIfInBounds_toArray, List.set_cons_zero, List.set_cons_succ]
      refine wpAnyH_ready (rs := [14]) (by kernel_rfl) (by simp) ?_
      refine AllReadyH.cons rfl (fun K hK => ?_) AllReadyH.nil
      refine step_storeM rfl (wp_store_mid 37 (.tmp 53) (.tmp 46) rfl w5.heap.size 5 _ rfl rfl (fun j hj => ⟨by rw [HZ7.out.row.cell (by have : j < 2 := hj; omega)]; rfl, HZ7.out.row.frozen _⟩) infoTg (by simp [Value.oneCell']) ?_)
      rw [show (W7.setCells w5.heap.size 5 _) = (W7.setCell ⟨w5.heap.size, 5, none⟩ (.int .u64 (TE : Nat))).setCell ⟨w5.heap.size, 6, none⟩ (.int .u64 (TS : Nat)) from rfl]
      have HZ8 : Hid (Pz w4 rb ⟨E, TE, TS, V, WT⟩ w.heap.size E w5.heap.size (N + 1) ((W7.setCell ⟨w5.heap.size, 5, none⟩ (.int .u64 (TE : Nat))).setCell ⟨w5.heap.size, 6, none⟩ (.int .u64 (TS : Nat))) ((((ansG m 2).setN 4 (E : Nat)).setN 5 (TE : Nat)).setN 6 (TS : Nat)) none 0) := (HZ7.out.set 5 _ (row_setN HZ7.out.row 5 (TE : Nat) (by decide) (by decide) (by decide))).set 6 _ (row_setN (row_setN HZ7.out.row 5 (TE : Nat) (by decide) (by decide) (by decide)) 6 (TS : Nat) (by decide) (by decide) (by decide))
      have HF8 := hide ((HF7.out.set (ab := w5.heap.size) (c := 5) (v := .int .u64 (TE : Nat)) HNE.out).set (ab := w5.heap.size) (c := 6) (v := .int .u64 (TS : Nat)) HNE.out)
      generalize World.setCell _ ⟨w5.heap.size, 6, none⟩ (.int .u64 (TS : Nat)) = W8 at *
      refine hK.out _ _ ⟨HZ8.out.rp, HZ8.out.c4⟩ fun _ => ?_
      clear hK
      simp only [List.getElem_toArray, List.getElem_cons_zero, List.getElem_cons_succ, Act.put]
      refine wpAnyH_take (i := 15) (v := .pointer (some ⟨w5.heap.size, 10, none⟩)) rfl (by kernel_rfl) (by kernel_rfl) (by kernel_rfl) (fun _ _ _ h => h) (.inl ⟨rfl, fun W hW => by kernel_rfl⟩) ⟨HZ8.out.rp, HZ8.out.c4⟩ ?_
      simp only [List.getElem_toArray, List.getElem_cons_zero, List.getElem_cons_succ, Act.put, List.setIfInBounds_toArray, List.set_cons_zero, List.set_cons_succ]
      refine wpAnyH_ready (rs := [16]) (by kernel_rfl) (by simp) ?_
      refine AllReadyH.cons rfl (fun K hK => ?_) AllReadyH.nil
      refine step_storeM rfl (wp_store_cell 29 (.tmp 54) (.tmp 51) rfl w5.heap.size 10 (.slice (some ⟨N, 0, none⟩) V.length C) _ rfl rfl (HZ8.out.row.cell (i := 10) (by decide)) (HZ8.out.row.frozen 10) (by kernel_rfl) rfl ?_)
      have HZ9 : Hid (Pz w4 rb ⟨E, TE, TS, V, WT⟩ w.heap.size E w5.heap.size (N + 1) (W8.setCell ⟨w5.heap.size, 10, none⟩ (.slice (some ⟨N, 0, none⟩) V.length C)) (prG m E ⟨P, TE, TS, V, WT⟩) (some ⟨N, 0, none⟩) C) := HZ8.out.set 10 _ (row_setV HZ8.out.row V (some ⟨N, 0, none⟩) C)
      have HF9 := hide (HF8.out.set (ab := w5.heap.size) (c := 10) (v := .slice (some ⟨N, 0, none⟩) V.length C) HNE.out)
      generalize World.setCell _ ⟨w5.heap.size, 10, none⟩ (.slice (some ⟨N, 0, none⟩) V.length C) = W9 at *
      refine hK.out _ _ ⟨HZ9.out.rp, HZ9.out.c4⟩ fun _ => ?_
      clear hK
      simp only [List.getElem_toArray, List.getElem_cons_zero, List.getElem_cons_succ, Act.put]
      obtain ⟨MB, HL, WA, HMB, HIM, HME, HHL, HTA, HIH, HAL, HWA, HHA, HE⟩ := HEND.out W9 C HZ9.out HF9.out
      refine wpAnyH_done (by kernel_rfl) ?_ _
      go_upto_region 6 with fail
      refine wp_region_lit ?_
      refine wpList_load_row rfl 42 (.tmp 6) rfl w5.heap.size rfl _ MB (0, 0) _ HMB.out Try.underlying42 rfl HIM.out ?_
      simp only [Act.put, List.setIfInBounds_toArray, List.set_cons_zero, List.set_cons_succ]
      refine wpList_plain rfl fun _ hK => op_run (.bool CH) (by kernel_rfl) (hK _ _ ?_)
      simp only [Act.put, List.setIfInBounds_toArray, List.set_cons_zero, List.set_cons_succ]
      refine wpList_plain rfl fun _ hK => op_run (.agg HL) (by rw [← HHL.out, prG_v, HME.out]; kernel_rfl) (hK _ _ ?_)
      refine wpList_store_mid rfl 49 (.tmp 4) (.tmp 57) rfl (w.heap.size + 1) 0 HL rfl rfl HTA.out HIH.out HAL.out ?_
      rw [HWA.out]
      go_wp2_with fail
      exact bodyPost_ret_by (results_cell_row rfl _ _ (w.heap.size + 1) 49 _ (0, 0) _ rfl HHA.out Try.underlying49 rfl HIH.out) rfl ⟨_, _, congrArg _ HHL.out.symm, HE.out⟩
    refine AllReadyH.cons rfl (fun K hK => ?_) AllReadyH.nil
    refine step_storeM rfl (wp_store_cell 33 (.tmp 52) (.tmp 42) rfl w5.heap.size 4 (.int .u64 (E : Nat)) _ rfl rfl (HZ0.out.row.cell (i := 4) (by decide)) (HZ0.out.row.frozen 4) (by kernel_rfl) rfl ?_)
    have HZ7 : Hid (Pz w4 rb ⟨E, TE, TS, V, WT⟩ w.heap.size E w5.heap.size N (W6.drew.setCell ⟨w5.heap.size, 4, none⟩ (.int .u64 (E : Nat))) ((ansG m 2).setN 4 (E : Nat)) none 0) := (HZ0.out.set 4 _ (row_setN HZ0.out.row 4 (E : Nat) (by decide) (by decide) (by decide)))
    generalize World.setCell _ ⟨w5.heap.size, 4, none⟩ (.int .u64 (E : Nat)) = W7 at *
    refine hK.out _ _ ⟨HZ7.out.rp, HZ7.out.c4⟩ fun _ => ?_
    clear hK
    simp only [List.getElem_toArray, List.getElem_cons_zero, List.getElem_cons_succ, Act.put]
    refine wpAnyH_take (i := 13) (v := .pointer (some ⟨w5.heap.size, 5, none⟩)) rfl (by kernel_rfl) (by kernel_rfl) (by kernel_rfl) (fun _ _ _ h => h) (.inl ⟨rfl, fun W hW => by kernel_rfl⟩) ⟨HZ7.out.rp, HZ7.out.c4⟩ ?_
    simp only [List.getElem_toArray, List.getElem_cons_zero, List.getElem_cons_succ, Act.put, List.setIfInBounds_toArray, List.set_cons_zero, List.set_cons_succ]
    refine wpAnyH_ready (rs := [10, 14]) (by kernel_rfl) (by simp) ?_
    refine AllReadyH.cons rfl (fun K hK => ?_) ?_
    · skip
      obtain ⟨C, Wc, HCV, HZc, HFc⟩ := HZ7.out.conv V
      refine step_storeM rfl (op_runW (w' := Wc) (.slice (some ⟨N, 0, none⟩) V.length C) ?_ ?_)
      · have r := HCV.out
        go_simp
      refine hK.out _ _ ⟨HZc.out.rp, HZc.out.c4⟩ fun _ => ?_
      clear hK
      simp only [List.getElem_toArray, List.getElem_cons_zero, List.getElem_cons_succ, Act.put, List.setIfInBounds_toArray, List.set_cons_zero, List.set_cons_succ]
      refine wpAnyH_ready (rs := [14]) (by kernel_rfl) (by simp) ?_
      refine AllReadyH.cons rfl (fun K hK => ?_) AllReadyH.nil
      refine step_storeM rfl (wp_store_mid 37 (.tmp 53) (.tmp 46) rfl w5.heap.size 5 _ rfl rfl (fun j hj => ⟨by rw [HZc.out.row.cell (by have : j < 2 := hj; omega)]; rfl, HZc.out.row.frozen _⟩) infoTg (by simp [Value.oneCell']) ?_)
      rw [show (Wc.setCells w5.heap.size 5 _) = (Wc.setCell ⟨w5.heap.size, 5, none⟩ (.int .u64 (TE : Nat))).setCell ⟨w5.heap.size, 6, none⟩ (.int .u64 (TS : Nat)) from rfl]
      have HZ8 : Hid (Pz w4 rb ⟨E, TE, TS, V, WT⟩ w.heap.size E w5.heap.size (N + 1) ((Wc.setCell ⟨w5.heap.size, 5, none⟩ (.int .u64 (TE : Nat))).setCell ⟨w5.heap.size, 6, none⟩ (.int .u64 (TS : Nat))) ((((ansG m 2).setN 4 (E : Nat)).setN 5 (TE : Nat)).setN 6 (TS : Nat)) none 0) := (HZc.out.set 5 _ (row_setN HZc.out.row 5 (TE : Nat) (by decide) (by decide) (by decide))).set 6 _ (row_setN (row_setN HZc.out.row 5 (TE : Nat) (by decide) (by decide) (by decide)) 6 (TS : Nat) (by decide) (by decide) (by decide))
      have HF8 := hide ((HFc.out.set (ab := w5.heap.size) (c := 5) (v := .int .u64 (TE : Nat)) HNE.out).set (ab := w5.heap.size) (c := 6) (v := .int .u64 (TS : Nat)) HNE.out)
      generalize World.setCell _ ⟨w5.heap.size, 6, none⟩ (.int .u64 (TS : Nat)) = W8 at *
      refine hK.out _ _ ⟨HZ8.out.rp, HZ8.out.c4⟩ fun _ => ?_
      clear hK
      simp only [List.getElem_toArray, List.getElem_cons_zero, List.getElem_cons_succ, Act.put]
      refine wpAnyH_take (i := 15) (v := .pointer (some ⟨w5.heap.size, 10, none⟩)) rfl (by kernel_rfl) (by kernel_rfl) (by kernel_rfl) (fun _ _ _ h => h) (.inl ⟨rfl, fun W hW => by kernel_rfl⟩) ⟨HZ8.out.rp, HZ8.out.c4⟩ ?_
      simp only [List.getElem_toArray, List.getElem_cons_zero, List.getElem_cons_succ, Act.put, List.setIfInBounds_toArray, List.set_cons_zero, List.set_cons_succ]
      refine wpAnyH_ready (rs := [16]) (by kernel_rfl) (by simp) ?_
      refine AllReadyH.cons rfl (fun K hK => ?_) AllReadyH.nil
      refine step_storeM rfl (wp_store_cell 29 (.tmp 54) (.tmp 51) rfl w5.heap.size 10 (.slice (some ⟨N, 0, none⟩) V.length C) _ rfl rfl (HZ8.out.row.cell (i := 10) (by decide)) (HZ8.out.row.frozen 10) (by kernel_rfl) rfl ?_)
      have HZ9 : Hid (Pz w4 rb ⟨E, TE, TS, V, WT⟩ w.heap.size E w5.heap.size (N + 1) (W8.setCell ⟨w5.heap.size, 10, none⟩ (.slice (some ⟨N, 0, none⟩) V.length C)) (prG m E ⟨P, TE, TS, V, WT⟩) (some ⟨N, 0, none⟩) C) := HZ8.out.set 10 _ (row_setV HZ8.out.row V (some ⟨N, 0, none⟩) C)
      have HF9 := hide (HF8.out.set (ab := w5.heap.size) (c := 10) (v := .slice (some ⟨N, 0, none⟩) V.length C) HNE.out)
      generalize World.setCell _ ⟨w5.heap.size, 10, none⟩ (.slice (some ⟨N, 0, none⟩) V.length C) = W9 at *
      refine hK.out _ _ ⟨HZ9.out.rp, HZ9.out.c4⟩ fun _ => ?_
      clear hK
      simp only [List.getElem_toArray, List.getElem_cons_zero, List.getElem_cons_succ, Act.put]
      obtain ⟨MB, HL, WA, HMB, HIM, HME, HHL, HTA, HIH, HAL, HWA, HHA, HE⟩ := HEND.out W9 C HZ9.out HF9.out
      refine wpAnyH_done (by kernel_rfl) ?_ _
      go_upto_region 6 with fail
      refine wp_region_lit ?_
      refine wpList_load_row rfl 42 (.tmp 6) rfl w5.heap.size rfl _ MB (0, 0) _ HMB.out Try.underlying42 rfl HIM.out ?_
      simp only [Act.put, List.setIfInBounds_toArray, List.set_cons_zero, List.set_cons_succ]
      refine wpList_plain rfl fun _ hK => op_run (.bool CH) (by kernel_rfl) (hK _ _ ?_)
      simp only [Act.put, List.setIfInBounds_toArray, List.set_cons_zero, List.set_cons_succ]
      refine wpList_plain rfl fun _ hK => op_run (.agg HL) (by rw [← HHL.out, prG_v, HME.out]; kernel_rfl) (hK _ _ ?_)
      refine wpList_store_mid rfl 49 (.tmp 4) (.tmp 57) rfl (w.heap.size + 1) 0 HL rfl rfl HTA.out HIH.out HAL.out ?_
      rw [HWA.out]
      go_wp2_with fail
      exact bodyPost_ret_by (results_cell_row rfl _ _ (w.heap.size + 1) 49 _ (0, 0) _ rfl HHA.out Try.underlying49 rfl HIH.out) rfl ⟨_, _, congrArg _ HHL.out.symm, HE.out⟩
    refine AllReadyH.cons rfl (fun K hK => ?_) AllReadyH.nil
    refine step_storeM rfl (wp_store_mid 37 (.tmp 53) (.tmp 46) rfl w5.heap.size 5 _ rfl rfl (fun j hj => ⟨by rw [HZ7.out.row.cell (by have : j < 2 := hj; omega)]; rfl, HZ7.out.row.frozen _⟩) infoTg (by simp [Value.oneCell']) ?_)
    rw [show (W7.setCells w5.heap.size 5 _) = (W7.setCell ⟨w5.heap.size, 5, none⟩ (.int .u64 (TE : Nat))).setCell ⟨w5.heap.size, 6, none⟩ (.int .u64 (TS : Nat)) from rfl]
    have HZ8 : Hid (Pz w4 rb ⟨E, TE, TS, V, WT⟩ w.heap.size E w5.heap.size N ((W7.setCell ⟨w5.heap.size, 5, none⟩ (.int .u64 (TE : Nat))).setCell ⟨w5.heap.size, 6, none⟩ (.int .u64 (TS : Nat))) ((((ansG m 2).setN 4 (E : Nat)).setN 5 (TE : Nat)).setN 6 (TS : Nat)) none 0) := (HZ7.out.set 5 _ (row_setN HZ7.out.row 5 (TE : Nat) (by decide) (by decide) (by decide))).set 6 _ (row_setN (row_setN HZ7.out.row 5 (TE : Nat) (by decide) (by decide) (by decide)) 6 (TS : Nat) (by decide) (by decide) (by decide))
    generalize World.setCell _ ⟨w5.heap.size, 6, none⟩ (.int .u64 (TS : Nat)) = W8 at *
    refine hK.out _ _ ⟨HZ8.out.rp, HZ8.out.c4⟩ fun _ => ?_
    clear hK
    simp only [List.getElem_toArray, List.getElem_cons_zero, List.getElem_cons_succ, Act.put]
    refine wpAnyH_ready (rs := [10]) (by kernel_rfl) (by simp) ?_
    refine AllReadyH.cons rfl (fun K hK => ?_) AllReadyH.nil
    obtain ⟨C, Wc, HCV, HZc, HFc⟩ := HZ8.out.conv V
    refine step_storeM rfl (op_runW (w' := Wc) (.slice (some ⟨N, 0, none⟩) V.length C) ?_ ?_)
    · have r := HCV.out
      go_simp
    refine hK.out _ _ ⟨HZc.out.rp, HZc.out.c4⟩ fun _ => ?_
    clear hK
    simp only [List.getElem_toArray, List.getElem_cons_zero, List.getElem_cons_succ, Act.put, List.setIfInBounds_toArray, List.set_cons_zero, List.set_cons_succ]
    refine wpAnyH_take (i := 15) (v := .pointer (some ⟨w5.heap.size, 10, none⟩)) rfl (by kernel_rfl) (by kernel_rfl) (by kernel_rfl) (fun _ _ _ h => h) (.inl ⟨rfl, fun W hW => by kernel_rfl⟩) ⟨HZc.out.rp, HZc.out.c4⟩ ?_
    simp only [List.getElem_toArray, List.getElem_cons_zero, List.getElem_cons_succ, Act.put, List.setIfInBounds_toArray, List.set_cons_zero, List.set_cons_succ]
    refine wpAnyH_ready (rs := [16]) (by kernel_rfl) (by simp) ?_
    refine AllReadyH.cons rfl (fun K hK => ?_) AllReadyH.nil
    refine step_storeM rfl (wp_store_cell 29 (.tmp 54) (.tmp 51) rfl w5.heap.size 10 (.slice (some ⟨N, 0, none⟩) V.length C) _ rfl rfl (HZc.out.row.cell (i := 10) (by decide)) (HZc.out.row.frozen 10) (by kernel_rfl) rfl ?_)
    have HZ9 : Hid (Pz w4 rb ⟨E, TE, TS, V, WT⟩ w.heap.size E w5.heap.size (N + 1) (Wc.setCell ⟨w5.heap.size, 10, none⟩ (.slice (some ⟨N, 0, none⟩) V.length C)) (prG m E ⟨P, TE, TS, V, WT⟩) (some ⟨N, 0, none⟩) C) := HZc.out.set 10 _ (row_setV HZc.out.row V (some ⟨N, 0, none⟩) C)
    have HF9 := hide (HFc.out.set (ab := w5.heap.size) (c := 10) (v := .slice (some ⟨N, 0, none⟩) V.length C) HNE.out)
    generalize World.setCell _ ⟨w5.heap.size, 10, none⟩ (.slice (some ⟨N, 0, none⟩) V.length C) = W9 at *
    refine hK.out _ _ ⟨HZ9.out.rp, HZ9.out.c4⟩ fun _ => ?_
    clear hK
    simp only [List.getElem_toArray, List.getElem_cons_zero, List.getElem_cons_succ, Act.put]
    obtain ⟨MB, HL, WA, HMB, HIM, HME, HHL, HTA, HIH, HAL, HWA, HHA, HE⟩ := HEND.out W9 C HZ9.out HF9.out
    refine wpAnyH_done (by kernel_rfl) ?_ _
    go_upto_region 6 with fail
    refine wp_region_lit ?_
    refine wpList_load_row rfl 42 (.tmp 6) rfl w5.heap.size rfl _ MB (0, 0) _ HMB.out Try.underlying42 rfl HIM.out ?_
    simp only [Act.put, List.setIfInBounds_toArray, List.set_cons_zero, List.set_cons_succ]
    refine wpList_plain rfl fun _ hK => op_run (.bool CH) (by kernel_rfl) (hK _ _ ?_)
    simp only [Act.put, List.setIfInBounds_toArray, List.set_cons_zero, List.set_cons_succ]
    refine wpList_plain rfl fun _ hK => op_run (.agg HL) (by rw [← HHL.out, prG_v, HME.out]; kernel_rfl) (hK _ _ ?_)
    refine wpList_store_mid rfl 49 (.tmp 4) (.tmp 57) rfl (w.heap.size + 1) 0 HL rfl rfl HTA.out HIH.out HAL.out ?_
    rw [HWA.out]
    go_wp2_with fail
    exact bodyPost_ret_by (results_cell_row rfl _ _ (w.heap.size + 1) 49 _ (0, 0) _ rfl HHA.out Try.underlying49 rfl HIH.out) rfl ⟨_, _, congrArg _ HHL.out.symm, HE.out⟩
end Go.Proofs.Ytfmndfgdchhaeaa

/- Package replica: compare. -/
namespace Go.Proofs.Ytfmndfgdchhaeaa
open Go.RowKit
set_option maxRecDepth 100000
set_option maxRecDepth 100000

/-- How two numbers stand. -/
def cmN (x y : Nat) : Int := if x < y then -1 else if y < x then 1 else 0
theorem nan_any (x : Nat) (w : World) : Calls Try.prog 32 #[.int .u64 (x : Nat)] w fun e w' => e = .returned (.bool false) ∧ w' = w := by
  have h : ((x : Int) != (x : Int)) = false := by simp
  go_enter Try.func32, Try.ntmps32
  go_wp2_with fail
  go_ret
  exact ⟨rfl, rfl⟩
theorem compareN_any (x y : Nat) (w : World) : Calls Try.prog 31 #[.int .u64 (x : Nat), .int .u64 (y : Nat)] w fun e w' => e = .returned (.int .i64 (cmN x y)) ∧ w' = w := by
  have hn : ∀ (x : Nat) (w : World), _ := fun x w => nan_any x w
  unfold cmN
  by_cases h1 : x < y
  · rw [if_pos h1]
    have h1' : (x : Int) < (y : Int) := by omega
    go_enter Try.func31, Try.ntmps31
    go_wp2_with (go_at_call 32; refine (hn _ _).mono ?_; rintro e w' ⟨rfl, rfl⟩)
    go_ret
    exact ⟨rfl, rfl⟩
  · rw [if_neg h1]
    have h1' : ¬ (x : Int) < (y : Int) := by omega
    by_cases h2 : y < x
    · rw [if_pos h2]
      have h2' : (x : Int) > (y : Int) := by omega
      go_enter Try.func31, Try.ntmps31
      go_wp2_with (go_at_call 32; refine (hn _ _).mono ?_; rintro e w' ⟨rfl, rfl⟩)
      go_ret
      exact ⟨rfl, rfl⟩
    · rw [if_neg h2]
      have h2' : ¬ (x : Int) > (y : Int) := by omega
      go_enter Try.func31, Try.ntmps31
      go_wp2_with (go_at_call 32; refine (hn _ _).mono ?_; rintro e w' ⟨rfl, rfl⟩)
      go_ret
      exact ⟨rfl, rfl⟩
/-- The first that is not zero. -/
def orM (x y : Int) : Int := if x = 0 then y else x

theorem or_any (x y : Int) (b : Nat) (w : World) (h0 : w.cell? ⟨b, 0, none⟩ = some (.int .i64 x)) (h1 : w.cell? ⟨b, 1, none⟩ = some (.int .i64 y)) :
    Calls Try.prog 30 #[.slice (some ⟨b, 0, none⟩) 2 2] w fun e w' => e = .returned (.int .i64 (orM x y)) ∧ w' = w := by
  by_cases hx : x = 0
  · have e : orM x y = y := if_pos hx
    rw [e]
    have ex : (x == 0) = true := by rw [hx]; rfl
    go_enter Try.func30, Try.ntmps30
    go_wp2
    go_loopg [5, 8] 2 (fun q v s8 wr => ∃ i : Nat, i ≤ 2 ∧ q = 2 - i ∧ s8 = .int .i64 i ∧ wr = w ∧ Hid (i = 2 → y = 0))
    case atStart => exact ⟨0, by omega, rfl, rfl, rfl, hide (by omega)⟩
    case round =>
      obtain ⟨i, hi, rfl, rfl, rfl, HY⟩ := hrel
      rcases (show i = 0 ∨ i = 1 ∨ i = 2 by omega) with rfl | rfl | rfl
      · go_wp2
        go_roundg 1
        case measure => omega
        case rel => exact ⟨1, by omega, rfl, rfl, rfl, hide (by omega)⟩
      · by_cases hy : y = 0
        · have ey : (y == 0) = true := by rw [hy]; rfl
          go_wp2
          go_roundg 0
          case measure => omega
          case rel => exact ⟨2, by omega, rfl, rfl, rfl, hide (fun _ => hy)⟩
        · have ey : (y == 0) = false := beq_eq_false_iff_ne.2 hy
          go_wp2
          go_ret
          exact ⟨rfl, rfl⟩
      · have H0 : Hid (y = 0) := HY.out rfl
        clear HY
        go_wp2
        go_ret
        exact ⟨by rw [H0.out]; rfl, rfl⟩
  · have e : orM x y = x := if_neg hx
    rw [e]
    have ex : (x == 0) = false := beq_eq_false_iff_ne.2 hx
    go_enter Try.func30, Try.ntmps30
    go_wp2
    go_loopg [5, 8] 2 (fun q v s8 wr => q = 2 ∧ s8 = .int .i64 0 ∧ wr = w)
    case atStart => exact ⟨rfl, rfl, rfl⟩
    case round =>
      obtain ⟨rfl, rfl, rfl⟩ := hrel
      go_wp2
      go_ret
      exact ⟨rfl, rfl⟩
theorem alloc_keeps (w : World) (o : Obj) (b i : Nat) (h : b < w.heap.size) : (w.alloc o).cell? ⟨b, i, none⟩ = w.cell? ⟨b, i, none⟩ := World.cell?_alloc_past (w := w) o b i h
/-- How two tags stand. -/
def cmT (a b c d : Nat) : Int := orM (cmN a c) (cmN b d)
set_option maxHeartbeats 1000000 in
theorem compareT_any (a b c d : Nat) (w : World) :
    Calls Try.prog 29 #[.agg #[.int .u64 (a : Nat), .int .u64 (b : Nat)], .agg #[.int .u64 (c : Nat), .int .u64 (d : Nat)]] w fun e w' => e = .returned (.int .i64 (cmT a b c d)) ∧ w.Since w.heap.size w' := by
  obtain ⟨W1, HW1⟩ : ∃ W, Hid (w.alloc (.cells #[.int .u64 (a : Nat), .int .u64 (b : Nat)] 37) = W) := ⟨_, rfl⟩
  have s1 : w.Since w.heap.size W1 := by rw [← HW1.out]; exact (World.Since.refl _ _).alloc (Nat.le_refl _) _
  have z1 : W1.heap.size = w.heap.size + 1 := by rw [← HW1.out]; simp
  have a0 : W1.cell? ⟨w.heap.size, 0, none⟩ = some (.int .u64 (a : Nat)) := by rw [← HW1.out]; simp
  have a1 : W1.cell? ⟨w.heap.size, 1, none⟩ = some (.int .u64 (b : Nat)) := by rw [← HW1.out]; simp
  obtain ⟨W2, HW2⟩ : ∃ W, Hid (W1.alloc (.cells #[.int .u64 (c : Nat), .int .u64 (d : Nat)] 37) = W) := ⟨_, rfl⟩
  have s2 : W1.Since W1.heap.size W2 := by rw [← HW2.out]; exact (World.Since.refl _ _).alloc (Nat.le_refl _) _
  have z2 : W2.heap.size = w.heap.size + 1 + 1 := by rw [← HW2.out, ← z1]; simp
  have b0 : W2.cell? ⟨w.heap.size + 1, 0, none⟩ = some (.int .u64 (c : Nat)) := by rw [← z1, ← HW2.out]; simp
  have b1 : W2.cell? ⟨w.heap.size + 1, 1, none⟩ = some (.int .u64 (d : Nat)) := by rw [← z1, ← HW2.out]; simp
  have a0 := cell_later s2 a0
  have a1 := cell_later s2 a1
  have HE : Hid (w.Since w.heap.size W2) := s1.trans (since_mono s2 s1.size)
  have l1 : w.heap.size < W2.heap.size := by omega
  have l2 : w.heap.size + 1 < W2.heap.size := by omega
  have hc : ∀ (u v : Nat) (w : World), _ := fun u v w => compareN_any u v w
  unfold cmT
  have hor : ∀ (b0 : Nat) (w : World), _ := fun b0 w => or_any (cmN a c) (cmN b d) b0 w
  rename_i a0' a1'
  clear a0' a1' s1 s2 z2
  go_enter Try.func29, Try.ntmps29
  go_upto_region 1 with fail
  rw [HW1.out]
  try rw [z1]
  rw [HW2.out]
  try rw [z1]
  clear HW1 HW2 z1
  go_region_held3 (fun W' => W'.cell? ⟨w.heap.size, 0, none⟩ = some (.int .u64 (a : Nat)) ∧ W'.cell? ⟨w.heap.size, 1, none⟩ = some (.int .u64 (b : Nat)) ∧ W'.cell? ⟨w.heap.size + 1, 0, none⟩ = some (.int .u64 (c : Nat)) ∧ W'.cell? ⟨w.heap.size + 1, 1, none⟩ = some (.int .u64 (d : Nat)))
    (first | exact ⟨a0, a1, b0, b1⟩ | exact ⟨(alloc_keeps _ _ _ 0 l1).trans a0, (alloc_keeps _ _ _ 1 l1).trans a1, (alloc_keeps _ _ _ 0 l2).trans b0, (alloc_keeps _ _ _ 1 l2).trans b1⟩)
    (first | (go_at_call 31; refine (hc _ _ _).mono ?_; rintro e w' ⟨rfl, rfl⟩) | (go_at_call 30; refine (hor _ _ ?_ ?_).mono ?_; (go_simp); (go_simp); rintro e w' ⟨rfl, rfl⟩))
  all_goals
    go_wp2_with fail
    go_ret
    refine ⟨rfl, HE.out.trans (since_mono ?_ HE.out.size)⟩
    exact ((World.Since.refl _ _).drew).alloc (Nat.le_refl _) _
end Go.Proofs.Ytfmndfgdchhaeaa

/- Package replica: a write that is refused. -/
namespace Go.Proofs.Ytfmndfgdchhaeaa
open Go.RowKit
set_option maxRecDepth 100000
set_option maxRecDepth 100000

set_option maxHeartbeats 8000000 in
theorem write_refused {rb : Nat} {r : Rp} {w : World} (h : RpIs w rb r) (m : Mg) (va : Option Addr) (vc : Nat) (E : Nat) (h4 : m.n 5 = (E : Nat)) (hlt : E < r.p) :
    Calls Try.prog 23 #[.pointer (some ⟨rb, 0, none⟩), mgV m va vc] w fun e w' => e = .returned (hdV (refG m E r.p) none 0 true false false) ∧ RpIs w' rb r ∧ But rb w w' := by
  obtain ⟨MM, HMM⟩ : ∃ x, Hid ((mgL m va vc).toArray = x) := ⟨_, rfl⟩
  have HINM : Hid ((Try.prog.info? 42).map (·.size) = some MM.size) := by rw [← HMM.out]; exact infoMgA _ _ _
  obtain ⟨W1, HW1⟩ : ∃ W, Hid (w.alloc (.cells MM 42) = W) := ⟨_, rfl⟩
  have s1 : w.Since w.heap.size W1 := by rw [← HW1.out]; exact (World.Since.refl _ _).alloc (Nat.le_refl _) _
  have z1 : W1.heap.size = w.heap.size + 1 := by rw [← HW1.out]; simp
  have r1 : W1.rowIs w.heap.size 42 22 (mgCell m va vc) := by rw [← HW1.out, ← HMM.out]; exact mg_row w m va vc
  obtain ⟨W2, HW2⟩ : ∃ W, Hid (W1.alloc hdZ = W) := ⟨_, rfl⟩
  have s2 : W1.Since W1.heap.size W2 := by rw [← HW2.out]; exact (World.Since.refl _ _).alloc (Nat.le_refl _) _
  have r2 : W2.rowIs (w.heap.size + 1) 49 25 (hdCell mg0 none 0 false false false) := by rw [← z1, ← HW2.out]; exact hdZ_row W1
  have rm2 := row_since r1 s2
  have sw2 : w.Since w.heap.size W2 := s1.trans (since_mono s2 s1.size)
  have z2 : W2.heap.size = w.heap.size + 1 + 1 := by rw [← HW2.out, ← z1]; simp
  have hR2 := h.since sw2
  have hrp := h.lt
  have HC4 : Hid (∀ W : World, W2.Since W2.heap.size W → W.cell? ⟨w.heap.size, 5, none⟩ = some (.int .u64 (E : Nat))) := fun W hW => by
    have : W.cell? ⟨w.heap.size, 5, none⟩ = some (.int .u64 (m.n 5)) := (row_since rm2 hW).cell (i := 5) (by decide)
    rw [this, h4]
  have c4 := HC4.out W2 (World.Since.refl _ _)
  have cp := hR2.c0
  have HHM : Hid (∀ W : World, W2.Since W2.heap.size W → W.heap[w.heap.size]? = some (.cells MM 42 (0, 0))) := fun W hW => by
    rw [← HMM.out]
    exact row_heap (row_since rm2 hW)
  have HRF : Hid (∀ W : World, W2.Since W2.heap.size W → Calls Try.prog 26 #[.pointer (some ⟨rb, 0, none⟩), .agg MM, .int .u64 (E : Nat)] W fun e w' => e = .returned (hdV (refG m E r.p) none 0 true false false) ∧ W2.Since W2.heap.size w') := fun W hW => by
    have q := refuse_any (hR2.since hW) m va vc E
    unfold mgV at q
    rw [HMM.out] at q
    exact q.mono fun e w' ⟨he, hs⟩ => ⟨he, hW.trans (since_mono hs hW.size)⟩
  have hq : decide ((E : Int) < (r.p : Int)) = true := by simp; omega
  have hq2 : (E : Int) < (r.p : Int) := by omega
  have HEND : Hid (∀ W : World, W2.Since W2.heap.size W → ∃ W8, Hid (W.setCells (w.heap.size + 1) 0 (hdL (refG m E r.p) none 0 true false false).toArray.toList = W8) ∧ Hid (W.there (w.heap.size + 1) 0 (hdL (refG m E r.p) none 0 true false false).toArray.size) ∧ Hid (W8.heap[w.heap.size + 1]? = some (.cells (hdL (refG m E r.p) none 0 true false false).toArray 49 (0, 0))) ∧ Hid (RpIs W8 rb r ∧ But rb w W8)) := fun W hW => by
    have rr := row_since r2 hW
    obtain ⟨W8, HW8, hh8, z8, b8, o8, t8, p8⟩ := cells_stored rr (hdL (refG m E r.p) none 0 true false false) (hdL_len _ _ _ _ _ _)
    have e : (hdL (refG m E r.p) none 0 true false false).toArray.size = 25 := by rw [List.size_toArray, hdL_len]
    have a := sw2.trans (since_mono hW sw2.size)
    refine ⟨W8, HW8, ?_, hh8, (hR2.since hW).on (b8 _ (by omega)), o8.trans a.os, t8.trans a.tape, p8.trans a.output, by rw [z8]; exact a.size, fun k hk _ => ?_⟩
    · show World.there _ _ _ _
      rw [e]
      exact row_there rr
    · rw [b8 k (by omega)]
      exact a.block k hk
  unfold hdZ at HW2
  unfold hdV at HRF ⊢
  have HIR := hide (infoHrA (refG m E r.p) none 0 true false false)
  have HAL := hide (hd_all (refG m E r.p) none 0 true false false)
  obtain ⟨HL, HHL⟩ : ∃ x, Hid ((hdL (refG m E r.p) none 0 true false false).toArray = x) := ⟨_, rfl⟩
  rw [HHL.out] at HRF HEND HIR HAL ⊢
  generalize hpp : r.p = P at cp hq hq2
  clear s1 r1 s2 r2 rm2 sw2 z2 hrp hR2 h h4 hlt hpp HHL
  unfold mgV
  rw [HMM.out]
  go_enter Try.func23, Try.ntmps23
  go_upto_region 1 with fail
  rw [HW1.out]
  try rw [z1]
  rw [HW2.out]
  try rw [z1]
  clear HW1 HW2 z1 HMM
  go_quiet (fail)
  have hsq : W2.Since W2.heap.size (W2.drewN nq) := since_drewN' (World.Since.refl _ _) nq
  generalize W2.drewN nq = Wq at *
  have cq4 := HC4.out Wq hsq
  have HHq := hide (HHM.out Wq hsq)
  have HQ3 := hide (HRF.out Wq hsq)
  clear HRF c4 cp hq hq2 HC4 HHM hsq
  go_wp2_with (refine wpList_load_row rfl 42 _ rfl w.heap.size rfl _ _ (0, 0) _ HHq.out Try.underlying42 rfl HINM.out ?_)
  refine HQ3.out.mono ?_
  rintro e w3 ⟨rfl, hs3⟩
  obtain ⟨W8, HW8, HT8, HH8, HE⟩ := HEND.out w3 hs3
  clear HQ3 HEND hs3 cq4 HHq
  go_wp2_with (refine wpList_store_mid rfl 49 _ _ rfl (w.heap.size + 1) 0 _ rfl rfl HT8.out HIR.out HAL.out ?_; rw [HW8.out])
  exact bodyPost_ret_by (results_cell_row rfl _ _ (w.heap.size + 1) 49 _ (0, 0) _ rfl HH8.out Try.underlying49 rfl HIR.out) rfl ⟨rfl, HE.out⟩
end Go.Proofs.Ytfmndfgdchhaeaa

/- Package replica: a write that is taken. -/
namespace Go.Proofs.Ytfmndfgdchhaeaa
open Go.RowKit
set_option maxRecDepth 100000
set_option maxRecDepth 100000

theorem hd_cells {w : World} {kb : Nat} {m : Mg} {va : Option Addr} {vc : Nat} {b1 b2 b3 : Bool} {HA : Array Value} (h : w.heap[kb]? = some (.cells HA 49 (0, 0))) (hv : hdV m va vc b1 b2 b3 = .agg HA) : w.rowIs kb 49 25 (hdCell m va vc b1 b2 b3) := by
  have e : (hdL m va vc b1 b2 b3).toArray = HA := Value.agg.inj hv
  refine ⟨HA, h, by rw [← e, List.size_toArray, hdL_len], fun i hi => ?_⟩
  rw [← e, List.getElem?_toArray]
  unfold hdL hdCell
  by_cases h22 : i < 22
  · rw [List.getElem?_append_left (by rw [mgL_len]; exact h22), if_pos h22]
    unfold mgL
    rw [List.getElem?_map, List.getElem?_range h22]
    rfl
  · rw [List.getElem?_append_right (by rw [mgL_len]; omega), if_neg h22, mgL_len]
    rcases (show i = 22 ∨ i = 23 ∨ i = 24 by omega) with rfl | rfl | rfl <;> rfl
theorem hd_heap {w : World} {kb : Nat} {m : Mg} {va : Option Addr} {vc : Nat} {b1 b2 b3 : Bool} (h : w.rowIs kb 49 25 (hdCell m va vc b1 b2 b3)) : w.heap[kb]? = some (.cells (hdL m va vc b1 b2 b3).toArray 49 (0, 0)) := by
  rw [row_heap h]
  have e : (List.range 25).map (hdCell m va vc b1 b2 b3) = hdL m va vc b1 b2 b3 := by
    refine List.ext_getElem? (fun i => ?_)
    by_cases hi : i < 25
    · rw [List.getElem?_map, List.getElem?_range hi]
      unfold hdL hdCell
      by_cases h22 : i < 22
      · rw [List.getElem?_append_left (by rw [mgL_len]; exact h22)]
        unfold mgL
        rw [List.getElem?_map, List.getElem?_range h22]
        simp [h22]
      · rw [List.getElem?_append_right (by rw [mgL_len]; omega), mgL_len]
        rcases (show i = 22 ∨ i = 23 ∨ i = 24 by omega) with rfl | rfl | rfl <;> rfl
    · rw [List.getElem?_eq_none (by simp; omega), List.getElem?_eq_none (by rw [hdL_len]; omega)]
  rw [e]
/-- What Hear tells is laid into new memory. -/
theorem hd_put (w : World) (m : Mg) (va : Option Addr) (vc : Nat) (b1 b2 b3 : Bool) : ∃ (W : World) (HA : Array Value), Hid (hdV m va vc b1 b2 b3 = .agg HA) ∧ Hid ((w.alloc (.cells #[.int .i64 0, .int .i64 0, .int .i64 0, .int .i64 0, .int .u64 0, .int .u64 0, .int .u64 0, .int .u64 0, .int .i64 0, .int .u64 0, .slice none 0 0, .int .i64 0, .int .u64 0, .string ⟨#[]⟩, .string ⟨#[]⟩, .int .u64 0, .int .u64 0, .int .u64 0, .int .i64 0, .int .i64 0, .int .i64 0, .int .i64 0, .bool false, .bool false, .bool false] 49)).there w.heap.size 0 HA.size) ∧ Hid ((w.alloc (.cells #[.int .i64 0, .int .i64 0, .int .i64 0, .int .i64 0, .int .u64 0, .int .u64 0, .int .u64 0, .int .u64 0, .int .i64 0, .int .u64 0, .slice none 0 0, .int .i64 0, .int .u64 0, .string ⟨#[]⟩, .string ⟨#[]⟩, .int .u64 0, .int .u64 0, .int .u64 0, .int .i64 0, .int .i64 0, .int .i64 0, .int .i64 0, .bool false, .bool false, .bool false] 49)).setCells w.heap.size 0 HA.toList = W) ∧ Hid ((Try.prog.info? 49).map (·.size) = some HA.size) ∧ Hid (HA.all (·.oneCell') = true) ∧ Hid (W.rowIs w.heap.size 49 25 (hdCell m va vc b1 b2 b3)) ∧ Hid (w.Since w.heap.size W) := by
  have r6 : (w.alloc hdZ).rowIs w.heap.size 49 25 (hdCell mg0 none 0 false false false) := hdZ_row w
  obtain ⟨W, HW, h7, z7, b7, o7, t7, p7⟩ := cells_stored r6 (hdL m va vc b1 b2 b3) (hdL_len _ _ _ _ _ _)
  have s6 : w.Since w.heap.size (w.alloc hdZ) := (World.Since.refl _ _).alloc (Nat.le_refl _) _
  have hms : (hdL m va vc b1 b2 b3).toArray.size = 25 := by rw [List.size_toArray, hdL_len]
  refine ⟨W, (hdL m va vc b1 b2 b3).toArray, rfl, ?_, HW, infoHrA _ _ _ _ _ _, hd_all _ _ _ _ _ _, hd_cells h7 rfl, o7.trans s6.os, t7.trans s6.tape, p7.trans s6.output, by rw [z7]; exact s6.size, fun k hk => (b7 k (by omega)).trans (s6.block k hk)⟩
  show World.there _ _ _ _
  rw [hms]
  exact row_there r6
/-- What a write that is stored is answered. -/
def wrG (m : Mg) (E Q : Nat) : Mg := ((ansG m 5).setN 5 (E : Nat)).setN 6 (Q : Nat)
/-- While a write is being taken. -/
structure Wz (w : World) (rb : Nat) (r : Rp) (m : Mg) (va : Option Addr) (vc hb : Nat) (hm : Mg) (b1 b2 b3 : Bool) (W : World) : Prop where
  rp : RpIs W rb r
  mrow : W.rowIs w.heap.size 42 22 (mgCell m va vc)
  out : W.rowIs (w.heap.size + 1) 49 25 (hdCell mg0 none 0 false false false)
  hrow : W.rowIs hb 49 25 (hdCell hm none 0 b1 b2 b3)
  but : But rb w W
  ge : w.heap.size + 1 < hb
  lt : rb < w.heap.size
section
variable {w W W' : World} {rb vc hb : Nat} {r r' : Rp} {m hm hm' : Mg} {va : Option Addr} {b1 b2 b3 c1 c2 c3 : Bool}
theorem Wz.since (h : Wz w rb r m va vc hb hm b1 b2 b3 W) (hs : W.Since W.heap.size W') : Wz w rb r m va vc hb hm b1 b2 b3 W' :=
  ⟨h.rp.since hs, row_since h.mrow hs, row_since h.out hs, row_since h.hrow hs, h.but.sin hs, h.ge, h.lt⟩
theorem Wz.turn (h : Wz w rb r m va vc hb hm b1 b2 b3 W) (hb' : But rb W W') (hr : RpIs W' rb r') : Wz w rb r' m va vc hb hm b1 b2 b3 W' :=
  ⟨hr, hb'.row h.mrow (by have := h.lt; omega), hb'.row h.out (by have := h.lt; omega), hb'.row h.hrow (by have := h.lt; have := h.ge; omega), h.but.trans hb', h.ge, h.lt⟩
theorem Wz.fill (h : Wz w rb r m va vc hb hm b1 b2 b3 W) (hb' : But hb W W') (hr : W'.rowIs hb 49 25 (hdCell hm' none 0 c1 c2 c3)) : Wz w rb r m va vc hb hm' c1 c2 c3 W' := by
  have h1 := h.ge
  have h2 := h.lt
  have h3 := h.but.size
  refine ⟨h.rp.but hb' (by omega), hb'.row h.mrow (by omega), hb'.row h.out (by omega), hr, ⟨hb'.os.trans h.but.os, hb'.tape.trans h.but.tape, hb'.output.trans h.but.output, Nat.le_trans h3 hb'.size, fun k hk hn => ?_⟩, h1, h2⟩
  rw [hb'.block k (by omega) (by omega)]
  exact h.but.block k hk hn
theorem But.setCells {r : Nat} {w w' : World} (h : But r w w') : ∀ (vs : List Value) (o : Nat), But r w (w'.setCells r o vs)
  | [], _ => h
  | _ :: vs, o => (But.setCells (h.setCell o _) vs (o + 1))
/-- One of the three flags. -/
theorem Wz.flag1 (h : Wz w rb r m va vc hb hm b1 b2 b3 W) (c : Bool) : Wz w rb r m va vc hb hm c b2 b3 (W.setCell ⟨hb, 22, none⟩ (.bool c)) :=
  h.fill ((But.of_since (World.Since.refl _ _)).setCell 22 _) ((h.hrow.set 22 _).congr (fun i hi => by
    unfold hdCell
    by_cases e : i = 22
    · subst e; simp
    · simp [e]))
theorem Wz.flag3 (h : Wz w rb r m va vc hb hm b1 b2 b3 W) (c : Bool) : Wz w rb r m va vc hb hm b1 b2 c (W.setCell ⟨hb, 24, none⟩ (.bool c)) :=
  h.fill ((But.of_since (World.Since.refl _ _)).setCell 24 _) ((h.hrow.set 24 _).congr (fun i hi => by
    unfold hdCell
    by_cases e : i = 24
    · subst e; simp
    · rw [if_neg e]
      by_cases e2 : i < 22
      · simp [e2]
      · by_cases e3 : i = 22
        · simp [e3]
        · have : i = 23 := by omega
          simp [this]))
theorem Wz.head (h : Wz w rb r m va vc hb hm b1 b2 b3 W) (n : Mg) : Wz w rb r m va vc hb n b1 b2 b3 (W.setCells hb 0 (mgL n none 0)) :=
  h.fill ((But.of_since (World.Since.refl _ _)).setCells _ 0) ((rowIs_setCells (mgL n none 0) 0 W _ h.hrow).congr (fun i hi => by
    unfold hdCell
    rw [mgL_len]
    by_cases e : i < 22
    · rw [if_pos ⟨Nat.zero_le _, by omega⟩, if_pos e, Nat.sub_zero]
      simp [mgL, List.getD, e]
    · rw [if_neg (by omega), if_neg e, if_neg e]))
theorem Wz.num (h : Wz w rb r m va vc hb hm b1 b2 b3 W) (c : Nat) (v : Int) (hc : c < 10) : Wz w rb r m va vc hb (hm.setN c v) b1 b2 b3 (W.setCell ⟨hb, c, none⟩ (mgNum c v)) :=
  h.fill ((But.of_since (World.Since.refl _ _)).setCell c _) ((h.hrow.set c _).congr (fun i hi => by
    unfold hdCell
    rw [mgCell_setN hm none 0 c v (by omega) (by omega) (by omega) i]
    by_cases e : i = c
    · subst e; simp [show i < 22 by omega]
    · simp [e]))
end
end Go.Proofs.Ytfmndfgdchhaeaa

/- Package replica: a write that is taken: the walk. -/
namespace Go.Proofs.Ytfmndfgdchhaeaa
open Go.RowKit
set_option maxRecDepth 100000
set_option maxRecDepth 100000

theorem byt_but {w w' : World} {rb : Nat} {r : Rp} {va : Option Addr} {n : Nat} {x : Nat → Nat} (hb : Byt w va n x) (h : RpIs w rb r) (ht : But rb w w') : Byt w' va n x := fun j hj => by
  obtain ⟨b, off, e, hc⟩ := hb j hj
  refine ⟨b, off, e, ?_⟩
  have hl := World.block_lt_of_cell? _ _ hc
  have hne : b ≠ rb := fun e => by
    subst e
    by_cases hi : off + j < 5
    · rw [h.row.cell hi] at hc
      unfold rpCell at hc
      repeat' split at hc
      all_goals exact absurd hc (by simp)
    · obtain ⟨cs, h1, h2, h3⟩ := h.row
      simp only [World.cell?, h1] at hc
      rw [Array.getElem?_eq_none (by omega)] at hc
      exact absurd hc (by simp)
  rw [World.cell?_of_block (a := ⟨b, off + j, none⟩) (ht.block b hl hne)]
  exact hc
theorem op_call {P : Program} {o : Oper} {a : Act} {w : World} {K : Act → World → Prop} {Q : Exit → Act → World → Prop} (f : FuncId) (args : Array Value) (hrun : (execOp a.eval o).run P w = .ok (.enter f args) w) {Post : Ending → World → Prop} (hc : Calls P f args w Post)
    (h : ∀ e w', Post e w' → ∃ v, e = .returned v ∧ K (a.put o.dst v) w') : Oper.wp P o a w K Q := by
  unfold Oper.wp
  rw [hrun, Oper.upon_enter]
  refine hc.mono fun e w'' hh => ?_
  obtain ⟨v, rfl, hk⟩ := h e w'' hh
  exact hk
set_option maxHeartbeats 8000000 in
theorem write_greater {rb : Nat} {r : Rp} {w : World} (h : RpIs w rb r) (m : Mg) (va : Option Addr) (vc : Nat) (E Q : Nat) (S : Int) (hA : MgA w m va vc) (h5 : m.n 5 = (E : Nat)) (h6 : m.n 6 = (Q : Nat)) (h8 : m.n 8 = S) (hE : E < 18446744073709551616) (hQ : Q < 18446744073709551616) (hS : S ≤ 9223372036854775807) (hge : r.p ≤ E) (ho : 0 < cmT E Q r.te r.ts) :
    Calls Try.prog 23 #[.pointer (some ⟨rb, 0, none⟩), mgV m va vc] w fun e w' => e = .returned (hdV (wrG m E Q) none 0 true true true) ∧ RpIs w' rb ⟨E, E, Q, m.s 10, wtM S⟩ ∧ But rb w w' := by
  obtain ⟨MM, HMM⟩ : ∃ x, Hid ((mgL m va vc).toArray = x) := ⟨_, rfl⟩
  have HINM : Hid ((Try.prog.info? 42).map (·.size) = some MM.size) := by rw [← HMM.out]; exact infoMgA _ _ _
  obtain ⟨W1, HW1⟩ : ∃ W, Hid (w.alloc (.cells MM 42) = W) := ⟨_, rfl⟩
  have s1 : w.Since w.heap.size W1 := by rw [← HW1.out]; exact (World.Since.refl _ _).alloc (Nat.le_refl _) _
  have z1 : W1.heap.size = w.heap.size + 1 := by rw [← HW1.out]; simp
  have r1 : W1.rowIs w.heap.size 42 22 (mgCell m va vc) := by rw [← HW1.out, ← HMM.out]; exact mg_row w m va vc
  obtain ⟨W2, HW2⟩ : ∃ W, Hid (W1.alloc hdZ = W) := ⟨_, rfl⟩
  have s2 : W1.Since W1.heap.size W2 := by rw [← HW2.out]; exact (World.Since.refl _ _).alloc (Nat.le_refl _) _
  have r2 : W2.rowIs (w.heap.size + 1) 49 25 (hdCell mg0 none 0 false false false) := by rw [← z1, ← HW2.out]; exact hdZ_row W1
  have rm2 := row_since r1 s2
  have sw2 : w.Since w.heap.size W2 := s1.trans (since_mono s2 s1.size)
  have z2 : W2.heap.size = w.heap.size + 1 + 1 := by rw [← HW2.out, ← z1]; simp
  have hR2 := h.since sw2
  have hrp := h.lt
  have hA2 := hA.since sw2
  have c5 : W2.cell? ⟨w.heap.size, 5, none⟩ = some (.int .u64 (E : Nat)) := by
    have : W2.cell? ⟨w.heap.size, 5, none⟩ = some (.int .u64 (m.n 5)) := rm2.cell (i := 5) (by decide)
    rw [this, h5]
  have cp := hR2.c0
  have HPR : Hid (∀ W : World, W2.Since W2.heap.size W → Calls Try.prog 27 #[.pointer (some ⟨rb, 0, none⟩), .int .u64 (E : Nat)] W fun e w' => e = .returned (.bool (decide (r.p ≠ E))) ∧ Hid (RpIs w' rb { r with p := E } ∧ But rb W2 w')) := fun W hW => (promise_any (hR2.since hW) E hE).mono fun e w' ⟨he, h1, h2⟩ => ⟨he, h1, (But.of_since (r := rb) hW).trans h2⟩
  have hq : decide ((E : Int) < (r.p : Int)) = false := by simp; omega
  have hq2 : ¬ ((E : Int) < (r.p : Int)) := by omega
  obtain ⟨CH, HCH⟩ : ∃ x, Hid (decide (r.p ≠ E) = x) := ⟨_, rfl⟩
  rw [HCH.out] at HPR
  try rw [HCH.out]
  have HRM := hide rm2
  have HRW := hide r2
  have HS2 := hide sw2
  have Hz2 := hide z2
  have HLT := hide hrp
  have H55 := hide h5
  have H66 := hide h6
  have H88 := hide h8
  have HEQ : Hid (E < 18446744073709551616 ∧ Q < 18446744073709551616 ∧ S ≤ 9223372036854775807) := ⟨hE, hQ, hS⟩
  have HA := hide hA2
  have HBY : Hid (∀ W : World, But rb w W → Byt W va (m.s 10).length (fun j => (m.s 10).getD j 0)) := fun W hW => byt_but hA.val h hW
  have HO := hide ho
  unfold hdZ at HW2
  have HC5 : Hid (∀ W : World, W2.Since W2.heap.size W → W.cell? ⟨w.heap.size, 5, none⟩ = some (.int .u64 (E : Nat))) := fun W hW => cell_later hW c5
  obtain ⟨P, TE, TS, V, WT⟩ := r
  replace cp : W2.cell? ⟨rb, 0, none⟩ = some (.int .u64 (P : Nat)) := cp
  replace hq : decide ((E : Int) < (P : Int)) = false := hq
  replace hq2 : ¬ ((E : Int) < (P : Int)) := hq2
  replace HPR : Hid (∀ W : World, W2.Since W2.heap.size W → Calls Try.prog 27 #[.pointer (some ⟨rb, 0, none⟩), .int .u64 (E : Nat)] W fun e w' => e = .returned (.bool CH) ∧ Hid (RpIs w' rb ⟨E, TE, TS, V, WT⟩ ∧ But rb W2 w')) := HPR
  clear s1 r1 s2 r2 rm2 sw2 z2 hrp hR2 h h5 h6 h8 hge HCH hE hQ hS hA hA2 ho
  unfold mgV
  rw [HMM.out]
  go_enter Try.func23, Try.ntmps23
  go_upto_region 1 with fail
  rw [HW1.out]
  try rw [z1]
  rw [HW2.out]
  try rw [z1]
  clear HW1 HW2 z1
  go_quiet (fail)
  have hsq : W2.Since W2.heap.size (W2.drewN nq) := since_drewN' (World.Since.refl _ _) nq
  generalize W2.drewN nq = Wq at *
  have cq5 := HC5.out Wq hsq
  have HQ3 := hide (HPR.out Wq hsq)
  clear HPR c5 cp hq hq2 HC5
  go_upto_region 3 with fail
  refine wp_region_lit ?_
  refine wpList_plain rfl fun _ hK => op_run (.pointer (some ⟨rb, 0, none⟩)) (by kernel_rfl) (hK _ _ ?_)
  simp only [Act.put, List.setIfInBounds_toArray, List.set_cons_zero, List.set_cons_succ]
  refine wpList_plain rfl fun _ hK => op_run (.pointer (some ⟨w.heap.size, 5, none⟩)) (by kernel_rfl) (hK _ _ ?_)
  simp only [Act.put, List.setIfInBounds_toArray, List.set_cons_zero, List.set_cons_succ]
  refine wpList_plain rfl fun _ hK => op_run (.pointer (some ⟨w.heap.size, 5, none⟩)) (by kernel_rfl) (hK _ _ ?_)
  simp only [Act.put, List.setIfInBounds_toArray, List.set_cons_zero, List.set_cons_succ]
  refine wpList_plain rfl fun _ hK => op_run (.int .u64 (E : Nat)) (by go_simp) (hK _ _ ?_)
  simp only [Act.put, List.setIfInBounds_toArray, List.set_cons_zero, List.set_cons_succ]
  refine wpList_plain rfl fun _ hK => op_call 27 #[.pointer (some ⟨rb, 0, none⟩), .int .u64 (E : Nat)] (by kernel_rfl) HQ3.out ?_
  rintro e w3 ⟨rfl, H3⟩
  refine ⟨_, rfl, hK _ _ ?_⟩
  simp only [Act.put, List.setIfInBounds_toArray, List.set_cons_zero, List.set_cons_succ]
  clear HQ3 cq5 hsq
  refine wpList_plain rfl fun _ hK => op_run (hdV mg0 none 0 false true CH) (by kernel_rfl) (hK _ _ ?_)
  obtain ⟨W4, HA4, HV4, HT4, HW4, HI4, HO4, HR4, HS4⟩ := hd_put w3 mg0 none 0 false true CH
  rw [HV4.out]
  simp only [Act.put, List.setIfInBounds_toArray, List.set_cons_zero, List.set_cons_succ]
  have hz2 := Hz2.out
  have hz3 : W2.heap.size ≤ w3.heap.size := H3.out.2.size
  have hlt := HLT.out
  have HZ4 : Hid (Wz w rb ⟨E, TE, TS, V, WT⟩ m va vc w3.heap.size mg0 false true CH W4) := ⟨H3.out.1.since HS4.out, row_since (H3.out.2.row HRM.out (by omega)) HS4.out, row_since (H3.out.2.row HRW.out (by omega)) HS4.out, HR4.out, ((But.of_since HS2.out).trans H3.out.2).sin HS4.out, by omega, hlt⟩
  have HA4' : Hid (∀ W : World, But rb W4 W → W.heap.size ≥ 0 → True) := fun _ _ _ => trivial
  have c8 : W4.cell? ⟨w.heap.size, 8, none⟩ = some (.int .i64 S) := by
    have : W4.cell? ⟨w.heap.size, 8, none⟩ = some (.int .i64 (m.n 8)) := HZ4.out.mrow.cell (i := 8) (by decide)
    rw [this, H88.out]
  have HK5 : Hid (Calls Try.prog 21 #[.pointer (some ⟨rb, 0, none⟩), .int .i64 S] W4 fun e w' => e = .returned (.tuple #[]) ∧ Hid (Wz w rb ⟨E, TE, TS, V, wtM S⟩ m va vc w3.heap.size mg0 false true CH w')) := (keepOut_any HZ4.out.rp S HEQ.out.2.2).mono fun e w' ⟨he, h1, h2⟩ => ⟨he, HZ4.out.turn h2 h1⟩
  clear hz2 hz3 hlt HR4 HS4 H3 HA4'
  go_wp2_with (refine wpList_store_mid rfl 49 _ _ rfl w3.heap.size 0 _ rfl rfl HT4.out HI4.out HO4.out ?_; rw [HW4.out])
  refine HK5.out.mono ?_
  rintro e w5 ⟨rfl, H5⟩
  clear HK5 c8 HZ4 HT4 HI4 HO4 HW4 HV4
  go_upto_region 5 with fail
  have HM6' : Hid (∀ W : World, Wz w rb ⟨E, TE, TS, V, wtM S⟩ m va vc w3.heap.size mg0 false true CH W → W.cell? ⟨w.heap.size, 5, none⟩ = some (.int .u64 (E : Nat)) ∧ W.cell? ⟨w.heap.size, 6, none⟩ = some (.int .u64 (Q : Nat))) := fun W hW => by
    have a : W.cell? ⟨w.heap.size, 5, none⟩ = some (.int .u64 (m.n 5)) := hW.mrow.cell (i := 5) (by decide)
    have b : W.cell? ⟨w.heap.size, 6, none⟩ = some (.int .u64 (m.n 6)) := hW.mrow.cell (i := 6) (by decide)
    rw [a, b, H55.out, H66.out]
    exact ⟨rfl, rfl⟩
  have H5d : Hid (Wz w rb ⟨E, TE, TS, V, wtM S⟩ m va vc w3.heap.size mg0 false true CH w5.drew) := H5.out.since ((World.Since.refl _ _).drew)
  have HCM : Hid (Calls Try.prog 29 #[.agg #[.int .u64 (E : Nat), .int .u64 (Q : Nat)], .agg #[.int .u64 (TE : Nat), .int .u64 (TS : Nat)]] w5.drew fun e w' => e = .returned (.int .i64 (cmT E Q TE TS)) ∧ Hid (Wz w rb ⟨E, TE, TS, V, wtM S⟩ m va vc w3.heap.size mg0 false true CH w')) := (compareT_any E Q TE TS w5.drew).mono fun e w' ⟨he, hs⟩ => ⟨he, H5d.out.since hs⟩
  generalize hcm : cmT E Q TE TS = CM at *
  refine wp_region_held_drew (S := fun W => Wz w rb ⟨E, TE, TS, V, wtM S⟩ m va vc w3.heap.size mg0 false true CH W) (by kernel_rfl) H5d.out fun _ => ?_
  refine wpAnyH_take (i := 0) (v := .pointer (some ⟨w.heap.size, 5, none⟩)) rfl (by kernel_rfl) (by kernel_rfl) (by kernel_rfl) (fun _ _ _ h => h) (.inl ⟨rfl, fun W hW => by kernel_rfl⟩) H5d.out ?_
  simp only [List.getElem_toArray, List.getElem_cons_zero, Act.put, List.setIfInBounds_toArray, List.set_cons_zero, List.set_cons_succ]
  refine wpAnyH_take (i := 1) (v := .agg #[.int .u64 (E : Nat), .int .u64 (Q : Nat)]) rfl (by kernel_rfl) (by kernel_rfl) (by kernel_rfl) (fun _ _ _ h => h) (.inl ⟨rfl, fun W hW => by have c1 := (HM6'.out _ hW).1; have c2 := (HM6'.out _ hW).2; go_simp⟩) H5d.out ?_
  simp only [List.getElem_toArray, List.getElem_cons_zero, List.getElem_cons_succ, Act.put, List.setIfInBounds_toArray, List.set_cons_zero, List.set_cons_succ]
  refine wpAnyH_take (i := 2) (v := .pointer (some ⟨rb, 0, none⟩)) rfl (by kernel_rfl) (by kernel_rfl) (by kernel_rfl) (fun _ _ _ h => h) (.inl ⟨rfl, fun W hW => by kernel_rfl⟩) H5d.out ?_
  simp only [List.getElem_toArray, List.getElem_cons_zero, List.getElem_cons_succ, Act.put, List.setIfInBounds_toArray, List.set_cons_zero, List.set_cons_succ]
  refine wpAnyH_take (i := 3) (v := .pointer (some ⟨rb, 0, none⟩)) rfl (by kernel_rfl) (by kernel_rfl) (by kernel_rfl) (fun _ _ _ h => h) (.inl ⟨rfl, fun W hW => by first | kernel_rfl | go_simp⟩) H5d.out ?_
  simp only [List.getElem_toArray, List.getElem_cons_zero, List.getElem_cons_succ, Act.put, List.setIfInBounds_toArray, List.set_cons_zero, List.set_cons_succ]
  refine wpAnyH_take (i := 4) (v := .pointer (some ⟨rb, 1, none⟩)) rfl (by kernel_rfl) (by kernel_rfl) (by kernel_rfl) (fun _ _ _ h => h) (.inl ⟨rfl, fun W hW => by kernel_rfl⟩) H5d.out ?_
  simp only [List.getElem_toArray, List.getElem_cons_zero, List.getElem_cons_succ, Act.put, List.setIfInBounds_toArray, List.set_cons_zero, List.set_cons_succ]
  refine wpAnyH_take (i := 5) (v := .agg #[.int .u64 (TE : Nat), .int .u64 (TS : Nat)]) rfl (by kernel_rfl) (by kernel_rfl) (by kernel_rfl) (fun _ _ _ h => h) (.inl ⟨rfl, fun W hW => by have c1 := hW.rp.c1; have c2 := hW.rp.c2; go_simp⟩) H5d.out ?_
  simp only [List.getElem_toArray, List.getElem_cons_zero, List.getElem_cons_succ, Act.put, List.setIfInBounds_toArray, List.set_cons_zero, List.set_cons_succ]
  refine wpAnyH_ready (rs := [6]) (by kernel_rfl) (by simp) ?_
  refine AllReadyH.cons rfl (fun K hK => ?_) AllReadyH.nil
  refine step_callW rfl 29 #[.agg #[.int .u64 (E : Nat), .int .u64 (Q : Nat)], .agg #[.int .u64 (TE : Nat), .int .u64 (TS : Nat)]] (by kernel_rfl) HCM.out ?_
  rintro e w6 ⟨rfl, H6⟩
  refine ⟨_, rfl, hK.out _ _ H6.out fun _ => ?_⟩
  clear hK
  simp only [List.getElem_toArray, List.getElem_cons_zero, List.getElem_cons_succ, Act.put, List.setIfInBounds_toArray, List.set_cons_zero, List.set_cons_succ]
  refine wpAnyH_take (i := 7) (v := .int .i64 CM) rfl (by kernel_rfl) (by kernel_rfl) (by kernel_rfl) (fun _ _ _ h => h) (.inl ⟨rfl, fun W hW => by kernel_rfl⟩) H6.out ?_
  simp only [List.getElem_toArray, List.getElem_cons_zero, List.getElem_cons_succ, Act.put, List.setIfInBounds_toArray, List.set_cons_zero, List.set_cons_succ]
  refine wpAnyH_done (by kernel_rfl) ?_ _
  clear H5d HCM H5
  have hc1 : decide (CM > 0) = true := by have := HO.out; simp; omega
  have hc2 : (CM > 0) := by have := HO.out; omega
  have hc3 : decide (CM ≥ 0) = true := by have := HO.out; simp; omega
  have hc4 : (CM ≥ 0) := by have := HO.out; omega
  have d5 := (HM6'.out _ H6.out).1
  have d6 := (HM6'.out _ H6.out).2
  have d10 : w6.cell? ⟨w.heap.size, 10, none⟩ = some (.slice va (m.s 10).length vc) := H6.out.mrow.cell (i := 10) (by decide)
  have hby : Byt w6 va (m.s 10).length (fun j => (m.s 10).getD j 0) := HBY.out _ H6.out.but
  have hcv := str_byt va (m.s 10).length vc _ w6 hby (fun e => (HA.out.nil e).1)
  rw [strOf_strL, range_getD] at hcv
  obtain ⟨W7, HW7⟩ : ∃ W, Hid (w6.setCells rb 1 [.int .u64 (E : Nat), .int .u64 (Q : Nat)] = W) := ⟨_, rfl⟩
  have hT : RpIs (W7.setCell ⟨rb, 3, none⟩ (.string (strL (m.s 10)))) rb ⟨E, E, Q, m.s 10, wtM S⟩ := by rw [← HW7.out, setCells_two]; exact H6.out.rp.setT E Q (m.s 10) HEQ.out.1 HEQ.out.2.1 (HA.out.len 10) (HA.out.byte 10)
  have b7 : But rb w6 W7 := by rw [← HW7.out]; exact (But.of_since (World.Since.refl _ _)).setCells _ 1
  have D1 : Hid (w6.there rb 1 2) := fun j hj => ⟨by rw [H6.out.rp.row.cell (by have : j < 2 := hj; omega)]; rfl, H6.out.rp.row.frozen _⟩
  have r7 : W7.rowIs rb 60 5 (fun i => if i = 2 then .int .u64 (Q : Nat) else if i = 1 then .int .u64 (E : Nat) else rpCell ⟨E, TE, TS, V, wtM S⟩ i) := by rw [← HW7.out, setCells_two]; exact (H6.out.rp.row.set 1 _).set 2 _
  have D3 : Hid (W7.cell? ⟨rb, 3, none⟩ = some (.string (strL V)) ∧ W7.frozen? ⟨rb, 3, none⟩ = false) := ⟨r7.cell (i := 3) (by decide), r7.frozen 3⟩
  have H8 : Hid (Wz w rb ⟨E, E, Q, m.s 10, wtM S⟩ m va vc w3.heap.size mg0 false true CH (W7.setCell ⟨rb, 3, none⟩ (.string (strL (m.s 10))))) := H6.out.turn (b7.setCell 3 _) hT
  have HCV := hide hcv
  clear hby hcv hT b7 r7
  go_upto_region 7 with fail
  refine wp_region_lit ?_
  refine wpList_plain rfl fun _ hK => op_run (.pointer (some ⟨rb, 0, none⟩)) (by kernel_rfl) (hK _ _ ?_)
  simp only [Act.put, List.setIfInBounds_toArray, List.set_cons_zero, List.set_cons_succ]
  refine wpList_plain rfl fun _ hK => op_run (.pointer (some ⟨rb, 0, none⟩)) (by kernel_rfl) (hK _ _ ?_)
  simp only [Act.put, List.setIfInBounds_toArray, List.set_cons_zero, List.set_cons_succ]
  refine wpList_plain rfl fun _ hK => op_run (.pointer (some ⟨w.heap.size, 5, none⟩)) (by kernel_rfl) (hK _ _ ?_)
  simp only [Act.put, List.setIfInBounds_toArray, List.set_cons_zero, List.set_cons_succ]
  refine wpList_plain rfl fun _ hK => op_run (.agg #[.int .u64 (E : Nat), .int .u64 (Q : Nat)]) (by go_simp) (hK _ _ ?_)
  simp only [Act.put, List.setIfInBounds_toArray, List.set_cons_zero, List.set_cons_succ]
  refine wpList_plain rfl fun _ hK => op_run (.pointer (some ⟨w.heap.size, 10, none⟩)) (by kernel_rfl) (hK _ _ ?_)
  simp only [Act.put, List.setIfInBounds_toArray, List.set_cons_zero, List.set_cons_succ]
  refine wpList_plain rfl fun _ hK => op_run (.slice va (m.s 10).length vc) (by go_simp) (hK _ _ ?_)
  simp only [Act.put, List.setIfInBounds_toArray, List.set_cons_zero, List.set_cons_succ]
  refine wpList_plain rfl fun _ hK => op_run (.string (strL (m.s 10))) (by have r := HCV.out; go_simp) (hK _ _ ?_)
  simp only [Act.put, List.setIfInBounds_toArray, List.set_cons_zero, List.set_cons_succ]
  refine wpList_plain rfl fun _ hK => op_run (.pointer (some ⟨rb, 0, none⟩)) (by first | kernel_rfl | go_simp) (hK _ _ ?_)
  simp only [Act.put, List.setIfInBounds_toArray, List.set_cons_zero, List.set_cons_succ]
  refine wpList_plain rfl fun _ hK => op_run (.pointer (some ⟨rb, 1, none⟩)) (by kernel_rfl) (hK _ _ ?_)
  simp only [Act.put, List.setIfInBounds_toArray, List.set_cons_zero, List.set_cons_succ]
  refine wpList_store_mid rfl 37 (.tmp 48) (.tmp 43) rfl rb 1 _ rfl rfl D1.out infoTg (by simp [Value.oneCell']) ?_
  rw [show (w6.setCells rb 1 _) = W7 from HW7.out]
  simp only [Act.put]
  refine wpList_plain rfl fun _ hK => op_run (.pointer (some ⟨rb, 0, none⟩)) (by first | kernel_rfl | go_simp) (hK _ _ ?_)
  simp only [Act.put, List.setIfInBounds_toArray, List.set_cons_zero, List.set_cons_succ]
  refine wpList_plain rfl fun _ hK => op_run (.pointer (some ⟨rb, 3, none⟩)) (by kernel_rfl) (hK _ _ ?_)
  simp only [Act.put, List.setIfInBounds_toArray, List.set_cons_zero, List.set_cons_succ]
  refine wpList_plain rfl fun _ hK => wp_store_cell 9 (.tmp 50) (.tmp 46) rfl rb 3 (.string (strL (m.s 10))) _ rfl rfl D3.out.1 D3.out.2 (by kernel_rfl) rfl (hK _ _ ?_)
  simp only [Act.put]
  clear D1 D3 HCV HW7 d5 d6 d10
  generalize W7.setCell ⟨rb, 3, none⟩ (.string (strL (m.s 10))) = W8 at *
  have d24 : W8.cell? ⟨w3.heap.size, 24, none⟩ = some (.bool CH) := H8.out.hrow.cell (i := 24) (by decide)
  have f24 : W8.frozen? ⟨w3.heap.size, 24, none⟩ = false := H8.out.hrow.frozen 24
  have H9 := hide (H8.out.flag3 true)
  go_upto_region 9 with fail
  clear d24 f24
  generalize W8.setCell ⟨w3.heap.size, 24, none⟩ (.bool true) = W9 at *
  have hma : W9.heap[w.heap.size]? = some (.cells MM 42 (0, 0)) := by rw [← HMM.out]; exact row_heap H9.out.mrow
  have HMA := hide hma
  have HAN : Hid (Calls Try.prog 28 #[.agg MM, .int .i64 5] W9 fun e w' => e = .returned (mgV (ansG m 5) none 0) ∧ Hid (Wz w rb ⟨E, E, Q, m.s 10, wtM S⟩ m va vc w3.heap.size mg0 false true true w')) := by
    have q := answer_any m va vc 5 W9
    unfold mgV at q
    rw [HMM.out] at q
    exact q.mono fun e w' ⟨he, hs⟩ => ⟨he, H9.out.since hs⟩
  clear hma
  go_upto_region 10 with fail
  clear hc1 hc2 hc3 hc4
  refine wp_region_lit ?_
  refine wpList_load_row rfl 42 (.tmp 3) rfl w.heap.size rfl _ MM (0, 0) _ HMA.out Try.underlying42 rfl HINM.out ?_
  simp only [Act.put, List.setIfInBounds_toArray, List.set_cons_zero, List.set_cons_succ]
  refine wpList_plain rfl fun _ hK => op_call 28 #[.agg MM, .int .i64 5] (by kernel_rfl) HAN.out ?_
  rintro e wa ⟨rfl, Ha⟩
  refine ⟨_, rfl, hK _ _ ?_⟩
  simp only [Act.put, List.setIfInBounds_toArray, List.set_cons_zero, List.set_cons_succ]
  clear HAN HMA hK H9
  refine wpList_plain rfl fun _ hK => op_run (.pointer (some ⟨w3.heap.size, 0, none⟩)) (by kernel_rfl) (hK _ _ ?_)
  simp only [Act.put, List.setIfInBounds_toArray, List.set_cons_zero, List.set_cons_succ]
  refine wpList_store_mid rfl 42 (.tmp 56) (.tmp 55) rfl w3.heap.size 0 (mgL (ansG m 5) none 0).toArray rfl rfl (fun j hj => ⟨by rw [Ha.out.hrow.cell (by rw [List.size_toArray, mgL_len] at hj; omega)]; rfl, Ha.out.hrow.frozen _⟩) (infoMgA _ _ _) (mg_all _ _ _) ?_
  simp only [Act.put]
  have Hb := hide (Ha.out.head (ansG m 5))
  generalize wa.setCells w3.heap.size 0 (mgL (ansG m 5) none 0) = wb at *
  refine wpList_plain rfl fun _ hK => op_run (.pointer (some ⟨w3.heap.size, 22, none⟩)) (by kernel_rfl) (hK _ _ ?_)
  simp only [Act.put, List.setIfInBounds_toArray, List.set_cons_zero, List.set_cons_succ]
  refine wpList_plain rfl fun _ hK => wp_store_cell 4 (.tmp 57) _ rfl w3.heap.size 22 (.bool true) _ rfl rfl (Hb.out.hrow.cell (i := 22) (by decide)) (Hb.out.hrow.frozen 22) (by kernel_rfl) rfl (hK _ _ ?_)
  simp only [Act.put]
  have Hc := hide (Hb.out.flag1 true)
  generalize wb.setCell ⟨w3.heap.size, 22, none⟩ (.bool true) = wc at *
  have d5 : wc.cell? ⟨w.heap.size, 5, none⟩ = some (.int .u64 (E : Nat)) := by
    have a : wc.cell? ⟨w.heap.size, 5, none⟩ = some (.int .u64 (m.n 5)) := Hc.out.mrow.cell (i := 5) (by decide)
    rw [a, H55.out]
  have d6 : wc.cell? ⟨w.heap.size, 6, none⟩ = some (.int .u64 (Q : Nat)) := by
    have a : wc.cell? ⟨w.heap.size, 6, none⟩ = some (.int .u64 (m.n 6)) := Hc.out.mrow.cell (i := 6) (by decide)
    rw [a, H66.out]
  go_upto_region 11 with fail
  refine wp_region_lit ?_
  refine wpList_plain rfl fun _ hK => op_run (.pointer (some ⟨w.heap.size, 5, none⟩)) (by kernel_rfl) (hK _ _ ?_)
  simp only [Act.put, List.setIfInBounds_toArray, List.set_cons_zero, List.set_cons_succ]
  refine wpList_plain rfl fun _ hK => op_run (.agg #[.int .u64 (E : Nat), .int .u64 (Q : Nat)]) (by go_simp) (hK _ _ ?_)
  simp only [Act.put, List.setIfInBounds_toArray, List.set_cons_zero, List.set_cons_succ]
  refine wpList_plain rfl fun _ hK => op_run (.pointer (some ⟨w3.heap.size, 0, none⟩)) (by kernel_rfl) (hK _ _ ?_)
  simp only [Act.put, List.setIfInBounds_toArray, List.set_cons_zero, List.set_cons_succ]
  refine wpList_plain rfl fun _ hK => op_run (.pointer (some ⟨w3.heap.size, 5, none⟩)) (by kernel_rfl) (hK _ _ ?_)
  simp only [Act.put, List.setIfInBounds_toArray, List.set_cons_zero, List.set_cons_succ]
  refine wpList_store_mid rfl 37 (.tmp 61) (.tmp 59) rfl w3.heap.size 5 _ rfl rfl (fun j hj => ⟨by rw [Hc.out.hrow.cell (by have : j < 2 := hj; omega)]; rfl, Hc.out.hrow.frozen _⟩) infoTg (by simp [Value.oneCell']) ?_
  simp only [Act.put]
  rw [show (wc.setCells w3.heap.size 5 _) = (wc.setCell ⟨w3.heap.size, 5, none⟩ (mgNum 5 (E : Nat))).setCell ⟨w3.heap.size, 6, none⟩ (mgNum 6 (Q : Nat)) from rfl]
  have Hd : Hid (Wz w rb ⟨E, E, Q, m.s 10, wtM S⟩ m va vc w3.heap.size (wrG m E Q) true true true _) := hide ((Hc.out.num 5 (E : Nat) (by decide)).num 6 (Q : Nat) (by decide))
  generalize World.setCell _ ⟨w3.heap.size, 6, none⟩ (mgNum 6 (Q : Nat)) = wd at *
  clear d5 d6 Ha Hb Hc
  go_upto_region 12 with fail
  obtain ⟨HL, HHL⟩ : ∃ x, Hid ((hdL (wrG m E Q) none 0 true true true).toArray = x) := ⟨_, rfl⟩
  have HIR : Hid ((Try.prog.info? 49).map (·.size) = some HL.size) := by rw [← HHL.out]; exact infoHrA _ _ _ _ _ _
  have HAL : Hid (HL.all (·.oneCell') = true) := by rw [← HHL.out]; exact hd_all _ _ _ _ _ _
  have hh : wd.heap[w3.heap.size]? = some (.cells HL 49 (0, 0)) := by rw [← HHL.out]; exact hd_heap Hd.out.hrow
  obtain ⟨WE, HWE, hhE, zE, bE, oE, tE, pE⟩ := cells_stored Hd.out.out (hdL (wrG m E Q) none 0 true true true) (hdL_len _ _ _ _ _ _)
  have HTE : Hid (wd.there (w.heap.size + 1) 0 HL.size) := by
    have e : HL.size = 25 := by rw [← HHL.out, List.size_toArray, hdL_len]
    show World.there _ _ _ _
    rw [e]
    exact row_there Hd.out.out
  have HE : Hid (RpIs WE rb ⟨E, E, Q, m.s 10, wtM S⟩ ∧ But rb w WE) := by
    have hlt := Hd.out.lt
    have bt := Hd.out.but
    refine ⟨Hd.out.rp.on (bE _ (by omega)), oE.trans bt.os, tE.trans bt.tape, pE.trans bt.output, by rw [zE]; exact bt.size, fun k hk hr => ?_⟩
    rw [bE k (by omega)]
    exact bt.block k hk hr
  have HWE' : Hid (wd.setCells (w.heap.size + 1) 0 HL.toList = WE) := by
    rw [← HHL.out]
    exact HWE
  have HHE : Hid (WE.heap[w.heap.size + 1]? = some (.cells HL 49 (0, 0))) := by rw [← HHL.out]; exact hhE
  have HHH := hide hh
  refine wp_region_lit ?_
  refine wpList_load_row rfl 49 (.tmp 5) rfl w3.heap.size rfl _ HL (0, 0) _ HHH.out Try.underlying49 rfl HIR.out ?_
  simp only [Act.put, List.setIfInBounds_toArray, List.set_cons_zero, List.set_cons_succ]
  refine wpList_store_mid rfl 49 (.tmp 4) (.tmp 62) rfl (w.heap.size + 1) 0 HL rfl rfl HTE.out HIR.out HAL.out ?_
  rw [HWE'.out]
  clear hh hhE zE bE oE tE pE
  go_wp2_with fail
  exact bodyPost_ret_by (results_cell_row rfl _ _ (w.heap.size + 1) 49 _ (0, 0) _ rfl HHE.out Try.underlying49 rfl HIR.out) rfl ⟨congrArg (fun x => Ending.returned (.agg x)) HHL.out.symm, HE.out⟩
set_option maxHeartbeats 8000000 in
theorem write_equal {rb : Nat} {r : Rp} {w : World} (h : RpIs w rb r) (m : Mg) (va : Option Addr) (vc : Nat) (E Q : Nat) (S : Int) (hA : MgA w m va vc) (h5 : m.n 5 = (E : Nat)) (h6 : m.n 6 = (Q : Nat)) (h8 : m.n 8 = S) (hE : E < 18446744073709551616) (hQ : Q < 18446744073709551616) (hS : S ≤ 9223372036854775807) (hge : r.p ≤ E) (ho : cmT E Q r.te r.ts = 0) :
    Calls Try.prog 23 #[.pointer (some ⟨rb, 0, none⟩), mgV m va vc] w fun e w' => e = .returned (hdV (wrG m E Q) none 0 true true (decide (r.p ≠ E))) ∧ RpIs w' rb { r with p := E, wt := wtM S } ∧ But rb w w' := by
  obtain ⟨MM, HMM⟩ : ∃ x, Hid ((mgL m va vc).toArray = x) := ⟨_, rfl⟩
  have HINM : Hid ((Try.prog.info? 42).map (·.size) = some MM.size) := by rw [← HMM.out]; exact infoMgA _ _ _
  obtain ⟨W1, HW1⟩ : ∃ W, Hid (w.alloc (.cells MM 42) = W) := ⟨_, rfl⟩
  have s1 : w.Since w.heap.size W1 := by rw [← HW1.out]; exact (World.Since.refl _ _).alloc (Nat.le_refl _) _
  have z1 : W1.heap.size = w.heap.size + 1 := by rw [← HW1.out]; simp
  have r1 : W1.rowIs w.heap.size 42 22 (mgCell m va vc) := by rw [← HW1.out, ← HMM.out]; exact mg_row w m va vc
  obtain ⟨W2, HW2⟩ : ∃ W, Hid (W1.alloc hdZ = W) := ⟨_, rfl⟩
  have s2 : W1.Since W1.heap.size W2 := by rw [← HW2.out]; exact (World.Since.refl _ _).alloc (Nat.le_refl _) _
  have r2 : W2.rowIs (w.heap.size + 1) 49 25 (hdCell mg0 none 0 false false false) := by rw [← z1, ← HW2.out]; exact hdZ_row W1
  have rm2 := row_since r1 s2
  have sw2 : w.Since w.heap.size W2 := s1.trans (since_mono s2 s1.size)
  have z2 : W2.heap.size = w.heap.size + 1 + 1 := by rw [← HW2.out, ← z1]; simp
  have hR2 := h.since sw2
  have hrp := h.lt
  have hA2 := hA.since sw2
  have c5 : W2.cell? ⟨w.heap.size, 5, none⟩ = some (.int .u64 (E : Nat)) := by
    have : W2.cell? ⟨w.heap.size, 5, none⟩ = some (.int .u64 (m.n 5)) := rm2.cell (i := 5) (by decide)
    rw [this, h5]
  have cp := hR2.c0
  have HPR : Hid (∀ W : World, W2.Since W2.heap.size W → Calls Try.prog 27 #[.pointer (some ⟨rb, 0, none⟩), .int .u64 (E : Nat)] W fun e w' => e = .returned (.bool (decide (r.p ≠ E))) ∧ Hid (RpIs w' rb { r with p := E } ∧ But rb W2 w')) := fun W hW => (promise_any (hR2.since hW) E hE).mono fun e w' ⟨he, h1, h2⟩ => ⟨he, h1, (But.of_since (r := rb) hW).trans h2⟩
  have hq : decide ((E : Int) < (r.p : Int)) = false := by simp; omega
  have hq2 : ¬ ((E : Int) < (r.p : Int)) := by omega
  obtain ⟨CH, HCH⟩ : ∃ x, Hid (decide (r.p ≠ E) = x) := ⟨_, rfl⟩
  rw [HCH.out] at HPR
  try rw [HCH.out]
  have HRM := hide rm2
  have HRW := hide r2
  have HS2 := hide sw2
  have Hz2 := hide z2
  have HLT := hide hrp
  have H55 := hide h5
  have H66 := hide h6
  have H88 := hide h8
  have HEQ : Hid (E < 18446744073709551616 ∧ Q < 18446744073709551616 ∧ S ≤ 9223372036854775807) := ⟨hE, hQ, hS⟩
  have HA := hide hA2
  have HBY : Hid (∀ W : World, But rb w W → Byt W va (m.s 10).length (fun j => (m.s 10).getD j 0)) := fun W hW => byt_but hA.val h hW
  have HO := hide ho
  unfold hdZ at HW2
  have HC5 : Hid (∀ W : World, W2.Since W2.heap.size W → W.cell? ⟨w.heap.size, 5, none⟩ = some (.int .u64 (E : Nat))) := fun W hW => cell_later hW c5
  obtain ⟨P, TE, TS, V, WT⟩ := r
  replace cp : W2.cell? ⟨rb, 0, none⟩ = some (.int .u64 (P : Nat)) := cp
  replace hq : decide ((E : Int) < (P : Int)) = false := hq
  replace hq2 : ¬ ((E : Int) < (P : Int)) := hq2
  replace HPR : Hid (∀ W : World, W2.Since W2.heap.size W → Calls Try.prog 27 #[.pointer (some ⟨rb, 0, none⟩), .int .u64 (E : Nat)] W fun e w' => e = .returned (.bool CH) ∧ Hid (RpIs w' rb ⟨E, TE, TS, V, WT⟩ ∧ But rb W2 w')) := HPR
  clear s1 r1 s2 r2 rm2 sw2 z2 hrp hR2 h h5 h6 h8 hge HCH hE hQ hS hA hA2 ho
  unfold mgV
  rw [HMM.out]
  go_enter Try.func23, Try.ntmps23
  go_upto_region 1 with fail
  rw [HW1.out]
  try rw [z1]
  rw [HW2.out]
  try rw [z1]
  clear HW1 HW2 z1
  go_quiet (fail)
  have hsq : W2.Since W2.heap.size (W2.drewN nq) := since_drewN' (World.Since.refl _ _) nq
  generalize W2.drewN nq = Wq at *
  have cq5 := HC5.out Wq hsq
  have HQ3 := hide (HPR.out Wq hsq)
  clear HPR c5 cp hq hq2 HC5
  go_upto_region 3 with fail
  refine wp_region_lit ?_
  refine wpList_plain rfl fun _ hK => op_run (.pointer (some ⟨rb, 0, none⟩)) (by kernel_rfl) (hK _ _ ?_)
  simp only [Act.put, List.setIfInBounds_toArray, List.set_cons_zero, List.set_cons_succ]
  refine wpList_plain rfl fun _ hK => op_run (.pointer (some ⟨w.heap.size, 5, none⟩)) (by kernel_rfl) (hK _ _ ?_)
  simp only [Act.put, List.setIfInBounds_toArray, List.set_cons_zero, List.set_cons_succ]
  refine wpList_plain rfl fun _ hK => op_run (.pointer (some ⟨w.heap.size, 5, none⟩)) (by kernel_rfl) (hK _ _ ?_)
  simp only [Act.put, List.setIfInBounds_toArray, List.set_cons_zero, List.set_cons_succ]
  refine wpList_plain rfl fun _ hK => op_run (.int .u64 (E : Nat)) (by go_simp) (hK _ _ ?_)
  simp only [Act.put, List.setIfInBounds_toArray, List.set_cons_zero, List.set_cons_succ]
  refine wpList_plain rfl fun _ hK => op_call 27 #[.pointer (some ⟨rb, 0, none⟩), .int .u64 (E : Nat)] (by kernel_rfl) HQ3.out ?_
  rintro e w3 ⟨rfl, H3⟩
  refine ⟨_, rfl, hK _ _ ?_⟩
  simp only [Act.put, List.setIfInBounds_toArray, List.set_cons_zero, List.set_cons_succ]
  clear HQ3 cq5 hsq
  refine wpList_plain rfl fun _ hK => op_run (hdV mg0 none 0 false true CH) (by kernel_rfl) (hK _ _ ?_)
  obtain ⟨W4, HA4, HV4, HT4, HW4, HI4, HO4, HR4, HS4⟩ := hd_put w3 mg0 none 0 false true CH
  rw [HV4.out]
  simp only [Act.put, List.setIfInBounds_toArray, List.set_cons_zero, List.set_cons_succ]
  have hz2 := Hz2.out
  have hz3 : W2.heap.size ≤ w3.heap.size := H3.out.2.size
  have hlt := HLT.out
  have HZ4 : Hid (Wz w rb ⟨E, TE, TS, V, WT⟩ m va vc w3.heap.size mg0 false true CH W4) := ⟨H3.out.1.since HS4.out, row_since (H3.out.2.row HRM.out (by omega)) HS4.out, row_since (H3.out.2.row HRW.out (by omega)) HS4.out, HR4.out, ((But.of_since HS2.out).trans H3.out.2).sin HS4.out, by omega, hlt⟩
  have HA4' : Hid (∀ W : World, But rb W4 W → W.heap.size ≥ 0 → True) := fun _ _ _ => trivial
  have c8 : W4.cell? ⟨w.heap.size, 8, none⟩ = some (.int .i64 S) := by
    have : W4.cell? ⟨w.heap.size, 8, none⟩ = some (.int .i64 (m.n 8)) := HZ4.out.mrow.cell (i := 8) (by decide)
    rw [this, H88.out]
  have HK5 : Hid (Calls Try.prog 21 #[.pointer (some ⟨rb, 0, none⟩), .int .i64 S] W4 fun e w' => e = .returned (.tuple #[]) ∧ Hid (Wz w rb ⟨E, TE, TS, V, wtM S⟩ m va vc w3.heap.size mg0 false true CH w')) := (keepOut_any HZ4.out.rp S HEQ.out.2.2).mono fun e w' ⟨he, h1, h2⟩ => ⟨he, HZ4.out.turn h2 h1⟩
  clear hz2 hz3 hlt HR4 HS4 H3 HA4'
  go_wp2_with (refine wpList_store_mid rfl 49 _ _ rfl w3.heap.size 0 _ rfl rfl HT4.out HI4.out HO4.out ?_; rw [HW4.out])
  refine HK5.out.mono ?_
  rintro e w5 ⟨rfl, H5⟩
  clear HK5 c8 HZ4 HT4 HI4 HO4 HW4 HV4
  go_upto_region 5 with fail
  have HM6' : Hid (∀ W : World, Wz w rb ⟨E, TE, TS, V, wtM S⟩ m va vc w3.heap.size mg0 false true CH W → W.cell? ⟨w.heap.size, 5, none⟩ = some (.int .u64 (E : Nat)) ∧ W.cell? ⟨w.heap.size, 6, none⟩ = some (.int .u64 (Q : Nat))) := fun W hW => by
    have a : W.cell? ⟨w.heap.size, 5, none⟩ = some (.int .u64 (m.n 5)) := hW.mrow.cell (i := 5) (by decide)
    have b : W.cell? ⟨w.heap.size, 6, none⟩ = some (.int .u64 (m.n 6)) := hW.mrow.cell (i := 6) (by decide)
    rw [a, b, H55.out, H66.out]
    exact ⟨rfl, rfl⟩
  have H5d : Hid (Wz w rb ⟨E, TE, TS, V, wtM S⟩ m va vc w3.heap.size mg0 false true CH w5.drew) := H5.out.since ((World.Since.refl _ _).drew)
  have HCM : Hid (Calls Try.prog 29 #[.agg #[.int .u64 (E : Nat), .int .u64 (Q : Nat)], .agg #[.int .u64 (TE : Nat), .int .u64 (TS : Nat)]] w5.drew fun e w' => e = .returned (.int .i64 (cmT E Q TE TS)) ∧ Hid (Wz w rb ⟨E, TE, TS, V, wtM S⟩ m va vc w3.heap.size mg0 false true CH w')) := (compareT_any E Q TE TS w5.drew).mono fun e w' ⟨he, hs⟩ => ⟨he, H5d.out.since hs⟩
  generalize hcm : cmT E Q TE TS = CM at *
  refine wp_region_held_drew (S := fun W => Wz w rb ⟨E, TE, TS, V, wtM S⟩ m va vc w3.heap.size mg0 false true CH W) (by kernel_rfl) H5d.out fun _ => ?_
  refine wpAnyH_take (i := 0) (v := .pointer (some ⟨w.heap.size, 5, none⟩)) rfl (by kernel_rfl) (by kernel_rfl) (by kernel_rfl) (fun _ _ _ h => h) (.inl ⟨rfl, fun W hW => by kernel_rfl⟩) H5d.out ?_
  simp only [List.getElem_toArray, List.getElem_cons_zero, Act.put, List.setIfInBounds_toArray, List.set_cons_zero, List.set_cons_succ]
  refine wpAnyH_take (i := 1) (v := .agg #[.int .u64 (E : Nat), .int .u64 (Q : Nat)]) rfl (by kernel_rfl) (by kernel_rfl) (by kernel_rfl) (fun _ _ _ h => h) (.inl ⟨rfl, fun W hW => by have c1 := (HM6'.out _ hW).1; have c2 := (HM6'.out _ hW).2; go_simp⟩) H5d.out ?_
  simp only [List.getElem_toArray, List.getElem_cons_zero, List.getElem_cons_succ, Act.put, List.setIfInBounds_toArray, List.set_cons_zero, List.set_cons_succ]
  refine wpAnyH_take (i := 2) (v := .pointer (some ⟨rb, 0, none⟩)) rfl (by kernel_rfl) (by kernel_rfl) (by kernel_rfl) (fun _ _ _ h => h) (.inl ⟨rfl, fun W hW => by kernel_rfl⟩) H5d.out ?_
  simp only [List.getElem_toArray, List.getElem_cons_zero, List.getElem_cons_succ, Act.put, List.setIfInBounds_toArray, List.set_cons_zero, List.set_cons_succ]
  refine wpAnyH_take (i := 3) (v := .pointer (some ⟨rb, 0, none⟩)) rfl (by kernel_rfl) (by kernel_rfl) (by kernel_rfl) (fun _ _ _ h => h) (.inl ⟨rfl, fun W hW => by first | kernel_rfl | go_simp⟩) H5d.out ?_
  simp only [List.getElem_toArray, List.getElem_cons_zero, List.getElem_cons_succ, Act.put, List.setIfInBounds_toArray, List.set_cons_zero, List.set_cons_succ]
  refine wpAnyH_take (i := 4) (v := .pointer (some ⟨rb, 1, none⟩)) rfl (by kernel_rfl) (by kernel_rfl) (by kernel_rfl) (fun _ _ _ h => h) (.inl ⟨rfl, fun W hW => by kernel_rfl⟩) H5d.out ?_
  simp only [List.getElem_toArray, List.getElem_cons_zero, List.getElem_cons_succ, Act.put, List.setIfInBounds_toArray, List.set_cons_zero, List.set_cons_succ]
  refine wpAnyH_take (i := 5) (v := .agg #[.int .u64 (TE : Nat), .int .u64 (TS : Nat)]) rfl (by kernel_rfl) (by kernel_rfl) (by kernel_rfl) (fun _ _ _ h => h) (.inl ⟨rfl, fun W hW => by have c1 := hW.rp.c1; have c2 := hW.rp.c2; go_simp⟩) H5d.out ?_
  simp only [List.getElem_toArray, List.getElem_cons_zero, List.getElem_cons_succ, Act.put, List.setIfInBounds_toArray, List.set_cons_zero, List.set_cons_succ]
  refine wpAnyH_ready (rs := [6]) (by kernel_rfl) (by simp) ?_
  refine AllReadyH.cons rfl (fun K hK => ?_) AllReadyH.nil
  refine step_callW rfl 29 #[.agg #[.int .u64 (E : Nat), .int .u64 (Q : Nat)], .agg #[.int .u64 (TE : Nat), .int .u64 (TS : Nat)]] (by kernel_rfl) HCM.out ?_
  rintro e w6 ⟨rfl, H6⟩
  refine ⟨_, rfl, hK.out _ _ H6.out fun _ => ?_⟩
  clear hK
  simp only [List.getElem_toArray, List.getElem_cons_zero, List.getElem_cons_succ, Act.put, List.setIfInBounds_toArray, List.set_cons_zero, List.set_cons_succ]
  refine wpAnyH_take (i := 7) (v := .int .i64 CM) rfl (by kernel_rfl) (by kernel_rfl) (by kernel_rfl) (fun _ _ _ h => h) (.inl ⟨rfl, fun W hW => by kernel_rfl⟩) H6.out ?_
  simp only [List.getElem_toArray, List.getElem_cons_zero, List.getElem_cons_succ, Act.put, List.setIfInBounds_toArray, List.set_cons_zero, List.set_cons_succ]
  refine wpAnyH_done (by kernel_rfl) ?_ _
  clear H5d HCM H5
  have hc1 : decide (CM > 0) = false := by have := HO.out; simp; omega
  have hc2 : ¬ (CM > 0) := by have := HO.out; omega
  have hc3 : decide (CM ≥ 0) = true := by have := HO.out; simp; omega
  have hc4 : (CM ≥ 0) := by have := HO.out; omega
  have hma : w6.heap[w.heap.size]? = some (.cells MM 42 (0, 0)) := by rw [← HMM.out]; exact row_heap H6.out.mrow
  have HMA := hide hma
  have HAN : Hid (Calls Try.prog 28 #[.agg MM, .int .i64 5] w6 fun e w' => e = .returned (mgV (ansG m 5) none 0) ∧ Hid (Wz w rb ⟨E, TE, TS, V, wtM S⟩ m va vc w3.heap.size mg0 false true CH w')) := by
    have q := answer_any m va vc 5 w6
    unfold mgV at q
    rw [HMM.out] at q
    exact q.mono fun e w' ⟨he, hs⟩ => ⟨he, H6.out.since hs⟩
  clear hma
  go_upto_region 10 with fail
  clear hc1 hc2 hc3 hc4
  refine wp_region_lit ?_
  refine wpList_load_row rfl 42 (.tmp 3) rfl w.heap.size rfl _ MM (0, 0) _ HMA.out Try.underlying42 rfl HINM.out ?_
  simp only [Act.put, List.setIfInBounds_toArray, List.set_cons_zero, List.set_cons_succ]
  refine wpList_plain rfl fun _ hK => op_call 28 #[.agg MM, .int .i64 5] (by kernel_rfl) HAN.out ?_
  rintro e wa ⟨rfl, Ha⟩
  refine ⟨_, rfl, hK _ _ ?_⟩
  simp only [Act.put, List.setIfInBounds_toArray, List.set_cons_zero, List.set_cons_succ]
  clear HAN HMA hK H6
  refine wpList_plain rfl fun _ hK => op_run (.pointer (some ⟨w3.heap.size, 0, none⟩)) (by kernel_rfl) (hK _ _ ?_)
  simp only [Act.put, List.setIfInBounds_toArray, List.set_cons_zero, List.set_cons_succ]
  refine wpList_store_mid rfl 42 (.tmp 56) (.tmp 55) rfl w3.heap.size 0 (mgL (ansG m 5) none 0).toArray rfl rfl (fun j hj => ⟨by rw [Ha.out.hrow.cell (by rw [List.size_toArray, mgL_len] at hj; omega)]; rfl, Ha.out.hrow.frozen _⟩) (infoMgA _ _ _) (mg_all _ _ _) ?_
  simp only [Act.put]
  have Hb := hide (Ha.out.head (ansG m 5))
  generalize wa.setCells w3.heap.size 0 (mgL (ansG m 5) none 0) = wb at *
  refine wpList_plain rfl fun _ hK => op_run (.pointer (some ⟨w3.heap.size, 22, none⟩)) (by kernel_rfl) (hK _ _ ?_)
  simp only [Act.put, List.setIfInBounds_toArray, List.set_cons_zero, List.set_cons_succ]
  refine wpList_plain rfl fun _ hK => wp_store_cell 4 (.tmp 57) _ rfl w3.heap.size 22 (.bool true) _ rfl rfl (Hb.out.hrow.cell (i := 22) (by decide)) (Hb.out.hrow.frozen 22) (by kernel_rfl) rfl (hK _ _ ?_)
  simp only [Act.put]
  have Hc := hide (Hb.out.flag1 true)
  generalize wb.setCell ⟨w3.heap.size, 22, none⟩ (.bool true) = wc at *
  have d5 : wc.cell? ⟨w.heap.size, 5, none⟩ = some (.int .u64 (E : Nat)) := by
    have a : wc.cell? ⟨w.heap.size, 5, none⟩ = some (.int .u64 (m.n 5)) := Hc.out.mrow.cell (i := 5) (by decide)
    rw [a, H55.out]
  have d6 : wc.cell? ⟨w.heap.size, 6, none⟩ = some (.int .u64 (Q : Nat)) := by
    have a : wc.cell? ⟨w.heap.size, 6, none⟩ = some (.int .u64 (m.n 6)) := Hc.out.mrow.cell (i := 6) (by decide)
    rw [a, H66.out]
  go_upto_region 11 with fail
  refine wp_region_lit ?_
  refine wpList_plain rfl fun _ hK => op_run (.pointer (some ⟨w.heap.size, 5, none⟩)) (by kernel_rfl) (hK _ _ ?_)
  simp only [Act.put, List.setIfInBounds_toArray, List.set_cons_zero, List.set_cons_succ]
  refine wpList_plain rfl fun _ hK => op_run (.agg #[.int .u64 (E : Nat), .int .u64 (Q : Nat)]) (by go_simp) (hK _ _ ?_)
  simp only [Act.put, List.setIfInBounds_toArray, List.set_cons_zero, List.set_cons_succ]
  refine wpList_plain rfl fun _ hK => op_run (.pointer (some ⟨w3.heap.size, 0, none⟩)) (by kernel_rfl) (hK _ _ ?_)
  simp only [Act.put, List.setIfInBounds_toArray, List.set_cons_zero, List.set_cons_succ]
  refine wpList_plain rfl fun _ hK => op_run (.pointer (some ⟨w3.heap.size, 5, none⟩)) (by kernel_rfl) (hK _ _ ?_)
  simp only [Act.put, List.setIfInBounds_toArray, List.set_cons_zero, List.set_cons_succ]
  refine wpList_store_mid rfl 37 (.tmp 61) (.tmp 59) rfl w3.heap.size 5 _ rfl rfl (fun j hj => ⟨by rw [Hc.out.hrow.cell (by have : j < 2 := hj; omega)]; rfl, Hc.out.hrow.frozen _⟩) infoTg (by simp [Value.oneCell']) ?_
  simp only [Act.put]
  rw [show (wc.setCells w3.heap.size 5 _) = (wc.setCell ⟨w3.heap.size, 5, none⟩ (mgNum 5 (E : Nat))).setCell ⟨w3.heap.size, 6, none⟩ (mgNum 6 (Q : Nat)) from rfl]
  have Hd : Hid (Wz w rb ⟨E, TE, TS, V, wtM S⟩ m va vc w3.heap.size (wrG m E Q) true true CH _) := hide ((Hc.out.num 5 (E : Nat) (by decide)).num 6 (Q : Nat) (by decide))
  generalize World.setCell _ ⟨w3.heap.size, 6, none⟩ (mgNum 6 (Q : Nat)) = wd at *
  clear d5 d6 Ha Hb Hc
  go_upto_region 12 with fail
  obtain ⟨HL, HHL⟩ : ∃ x, Hid ((hdL (wrG m E Q) none 0 true true CH).toArray = x) := ⟨_, rfl⟩
  have HIR : Hid ((Try.prog.info? 49).map (·.size) = some HL.size) := by rw [← HHL.out]; exact infoHrA _ _ _ _ _ _
  have HAL : Hid (HL.all (·.oneCell') = true) := by rw [← HHL.out]; exact hd_all _ _ _ _ _ _
  have hh : wd.heap[w3.heap.size]? = some (.cells HL 49 (0, 0)) := by rw [← HHL.out]; exact hd_heap Hd.out.hrow
  obtain ⟨WE, HWE, hhE, zE, bE, oE, tE, pE⟩ := cells_stored Hd.out.out (hdL (wrG m E Q) none 0 true true CH) (hdL_len _ _ _ _ _ _)
  have HTE : Hid (wd.there (w.heap.size + 1) 0 HL.size) := by
    have e : HL.size = 25 := by rw [← HHL.out, List.size_toArray, hdL_len]
    show World.there _ _ _ _
    rw [e]
    exact row_there Hd.out.out
  have HE : Hid (RpIs WE rb ⟨E, TE, TS, V, wtM S⟩ ∧ But rb w WE) := by
    have hlt := Hd.out.lt
    have bt := Hd.out.but
    refine ⟨Hd.out.rp.on (bE _ (by omega)), oE.trans bt.os, tE.trans bt.tape, pE.trans bt.output, by rw [zE]; exact bt.size, fun k hk hr => ?_⟩
    rw [bE k (by omega)]
    exact bt.block k hk hr
  have HWE' : Hid (wd.setCells (w.heap.size + 1) 0 HL.toList = WE) := by
    rw [← HHL.out]
    exact HWE
  have HHE : Hid (WE.heap[w.heap.size + 1]? = some (.cells HL 49 (0, 0))) := by rw [← HHL.out]; exact hhE
  have HHH := hide hh
  refine wp_region_lit ?_
  refine wpList_load_row rfl 49 (.tmp 5) rfl w3.heap.size rfl _ HL (0, 0) _ HHH.out Try.underlying49 rfl HIR.out ?_
  simp only [Act.put, List.setIfInBounds_toArray, List.set_cons_zero, List.set_cons_succ]
  refine wpList_store_mid rfl 49 (.tmp 4) (.tmp 62) rfl (w.heap.size + 1) 0 HL rfl rfl HTE.out HIR.out HAL.out ?_
  rw [HWE'.out]
  clear hh hhE zE bE oE tE pE
  go_wp2_with fail
  exact bodyPost_ret_by (results_cell_row rfl _ _ (w.heap.size + 1) 49 _ (0, 0) _ rfl HHE.out Try.underlying49 rfl HIR.out) rfl ⟨congrArg (fun x => Ending.returned (.agg x)) HHL.out.symm, HE.out⟩
set_option maxHeartbeats 8000000 in
theorem write_less {rb : Nat} {r : Rp} {w : World} (h : RpIs w rb r) (m : Mg) (va : Option Addr) (vc : Nat) (E Q : Nat) (S : Int) (hA : MgA w m va vc) (h5 : m.n 5 = (E : Nat)) (h6 : m.n 6 = (Q : Nat)) (h8 : m.n 8 = S) (hE : E < 18446744073709551616) (hQ : Q < 18446744073709551616) (hS : S ≤ 9223372036854775807) (hge : r.p ≤ E) (ho : cmT E Q r.te r.ts < 0) :
    Calls Try.prog 23 #[.pointer (some ⟨rb, 0, none⟩), mgV m va vc] w fun e w' => e = .returned (hdV mg0 none 0 false true (decide (r.p ≠ E))) ∧ RpIs w' rb { r with p := E, wt := wtM S } ∧ But rb w w' := by
  obtain ⟨MM, HMM⟩ : ∃ x, Hid ((mgL m va vc).toArray = x) := ⟨_, rfl⟩
  have HINM : Hid ((Try.prog.info? 42).map (·.size) = some MM.size) := by rw [← HMM.out]; exact infoMgA _ _ _
  obtain ⟨W1, HW1⟩ : ∃ W, Hid (w.alloc (.cells MM 42) = W) := ⟨_, rfl⟩
  have s1 : w.Since w.heap.size W1 := by rw [← HW1.out]; exact (World.Since.refl _ _).alloc (Nat.le_refl _) _
  have z1 : W1.heap.size = w.heap.size + 1 := by rw [← HW1.out]; simp
  have r1 : W1.rowIs w.heap.size 42 22 (mgCell m va vc) := by rw [← HW1.out, ← HMM.out]; exact mg_row w m va vc
  obtain ⟨W2, HW2⟩ : ∃ W, Hid (W1.alloc hdZ = W) := ⟨_, rfl⟩
  have s2 : W1.Since W1.heap.size W2 := by rw [← HW2.out]; exact (World.Since.refl _ _).alloc (Nat.le_refl _) _
  have r2 : W2.rowIs (w.heap.size + 1) 49 25 (hdCell mg0 none 0 false false false) := by rw [← z1, ← HW2.out]; exact hdZ_row W1
  have rm2 := row_since r1 s2
  have sw2 : w.Since w.heap.size W2 := s1.trans (since_mono s2 s1.size)
  have z2 : W2.heap.size = w.heap.size + 1 + 1 := by rw [← HW2.out, ← z1]; simp
  have hR2 := h.since sw2
  have hrp := h.lt
  have hA2 := hA.since sw2
  have c5 : W2.cell? ⟨w.heap.size, 5, none⟩ = some (.int .u64 (E : Nat)) := by
    have : W2.cell? ⟨w.heap.size, 5, none⟩ = some (.int .u64 (m.n 5)) := rm2.cell (i := 5) (by decide)
    rw [this, h5]
  have cp := hR2.c0
  have HPR : Hid (∀ W : World, W2.Since W2.heap.size W → Calls Try.prog 27 #[.pointer (some ⟨rb, 0, none⟩), .int .u64 (E : Nat)] W fun e w' => e = .returned (.bool (decide (r.p ≠ E))) ∧ Hid (RpIs w' rb { r with p := E } ∧ But rb W2 w')) := fun W hW => (promise_any (hR2.since hW) E hE).mono fun e w' ⟨he, h1, h2⟩ => ⟨he, h1, (But.of_since (r := rb) hW).trans h2⟩
  have hq : decide ((E : Int) < (r.p : Int)) = false := by simp; omega
  have hq2 : ¬ ((E : Int) < (r.p : Int)) := by omega
  obtain ⟨CH, HCH⟩ : ∃ x, Hid (decide (r.p ≠ E) = x) := ⟨_, rfl⟩
  rw [HCH.out] at HPR
  try rw [HCH.out]
  have HRM := hide rm2
  have HRW := hide r2
  have HS2 := hide sw2
  have Hz2 := hide z2
  have HLT := hide hrp
  have H55 := hide h5
  have H66 := hide h6
  have H88 := hide h8
  have HEQ : Hid (E < 18446744073709551616 ∧ Q < 18446744073709551616 ∧ S ≤ 9223372036854775807) := ⟨hE, hQ, hS⟩
  have HA := hide hA2
  have HBY : Hid (∀ W : World, But rb w W → Byt W va (m.s 10).length (fun j => (m.s 10).getD j 0)) := fun W hW => byt_but hA.val h hW
  have HO := hide ho
  unfold hdZ at HW2
  have HC5 : Hid (∀ W : World, W2.Since W2.heap.size W → W.cell? ⟨w.heap.size, 5, none⟩ = some (.int .u64 (E : Nat))) := fun W hW => cell_later hW c5
  obtain ⟨P, TE, TS, V, WT⟩ := r
  replace cp : W2.cell? ⟨rb, 0, none⟩ = some (.int .u64 (P : Nat)) := cp
  replace hq : decide ((E : Int) < (P : Int)) = false := hq
  replace hq2 : ¬ ((E : Int) < (P : Int)) := hq2
  replace HPR : Hid (∀ W : World, W2.Since W2.heap.size W → Calls Try.prog 27 #[.pointer (some ⟨rb, 0, none⟩), .int .u64 (E : Nat)] W fun e w' => e = .returned (.bool CH) ∧ Hid (RpIs w' rb ⟨E, TE, TS, V, WT⟩ ∧ But rb W2 w')) := HPR
  clear s1 r1 s2 r2 rm2 sw2 z2 hrp hR2 h h5 h6 h8 hge HCH hE hQ hS hA hA2 ho
  unfold mgV
  rw [HMM.out]
  go_enter Try.func23, Try.ntmps23
  go_upto_region 1 with fail
  rw [HW1.out]
  try rw [z1]
  rw [HW2.out]
  try rw [z1]
  clear HW1 HW2 z1
  go_quiet (fail)
  have hsq : W2.Since W2.heap.size (W2.drewN nq) := since_drewN' (World.Since.refl _ _) nq
  generalize W2.drewN nq = Wq at *
  have cq5 := HC5.out Wq hsq
  have HQ3 := hide (HPR.out Wq hsq)
  clear HPR c5 cp hq hq2 HC5
  go_upto_region 3 with fail
  refine wp_region_lit ?_
  refine wpList_plain rfl fun _ hK => op_run (.pointer (some ⟨rb, 0, none⟩)) (by kernel_rfl) (hK _ _ ?_)
  simp only [Act.put, List.setIfInBounds_toArray, List.set_cons_zero, List.set_cons_succ]
  refine wpList_plain rfl fun _ hK => op_run (.pointer (some ⟨w.heap.size, 5, none⟩)) (by kernel_rfl) (hK _ _ ?_)
  simp only [Act.put, List.setIfInBounds_toArray, List.set_cons_zero, List.set_cons_succ]
  refine wpList_plain rfl fun _ hK => op_run (.pointer (some ⟨w.heap.size, 5, none⟩)) (by kernel_rfl) (hK _ _ ?_)
  simp only [Act.put, List.setIfInBounds_toArray, List.set_cons_zero, List.set_cons_succ]
  refine wpList_plain rfl fun _ hK => op_run (.int .u64 (E : Nat)) (by go_simp) (hK _ _ ?_)
  simp only [Act.put, List.setIfInBounds_toArray, List.set_cons_zero, List.set_cons_succ]
  refine wpList_plain rfl fun _ hK => op_call 27 #[.pointer (some ⟨rb, 0, none⟩), .int .u64 (E : Nat)] (by kernel_rfl) HQ3.out ?_
  rintro e w3 ⟨rfl, H3⟩
  refine ⟨_, rfl, hK _ _ ?_⟩
  simp only [Act.put, List.setIfInBounds_toArray, List.set_cons_zero, List.set_cons_succ]
  clear HQ3 cq5 hsq
  refine wpList_plain rfl fun _ hK => op_run (hdV mg0 none 0 false true CH) (by kernel_rfl) (hK _ _ ?_)
  obtain ⟨W4, HA4, HV4, HT4, HW4, HI4, HO4, HR4, HS4⟩ := hd_put w3 mg0 none 0 false true CH
  rw [HV4.out]
  simp only [Act.put, List.setIfInBounds_toArray, List.set_cons_zero, List.set_cons_succ]
  have hz2 := Hz2.out
  have hz3 : W2.heap.size ≤ w3.heap.size := H3.out.2.size
  have hlt := HLT.out
  have HZ4 : Hid (Wz w rb ⟨E, TE, TS, V, WT⟩ m va vc w3.heap.size mg0 false true CH W4) := ⟨H3.out.1.since HS4.out, row_since (H3.out.2.row HRM.out (by omega)) HS4.out, row_since (H3.out.2.row HRW.out (by omega)) HS4.out, HR4.out, ((But.of_since HS2.out).trans H3.out.2).sin HS4.out, by omega, hlt⟩
  have HA4' : Hid (∀ W : World, But rb W4 W → W.heap.size ≥ 0 → True) := fun _ _ _ => trivial
  have c8 : W4.cell? ⟨w.heap.size, 8, none⟩ = some (.int .i64 S) := by
    have : W4.cell? ⟨w.heap.size, 8, none⟩ = some (.int .i64 (m.n 8)) := HZ4.out.mrow.cell (i := 8) (by decide)
    rw [this, H88.out]
  have HK5 : Hid (Calls Try.prog 21 #[.pointer (some ⟨rb, 0, none⟩), .int .i64 S] W4 fun e w' => e = .returned (.tuple #[]) ∧ Hid (Wz w rb ⟨E, TE, TS, V, wtM S⟩ m va vc w3.heap.size mg0 false true CH w')) := (keepOut_any HZ4.out.rp S HEQ.out.2.2).mono fun e w' ⟨he, h1, h2⟩ => ⟨he, HZ4.out.turn h2 h1⟩
  clear hz2 hz3 hlt HR4 HS4 H3 HA4'
  go_wp2_with (refine wpList_store_mid rfl 49 _ _ rfl w3.heap.size 0 _ rfl rfl HT4.out HI4.out HO4.out ?_; rw [HW4.out])
  refine HK5.out.mono ?_
  rintro e w5 ⟨rfl, H5⟩
  clear HK5 c8 HZ4 HT4 HI4 HO4 HW4 HV4
  go_upto_region 5 with fail
  have HM6' : Hid (∀ W : World, Wz w rb ⟨E, TE, TS, V, wtM S⟩ m va vc w3.heap.size mg0 false true CH W → W.cell? ⟨w.heap.size, 5, none⟩ = some (.int .u64 (E : Nat)) ∧ W.cell? ⟨w.heap.size, 6, none⟩ = some (.int .u64 (Q : Nat))) := fun W hW => by
    have a : W.cell? ⟨w.heap.size, 5, none⟩ = some (.int .u64 (m.n 5)) := hW.mrow.cell (i := 5) (by decide)
    have b : W.cell? ⟨w.heap.size, 6, none⟩ = some (.int .u64 (m.n 6)) := hW.mrow.cell (i := 6) (by decide)
    rw [a, b, H55.out, H66.out]
    exact ⟨rfl, rfl⟩
  have H5d : Hid (Wz w rb ⟨E, TE, TS, V, wtM S⟩ m va vc w3.heap.size mg0 false true CH w5.drew) := H5.out.since ((World.Since.refl _ _).drew)
  have HCM : Hid (Calls Try.prog 29 #[.agg #[.int .u64 (E : Nat), .int .u64 (Q : Nat)], .agg #[.int .u64 (TE : Nat), .int .u64 (TS : Nat)]] w5.drew fun e w' => e = .returned (.int .i64 (cmT E Q TE TS)) ∧ Hid (Wz w rb ⟨E, TE, TS, V, wtM S⟩ m va vc w3.heap.size mg0 false true CH w')) := (compareT_any E Q TE TS w5.drew).mono fun e w' ⟨he, hs⟩ => ⟨he, H5d.out.since hs⟩
  generalize hcm : cmT E Q TE TS = CM at *
  refine wp_region_held_drew (S := fun W => Wz w rb ⟨E, TE, TS, V, wtM S⟩ m va vc w3.heap.size mg0 false true CH W) (by kernel_rfl) H5d.out fun _ => ?_
  refine wpAnyH_take (i := 0) (v := .pointer (some ⟨w.heap.size, 5, none⟩)) rfl (by kernel_rfl) (by kernel_rfl) (by kernel_rfl) (fun _ _ _ h => h) (.inl ⟨rfl, fun W hW => by kernel_rfl⟩) H5d.out ?_
  simp only [List.getElem_toArray, List.getElem_cons_zero, Act.put, List.setIfInBounds_toArray, List.set_cons_zero, List.set_cons_succ]
  refine wpAnyH_take (i := 1) (v := .agg #[.int .u64 (E : Nat), .int .u64 (Q : Nat)]) rfl (by kernel_rfl) (by kernel_rfl) (by kernel_rfl) (fun _ _ _ h => h) (.inl ⟨rfl, fun W hW => by have c1 := (HM6'.out _ hW).1; have c2 := (HM6'.out _ hW).2; go_simp⟩) H5d.out ?_
  simp only [List.getElem_toArray, List.getElem_cons_zero, List.getElem_cons_succ, Act.put, List.setIfInBounds_toArray, List.set_cons_zero, List.set_cons_succ]
  refine wpAnyH_take (i := 2) (v := .pointer (some ⟨rb, 0, none⟩)) rfl (by kernel_rfl) (by kernel_rfl) (by kernel_rfl) (fun _ _ _ h => h) (.inl ⟨rfl, fun W hW => by kernel_rfl⟩) H5d.out ?_
  simp only [List.getElem_toArray, List.getElem_cons_zero, List.getElem_cons_succ, Act.put, List.setIfInBounds_toArray, List.set_cons_zero, List.set_cons_succ]
  refine wpAnyH_take (i := 3) (v := .pointer (some ⟨rb, 0, none⟩)) rfl (by kernel_rfl) (by kernel_rfl) (by kernel_rfl) (fun _ _ _ h => h) (.inl ⟨rfl, fun W hW => by first | kernel_rfl | go_simp⟩) H5d.out ?_
  simp only [List.getElem_toArray, List.getElem_cons_zero, List.getElem_cons_succ, Act.put, List.setIfInBounds_toArray, List.set_cons_zero, List.set_cons_succ]
  refine wpAnyH_take (i := 4) (v := .pointer (some ⟨rb, 1, none⟩)) rfl (by kernel_rfl) (by kernel_rfl) (by kernel_rfl) (fun _ _ _ h => h) (.inl ⟨rfl, fun W hW => by kernel_rfl⟩) H5d.out ?_
  simp only [List.getElem_toArray, List.getElem_cons_zero, List.getElem_cons_succ, Act.put, List.setIfInBounds_toArray, List.set_cons_zero, List.set_cons_succ]
  refine wpAnyH_take (i := 5) (v := .agg #[.int .u64 (TE : Nat), .int .u64 (TS : Nat)]) rfl (by kernel_rfl) (by kernel_rfl) (by kernel_rfl) (fun _ _ _ h => h) (.inl ⟨rfl, fun W hW => by have c1 := hW.rp.c1; have c2 := hW.rp.c2; go_simp⟩) H5d.out ?_
  simp only [List.getElem_toArray, List.getElem_cons_zero, List.getElem_cons_succ, Act.put, List.setIfInBounds_toArray, List.set_cons_zero, List.set_cons_succ]
  refine wpAnyH_ready (rs := [6]) (by kernel_rfl) (by simp) ?_
  refine AllReadyH.cons rfl (fun K hK => ?_) AllReadyH.nil
  refine step_callW rfl 29 #[.agg #[.int .u64 (E : Nat), .int .u64 (Q : Nat)], .agg #[.int .u64 (TE : Nat), .int .u64 (TS : Nat)]] (by kernel_rfl) HCM.out ?_
  rintro e w6 ⟨rfl, H6⟩
  refine ⟨_, rfl, hK.out _ _ H6.out fun _ => ?_⟩
  clear hK
  simp only [List.getElem_toArray, List.getElem_cons_zero, List.getElem_cons_succ, Act.put, List.setIfInBounds_toArray, List.set_cons_zero, List.set_cons_succ]
  refine wpAnyH_take (i := 7) (v := .int .i64 CM) rfl (by kernel_rfl) (by kernel_rfl) (by kernel_rfl) (fun _ _ _ h => h) (.inl ⟨rfl, fun W hW => by kernel_rfl⟩) H6.out ?_
  simp only [List.getElem_toArray, List.getElem_cons_zero, List.getElem_cons_succ, Act.put, List.setIfInBounds_toArray, List.set_cons_zero, List.set_cons_succ]
  refine wpAnyH_done (by kernel_rfl) ?_ _
  clear H5d HCM H5
  have hc1 : decide (CM > 0) = false := by have := HO.out; simp; omega
  have hc2 : ¬ (CM > 0) := by have := HO.out; omega
  have hc3 : decide (CM ≥ 0) = false := by have := HO.out; simp; omega
  have hc4 : ¬ (CM ≥ 0) := by have := HO.out; omega
  go_upto_region 12 with fail
  obtain ⟨HL, HHL⟩ : ∃ x, Hid ((hdL mg0 none 0 false true CH).toArray = x) := ⟨_, rfl⟩
  have HIR : Hid ((Try.prog.info? 49).map (·.size) = some HL.size) := by rw [← HHL.out]; exact infoHrA _ _ _ _ _ _
  have HAL : Hid (HL.all (·.oneCell') = true) := by rw [← HHL.out]; exact hd_all _ _ _ _ _ _
  have hh : w6.heap[w3.heap.size]? = some (.cells HL 49 (0, 0)) := by rw [← HHL.out]; exact hd_heap H6.out.hrow
  obtain ⟨WE, HWE, hhE, zE, bE, oE, tE, pE⟩ := cells_stored H6.out.out (hdL mg0 none 0 false true CH) (hdL_len _ _ _ _ _ _)
  have HTE : Hid (w6.there (w.heap.size + 1) 0 HL.size) := by
    have e : HL.size = 25 := by rw [← HHL.out, List.size_toArray, hdL_len]
    show World.there _ _ _ _
    rw [e]
    exact row_there H6.out.out
  have HE : Hid (RpIs WE rb ⟨E, TE, TS, V, wtM S⟩ ∧ But rb w WE) := by
    have hlt := H6.out.lt
    have bt := H6.out.but
    refine ⟨H6.out.rp.on (bE _ (by omega)), oE.trans bt.os, tE.trans bt.tape, pE.trans bt.output, by rw [zE]; exact bt.size, fun k hk hr => ?_⟩
    rw [bE k (by omega)]
    exact bt.block k hk hr
  have HWE' : Hid (w6.setCells (w.heap.size + 1) 0 HL.toList = WE) := by
    rw [← HHL.out]
    exact HWE
  have HHE : Hid (WE.heap[w.heap.size + 1]? = some (.cells HL 49 (0, 0))) := by rw [← HHL.out]; exact hhE
  have HHH := hide hh
  refine wp_region_lit ?_
  refine wpList_load_row rfl 49 (.tmp 5) rfl w3.heap.size rfl _ HL (0, 0) _ HHH.out Try.underlying49 rfl HIR.out ?_
  simp only [Act.put, List.setIfInBounds_toArray, List.set_cons_zero, List.set_cons_succ]
  refine wpList_store_mid rfl 49 (.tmp 4) (.tmp 62) rfl (w.heap.size + 1) 0 HL rfl rfl HTE.out HIR.out HAL.out ?_
  rw [HWE'.out]
  clear hh hhE zE bE oE tE pE
  go_wp2_with fail
  exact bodyPost_ret_by (results_cell_row rfl _ _ (w.heap.size + 1) 49 _ (0, 0) _ rfl HHE.out Try.underlying49 rfl HIR.out) rfl ⟨congrArg (fun x => Ending.returned (.agg x)) HHL.out.symm, HE.out⟩
end Go.Proofs.Ytfmndfgdchhaeaa
