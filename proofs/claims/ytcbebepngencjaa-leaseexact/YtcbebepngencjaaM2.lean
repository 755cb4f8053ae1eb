/- Own texts, joined: LS10, LS11, LS12, LS7. -/
import Derived.Test.YtcbebepngencjaaM1
import Derived.Deep.CutBlock
import Derived.Test.YtcbebepngencjaaRows
import Derived.ProofKit
import Derived.OpenShut
import Derived.Lib.SmallJoins
import Derived.Deep.Slices

/- The document's own lease: Heard, New; same. -/
namespace Go.Proofs.Ytcbebepngencjaa
open Go.RowKit
set_option maxRecDepth 100000
set_option maxRecDepth 100000

/-- Heard: what the first step leaves, then what the second leaves. -/
theorem rheard_any {w : World} {b : Nat} {s : Ls} (h : RfIs w b s) (e : Nat) (p t : Bool) (he : e < 18446744073709551616) : Calls Try.prog 22 #[.pointer (some ⟨b, 0, none⟩), .int .u64 (e : Nat), .bool p, .bool t] w fun r w' => r = .returned (.tuple #[]) ∧ RfIs w' b (heardM s e p t) ∧ Mv (fun k => k = b) w w' := by
  have c7 := h.c7
  have c3 := h.c3
  have c4 := h.c4
  have f4 := h.fz 4
  have hs := h.ok.he
  have okp : Ls.Ok { s with left := s.pat } := ⟨Nat.le_trans h.ok.hpm h.ok.hm, h.ok.hs, h.ok.hq, h.ok.hp, h.ok.hc, h.ok.hm, h.ok.he, h.ok.h4, h.ok.hpm⟩
  have r1 := h.put 4 (.int .i64 (s.pat : Nat)) { s with left := s.pat } (fun j hj => by match j, hj with | 0, _ | 1, _ | 2, _ | 3, _ | 4, _ | 5, _ | 6, _ | 7, _ => rfl) okp
  obtain ⟨W1, HW1⟩ : ∃ W, Hid (w.setCell ⟨b, 4, none⟩ (.int .i64 (s.pat : Nat)) = W) := ⟨_, rfl⟩
  rw [HW1.out] at r1
  have d7 : W1.cell? ⟨b, 7, none⟩ = some (.int .u64 (s.seen : Nat)) := r1.1.c7
  have df7 := r1.1.fz 7
  have f7 := h.fz 7
  have hput : ∀ (W : World) (s' : Ls), RfIs W b s' → RfIs (W.setCell ⟨b, 7, none⟩ (.int .u64 (e : Nat))) b { s' with seen := e } ∧ Mv (fun k => k = b) W (W.setCell ⟨b, 7, none⟩ (.int .u64 (e : Nat))) := fun W s' h' =>
    h'.put 7 _ { s' with seen := e } (fun j hj => by match j, hj with | 0, _ | 1, _ | 2, _ | 3, _ | 4, _ | 5, _ | 6, _ | 7, _ => rfl) ⟨h'.ok.hl, h'.ok.hs, h'.ok.hq, h'.ok.hp, h'.ok.hc, h'.ok.hm, he, h'.ok.h4, h'.ok.hpm⟩
  unfold heardM
  by_cases hc : t = true ∨ (p = true ∧ s.seen ≤ e)
  · rw [if_pos hc]
    by_cases hlt : s.seen < e
    · rw [if_pos hlt]
      have r2 := hput W1 _ r1.1
      obtain ⟨W2, HW2⟩ : ∃ W, Hid (W1.setCell ⟨b, 7, none⟩ (.int .u64 (e : Nat)) = W) := ⟨_, rfl⟩
      rw [HW2.out] at r2
      have HK : Hid (RfIs W2 b { s with left := s.pat, seen := e } ∧ Mv (fun k => k = b) w W2) := ⟨r2.1, r1.2.trans r2.2⟩
      have zl : (e : Int) > (s.seen : Int) := by omega
      clear r1 r2 hput okp h
      generalize s.seen = sn at *
      cases t with
      | true =>
        clear hc hlt hs
        go_enter Try.func22, Try.ntmps22
        go_upto_region 2 with fail
        rw [HW1.out]
        go_wp2
        rw [HW2.out]
        go_end0
        exact ⟨rfl, HK.out⟩
      | false =>
        obtain rfl : p = true := by cases p with | true => rfl | false => rcases hc with h | h <;> simp at h
        have z2 : (e : Int) ≥ (sn : Int) := by omega
        clear hc hlt hs
        go_enter Try.func22, Try.ntmps22
        go_upto_region 2 with fail
        rw [HW1.out]
        go_wp2
        rw [HW2.out]
        go_end0
        exact ⟨rfl, HK.out⟩
    · rw [if_neg hlt]
      have HK : Hid (RfIs W1 b { s with left := s.pat } ∧ Mv (fun k => k = b) w W1) := ⟨r1.1, r1.2⟩
      have zl : ¬ (e : Int) > (s.seen : Int) := by omega
      clear r1 hput okp h
      generalize hsn : s.seen = sn at *
      cases t with
      | true =>
        clear hc hlt hs hsn
        go_enter Try.func22, Try.ntmps22
        go_upto_region 2 with fail
        rw [HW1.out]
        go_wp2
        go_end0
        exact ⟨rfl, HK.out⟩
      | false =>
        obtain rfl : p = true := by cases p with | true => rfl | false => rcases hc with h | h <;> simp at h
        have z2 : (e : Int) ≥ (sn : Int) := by
          rcases hc with h | h
          · simp at h
          · omega
        clear hc hlt hs hsn
        go_enter Try.func22, Try.ntmps22
        go_upto_region 2 with fail
        rw [HW1.out]
        go_wp2
        go_end0
        exact ⟨rfl, HK.out⟩
  · rw [if_neg hc]
    obtain rfl : t = false := by cases t with | true => exact absurd (Or.inl rfl) hc | false => rfl
    by_cases hlt : s.seen < e
    · rw [if_pos hlt]
      obtain rfl : p = false := by cases p with | true => exact absurd (Or.inr ⟨rfl, by omega⟩) hc | false => rfl
      have r2 := hput w _ h
      obtain ⟨W2, HW2⟩ : ∃ W, Hid (w.setCell ⟨b, 7, none⟩ (.int .u64 (e : Nat)) = W) := ⟨_, rfl⟩
      rw [HW2.out] at r2
      have HK : Hid (RfIs W2 b { s with seen := e } ∧ Mv (fun k => k = b) w W2) := r2
      have zl : (e : Int) > (s.seen : Int) := by omega
      clear r1 r2 hput okp h HW1 d7 df7
      generalize s.seen = sn at *
      clear hc hlt hs
      go_enter Try.func22, Try.ntmps22
      go_wp2
      rw [HW2.out]
      go_end0
      exact ⟨rfl, HK.out⟩
    · rw [if_neg hlt]
      have HK : Hid (RfIs w b ⟨s.left, s.since, s.quiet, s.place, s.copies, s.most, s.seen, s.pat⟩ ∧ Mv (fun k => k = b) w w) := ⟨h, Mv.refl _ _⟩
      have zl : ¬ (e : Int) > (s.seen : Int) := by omega
      clear r1 hput okp h HW1 d7 df7
      generalize hsn : s.seen = sn at *
      cases p with
      | false =>
        clear hc hlt hs hsn
        go_enter Try.func22, Try.ntmps22
        go_wp2
        go_end0
        exact ⟨rfl, HK.out⟩
      | true =>
        have z2 : ¬ (e : Int) ≥ (sn : Int) := by
          intro hx
          exact hc (Or.inr ⟨rfl, by omega⟩)
        clear hc hlt hs hsn
        go_enter Try.func22, Try.ntmps22
        go_wp2
        go_end0
        exact ⟨rfl, HK.out⟩

set_option maxHeartbeats 2000000 in
theorem rnew_any (P C M : Int) (sn : Nat) (hC : C ≤ 9223372036854775807) (hM : M ≤ 9223372036854775807) (hs : sn < 18446744073709551616) (w : World) :
    Calls Try.prog 21 #[.int .i64 P, .int .i64 C, .int .i64 M, .int .u64 (sn : Nat)] w fun e w' => e = .returned (.pointer (some ⟨w.heap.size, 0, none⟩)) ∧ RfIs w' w.heap.size (newM (plN P C) (cpN C) (moN M) sn) ∧ Below w.heap.size w w' := by
  have hp := pl_lt P C
  have hc : cpN C ≤ 9223372036854775807 := by unfold cpN; split <;> omega
  have hc1 : 0 < cpN C := by unfold cpN; split <;> omega
  have hm : 4 ≤ moN M := by unfold moN; split <;> omega
  have hm2 : moN M ≤ 9223372036854775807 := by unfold moN; split <;> omega
  obtain ⟨W1, HW1⟩ : ∃ W, Hid (w.alloc (.cells #[.int .i64 (plN P C : Nat), .int .i64 (cpN C : Nat), .int .i64 (moN M : Nat), .int .i64 4, .int .i64 0, .int .i64 0, .int .i64 0, .int .u64 (sn : Nat)] 59) = W) := ⟨_, rfl⟩
  have h1 : RfIs W1 w.heap.size ⟨0, 0, 0, plN P C, cpN C, moN M, sn, 4⟩ := by
    rw [← HW1.out]
    exact ⟨World.rowIs_alloc w _ _ _ (fun i hi => by
      have hi' : i < 8 := hi
      match i, hi' with | 0, _ | 1, _ | 2, _ | 3, _ | 4, _ | 5, _ | 6, _ | 7, _ => rfl), ⟨Nat.zero_le _, Nat.zero_le _, Nat.zero_le _, hp, hc, hm2, hs, Nat.le_refl _, hm⟩⟩
  have b1 : Below w.heap.size w W1 := by rw [← HW1.out]; exact (Below.refl _ _).alloc (Nat.le_refl _) _
  obtain ⟨nb, Hnb⟩ : ∃ x, Hid (w.heap.size = x) := ⟨_, rfl⟩
  rw [Hnb.out] at h1 b1
  have c4 : W1.cell? ⟨nb, 4, none⟩ = some (.int .i64 0) := h1.c4
  have f4 := h1.fz 4
  have r2 := h1.put 4 (.int .i64 9223372036854775807) ⟨9223372036854775807, 0, 0, plN P C, cpN C, moN M, sn, 4⟩ (fun j hj => by match j, hj with | 0, _ | 1, _ | 2, _ | 3, _ | 4, _ | 5, _ | 6, _ | 7, _ => rfl) ⟨Nat.le_refl _, Nat.zero_le _, Nat.zero_le _, hp, hc, hm2, hs, Nat.le_refl _, hm⟩
  obtain ⟨W2, HW2⟩ : ∃ W, Hid (W1.setCell ⟨nb, 4, none⟩ (.int .i64 9223372036854775807) = W) := ⟨_, rfl⟩
  rw [HW2.out] at r2
  have d4 : W2.cell? ⟨nb, 4, none⟩ = some (.int .i64 9223372036854775807) := r2.1.c4
  have df4 := r2.1.fz 4
  have hnw : w.heap.size = nb := Hnb.out
  have b2 : Below nb w W2 := r2.2.below b1 (by have := b1.size; omega) (fun k hk => by omega)
  have ht1 := Int.tmod_lt_of_pos P (show (0 : Int) < ((cpN C : Nat) : Int) by omega)
  have ht2 := Int.lt_tmod_of_pos P (show (0 : Int) < ((cpN C : Nat) : Int) by omega)
  have h0 : ¬ ((cpN C : Nat) : Int) = 0 := by omega
  have h0' : (((cpN C : Nat) : Int) == 0) = false := by simp; omega
  have hmw : IntKind.i64.wrap (P.tmod ((cpN C : Nat) : Int)) = P.tmod ((cpN C : Nat) : Int) := by rw [IntKind.wrap_i64]; omega
  have hte := Int.tmod_eq_emod (a := P) (b := ((cpN C : Nat) : Int))
  have hna : (((cpN C : Nat) : Int).natAbs : Int) = ((cpN C : Nat) : Int) := by omega
  have hr1 := Int.emod_nonneg P (show ((cpN C : Nat) : Int) ≠ 0 by omega)
  have hr2 := Int.emod_lt_of_pos P (show (0 : Int) < ((cpN C : Nat) : Int) by omega)
  have hpl : ((plN P C : Nat) : Int) = P % ((cpN C : Nat) : Int) := by unfold plN; omega
  obtain ⟨T, hT⟩ : ∃ T, P.tmod ((cpN C : Nat) : Int) = T := ⟨_, rfl⟩
  have hneg : T < 0 → T + ((cpN C : Nat) : Int) = ((plN P C : Nat) : Int) := fun hlt => by
    rw [hT] at hte
    split at hte <;> omega
  have hpos : ¬ T < 0 → T = ((plN P C : Nat) : Int) := fun hlt => by
    rw [hT] at hte ht1 ht2
    split at hte <;> omega
  have wp : IntKind.i64.wrap ((plN P C : Nat) : Int) = ((plN P C : Nat) : Int) := by rw [IntKind.wrap_i64]; omega
  rw [hT] at hmw
  clear hte hna hr1 hr2 hpl ht1 ht2
  -- the last step
  have hlast : plN P C < 9223372036854775803 → ∃ x : Nat, 4 + ((plN P C : Nat) : Int) = (x : Int) ∧ IntKind.i64.wrap (x : Int) = (x : Int) ∧ ∃ W3, Hid (W2.setCell ⟨nb, 4, none⟩ (.int .i64 (x : Nat)) = W3) ∧ Hid (RfIs W3 nb (newM (plN P C) (cpN C) (moN M) sn) ∧ Below nb w W3) := fun hlt => by
    have e1 : satM (plN P C) 4 = plN P C + 4 := by unfold satM; rw [if_neg (by omega)]
    refine ⟨plN P C + 4, by omega, by rw [IntKind.wrap_i64]; omega, _, rfl, ?_⟩
    have r3 := r2.1.put 4 (.int .i64 (plN P C + 4 : Nat)) (newM (plN P C) (cpN C) (moN M) sn) (fun j hj => by
      match j, hj with
      | 4, _ => show _ = Value.int .i64 ((satM (plN P C) 4 : Nat) : Int); rw [e1]; rfl
      | 0, _ | 1, _ | 2, _ | 3, _ | 5, _ | 6, _ | 7, _ => rfl) ⟨satM_le (by decide), Nat.zero_le _, Nat.zero_le _, hp, hc, hm2, hs, Nat.le_refl _, hm⟩
    exact ⟨r3.1, r3.2.below b2 (by have := b2.size; omega) (fun k hk => by omega)⟩
  have hgreat : ¬ plN P C < 9223372036854775803 → Hid (RfIs W2 nb (newM (plN P C) (cpN C) (moN M) sn) ∧ Below nb w W2) := fun hlt => by
    have e1 : satM (plN P C) 4 = 9223372036854775807 := by unfold satM; split <;> omega
    refine ⟨?_, b2⟩
    have : newM (plN P C) (cpN C) (moN M) sn = ⟨9223372036854775807, 0, 0, plN P C, cpN C, moN M, sn, 4⟩ := by unfold newM; rw [e1]
    rw [this]; exact r2.1
  rw [Hnb.out]
  clear r2 h1 b1 b2 hnw
  generalize plN P C = pl at *
  by_cases h1 : C < 1
  · have e1 : ((cpN C : Nat) : Int) = 1 := by rw [show cpN C = 1 from if_pos h1]; rfl
    rw [e1] at HW1 h0 h0' hT hneg
    have hw1x : 0 < 1 := by decide
    clear e1 hw1x
    by_cases h2 : M < 4
    · have e2 : ((moN M : Nat) : Int) = 4 := by rw [show moN M = 4 from if_pos h2]; rfl
      rw [e2] at HW1
      clear e2
      have hT0 : T = 0 := by rw [← hT]; exact Int.tmod_one P
      subst hT0
      have hp0 : ((pl : Nat) : Int) = 0 := (hpos (by decide)).symm
      obtain ⟨x, hx, wx, W3, HW3, HK⟩ := hlast (by omega)
      have hx4 : ((x : Nat) : Int) = 4 := by omega
      rw [hp0] at HW1
      rw [hx4] at HW3
      clear hlast hgreat hneg hpos hp hc hc1 hm hm2 hC hM hs hp0 hx wx hx4 wp
      go_enter Try.func21, Try.ntmps21
      go_upto_region 9 with fail
      rw [HW1.out, Hnb.out]
      go_upto_region 10 with fail
      rw [HW2.out]
      go_wp2
      rw [HW3.out]
      go_ret
      exact ⟨rfl, HK.out⟩
    · have e2 : ((moN M : Nat) : Int) = M := by unfold moN; rw [if_neg h2]; omega
      rw [e2] at HW1
      clear e2
      have hT0 : T = 0 := by rw [← hT]; exact Int.tmod_one P
      subst hT0
      have hp0 : ((pl : Nat) : Int) = 0 := (hpos (by decide)).symm
      obtain ⟨x, hx, wx, W3, HW3, HK⟩ := hlast (by omega)
      have hx4 : ((x : Nat) : Int) = 4 := by omega
      rw [hp0] at HW1
      rw [hx4] at HW3
      clear hlast hgreat hneg hpos hp hc hc1 hm hm2 hC hM hs hp0 hx wx hx4 wp
      go_enter Try.func21, Try.ntmps21
      go_upto_region 9 with fail
      rw [HW1.out, Hnb.out]
      go_upto_region 10 with fail
      rw [HW2.out]
      go_wp2
      rw [HW3.out]
      go_ret
      exact ⟨rfl, HK.out⟩
  · have e1 : ((cpN C : Nat) : Int) = C := by unfold cpN; rw [if_neg h1]; omega
    rw [e1] at HW1 h0 h0' hT hneg
    have hw1x : 0 < 1 := by decide
    clear e1 hw1x
    by_cases h2 : M < 4
    · have e2 : ((moN M : Nat) : Int) = 4 := by rw [show moN M = 4 from if_pos h2]; rfl
      rw [e2] at HW1
      clear e2
      by_cases h3 : T < 0
      · have hq := hneg h3
        by_cases h4 : pl < 9223372036854775803
        · obtain ⟨x, hx, wx, W3, HW3, HK⟩ := hlast h4
          have z4 : (pl : Int) < 9223372036854775803 := by omega
          clear hlast hgreat hneg hpos hp hc hc1 hm hm2 hC hM hs h4
          go_enter Try.func21, Try.ntmps21
          go_upto_region 9 with fail
          rw [HW1.out, Hnb.out]
          go_upto_region 10 with fail
          rw [HW2.out]
          go_wp2
          rw [HW3.out]
          go_ret
          exact ⟨rfl, HK.out⟩
        · have HK := hgreat h4
          have z4 : ¬ (pl : Int) < 9223372036854775803 := by omega
          clear hlast hgreat hneg hpos hp hc hc1 hm hm2 hC hM hs h4
          go_enter Try.func21, Try.ntmps21
          go_upto_region 9 with fail
          rw [HW1.out, Hnb.out]
          go_upto_region 10 with fail
          rw [HW2.out]
          go_wp2
          go_ret
          exact ⟨rfl, HK.out⟩
      · have hq := hpos h3
        subst hq
        by_cases h4 : pl < 9223372036854775803
        · obtain ⟨x, hx, wx, W3, HW3, HK⟩ := hlast h4
          have z4 : (pl : Int) < 9223372036854775803 := by omega
          clear hlast hgreat hneg hpos hp hc hc1 hm hm2 hC hM hs h4
          go_enter Try.func21, Try.ntmps21
          go_upto_region 9 with fail
          rw [HW1.out, Hnb.out]
          go_upto_region 10 with fail
          rw [HW2.out]
          go_wp2
          rw [HW3.out]
          go_ret
          exact ⟨rfl, HK.out⟩
        · have HK := hgreat h4
          have z4 : ¬ (pl : Int) < 9223372036854775803 := by omega
          clear hlast hgreat hneg hpos hp hc hc1 hm hm2 hC hM hs h4
          go_enter Try.func21, Try.ntmps21
          go_upto_region 9 with fail
          rw [HW1.out, Hnb.out]
          go_upto_region 10 with fail
          rw [HW2.out]
          go_wp2
          go_ret
          exact ⟨rfl, HK.out⟩
    · have e2 : ((moN M : Nat) : Int) = M := by unfold moN; rw [if_neg h2]; omega
      rw [e2] at HW1
      clear e2
      by_cases h3 : T < 0
      · have hq := hneg h3
        by_cases h4 : pl < 9223372036854775803
        · obtain ⟨x, hx, wx, W3, HW3, HK⟩ := hlast h4
          have z4 : (pl : Int) < 9223372036854775803 := by omega
          clear hlast hgreat hneg hpos hp hc hc1 hm hm2 hC hM hs h4
          go_enter Try.func21, Try.ntmps21
          go_upto_region 9 with fail
          rw [HW1.out, Hnb.out]
          go_upto_region 10 with fail
          rw [HW2.out]
          go_wp2
          rw [HW3.out]
          go_ret
          exact ⟨rfl, HK.out⟩
        · have HK := hgreat h4
          have z4 : ¬ (pl : Int) < 9223372036854775803 := by omega
          clear hlast hgreat hneg hpos hp hc hc1 hm hm2 hC hM hs h4
          go_enter Try.func21, Try.ntmps21
          go_upto_region 9 with fail
          rw [HW1.out, Hnb.out]
          go_upto_region 10 with fail
          rw [HW2.out]
          go_wp2
          go_ret
          exact ⟨rfl, HK.out⟩
      · have hq := hpos h3
        subst hq
        by_cases h4 : pl < 9223372036854775803
        · obtain ⟨x, hx, wx, W3, HW3, HK⟩ := hlast h4
          have z4 : (pl : Int) < 9223372036854775803 := by omega
          clear hlast hgreat hneg hpos hp hc hc1 hm hm2 hC hM hs h4
          go_enter Try.func21, Try.ntmps21
          go_upto_region 9 with fail
          rw [HW1.out, Hnb.out]
          go_upto_region 10 with fail
          rw [HW2.out]
          go_wp2
          rw [HW3.out]
          go_ret
          exact ⟨rfl, HK.out⟩
        · have HK := hgreat h4
          have z4 : ¬ (pl : Int) < 9223372036854775803 := by omega
          clear hlast hgreat hneg hpos hp hc hc1 hm hm2 hC hM hs h4
          go_enter Try.func21, Try.ntmps21
          go_upto_region 9 with fail
          rw [HW1.out, Hnb.out]
          go_upto_region 10 with fail
          rw [HW2.out]
          go_wp2
          go_ret
          exact ⟨rfl, HK.out⟩
set_option maxHeartbeats 1000000 in
theorem same_any {w : World} {b c : Nat} {s : Ls} (h : LsIs w b s) (k : RfIs w c s) : Calls Try.prog 27 #[.pointer (some ⟨b, 0, none⟩), .pointer (some ⟨c, 0, none⟩)] w fun e w' => e = .returned (.bool true) ∧ ∃ q, w' = w.drewN q := by
  have H1 : Hid (∀ q, Calls Try.prog 16 #[.pointer (some ⟨b, 0, none⟩)] (w.drewN q) fun e w' => e = .returned (.int .u64 (s.seen : Nat)) ∧ w' = w.drewN q) := fun q => (seen_any (w := w.drewN q) (h.later rfl)).mono fun e w' ⟨h1, h2⟩ => ⟨h1, h2.symm⟩
  have H2 : Hid (∀ q, Calls Try.prog 13 #[.pointer (some ⟨b, 0, none⟩)] (w.drewN q) fun e w' => e = .returned (.int .i64 (s.pat : Nat)) ∧ w' = w.drewN q) := fun q => (patience_any (w := w.drewN q) (h.later rfl)).mono fun e w' ⟨h1, h2⟩ => ⟨h1, h2.symm⟩
  have H3 : Hid (∀ q, Calls Try.prog 11 #[.pointer (some ⟨b, 0, none⟩)] (w.drewN q) fun e w' => e = .returned (.int .i64 (s.left : Nat)) ∧ w' = w.drewN q) := fun q => (left_any (w := w.drewN q) (h.later rfl)).mono fun e w' ⟨h1, h2⟩ => ⟨h1, h2.symm⟩
  have H4 : Hid (∀ q, Calls Try.prog 17 #[.pointer (some ⟨b, 0, none⟩)] (w.drewN q) fun e w' => e = .returned (.int .i64 (satM s.pat 1 : Nat)) ∧ w' = w.drewN q) := fun q => (span_any (w := w.drewN q) (h.later rfl)).mono fun e w' ⟨h1, h2⟩ => ⟨h1, h2.symm⟩
  have H5 : Hid (∀ q, Calls Try.prog 34 #[.pointer (some ⟨c, 0, none⟩)] (w.drewN q) fun e w' => e = .returned (.int .i64 (satM s.pat 1 : Nat)) ∧ w' = w.drewN q) := fun q => (rspan_any (w := w.drewN q) (k.later rfl)).mono fun e w' ⟨h1, h2⟩ => ⟨h1, h2.symm⟩
  have k3 := k.c3
  have k4 := k.c4
  have k7 := k.c7
  clear h k
  generalize s.seen = sn at *
  generalize satM s.pat 1 = sp at *
  generalize s.pat = pa at *
  generalize s.left = lf at *
  have z1 : ((sn : Int) == (sn : Int)) = true := by simp
  have z2 : ((pa : Int) == (pa : Int)) = true := by simp
  have z3 : ((lf : Int) == (lf : Int)) = true := by simp
  have z4 : ((sp : Int) == (sp : Int)) = true := by simp
  go_enter Try.func27, Try.ntmps27
  go_upto_region 1 with fail
  go_quiet (first
    | exact Calls.quiet_of_same (H1.out _)
    | exact Calls.quiet_of_same (H2.out _)
    | exact Calls.quiet_of_same (H3.out _)
    | exact Calls.quiet_of_same (H4.out _)
    | exact Calls.quiet_of_same (H5.out _))
  go_wp2
  go_ret
  exact ⟨by simp, _, rfl⟩
end Go.Proofs.Ytcbebepngencjaa

/- Two leases beside the document's. -/
namespace Go.Proofs.Ytcbebepngencjaa
open Go.RowKit
set_option maxRecDepth 100000
set_option maxRecDepth 100000

theorem rowIs_apart {w : World} {b b' t t' n n' : Nat} {f f' : Nat → Value} (h : w.rowIs b t n f) (h' : w.rowIs b' t' n' f') (ht : t ≠ t') : b ≠ b' := by
  rintro rfl
  obtain ⟨c, h1, _⟩ := h
  obtain ⟨c', h2, _⟩ := h'
  rw [h1] at h2
  simp only [Option.some.injEq, Obj.cells.injEq] at h2
  exact ht h2.2.1
def Sm (w W : World) : Prop := ∃ q, W = w.drewN q
theorem Sm.heap {w W : World} (h : Sm w W) : W.heap = w.heap := by obtain ⟨q, rfl⟩ := h; rfl
theorem Sm.below {w W : World} (h : Sm w W) : Below w.heap.size w W := by obtain ⟨q, rfl⟩ := h; exact ⟨rfl, rfl, rfl, Nat.le_refl _, fun _ _ => rfl⟩
structure EL (w0 w : World) (al ak : Nat) (PB QB : Nat → Nat) (S : Nat → Ls) : Prop where
  rp : w.rowIs al 49 2 (fun j => .pointer (some ⟨PB j, 0, none⟩))
  rq : w.rowIs ak 52 2 (fun j => .pointer (some ⟨QB j, 0, none⟩))
  ls : ∀ j, j < 2 → LsIs w (PB j) (S j)
  rf : ∀ j, j < 2 → RfIs w (QB j) (S j)
  ge : ∀ j, j < 2 → w0.heap.size ≤ PB j ∧ w0.heap.size ≤ QB j
  gap : w0.heap.size ≤ al ∧ w0.heap.size ≤ ak
  pp : ∀ j k, j < 2 → k < 2 → j ≠ k → PB j ≠ PB k ∧ QB j ≠ QB k
  below : Below w0.heap.size w0 w
def EX (w0 w : World) (al ak : Nat) : Prop := ∃ PB QB S, EL w0 w al ak PB QB S
section
variable {w0 w w' : World} {al ak : Nat} {PB QB : Nat → Nat} {S : Nat → Ls}
theorem EL.on (h : EL w0 w al ak PB QB S) (hb : Below w.heap.size w w') : EL w0 w' al ak PB QB S :=
  ⟨h.rp.of_block (hb.block _ h.rp.lt), h.rq.of_block (hb.block _ h.rq.lt), fun j hj => (h.ls j hj).on hb, fun j hj => (h.rf j hj).on hb, h.ge, h.gap, h.pp, h.below.trans (hb.mono h.below.size)⟩
theorem EL.cp (h : EL w0 w al ak PB QB S) {k : Nat} (hk : k < 2) : w.cell? ⟨al, k, none⟩ = some (.pointer (some ⟨PB k, 0, none⟩)) := h.rp.cell hk
theorem EL.cq (h : EL w0 w al ak PB QB S) {k : Nat} (hk : k < 2) : w.cell? ⟨ak, k, none⟩ = some (.pointer (some ⟨QB k, 0, none⟩)) := h.rq.cell hk
theorem EL.pq (h : EL w0 w al ak PB QB S) {j k : Nat} (hj : j < 2) (hk : k < 2) : PB j ≠ QB k := rowIs_apart (h.ls j hj).row (h.rf k hk).row (by decide)
theorem EL.ap (h : EL w0 w al ak PB QB S) {k : Nat} (hk : k < 2) : al ≠ PB k ∧ al ≠ QB k ∧ ak ≠ PB k ∧ ak ≠ QB k :=
  ⟨rowIs_apart h.rp (h.ls k hk).row (by decide), rowIs_apart h.rp (h.rf k hk).row (by decide), rowIs_apart h.rq (h.ls k hk).row (by decide), rowIs_apart h.rq (h.rf k hk).row (by decide)⟩
/-- One pair has turned. -/
theorem EL.step (h : EL w0 w al ak PB QB S) {k : Nat} {s' : Ls} (hk : k < 2) (h1 : LsIs w' (PB k) s') (h2 : RfIs w' (QB k) s') (hv : Mv (fun b => b = PB k ∨ b = QB k) w w') : EL w0 w' al ak PB QB (fun j => if j = k then s' else S j) := by
  obtain ⟨a1, a2, a3, a4⟩ := h.ap hk
  have hge := h.ge k hk
  refine ⟨h.rp.of_block (hv.block _ h.rp.lt (fun x => x.elim a1 a2)), h.rq.of_block (hv.block _ h.rq.lt (fun x => x.elim a3 a4)), fun j hj => ?_, fun j hj => ?_, h.ge, h.gap, h.pp, hv.below h.below h.below.size (by rintro b (e | e) <;> omega)⟩
  · by_cases e : j = k
    · subst e; simp only [if_true]; exact h1
    · simp only [if_neg e]
      exact (h.ls j hj).later (hv.block _ (h.ls j hj).row.lt (fun x => x.elim (h.pp j k hj hk e).1 (h.pq hj hk)))
  · by_cases e : j = k
    · subst e; simp only [if_true]; exact h2
    · simp only [if_neg e]
      exact (h.rf j hj).later (hv.block _ (h.rf j hj).row.lt (fun x => x.elim (fun y => h.pq hk hj y.symm) (h.pp j k hj hk e).2))
/-- What the walk asks of memory: the two places, and what the step says. -/
def CS (W : World) (al ak ob n P Q : Nat) (o : LOp) : Prop :=
  W.cell? ⟨al, n, none⟩ = some (.pointer (some ⟨P, 0, none⟩)) ∧ W.cell? ⟨ak, n, none⟩ = some (.pointer (some ⟨Q, 0, none⟩)) ∧ W.cell? ⟨ob, 2, none⟩ = some (.int .u64 (o.ep : Nat)) ∧ W.cell? ⟨ob, 3, none⟩ = some (.int .i64 o.ph) ∧ W.cell? ⟨ob, 4, none⟩ = some (.bool o.a) ∧ W.cell? ⟨ob, 5, none⟩ = some (.bool o.b)
theorem EL.cs (h : EL w0 w al ak PB QB S) {ob n : Nat} {o : LOp} (ho : w.rowIs ob 32 9 (lopCell o)) (hn : n < 2) : CS w al ak ob n (PB n) (QB n) o :=
  ⟨h.cp hn, h.cq hn, ho.cell (i := 2) (by decide), ho.cell (i := 3) (by decide), ho.cell (i := 4) (by decide), ho.cell (i := 5) (by decide)⟩
/-- One call on both. -/
theorem EL.pair (h : EL w0 w al ak PB QB S) {ob n : Nat} {o : LOp} (ho : w.rowIs ob 32 9 (lopCell o)) (hn : n < 2) {s' : Ls} {F G : Nat} {aF aG : Array Value} {r r' : Value}
    (hF : ∀ W, LsIs W (PB n) (S n) → Calls Try.prog F aF W fun e w1 => e = .returned r ∧ LsIs w1 (PB n) s' ∧ Mv (fun k => k = PB n) W w1)
    (hG : ∀ W, RfIs W (QB n) (S n) → Calls Try.prog G aG W fun e w1 => e = .returned r' ∧ RfIs w1 (QB n) s' ∧ Mv (fun k => k = QB n) W w1) (W : World) (hW : Sm w W) :
    Hid (CS W al ak ob n (PB n) (QB n) o) ∧ Hid (Calls Try.prog F aF W fun e w1 => e = .returned r ∧ CS w1 al ak ob n (PB n) (QB n) o ∧ Hid (∀ W1, Sm w1 W1 → CS W1 al ak ob n (PB n) (QB n) o ∧ Calls Try.prog G aG W1 fun e w2 => e = .returned r' ∧ CS w2 al ak ob n (PB n) (QB n) o ∧ Hid (EX w0 w2 al ak))) := by
  have hd := h.on hW.below
  have hod : W.rowIs ob 32 9 (lopCell o) := ho.of_block (by rw [hW.heap])
  obtain ⟨a1, a2, a3, a4⟩ := hd.ap hn
  have o1 : ob ≠ PB n := rowIs_apart hod (hd.ls n hn).row (by decide)
  have o2 : ob ≠ QB n := rowIs_apart hod (hd.rf n hn).row (by decide)
  have key : ∀ W1 : World, Mv (fun b => b = PB n ∨ b = QB n) W W1 → CS W1 al ak ob n (PB n) (QB n) o := fun W1 m => by
    have p := hd.rp.of_block (m.block _ hd.rp.lt (fun x => x.elim a1 a2))
    have q := hd.rq.of_block (m.block _ hd.rq.lt (fun x => x.elim a3 a4))
    have oo := hod.of_block (m.block _ hod.lt (fun x => x.elim o1 o2))
    exact ⟨p.cell hn, q.cell hn, oo.cell (i := 2) (by decide), oo.cell (i := 3) (by decide), oo.cell (i := 4) (by decide), oo.cell (i := 5) (by decide)⟩
  refine ⟨hd.cs hod hn, (hF W (hd.ls n hn)).mono fun e w1 ⟨he, h1, m1⟩ => ⟨he, key w1 (m1.mono fun _ => Or.inl), fun W1 hW1 => ?_⟩⟩
  have m1' : Mv (fun b => b = PB n ∨ b = QB n) W W1 := by
    obtain ⟨q, rfl⟩ := hW1
    exact (m1.mono fun _ => Or.inl).drewR q
  have h1' : LsIs W1 (PB n) s' := h1.later (by rw [hW1.heap])
  have hq : RfIs W1 (QB n) (S n) := (hd.rf n hn).later (by rw [hW1.heap]; exact m1.block _ (hd.rf n hn).row.lt (fun e => hd.pq hn hn e.symm))
  refine ⟨key W1 m1', (hG W1 hq).mono fun e w2 ⟨he2, h2, m2⟩ => ⟨he2, key w2 (m1'.trans (m2.mono fun _ => Or.inr)), PB, QB, _, hd.step hn (h1'.later (m2.block _ h1'.row.lt (hd.pq hn hn))) h2 (m1'.trans (m2.mono fun _ => Or.inr))⟩⟩
/-- Both are asked whether they are the same. -/
theorem EL.same (h : EL w0 w al ak PB QB S) {j : Nat} (hj : j < 2) : Calls Try.prog 27 #[.pointer (some ⟨PB j, 0, none⟩), .pointer (some ⟨QB j, 0, none⟩)] w fun e w' => e = .returned (.bool true) ∧ EL w0 w' al ak PB QB S :=
  (same_any (h.ls j hj) (h.rf j hj)).mono fun _ _ ⟨he, q, hq⟩ => ⟨he, h.on (Sm.below ⟨q, hq⟩)⟩
/-- A new pair. -/
theorem EL.fresh (h : EL w0 w al ak PB QB S) {ob n : Nat} {o : LOp} (ho : w.rowIs ob 32 9 (lopCell o)) (hn : n < 2) (hok : o.Ok) :
    Calls Try.prog 9 #[.int .i64 o.pl, .int .i64 o.cp, .int .i64 o.mo, .int .u64 (o.ep : Nat)] w fun e w1 => ∃ pb, e = .returned (.pointer (some ⟨pb, 0, none⟩)) ∧ w1.cell? ⟨al, n, none⟩ = some (.pointer (some ⟨PB n, 0, none⟩)) ∧ w1.frozen? ⟨al, n, none⟩ = false ∧ ∃ W1, Hid (w1.setCell ⟨al, n, none⟩ (.pointer (some ⟨pb, 0, none⟩)) = W1) ∧ W1.rowIs ob 32 9 (lopCell o) ∧
      Hid (Calls Try.prog 21 #[.int .i64 o.pl, .int .i64 o.cp, .int .i64 o.mo, .int .u64 (o.ep : Nat)] W1 fun e w2 => ∃ qb, e = .returned (.pointer (some ⟨qb, 0, none⟩)) ∧ w2.cell? ⟨ak, n, none⟩ = some (.pointer (some ⟨QB n, 0, none⟩)) ∧ w2.frozen? ⟨ak, n, none⟩ = false ∧ ∃ W2, Hid (w2.setCell ⟨ak, n, none⟩ (.pointer (some ⟨qb, 0, none⟩)) = W2) ∧ Hid (EX w0 W2 al ak)) := by
  refine (new_any o.pl o.cp o.mo o.ep hok.hc hok.hm hok.he w).mono fun e w1 ⟨he, h1, b1⟩ => ⟨_, he, ?_⟩
  have hd := h.on b1
  have hz := b1.size
  have ho1 := ho.of_block (b1.block _ ho.lt)
  have oa : ob ≠ al := rowIs_apart ho h.rp (by decide)
  have pa : w.heap.size ≠ al := rowIs_apart h1.row hd.rp (by decide)
  have m1 := set_mv (i := n) hd.rp (.pointer (some ⟨w.heap.size, 0, none⟩))
  have rp1 := hd.rp.set n (.pointer (some ⟨w.heap.size, 0, none⟩))
  refine ⟨hd.cp hn, hd.rp.frozen n, _, rfl, ho1.of_block (m1.block _ ho1.lt oa), ?_⟩
  generalize hW1 : w1.setCell ⟨al, n, none⟩ (.pointer (some ⟨w.heap.size, 0, none⟩)) = W1 at *
  refine (rnew_any o.pl o.cp o.mo o.ep hok.hc hok.hm hok.he W1).mono fun e w2 ⟨he2, h2, b2⟩ => ⟨_, he2, ?_⟩
  have hz1 := m1.size
  have hz2 := b2.size
  have rq1 := hd.rq.of_block (m1.block _ hd.rq.lt (rowIs_apart hd.rq hd.rp (by decide)))
  have rq2 := rq1.of_block (b2.block _ rq1.lt)
  have rp2 := rp1.of_block (b2.block _ rp1.lt)
  have m2 := set_mv (i := n) rq2 (.pointer (some ⟨W1.heap.size, 0, none⟩))
  have rq3 := rq2.set n (.pointer (some ⟨W1.heap.size, 0, none⟩))
  refine ⟨rq2.cell hn, rq2.frozen n, _, rfl, fun j => if j = n then w.heap.size else PB j, fun j => if j = n then W1.heap.size else QB j, fun j => if j = n then newM (plN o.pl o.cp) (cpN o.cp) (moN o.mo) o.ep else S j, ?_⟩
  have ka : ak ≠ al := rowIs_apart hd.rq hd.rp (by decide)
  -- what stood in w1 apart from al and ak stands in the end
  have kept : ∀ b, b < w1.heap.size → b ≠ al → b ≠ ak → (w2.setCell ⟨ak, n, none⟩ (.pointer (some ⟨W1.heap.size, 0, none⟩))).heap[b]? = w1.heap[b]? := fun b hb x1 x2 =>
    ((m2.block b (by omega) x2).trans (b2.block b (by omega))).trans (m1.block b hb x1)
  refine ⟨(rp2.of_block (m2.block _ rp2.lt (fun e => ka e.symm))).congr (fun i _ => ?_), rq3.congr (fun i _ => ?_), fun j hj => ?_, fun j hj => ?_, fun j hj => ?_, h.gap, fun j k hj hk hne => ?_, ?_⟩
  · by_cases e : i = n
    · simp [e]
    · simp [e]
  · by_cases e : i = n
    · simp [e]
    · simp [e]
  · by_cases e : j = n
    · simp only [if_pos e]
      exact h1.later (kept _ h1.row.lt pa (fun e => rowIs_apart h1.row hd.rq (by decide) e))
    · simp only [if_neg e]
      have x := hd.ap hj
      exact (hd.ls j hj).later (kept _ (hd.ls j hj).row.lt (fun e => x.1 e.symm) (fun e => x.2.2.1 e.symm))
  · by_cases e : j = n
    · simp only [if_pos e]
      exact h2.later (m2.block _ h2.row.lt (fun e => rowIs_apart h2.row rq2 (by decide) e))
    · simp only [if_neg e]
      have x := hd.ap hj
      exact (hd.rf j hj).later (kept _ (hd.rf j hj).row.lt (fun e => x.2.1 e.symm) (fun e => x.2.2.2 e.symm))
  · have := h.ge j hj
    have := h.below.size
    by_cases e : j = n
    · simp only [if_pos e]; omega
    · simp only [if_neg e]; omega
  · have l1 := (h.ls j hj).row.lt
    have l2 := (h.ls k hk).row.lt
    have l3 := (h.rf j hj).row.lt
    have l4 := (h.rf k hk).row.lt
    have := h.pp j k hj hk hne
    by_cases e : j = n
    · have e' : k ≠ n := by omega
      simp only [if_pos e, if_neg e']; omega
    · by_cases e' : k = n
      · simp only [if_neg e, if_pos e']; omega
      · simp only [if_neg e, if_neg e']; exact this
  · have g := h.gap
    have b3 : Below w0.heap.size w0 W1 := m1.below hd.below hd.below.size (fun k hk => by omega)
    have b4 : Below w0.heap.size w0 w2 := b3.trans (b2.mono b3.size)
    exact m2.below b4 b4.size (fun k hk => by omega)
end
end Go.Proofs.Ytcbebepngencjaa

/- The law LeaseExact. -/
namespace Go.Proofs.Ytcbebepngencjaa
open Go.RowKit
set_option maxRecDepth 100000
set_option maxRecDepth 100000

theorem row9_alloc (w : World) (o : LOp) : (w.alloc (.cells #[.int .i64 o.on, .int .i64 o.kd, .int .u64 (o.ep : Nat), .int .i64 o.ph, .bool o.a, .bool o.b, .int .i64 o.pl, .int .i64 o.cp, .int .i64 o.mo] 32)).rowIs w.heap.size 32 9 (lopCell o) :=
  World.rowIs_alloc w _ _ _ (fun i hi => by
    have hi' : i < 9 := hi
    match i, hi' with
    | 0, _ | 1, _ | 2, _ | 3, _ | 4, _ | 5, _ | 6, _ | 7, _ | 8, _ => rfl)
theorem and_one (x : Int) : ∃ V : Nat, V < 2 ∧ bits .and .i64 x 1 = (V : Int) := by
  refine ⟨(BitVec.ofInt 64 x).toNat &&& 1, Nat.lt_of_le_of_lt Nat.and_le_right (by decide), ?_⟩
  show IntKind.i64.wrap ((BitVec.ofInt 64 x &&& BitVec.ofInt 64 1).toNat : Int) = _
  rw [BitVec.toNat_and, show (BitVec.ofInt 64 1).toNat = 1 by decide, IntKind.wrap_i64]
  have : (BitVec.ofInt 64 x).toNat &&& 1 ≤ 1 := Nat.and_le_right
  omega
theorem row2_alloc (w : World) (t : TypeId) (a b : Nat) : (w.alloc (.cells #[.pointer (some ⟨a, 0, none⟩), .pointer (some ⟨b, 0, none⟩)] t)).rowIs w.heap.size t 2 (fun j => .pointer (some ⟨if j = 0 then a else b, 0, none⟩)) :=
  World.rowIs_alloc w _ _ _ (fun i hi => by
    have hi' : i < 2 := hi
    match i, hi' with
    | 0, _ | 1, _ => rfl)
set_option maxHeartbeats 8000000 in
theorem exactLaw (P C M : Int) (sn : Nat) (hC : C ≤ 9223372036854775807) (hM : M ≤ 9223372036854775807) (hsn : sn < 18446744073709551616) (oa : Option Addr) (oc : Nat) (L : List LOp) (w : World) (hO : LOpsIn w oa L) :
    Calls Try.prog 6 #[.agg #[.int .i64 P, .int .i64 C, .int .i64 M, .int .u64 (sn : Nat), .slice oa L.length oc]] w fun e w' => e = .returned (.bool true) ∧ Below w.heap.size w w' := by
  obtain ⟨W0, HW0⟩ : ∃ W, Hid (w.alloc (.cells #[.int .i64 P, .int .i64 C, .int .i64 M, .int .u64 (sn : Nat), .slice oa L.length oc] 38) = W) := ⟨_, rfl⟩
  have hb0 : Below w.heap.size w W0 := by rw [← HW0.out]; exact (Below.refl _ _).alloc (Nat.le_refl _) _
  have kc : ∀ i v, (#[Value.int .i64 P, .int .i64 C, .int .i64 M, .int .u64 (sn : Nat), .slice oa L.length oc] : Array Value)[i]? = some v → W0.cell? ⟨w.heap.size, i, none⟩ = some v := fun i v h => by rw [← HW0.out]; exact (World.cell?_alloc_at (w := w) _ _ _ i rfl).trans h
  have hlt := cel_lt (kc 0 _ rfl)
  have HO : Hid (LOpsIn W0 oa L) := hO.on hb0
  have HB0 : Hid (Below w.heap.size w W0) := hb0
  obtain ⟨sb, Hsb⟩ : ∃ x, Hid (w.heap.size = x) := ⟨_, rfl⟩
  rw [Hsb.out] at kc hlt HB0
  have HC : Hid (∀ W, Below W0.heap.size W0 W → W.cell? ⟨sb, 0, none⟩ = some (.int .i64 P) ∧ W.cell? ⟨sb, 1, none⟩ = some (.int .i64 C) ∧ W.cell? ⟨sb, 2, none⟩ = some (.int .i64 M) ∧ W.cell? ⟨sb, 3, none⟩ = some (.int .u64 (sn : Nat)) ∧ W.cell? ⟨sb, 4, none⟩ = some (.slice oa L.length oc)) := fun W hb =>
    ⟨cel_on hb hlt (kc 0 _ rfl), cel_on hb hlt (kc 1 _ rfl), cel_on hb hlt (kc 2 _ rfl), cel_on hb hlt (kc 3 _ rfl), cel_on hb hlt (kc 4 _ rfl)⟩
  have HEND : Hid (∀ W : World, Below W0.heap.size W0 W → Calls Try.prog 7 #[] W fun e w' => e = .returned (.bool true) ∧ Hid (Below sb w w')) := fun W hb => (begun_any W).mono fun e w' ⟨he, hb2⟩ => ⟨he, HB0.out.trans ((hb.trans (hb2.mono hb.size)).mono (by omega))⟩
  -- the way to the first two pairs
  have HBG : Hid (Calls Try.prog 7 #[] W0 fun e w1 => e = .returned (.bool true) ∧ w1.cell? ⟨sb, 0, none⟩ = some (.int .i64 P) ∧ w1.cell? ⟨sb, 1, none⟩ = some (.int .i64 C) ∧ w1.cell? ⟨sb, 2, none⟩ = some (.int .i64 M) ∧ w1.cell? ⟨sb, 3, none⟩ = some (.int .u64 (sn : Nat)) ∧
      Hid (Calls Try.prog 9 #[.int .i64 P, .int .i64 C, .int .i64 M, .int .u64 (sn : Nat)] w1 fun e w2 => ∃ p0, e = .returned (.pointer (some ⟨p0, 0, none⟩)) ∧
      Hid (Calls Try.prog 9 #[.int .i64 0, .int .i64 1, .int .i64 4, .int .u64 0] w2 fun e w3 => ∃ p1, e = .returned (.pointer (some ⟨p1, 0, none⟩)) ∧
      ∃ W4 al, Hid (w3.alloc (.cells #[.pointer (some ⟨p0, 0, none⟩), .pointer (some ⟨p1, 0, none⟩)] 49) = W4) ∧ Hid (w3.heap.size = al) ∧ W4.cell? ⟨sb, 0, none⟩ = some (.int .i64 P) ∧ W4.cell? ⟨sb, 1, none⟩ = some (.int .i64 C) ∧ W4.cell? ⟨sb, 2, none⟩ = some (.int .i64 M) ∧ W4.cell? ⟨sb, 3, none⟩ = some (.int .u64 (sn : Nat)) ∧
      Hid (Calls Try.prog 21 #[.int .i64 P, .int .i64 C, .int .i64 M, .int .u64 (sn : Nat)] W4 fun e w5 => ∃ q0, e = .returned (.pointer (some ⟨q0, 0, none⟩)) ∧
      Hid (Calls Try.prog 21 #[.int .i64 0, .int .i64 1, .int .i64 4, .int .u64 0] w5 fun e w6 => ∃ q1, e = .returned (.pointer (some ⟨q1, 0, none⟩)) ∧
      ∃ W7 ak, Hid (w6.alloc (.cells #[.pointer (some ⟨q0, 0, none⟩), .pointer (some ⟨q1, 0, none⟩)] 52) = W7) ∧ Hid (w6.heap.size = ak) ∧ Hid (EX W0 W7 al ak)))))) := by
    refine (begun_any W0).mono fun e w1 ⟨he, b1⟩ => ?_
    obtain ⟨x0, x1, x2, x3, _⟩ := HC.out w1 b1
    refine ⟨he, x0, x1, x2, x3, (new_any P C M sn hC hM hsn w1).mono fun e w2 ⟨he2, l0, b2⟩ => ⟨_, he2, (new_any 0 1 4 0 (by decide) (by decide) (by decide) w2).mono fun e w3 ⟨he3, l1, b3⟩ => ⟨_, he3, _, _, rfl, rfl, ?_⟩⟩⟩
    have b4 : Below w3.heap.size w3 (w3.alloc (.cells #[.pointer (some ⟨w1.heap.size, 0, none⟩), .pointer (some ⟨w2.heap.size, 0, none⟩)] 49)) := (Below.refl _ _).alloc (Nat.le_refl _) _
    have r4 := row2_alloc w3 49 w1.heap.size w2.heap.size
    generalize hW4 : w3.alloc (.cells #[.pointer (some ⟨w1.heap.size, 0, none⟩), .pointer (some ⟨w2.heap.size, 0, none⟩)] 49) = W4 at *
    have s1 := b1.size
    have s2 := b2.size
    have s3 := b3.size
    have s4 := b4.size
    have B2 := b1.trans (b2.mono s1)
    have B3 := B2.trans (b3.mono B2.size)
    have B4 := B3.trans (b4.mono B3.size)
    obtain ⟨y0, y1, y2, y3, _⟩ := HC.out W4 B4
    refine ⟨y0, y1, y2, y3, (rnew_any P C M sn hC hM hsn W4).mono fun e w5 ⟨he5, k0, b5⟩ => ⟨_, he5, (rnew_any 0 1 4 0 (by decide) (by decide) (by decide) w5).mono fun e w6 ⟨he6, k1, b6⟩ => ⟨_, he6, _, _, rfl, rfl, ?_⟩⟩⟩
    have b7 : Below w6.heap.size w6 (w6.alloc (.cells #[.pointer (some ⟨W4.heap.size, 0, none⟩), .pointer (some ⟨w5.heap.size, 0, none⟩)] 52)) := (Below.refl _ _).alloc (Nat.le_refl _) _
    have r7 := row2_alloc w6 52 W4.heap.size w5.heap.size
    generalize hW7 : w6.alloc (.cells #[.pointer (some ⟨W4.heap.size, 0, none⟩), .pointer (some ⟨w5.heap.size, 0, none⟩)] 52) = W7 at *
    have s5 := b5.size
    have s6 := b6.size
    have s7 := b7.size
    have B5 := B4.trans (b5.mono B4.size)
    have B6 := B5.trans (b6.mono B5.size)
    have B7 := B6.trans (b7.mono B6.size)
    have t1 := l0.row.lt
    have t2 := l1.row.lt
    have t3 := k0.row.lt
    have t4 := k1.row.lt
    have L0 := (((((l0.on b3).on b4).on b5).on b6).on b7)
    have L1 := ((((l1.on b4).on b5).on b6).on b7)
    have K0 := ((k0.on b6).on b7)
    have K1 := (k1.on b7)
    have R4 := ((r4.of_block (b5.block _ r4.lt)))
    have R5 := (R4.of_block (b6.block _ R4.lt))
    have R6 := (R5.of_block (b7.block _ R5.lt))
    refine ⟨fun j => if j = 0 then w1.heap.size else w2.heap.size, fun j => if j = 0 then W4.heap.size else w5.heap.size, fun j => if j = 0 then newM (plN P C) (cpN C) (moN M) sn else newM (plN 0 1) (cpN 1) (moN 4) 0, R6, r7, fun j hj => ?_, fun j hj => ?_, fun j hj => ?_, ⟨B3.size, B6.size⟩, fun j k hj hk hne => ?_, B7⟩
    · match j, hj with
      | 0, _ => exact L0
      | 1, _ => exact L1
    · match j, hj with
      | 0, _ => exact K0
      | 1, _ => exact K1
    · match j, hj with
      | 0, _ => exact ⟨s1, B4.size⟩
      | 1, _ => exact ⟨B2.size, B5.size⟩
    · match j, hj, k, hk with
      | 0, _, 0, _ => exact absurd rfl hne
      | 1, _, 1, _ => exact absurd rfl hne
      | 0, _, 1, _ => exact ⟨by show w1.heap.size ≠ w2.heap.size; omega, by show W4.heap.size ≠ w5.heap.size; omega⟩
      | 1, _, 0, _ => exact ⟨by show w2.heap.size ≠ w1.heap.size; omega, by show w5.heap.size ≠ W4.heap.size; omega⟩
  clear kc hO hb0 hlt
  go_enter Try.func6, Try.ntmps6
  go_upto_region 1 with fail
  rw [HW0.out, Hsb.out]
  go_upto_region 3 with (go_at_call 7; refine HBG.out.mono ?_; rintro e w1 ⟨rfl, d0, d1, d2, d3, HN1⟩)
  go_upto_region 4 with (first
    | (go_at_call 9; with_reducible refine HN1.out.mono ?_; rintro e w2 ⟨p0, rfl, HN2⟩)
    | (go_at_call 9; with_reducible refine HN2.out.mono ?_; rintro e w3 ⟨p1, rfl, W4, al, HW4, Hal, x0, x1, x2, x3, HN3⟩))
  rw [HW4.out, Hal.out]
  clear HW4 Hal d0 d1 d2 d3
  go_upto_region 5 with (first
    | (go_at_call 21; with_reducible refine HN3.out.mono ?_; rintro e w5 ⟨q0, rfl, HN4⟩)
    | (go_at_call 21; with_reducible refine HN4.out.mono ?_; rintro e w6 ⟨q1, rfl, W7, ak, HW7, Hak, HX0⟩))
  rw [HW7.out, Hak.out]
  clear HW7 Hak x0 x1 x2 x3 HN1 HN2 HN3 HN4 HBG
  go_wp2_with fail
  go_loopg [5] 3000 (fun q s5 wx => ∃ i : Nat, i ≤ 3000 ∧ q = 3000 - i ∧ s5 = .int .i64 (i : Nat) ∧ Hid (EX W0 wx al ak))
  case atStart => exact ⟨0, by omega, rfl, rfl, HX0⟩
  case round =>
    clear HX0
    obtain ⟨i, hi, rfl, rfl, HX⟩ := hrel
    have hbx : Below W0.heap.size W0 wr := by obtain ⟨_, _, _, h⟩ := HX.out; exact h.below
    obtain ⟨x0, x1, x2, x3, x4⟩ := HC.out wr hbx
    by_cases hgo : i < L.length ∧ i < 3000
    · obtain ⟨o, ho⟩ : ∃ o, L[i]? = some o := ⟨_, List.getElem?_eq_getElem hgo.1⟩
      obtain ⟨hok, b, off, rfl, hq⟩ := (HO.out.on hbx) i o ho
      have q0 : wr.cell? ⟨b, off + i * 9, none⟩ = some (.int .i64 o.on) := hq 0 (by decide)
      have q1 : wr.cell? ⟨b, off + i * 9 + 1, none⟩ = some (.int .i64 o.kd) := hq 1 (by decide)
      have q2 : wr.cell? ⟨b, off + i * 9 + 2, none⟩ = some (.int .u64 (o.ep : Nat)) := hq 2 (by decide)
      have q3 : wr.cell? ⟨b, off + i * 9 + 3, none⟩ = some (.int .i64 o.ph) := hq 3 (by decide)
      have q4 : wr.cell? ⟨b, off + i * 9 + 4, none⟩ = some (.bool o.a) := hq 4 (by decide)
      have q5 : wr.cell? ⟨b, off + i * 9 + 5, none⟩ = some (.bool o.b) := hq 5 (by decide)
      have q6 : wr.cell? ⟨b, off + i * 9 + 6, none⟩ = some (.int .i64 o.pl) := hq 6 (by decide)
      have q7 : wr.cell? ⟨b, off + i * 9 + 7, none⟩ = some (.int .i64 o.cp) := hq 7 (by decide)
      have q8 : wr.cell? ⟨b, off + i * 9 + 8, none⟩ = some (.int .i64 o.mo) := hq 8 (by decide)
      have z1 : (i : Int) < (L.length : Int) := by omega
      have z2 : (i : Int) < 3000 := by omega
      have z0 : (0 : Int) ≤ (i : Int) := by omega
      have hwi : IntKind.i64.wrap ((i : Int) + 1) = (i : Int) + 1 := by rw [IntKind.wrap_i64]; omega
      have hme : 3000 - (i + 1) < 3000 - i := by omega
      have hi1 : i + 1 ≤ 3000 := by omega
      obtain ⟨Wo, HWo⟩ : ∃ W, Hid (wr.alloc (.cells #[.int .i64 o.on, .int .i64 o.kd, .int .u64 (o.ep : Nat), .int .i64 o.ph, .bool o.a, .bool o.b, .int .i64 o.pl, .int .i64 o.cp, .int .i64 o.mo] 32) = W) := ⟨_, rfl⟩
      have hbo : Below wr.heap.size wr Wo := by rw [← HWo.out]; exact (Below.refl _ _).alloc (Nat.le_refl _) _
      have hro := row9_alloc wr o
      rw [HWo.out] at hro
      obtain ⟨ob, Hob⟩ : ∃ x, Hid (wr.heap.size = x) := ⟨_, rfl⟩
      rw [Hob.out] at hro
      have HX1 : Hid (EX W0 Wo al ak) := by obtain ⟨PB, QB, S, h⟩ := HX.out; exact ⟨PB, QB, S, h.on hbo⟩
      have p0 : Wo.cell? ⟨ob, 0, none⟩ = some (.int .i64 o.on) := hro.cell (i := 0) (by decide)
      have p1 : Wo.cell? ⟨ob, 1, none⟩ = some (.int .i64 o.kd) := hro.cell (i := 1) (by decide)
      clear hbo HX hbx hq hgo ho x0 x1 x2 x3 hi
      generalize L.length = LL at *
      go_upto_region 9 with fail
      rw [HWo.out, Hob.out]
      clear HWo Hob q0 q1 q2 q3 q4 q5 q6 q7 q8 x4
      obtain ⟨n, hn, hbn⟩ := and_one o.on
      have zn : (n : Int) < 2 := by omega
      have zn0 : (0 : Int) ≤ (n : Int) := by omega
      obtain ⟨PB, QB, S, hEL⟩ := HX1.out
      have hhe := hok.he
      obtain ⟨kd, hkd⟩ : ∃ kd, o.kd = kd := ⟨_, rfl⟩
      rw [hkd] at p1
      go_upto_block 2 with fail
      go_cut [] from 36 to 182 (fun wx => Hid (EX W0 wx al ak))
      case first =>
        by_cases k1 : kd = 1
        · subst k1
          obtain ⟨HA, HF⟩ := hEL.pair hro hn (fun W h => heard_any h o.ep o.a o.b hhe) (fun W h => rheard_any h o.ep o.a o.b hhe) Wo.drew ⟨1, rfl⟩
          obtain ⟨c1, c2, c3, c4, c5, c6⟩ := HA.out
          generalize PB n = pb at *
          generalize QB n = qb at *
          have HF2 : Hid (Calls Try.prog 10 #[.pointer (some ⟨pb, 0, none⟩), .int .u64 (o.ep : Nat), .bool o.a, .bool o.b] Wo.drew fun e w1 => e = .returned (.tuple #[]) ∧ (w1.cell? ⟨al, n, none⟩ = some (.pointer (some ⟨pb, 0, none⟩)) ∧ w1.cell? ⟨ak, n, none⟩ = some (.pointer (some ⟨qb, 0, none⟩)) ∧ w1.cell? ⟨ob, 2, none⟩ = some (.int .u64 (o.ep : Nat)) ∧ w1.cell? ⟨ob, 4, none⟩ = some (.bool o.a) ∧ w1.cell? ⟨ob, 5, none⟩ = some (.bool o.b)) ∧ Hid (w1.drew.cell? ⟨al, n, none⟩ = some (.pointer (some ⟨pb, 0, none⟩)) ∧ w1.drew.cell? ⟨ak, n, none⟩ = some (.pointer (some ⟨qb, 0, none⟩)) ∧ w1.drew.cell? ⟨ob, 2, none⟩ = some (.int .u64 (o.ep : Nat)) ∧ w1.drew.cell? ⟨ob, 4, none⟩ = some (.bool o.a) ∧ w1.drew.cell? ⟨ob, 5, none⟩ = some (.bool o.b)) ∧ Hid (Calls Try.prog 22 #[.pointer (some ⟨qb, 0, none⟩), .int .u64 (o.ep : Nat), .bool o.a, .bool o.b] w1.drew fun e w2 => e = .returned (.tuple #[]) ∧ (w2.cell? ⟨al, n, none⟩ = some (.pointer (some ⟨pb, 0, none⟩)) ∧ w2.cell? ⟨ak, n, none⟩ = some (.pointer (some ⟨qb, 0, none⟩)) ∧ w2.cell? ⟨ob, 2, none⟩ = some (.int .u64 (o.ep : Nat)) ∧ w2.cell? ⟨ob, 4, none⟩ = some (.bool o.a) ∧ w2.cell? ⟨ob, 5, none⟩ = some (.bool o.b)) ∧ Hid (EX W0 w2 al ak))) :=
            HF.out.mono fun e w1 ⟨he, ⟨a1, a2, a3, a4, a5, a6⟩, hg⟩ => by
              obtain ⟨⟨b1, b2, b3, b4, b5, b6⟩, hg1⟩ := hg.out w1.drew ⟨1, rfl⟩
              exact ⟨he, ⟨a1, a2, a3, a5, a6⟩, ⟨b1, b2, b3, b5, b6⟩, hg1.mono fun e w2 ⟨he2, ⟨c1, c2, c3, c4, c5, c6⟩, hk⟩ => ⟨he2, ⟨c1, c2, c3, c5, c6⟩, hk⟩⟩
          clear HF
          clear hEL HX1 hro p0 hkd HA
          generalize o.a = oaa at *
          generalize o.b = obb at *
          generalize o.ep = oep at *
          go_upto_region 12 with fail
          go_region_held3 (fun W => W.cell? ⟨al, n, none⟩ = some (.pointer (some ⟨pb, 0, none⟩)) ∧ W.cell? ⟨ak, n, none⟩ = some (.pointer (some ⟨qb, 0, none⟩)) ∧ W.cell? ⟨ob, 2, none⟩ = some (.int .u64 (oep : Nat)) ∧ W.cell? ⟨ob, 4, none⟩ = some (.bool oaa) ∧ W.cell? ⟨ob, 5, none⟩ = some (.bool obb))
            (first | exact ⟨c1, c2, c3, c5, c6⟩ | exact ⟨d1, d2, d3, d5, d6⟩)
            (first | (go_at_call 10; with_reducible refine HF2.out.mono ?_; rintro e w1 ⟨rfl, ⟨d1, d2, d3, d5, d6⟩, HD, HG2⟩))
          all_goals
            obtain ⟨g1, g2, g3, g5, g6⟩ := HD.out
            clear HF2 HD
            go_upto_region 13 with fail
            go_region_held3 (fun W => W.cell? ⟨al, n, none⟩ = some (.pointer (some ⟨pb, 0, none⟩)) ∧ W.cell? ⟨ak, n, none⟩ = some (.pointer (some ⟨qb, 0, none⟩)) ∧ W.cell? ⟨ob, 2, none⟩ = some (.int .u64 (oep : Nat)) ∧ W.cell? ⟨ob, 4, none⟩ = some (.bool oaa) ∧ W.cell? ⟨ob, 5, none⟩ = some (.bool obb))
              (first | exact ⟨g1, g2, g3, g5, g6⟩ | exact ⟨v1, v2, v3, v5, v6⟩)
              (first | (go_at_call 22; with_reducible refine HG2.out.mono ?_; rintro e w2 ⟨rfl, ⟨v1, v2, v3, v5, v6⟩, HK⟩))
            all_goals
              go_wp2_with fail
              go_meet
              case rel => go_light; exact HK
        · have e1 : (kd == 1) = false := by simp [k1]
          by_cases k2 : kd = 2
          · subst k2
            obtain ⟨HA, HF⟩ := hEL.pair hro hn (fun W h => rest_any h) (fun W h => rrest_any h) Wo ⟨0, rfl⟩
            obtain ⟨c1, c2, c3, c4, c5, c6⟩ := HA.out
            generalize PB n = pb at *
            generalize QB n = qb at *
            have HF2 : Hid (Calls Try.prog 14 #[.pointer (some ⟨pb, 0, none⟩)] Wo fun e w1 => e = .returned (.tuple #[]) ∧ w1.cell? ⟨ak, n, none⟩ = some (.pointer (some ⟨qb, 0, none⟩)) ∧ Hid (Calls Try.prog 23 #[.pointer (some ⟨qb, 0, none⟩)] w1 fun e w2 => e = .returned (.tuple #[]) ∧ Hid (EX W0 w2 al ak))) :=
              HF.out.mono fun e w1 ⟨he, hc, hg⟩ => ⟨he, hc.2.1, (hg.out w1 ⟨0, rfl⟩).2.mono fun e w2 ⟨he2, _, hk⟩ => ⟨he2, hk⟩⟩
            clear hEL HX1 hro p0 hkd HA HF c3 c4 c5 c6
            go_wp2_with (first
              | (go_at_call 14; refine HF2.out.mono ?_; rintro e w1 ⟨rfl, d2, HG⟩)
              | (go_at_call 23; refine HG.out.mono ?_; rintro e w2 ⟨rfl, HK⟩))
            go_meet
            case rel => go_light; exact HK
          · have e2 : (kd == 2) = false := by simp [k2]
            by_cases k3 : kd = 3
            · subst k3
              obtain ⟨HA, HF⟩ := hEL.pair hro hn (fun W h => begunL_any h) (fun W h => rbegun_any h) Wo ⟨0, rfl⟩
              obtain ⟨c1, c2, c3, c4, c5, c6⟩ := HA.out
              generalize PB n = pb at *
              generalize QB n = qb at *
              have HF2 : Hid (Calls Try.prog 18 #[.pointer (some ⟨pb, 0, none⟩)] Wo fun e w1 => e = .returned (.tuple #[]) ∧ w1.cell? ⟨ak, n, none⟩ = some (.pointer (some ⟨qb, 0, none⟩)) ∧ Hid (Calls Try.prog 24 #[.pointer (some ⟨qb, 0, none⟩)] w1 fun e w2 => e = .returned (.tuple #[]) ∧ Hid (EX W0 w2 al ak))) :=
                HF.out.mono fun e w1 ⟨he, hc, hg⟩ => ⟨he, hc.2.1, (hg.out w1 ⟨0, rfl⟩).2.mono fun e w2 ⟨he2, _, hk⟩ => ⟨he2, hk⟩⟩
              clear hEL HX1 hro p0 hkd HA HF c3 c4 c5 c6
              go_wp2_with (first
                | (go_at_call 18; refine HF2.out.mono ?_; rintro e w1 ⟨rfl, d2, HG⟩)
                | (go_at_call 24; refine HG.out.mono ?_; rintro e w2 ⟨rfl, HK⟩))
              go_meet
              case rel => go_light; exact HK
            · have e3 : (kd == 3) = false := by simp [k3]
              by_cases k4 : kd = 4
              · subst k4
                obtain ⟨HA, HF⟩ := hEL.pair hro hn (fun W h => doneL_any h) (fun W h => rdone_any h) Wo ⟨0, rfl⟩
                obtain ⟨c1, c2, c3, c4, c5, c6⟩ := HA.out
                generalize PB n = pb at *
                generalize QB n = qb at *
                have HF2 : Hid (Calls Try.prog 19 #[.pointer (some ⟨pb, 0, none⟩)] Wo fun e w1 => e = .returned (.tuple #[]) ∧ w1.cell? ⟨ak, n, none⟩ = some (.pointer (some ⟨qb, 0, none⟩)) ∧ Hid (Calls Try.prog 25 #[.pointer (some ⟨qb, 0, none⟩)] w1 fun e w2 => e = .returned (.tuple #[]) ∧ Hid (EX W0 w2 al ak))) :=
                  HF.out.mono fun e w1 ⟨he, hc, hg⟩ => ⟨he, hc.2.1, (hg.out w1 ⟨0, rfl⟩).2.mono fun e w2 ⟨he2, _, hk⟩ => ⟨he2, hk⟩⟩
                clear hEL HX1 hro p0 hkd HA HF c3 c4 c5 c6
                go_wp2_with (first
                  | (go_at_call 19; refine HF2.out.mono ?_; rintro e w1 ⟨rfl, d2, HG⟩)
                  | (go_at_call 25; refine HG.out.mono ?_; rintro e w2 ⟨rfl, HK⟩))
                go_meet
                case rel => go_light; exact HK
              · have e4 : (kd == 4) = false := by simp [k4]
                by_cases k5 : kd = 5
                · subst k5
                  obtain ⟨HA, HF⟩ := hEL.pair hro hn (fun W h => tick_any h o.ph o.a o.b) (fun W h => rtick_any h o.ph o.a o.b) Wo.drew ⟨1, rfl⟩
                  obtain ⟨c1, c2, c3, c4, c5, c6⟩ := HA.out
                  obtain ⟨ne, hne⟩ : ∃ x, (tickM (S n) o.ph o.a o.b).2.1 = x := ⟨_, rfl⟩
                  obtain ⟨nd, hnd⟩ : ∃ x, (tickM (S n) o.ph o.a o.b).2.2 = x := ⟨_, rfl⟩
                  rw [hne, hnd] at HF
                  clear hne hnd
                  generalize PB n = pb at *
                  generalize QB n = qb at *
                  have HF2 : Hid (Calls Try.prog 12 #[.pointer (some ⟨pb, 0, none⟩), .int .i64 o.ph, .bool o.a, .bool o.b] Wo.drew fun e w1 => e = .returned (.tuple #[.int .u64 (ne : Nat), .bool nd]) ∧ (w1.cell? ⟨al, n, none⟩ = some (.pointer (some ⟨pb, 0, none⟩)) ∧ w1.cell? ⟨ak, n, none⟩ = some (.pointer (some ⟨qb, 0, none⟩)) ∧ w1.cell? ⟨ob, 3, none⟩ = some (.int .i64 o.ph) ∧ w1.cell? ⟨ob, 4, none⟩ = some (.bool o.a) ∧ w1.cell? ⟨ob, 5, none⟩ = some (.bool o.b)) ∧ Hid (w1.drew.cell? ⟨al, n, none⟩ = some (.pointer (some ⟨pb, 0, none⟩)) ∧ w1.drew.cell? ⟨ak, n, none⟩ = some (.pointer (some ⟨qb, 0, none⟩)) ∧ w1.drew.cell? ⟨ob, 3, none⟩ = some (.int .i64 o.ph) ∧ w1.drew.cell? ⟨ob, 4, none⟩ = some (.bool o.a) ∧ w1.drew.cell? ⟨ob, 5, none⟩ = some (.bool o.b)) ∧ Hid (Calls Try.prog 26 #[.pointer (some ⟨qb, 0, none⟩), .int .i64 o.ph, .bool o.a, .bool o.b] w1.drew fun e w2 => e = .returned (.tuple #[.int .u64 (ne : Nat), .bool nd]) ∧ (w2.cell? ⟨al, n, none⟩ = some (.pointer (some ⟨pb, 0, none⟩)) ∧ w2.cell? ⟨ak, n, none⟩ = some (.pointer (some ⟨qb, 0, none⟩)) ∧ w2.cell? ⟨ob, 3, none⟩ = some (.int .i64 o.ph) ∧ w2.cell? ⟨ob, 4, none⟩ = some (.bool o.a) ∧ w2.cell? ⟨ob, 5, none⟩ = some (.bool o.b)) ∧ Hid (EX W0 w2 al ak))) :=
                    HF.out.mono fun e w1 ⟨he, ⟨a1, a2, a3, a4, a5, a6⟩, hg⟩ => by
                      obtain ⟨⟨b1, b2, b3, b4, b5, b6⟩, hg1⟩ := hg.out w1.drew ⟨1, rfl⟩
                      exact ⟨he, ⟨a1, a2, a4, a5, a6⟩, ⟨b1, b2, b4, b5, b6⟩, hg1.mono fun e w2 ⟨he2, ⟨c1, c2, c3, c4, c5, c6⟩, hk⟩ => ⟨he2, ⟨c1, c2, c4, c5, c6⟩, hk⟩⟩
                  clear HF
                  clear hEL HX1 hro p0 hkd HA
                  generalize o.a = oaa at *
                  generalize o.b = obb at *
                  generalize o.ph = oph at *
                  have zz1 : ((ne : Int) != (ne : Int)) = false := by simp
                  have zz2 : (nd != nd) = false := by simp
                  go_upto_region 24 with fail
                  go_region_held3 (fun W => W.cell? ⟨al, n, none⟩ = some (.pointer (some ⟨pb, 0, none⟩)) ∧ W.cell? ⟨ak, n, none⟩ = some (.pointer (some ⟨qb, 0, none⟩)) ∧ W.cell? ⟨ob, 3, none⟩ = some (.int .i64 oph) ∧ W.cell? ⟨ob, 4, none⟩ = some (.bool oaa) ∧ W.cell? ⟨ob, 5, none⟩ = some (.bool obb))
                    (first | exact ⟨c1, c2, c4, c5, c6⟩ | exact ⟨d1, d2, d3, d5, d6⟩)
                    (first | (go_at_call 12; with_reducible refine HF2.out.mono ?_; rintro e w1 ⟨rfl, ⟨d1, d2, d3, d5, d6⟩, HD, HG2⟩))
                  all_goals
                    obtain ⟨g1, g2, g3, g5, g6⟩ := HD.out
                    clear HF2 HD
                    go_upto_region 25 with fail
                    go_region_held3 (fun W => W.cell? ⟨al, n, none⟩ = some (.pointer (some ⟨pb, 0, none⟩)) ∧ W.cell? ⟨ak, n, none⟩ = some (.pointer (some ⟨qb, 0, none⟩)) ∧ W.cell? ⟨ob, 3, none⟩ = some (.int .i64 oph) ∧ W.cell? ⟨ob, 4, none⟩ = some (.bool oaa) ∧ W.cell? ⟨ob, 5, none⟩ = some (.bool obb))
                      (first | exact ⟨g1, g2, g3, g5, g6⟩ | exact ⟨v1, v2, v3, v5, v6⟩)
                      (first | (go_at_call 26; with_reducible refine HG2.out.mono ?_; rintro e w2 ⟨rfl, ⟨v1, v2, v3, v5, v6⟩, HK⟩))
                    all_goals
                      go_wp2_with fail
                      go_meet
                      case rel => go_light; exact HK
                · have e5 : (kd == 5) = false := by simp [k5]
                  by_cases k6 : kd = 6
                  · subst k6
                    have HF0 := hEL.fresh hro hn hok
                    have p2 : Wo.cell? ⟨ob, 2, none⟩ = some (.int .u64 (o.ep : Nat)) := hro.cell (i := 2) (by decide)
                    have p6 : Wo.cell? ⟨ob, 6, none⟩ = some (.int .i64 o.pl) := hro.cell (i := 6) (by decide)
                    have p7 : Wo.cell? ⟨ob, 7, none⟩ = some (.int .i64 o.cp) := hro.cell (i := 7) (by decide)
                    have p8 : Wo.cell? ⟨ob, 8, none⟩ = some (.int .i64 o.mo) := hro.cell (i := 8) (by decide)
                    have HF : Hid (Calls Try.prog 9 #[.int .i64 o.pl, .int .i64 o.cp, .int .i64 o.mo, .int .u64 (o.ep : Nat)] Wo fun e w1 => ∃ pb, e = .returned (.pointer (some ⟨pb, 0, none⟩)) ∧ w1.cell? ⟨al, n, none⟩ = some (.pointer (some ⟨PB n, 0, none⟩)) ∧ w1.frozen? ⟨al, n, none⟩ = false ∧ ∃ W1, Hid (w1.setCell ⟨al, n, none⟩ (.pointer (some ⟨pb, 0, none⟩)) = W1) ∧ W1.cell? ⟨ob, 2, none⟩ = some (.int .u64 (o.ep : Nat)) ∧ W1.cell? ⟨ob, 6, none⟩ = some (.int .i64 o.pl) ∧ W1.cell? ⟨ob, 7, none⟩ = some (.int .i64 o.cp) ∧ W1.cell? ⟨ob, 8, none⟩ = some (.int .i64 o.mo) ∧
                        Hid (Calls Try.prog 21 #[.int .i64 o.pl, .int .i64 o.cp, .int .i64 o.mo, .int .u64 (o.ep : Nat)] W1 fun e w2 => ∃ qb, e = .returned (.pointer (some ⟨qb, 0, none⟩)) ∧ w2.cell? ⟨ak, n, none⟩ = some (.pointer (some ⟨QB n, 0, none⟩)) ∧ w2.frozen? ⟨ak, n, none⟩ = false ∧ ∃ W2, Hid (w2.setCell ⟨ak, n, none⟩ (.pointer (some ⟨qb, 0, none⟩)) = W2) ∧ Hid (EX W0 W2 al ak))) :=
                      HF0.mono fun e w1 ⟨pb, he, x1, x2, W1, hW1, r1, h2⟩ => ⟨pb, he, x1, x2, W1, hW1, r1.cell (i := 2) (by decide), r1.cell (i := 6) (by decide), r1.cell (i := 7) (by decide), r1.cell (i := 8) (by decide), h2⟩
                    clear hEL HX1 hro p0 hkd HF0
                    generalize o.pl = opl at *
                    generalize o.cp = ocp at *
                    generalize o.mo = omo at *
                    generalize o.ep = oep at *
                    go_upto_region 30 with (go_at_call 9; refine HF.out.mono ?_; rintro e w1 ⟨pb, rfl, d1, d2, W1, HW1, g2, g6, g7, g8, HG⟩)
                    rw [HW1.out]
                    go_wp2_with (go_at_call 21; refine HG.out.mono ?_; rintro e w2 ⟨qb, rfl, v1, v2, W2, HW2, HK⟩)
                    rw [HW2.out]
                    go_meet
                    case rel => go_light; exact HK
                  · have e6 : (kd == 6) = false := by simp [k6]
                    clear hEL hro p0 hkd
                    go_wp2_with fail
                    go_meet
                    case rel => go_light; exact HX1
      case rest =>
        clear HX1 hEL hro p0 p1 hbn hok hhe
        obtain ⟨PB, QB, S, hEL⟩ := hcut.out
        have HS : Hid (Calls Try.prog 27 #[.pointer (some ⟨PB 0, 0, none⟩), .pointer (some ⟨QB 0, 0, none⟩)] wc fun e w1 => e = .returned (.bool true) ∧ w1.cell? ⟨al, 1, none⟩ = some (.pointer (some ⟨PB 1, 0, none⟩)) ∧ w1.cell? ⟨ak, 1, none⟩ = some (.pointer (some ⟨QB 1, 0, none⟩)) ∧
            Hid (Calls Try.prog 27 #[.pointer (some ⟨PB 1, 0, none⟩), .pointer (some ⟨QB 1, 0, none⟩)] w1 fun e w2 => e = .returned (.bool true) ∧ Hid (EX W0 w2 al ak))) :=
          (hEL.same (j := 0) (by decide)).mono fun e w1 ⟨he, h1⟩ => ⟨he, h1.cp (by decide), h1.cq (by decide), (h1.same (j := 1) (by decide)).mono fun e w2 ⟨he2, h2⟩ => ⟨he2, PB, QB, S, h2⟩⟩
        have c0 := hEL.cp (k := 0) (by decide)
        have k0 := hEL.cq (k := 0) (by decide)
        generalize PB 0 = pb0 at *
        generalize QB 0 = qb0 at *
        generalize PB 1 = pb1 at *
        generalize QB 1 = qb1 at *
        clear hEL hcut
        go_wp2_with (first
          | (go_at_call 27; with_reducible refine HS.out.mono ?_; rintro e w1 ⟨rfl, c1, k1, HS2⟩)
          | (go_at_call 27; with_reducible refine HS2.out.mono ?_; rintro e w2 ⟨rfl, HK⟩))
        go_roundg (3000 - (i + 1))
        case measure => go_light; exact hme
        case rel => go_light; exact ⟨i + 1, hi1, rfl, by simp, HK⟩
    · by_cases hg1 : i < L.length
      · have z1 : (i : Int) < (L.length : Int) := by omega
        have z2 : ¬ (i : Int) < 3000 := by omega
        obtain ⟨PB, QB, S, hEL⟩ := HX.out
        have HS : Hid (Calls Try.prog 27 #[.pointer (some ⟨PB 0, 0, none⟩), .pointer (some ⟨QB 0, 0, none⟩)] wr fun e w1 => e = .returned (.bool true) ∧ w1.cell? ⟨al, 1, none⟩ = some (.pointer (some ⟨PB 1, 0, none⟩)) ∧ w1.cell? ⟨ak, 1, none⟩ = some (.pointer (some ⟨QB 1, 0, none⟩)) ∧
            Hid (Calls Try.prog 27 #[.pointer (some ⟨PB 1, 0, none⟩), .pointer (some ⟨QB 1, 0, none⟩)] w1 fun e w2 => e = .returned (.bool true) ∧ Hid (Calls Try.prog 7 #[] w2 fun e w' => e = .returned (.bool true) ∧ Hid (Below sb w w')))) :=
          (hEL.same (j := 0) (by decide)).mono fun e w1 ⟨he, h1⟩ => ⟨he, h1.cp (by decide), h1.cq (by decide), (h1.same (j := 1) (by decide)).mono fun e w2 ⟨he2, h2⟩ => ⟨he2, HEND.out w2 h2.below⟩⟩
        have c0 := hEL.cp (k := 0) (by decide)
        have k0 := hEL.cq (k := 0) (by decide)
        generalize PB 0 = pb0 at *
        generalize QB 0 = qb0 at *
        generalize PB 1 = pb1 at *
        generalize QB 1 = qb1 at *
        clear hEL HX hbx hgo hi x0 x1 x2 x3
        go_wp2_with (first
          | (go_at_call 27; with_reducible refine HS.out.mono ?_; rintro e w1 ⟨rfl, c1, k1, HS2⟩)
          | (go_at_call 27; with_reducible refine HS2.out.mono ?_; rintro e w2 ⟨rfl, HS3⟩)
          | (go_at_call 7; with_reducible refine HS3.out.mono ?_; rintro e w3 ⟨rfl, HK⟩))
        go_ret
        rw [Hsb.out]
        exact ⟨rfl, HK.out⟩
      · have z1 : ¬ (i : Int) < (L.length : Int) := by omega
        obtain ⟨PB, QB, S, hEL⟩ := HX.out
        have HS : Hid (Calls Try.prog 27 #[.pointer (some ⟨PB 0, 0, none⟩), .pointer (some ⟨QB 0, 0, none⟩)] wr fun e w1 => e = .returned (.bool true) ∧ w1.cell? ⟨al, 1, none⟩ = some (.pointer (some ⟨PB 1, 0, none⟩)) ∧ w1.cell? ⟨ak, 1, none⟩ = some (.pointer (some ⟨QB 1, 0, none⟩)) ∧
            Hid (Calls Try.prog 27 #[.pointer (some ⟨PB 1, 0, none⟩), .pointer (some ⟨QB 1, 0, none⟩)] w1 fun e w2 => e = .returned (.bool true) ∧ Hid (Calls Try.prog 7 #[] w2 fun e w' => e = .returned (.bool true) ∧ Hid (Below sb w w')))) :=
          (hEL.same (j := 0) (by decide)).mono fun e w1 ⟨he, h1⟩ => ⟨he, h1.cp (by decide), h1.cq (by decide), (h1.same (j := 1) (by decide)).mono fun e w2 ⟨he2, h2⟩ => ⟨he2, HEND.out w2 h2.below⟩⟩
        have c0 := hEL.cp (k := 0) (by decide)
        have k0 := hEL.cq (k := 0) (by decide)
        generalize PB 0 = pb0 at *
        generalize QB 0 = qb0 at *
        generalize PB 1 = pb1 at *
        generalize QB 1 = qb1 at *
        clear hEL HX hbx hgo hi x0 x1 x2 x3
        go_wp2_with (first
          | (go_at_call 27; with_reducible refine HS.out.mono ?_; rintro e w1 ⟨rfl, c1, k1, HS2⟩)
          | (go_at_call 27; with_reducible refine HS2.out.mono ?_; rintro e w2 ⟨rfl, HS3⟩)
          | (go_at_call 7; with_reducible refine HS3.out.mono ?_; rintro e w3 ⟨rfl, HK⟩))
        go_ret
        rw [Hsb.out]
        exact ⟨rfl, HK.out⟩
end Go.Proofs.Ytcbebepngencjaa

/- What the laws of lease are handed, read out of memory. -/
namespace Go.Proofs.Ytcbebepngencjaa
open Go.ChangeShapes Go.WideShapes Go.ChangeAt Go.RowKit Go.Deep Go.Joins
set_option maxRecDepth 100000

theorem cellsI : Try.prog.cellsOf 3 = 1 := by kernel_rfl
theorem cellsU : Try.prog.cellsOf 29 = 1 := by kernel_rfl
theorem cellsB : Try.prog.cellsOf 4 = 1 := by kernel_rfl
theorem cellsOp : Try.prog.cellsOf 32 = 9 := by kernel_rfl
theorem cellsOps : Try.prog.cellsOf 22 = 1 := by kernel_rfl
theorem add_at (b o : Nat) (r : Nat) : (⟨b, o, none⟩ : Addr).add r = ⟨b, o + r, none⟩ := by simp [Addr.add]
theorem u64_of {n : Int} (h : (Lit.int .u64 n).wf = true) : ∃ m : Nat, n = (m : Int) ∧ m < 18446744073709551616 := by
  have := bounds_u64 h
  exact ⟨n.toNat, by omega, by omega⟩
theorem i64_of {n : Int} (h : (Lit.int .i64 n).wf = true) : n ≤ 9223372036854775807 := by
  have := bounds_i64 h
  omega
theorem cells9_of {w : World} {a : Addr} {cs : List Value} (h : w.cells? 0 a 9 = some cs) : ∃ v0 v1 v2 v3 v4 v5 v6 v7 v8, cs = [v0, v1, v2, v3, v4, v5, v6, v7, v8] ∧ w.cell? (a.add 0) = some v0 ∧ w.cell? (a.add 1) = some v1 ∧ w.cell? (a.add 2) = some v2 ∧ w.cell? (a.add 3) = some v3 ∧ w.cell? (a.add 4) = some v4 ∧ w.cell? (a.add 5) = some v5 ∧ w.cell? (a.add 6) = some v6 ∧ w.cell? (a.add 7) = some v7 ∧ w.cell? (a.add 8) = some v8 := by
  obtain ⟨_, hl, hc⟩ := World.cells?_some h
  match cs, hl with
  | [v0, v1, v2, v3, v4, v5, v6, v7, v8], _ => exact ⟨v0, v1, v2, v3, v4, v5, v6, v7, v8, rfl, hc 0 (by decide), hc 1 (by decide), hc 2 (by decide), hc 3 (by decide), hc 4 (by decide), hc 5 (by decide), hc 6 (by decide), hc 7 (by decide), hc 8 (by decide)⟩
theorem open_lops {H : Type} {enc : TypeId × Value → H} {W : World} {fuel : Nat} {v : Value} {y : DataW H × List MemPlace} (h : DataW.trod enc Try.prog W 0 (fun _ => true) true fuel 22 [v] = some y) :
    ∃ (a : Option Addr) (c : Nat) (l : List LOp), v = .slice a l.length c ∧ LOpsIn W a l := by
  rcases open_slice Try.underlying22 h with ⟨hcs, _⟩ | ⟨a, len, cap, m, n, D, Pl, hcs, _, hl, _, hm, hx, hel⟩
  · exact ⟨none, 0, [], by simpa using hcs, fun i d ho => by simp at ho⟩
  · simp only [if_true] at hm
    subst hm
    obtain ⟨b, o, sp⟩ := a
    have hsp : 0 < len → sp = none := fun h0 => by
      obtain ⟨cs', hc, _⟩ := hel 0 (by omega)
      rw [cellsOp] at hc
      obtain ⟨v0, v1, v2, v3, v4, v5, v6, v7, v8, rfl, h0, _⟩ := cells9_of hc
      simpa [Addr.add] using World.cell?_spot h0
    have hall : ∀ i, ∃ q : LOp, i < len → (q.Ok ∧ ∀ j, j < 9 → W.cell? ⟨b, o + i * 9 + j, none⟩ = some (lopCell q j)) := fun i => by
      by_cases hi : i < len
      · obtain rfl := hsp (by omega)
        obtain ⟨cs', hc, ht⟩ := hel i (by omega)
        rw [cellsOp, add_at] at hc
        obtain ⟨v0, v1, v2, v3, v4, v5, v6, v7, v8, rfl, h0, h1, h2, h3, h4, h5, h6, h7, h8⟩ := cells9_of hc
        obtain ⟨xs, m, _, hx, _, hlen, hfs⟩ := DataW.trod_struct Try.underlying32 ht
        obtain ⟨y0, y1, y2, y3, y4, y5, y6, y7, y8, rfl⟩ : ∃ y0 y1 y2 y3 y4 y5 y6 y7 y8, xs = [y0, y1, y2, y3, y4, y5, y6, y7, y8] := by
          match xs, hlen with
          | [a0, a1, a2, a3, a4, a5, a6, a7, a8], _ => exact ⟨a0, a1, a2, a3, a4, a5, a6, a7, a8, rfl⟩
        have f0 := hfs 0 _ rfl
        have f1 := hfs 1 _ rfl
        have f2 := hfs 2 _ rfl
        have f3 := hfs 3 _ rfl
        have f4 := hfs 4 _ rfl
        have f5 := hfs 5 _ rfl
        have f6 := hfs 6 _ rfl
        have f7 := hfs 7 _ rfl
        have f8 := hfs 8 _ rfl
        simp [cellsI, cellsU, cellsB] at f0 f1 f2 f3 f4 f5 f6 f7 f8
        obtain ⟨k0, e0, _, _⟩ := DataW.trod_int Try.underlying3 f0
        obtain rfl : v0 = .int .i64 k0 := by simpa using e0
        obtain ⟨k1, e1, _, _⟩ := DataW.trod_int Try.underlying3 f1
        obtain rfl : v1 = .int .i64 k1 := by simpa using e1
        obtain ⟨n2, e2, _, wf2⟩ := DataW.trod_int Try.underlying29 f2
        obtain ⟨k2, hk2, w2⟩ := u64_of wf2
        obtain rfl : v2 = .int .u64 (k2 : Nat) := by rw [hk2] at e2; simpa using e2
        obtain ⟨k3, e3, _, _⟩ := DataW.trod_int Try.underlying3 f3
        obtain rfl : v3 = .int .i64 k3 := by simpa using e3
        obtain ⟨k4, e4, _⟩ := DataW.trod_bool Try.underlying4 f4
        obtain rfl : v4 = .bool k4 := by simpa using e4
        obtain ⟨k5, e5, _⟩ := DataW.trod_bool Try.underlying4 f5
        obtain rfl : v5 = .bool k5 := by simpa using e5
        obtain ⟨k6, e6, _, _⟩ := DataW.trod_int Try.underlying3 f6
        obtain rfl : v6 = .int .i64 k6 := by simpa using e6
        obtain ⟨k7, e7, _, wf7⟩ := DataW.trod_int Try.underlying3 f7
        obtain rfl : v7 = .int .i64 k7 := by simpa using e7
        have w7 := i64_of wf7
        obtain ⟨k8, e8, _, wf8⟩ := DataW.trod_int Try.underlying3 f8
        obtain rfl : v8 = .int .i64 k8 := by simpa using e8
        have w8 := i64_of wf8
        rw [add_at] at h0 h1 h2 h3 h4 h5 h6 h7 h8
        refine ⟨⟨k0, k1, k2, k3, k4, k5, k6, k7, k8⟩, fun _ => ⟨⟨w2, w7, w8⟩, fun j hj => ?_⟩⟩
        match j, hj with
        | 0, _ => exact h0
        | 1, _ => exact h1
        | 2, _ => exact h2
        | 3, _ => exact h3
        | 4, _ => exact h4
        | 5, _ => exact h5
        | 6, _ => exact h6
        | 7, _ => exact h7
        | 8, _ => exact h8
      · exact ⟨⟨0, 0, 0, 0, false, false, 0, 0, 0⟩, fun h => absurd h hi⟩
    obtain ⟨Q, hQ⟩ := Classical.axiomOfChoice hall
    have hlen : ((List.range len).map Q).length = len := by simp
    refine ⟨some ⟨b, o, sp⟩, m, (List.range len).map Q, by rw [hlen]; simpa using hcs, fun i d hq => ?_⟩
    have hi : i < len := by have := (List.getElem?_eq_some_iff.1 hq).1; rwa [hlen] at this
    rw [List.getElem?_map, List.getElem?_range hi] at hq
    obtain rfl : Q i = d := Option.some.inj hq
    obtain rfl := hsp (by omega)
    exact ⟨(hQ i hi).1, b, o, rfl, (hQ i hi).2⟩
end Go.Proofs.Ytcbebepngencjaa
