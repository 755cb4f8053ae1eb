/- The document's Reader over bytes that lie anywhere: Var, Text. -/
import Derived.Test.YtbmdnlomhnodeabDoorEyeG
namespace Go.Proofs.YtbmdnlomhnodeabDoor
open Go.RowKit
set_option maxRecDepth 100000

set_option maxHeartbeats 3200000 in
set_option maxRecDepth 100000 in
theorem gVar_some (eb hb ho hc n at' most k : Nat) (z : Nat → Nat) (w : World) (h : IsG w eb hb ho hc n z at' 0) (hR : lastAt (fun j => z (at' + j)) (n - at') 10 0 = some k) (hn : n ≤ 140737488351232) (A a2 b2 : Nat)
    (hV : (if (k = 9 ∧ 1 < z (at' + k)) ∨ (z (at' + k) = 0 ∧ 0 < k) then ((0, at', 11) : Nat × Nat × Nat) else if most < vs (fun j => z (at' + j)) (k + 1) then (0, at', 12) else (vs (fun j => z (at' + j)) (k + 1), at' + (k + 1), 0)) = (A, a2, b2)) :
    Calls Tryd.prog 56 #[.pointer (some ⟨eb, 0, none⟩), .int .u64 most] w fun e w' => e = .returned (.int .u64 A) ∧ But eb w w' ∧ IsG w' eb hb ho hc n z a2 b2 := by
  have hla := gLast eb hb ho hc n at' 0 z w h _ hR
  obtain ⟨_, hk10, hkm, hkz, hkj⟩ := last_some _ _ _ _ _ hR
  replace hk10 : k < 10 := by omega
  have hle := h.le
  have hz := h.byte
  have c2 := h.c2
  obtain ⟨E, hE⟩ : ∃ E, at' + k = E := ⟨_, rfl⟩
  replace hla : Calls Tryd.prog 69 #[.pointer (some ⟨eb, 0, none⟩)] w fun e w' => e = .returned (.int .i64 (E : Nat)) ∧ w.Since w.heap.size w' := by rw [← hE]; exact hla
  go_enter Tryd.func56, Tryd.ntmps56
  go_wp2_with fail
  refine hla.mono ?_
  rintro e w1 ⟨rfl, hs1⟩
  have h1 := h.since hs1
  have d0 := h1.c0
  have d1 := h1.c1
  clear hla c2
  go_wp2_with fail
  go_loopg [6, 7] (k + 1) (fun q s6 s7 wx => ∃ (d : Nat) (Z : Int), d ≤ k + 1 ∧ d = q ∧ s6 = .int .u64 (vs (fun j => z (at' + (d + j))) (k + 1 - d) % 18446744073709551616 : Nat) ∧ s7 = .int .i64 Z ∧ Z = (at' : Int) + d - 1 ∧ wx = w1)
  case atStart => exact ⟨k + 1, (E : Int), Nat.le_refl _, rfl, by rw [Nat.sub_self]; rfl, rfl, by omega, rfl⟩
  case round =>
    obtain ⟨d, Z, hd, rfl, rfl, rfl, hZ, hwx⟩ := hrel
    subst hwx
    rcases Nat.eq_zero_or_pos d with hd0 | hdp
    · subst hd0
      have hge : ¬ ((at' : Int) ≤ Z) := by omega
      have e0 : vs (fun j => z (at' + (0 + j))) (k + 1 - 0) = vs (fun j => z (at' + j)) (k + 1) := vs_congr (k + 1) (fun j _ => by show z (at' + (0 + j)) = z (at' + j); rw [Nat.zero_add])
      rw [e0]
      clear hR e0
      have hlt64 : vs (fun j => z (at' + j)) (k + 1) % 18446744073709551616 < 18446744073709551616 := Nat.mod_lt _ (by decide)
      obtain ⟨G, hG⟩ : ∃ G, E + 1 = G := ⟨_, rfl⟩
      have hcn := h.capn
      have hna : ¬ hc = at' := by omega
      have hGc : (G : Int) ≤ (hc : Int) := by omega
      have hGc2 : G ≤ hc := by omega
      have hGa : (at' : Int) ≤ (G : Int) := by omega
      have hGn : (G : Int) ≤ (n : Int) := by omega
      have hGs : (E : Int) + 1 = (G : Int) := by omega
      have hwG : IntKind.i64.wrap (G : Int) = (G : Int) := by rw [IntKind.wrap_i64]; omega
      have hwS : IntKind.i64.wrap ((E : Int) + 1) = (G : Int) := by rw [hGs]; exact hwG
      have hG1 : G - at' = k + 1 := by omega
      have hbz : ∀ W, wr.Since wr.heap.size W → Byt W (some ⟨hb, ho + at', none⟩) (k + 1) (fun j => z (at' + j)) := fun W hW => g_place h1 hW (ho + at') (k + 1) (by omega) (fun _ => rfl)
      obtain ⟨BB, hBB, hEq⟩ : ∃ BB : Bool, (BB = true → ¬ ((k = 9 ∧ 1 < z (at' + k)) ∨ (z (at' + k) = 0 ∧ 0 < k)) ∧ vs (fun j => z (at' + j)) (k + 1) % 18446744073709551616 = vs (fun j => z (at' + j)) (k + 1)) ∧ (∀ W aa cc, wr.Since wr.heap.size W → Byt W aa (vl 9 (vs (fun j => z (at' + j)) (k + 1) % 18446744073709551616)).length (fun j => (vl 9 (vs (fun j => z (at' + j)) (k + 1) % 18446744073709551616)).getD j 0) → Calls Tryd.prog 22 #[.slice aa (vl 9 (vs (fun j => z (at' + j)) (k + 1) % 18446744073709551616)).length cc, .slice (some ⟨hb, ho + at', none⟩) (G - at') (hc - at')] W fun e w' => e = .returned (.bool BB) ∧ wr.Since wr.heap.size w') ∧ (BB = false → ((k = 9 ∧ 1 < z (at' + k)) ∨ (z (at' + k) = 0 ∧ 0 < k))) := by
        by_cases hcond : (k = 9 ∧ 1 < z (at' + k)) ∨ (z (at' + k) = 0 ∧ 0 < k)
        · refine ⟨false, fun e => (by cases e), fun W aa cc hW hy => ?_, fun _ => hcond⟩
          rw [hG1]
          have hne := vl_ne (fun j => z (at' + j)) k hk10 hcond hkz
          have hlen := vl_len 9 (vs (fun j => z (at' + j)) (k + 1) % 18446744073709551616)
          exact (eq_diff aa _ _ (k + 1) cc (hc - at') _ _ W hy (hbz W hW) (by omega) (by omega) (fun hh => hne ⟨hh.1, fun j hj => hh.2 j (by omega)⟩)).mono fun e w' ⟨he, m, hm⟩ => ⟨he, by rw [hm]; exact since_drewN' hW m⟩
        · obtain ⟨g1, g2⟩ := vl_eq (fun j => z (at' + j)) (fun j => hz _) k hk10 hcond hkz (fun j hj => hkj j (Nat.zero_le _) hj)
          refine ⟨true, fun _ => ⟨hcond, g1⟩, fun W aa cc hW hy => ?_, fun e => (by cases e)⟩
          rw [hG1]
          rw [g1, g2] at hy ⊢
          simp only [List.length_map, List.length_range] at hy ⊢
          have hy' : Byt W aa (k + 1) (fun j => z (at' + j)) := fun j hj => by
            obtain ⟨b, off, ea, hc⟩ := hy j hj
            have hg := getD_range_map (fun j => z (at' + j)) (k + 1) j hj
            simp only [hg] at hc
            exact ⟨b, off, ea, hc⟩
          exact (eq_same aa _ (k + 1) cc (hc - at') _ W hy' (hbz W hW) (by omega)).mono fun e w' ⟨he, m, hm⟩ => ⟨he, by rw [hm]; exact since_drewN' hW m⟩
      obtain ⟨hEq, hBF⟩ := hEq
      have hVar : ∀ W, wr.Since wr.heap.size W → Calls Tryd.prog 59 #[.int .u64 (vs (fun j => z (at' + j)) (k + 1) % 18446744073709551616 : Nat)] W fun e w' => ∃ v, e = .returned v ∧ wr.Since wr.heap.size w' ∧ ∃ aa cc, v = .slice aa (vl 9 (vs (fun j => z (at' + j)) (k + 1) % 18446744073709551616)).length cc ∧ Byt w' aa (vl 9 (vs (fun j => z (at' + j)) (k + 1) % 18446744073709551616)).length (fun j => (vl 9 (vs (fun j => z (at' + j)) (k + 1) % 18446744073709551616)).getD j 0) := fun W hW =>
        (refvar 9 _ W (Nat.lt_of_lt_of_le hlt64 (by decide)) hlt64 (by decide)).mono fun e w' ⟨v, he, hs, ho⟩ => by
          obtain ⟨a, c, rfl, hy, _⟩ := own_byt ho
          exact ⟨_, he, hW.trans (since_mono hs hW.size), a, c, rfl, hy⟩
      have hBT : BB = true → vs (fun j => z (at' + j)) (k + 1) % 18446744073709551616 = vs (fun j => z (at' + j)) (k + 1) := fun e => (hBB e).2
      have hV2 : (if BB = true then (if most < vs (fun j => z (at' + j)) (k + 1) % 18446744073709551616 then ((0, at', 12) : Nat × Nat × Nat) else (vs (fun j => z (at' + j)) (k + 1) % 18446744073709551616, at' + (k + 1), 0)) else (0, at', 11)) = (A, a2, b2) := by
        rw [← hV]
        cases BB with
        | true => rw [if_pos rfl, if_neg (hBB rfl).1, hBT rfl]
        | false => rw [if_neg (by decide), if_pos (hBF rfl)]
      have hG2 : at' + (k + 1) = G := by omega
      clear hV hBB hBF hBT hkj hkz hbz hG1
      generalize vs (fun j => z (at' + j)) (k + 1) % 18446744073709551616 = N at *
      have hcell : ∀ W, wr.Since wr.heap.size W → W.cell? ⟨eb, 0, none⟩ = some (.slice (some ⟨hb, ho, none⟩) n hc) ∧ W.cell? ⟨eb, 1, none⟩ = some (.int .i64 at') := fun W hW => ⟨(h1.since hW).c0, (h1.since hW).c1⟩
      have HE := hide hEq
      have HV := hide hVar
      clear hEq hVar
      have hZ' : Z < (at' : Int) := by omega
      go_upto_region 14 with fail
      go_region_held3 (fun W => wr.Since wr.heap.size W ∧ W.cell? ⟨eb, 0, none⟩ = some (.slice (some ⟨hb, ho, none⟩) n hc) ∧ W.cell? ⟨eb, 1, none⟩ = some (.int .i64 at'))
        ((first | exact ⟨by assumption, hcell _ (by assumption)⟩ | exact ⟨(World.Since.refl _ _).drew, hcell _ (World.Since.refl _ _).drew⟩))
        ((first
          | (go_at_call 59; refine ((unhide HV) _ ?_).mono ?_; (go_split_ands; assumption); rintro e w3 ⟨_, rfl, hs3, aa, cc, rfl, hy3⟩)
          | (go_at_call 22; refine ((unhide HE) _ _ _ ?_ hy3).mono ?_; (go_split_ands; assumption); rintro e w4 ⟨rfl, hs4⟩)))
      all_goals
        have h4 := h1.since hs4
        have hsw : w.Since w.heap.size w4 := hs1.trans (since_mono hs4 hs1.size)
        have f1 := h4.rd.frozen 1
        have f2 := h4.rd.frozen 2
        have g1 := h4.c1
        have g2 := h4.c2
        clear HE HV hcell hy3 hs3
        cases BB with
        | false =>
          rw [if_neg (by decide)] at hV2
          cases hV2
          have hI := h4.setBad 11
          have hB : But eb w (w4.setCell ⟨eb, 2, none⟩ (.int .i64 11)) := (But.of_since hsw).setCell 2 _
          go_wp2_with fail
          go_ret
          exact ⟨rfl, hB, hI⟩
        | true =>
          rw [if_pos rfl] at hV2
          by_cases hmo : most < N
          · rw [if_pos hmo] at hV2
            cases hV2
            have hmo' : (most : Int) < (N : Int) := by omega
            have hI := h4.setBad 12
            have hB : But eb w (w4.setCell ⟨eb, 2, none⟩ (.int .i64 12)) := (But.of_since hsw).setCell 2 _
            go_wp2_with fail
            go_ret
            exact ⟨rfl, hB, hI⟩
          · rw [if_neg hmo] at hV2
            have hmo' : ¬ ((most : Int) < (N : Int)) := by omega
            cases hV2
            have hI := h4.setAt (at' + (k + 1)) (by omega)
            have hB : But eb w (w4.setCell ⟨eb, 1, none⟩ (.int .i64 ((at' + (k + 1) : Nat) : Int))) := (But.of_since hsw).setCell 1 _
            have eG : ((at' + (k + 1) : Nat) : Int) = (G : Int) := by omega
            rw [eG] at hI hB
            clear eG
            go_wp2_with fail
            go_ret
            first | exact ⟨rfl, hB, hI⟩ | exact ⟨rfl, hB, isG_eq hI hG2 rfl⟩ | exact ⟨rfl, hB, isG_eq hI hG2.symm rfl⟩
    · obtain ⟨d', rfl⟩ : ∃ d', d = d' + 1 := ⟨d - 1, by omega⟩
      obtain ⟨P, hP, rfl⟩ : ∃ P : Nat, at' + d' = P ∧ Z = (P : Int) := ⟨at' + d', rfl, by omega⟩
      have hge : (at' : Int) ≤ (P : Int) := by omega
      clear hZ
      have hPn : (P : Int) < (n : Int) := by omega
      have cz : wr.cell? ⟨hb, ho + P, none⟩ = some (.int .u8 (z P : Nat)) := h1.cel P (by omega)
      have hc := hz P
      have hho := horner (fun j => z (at' + j)) d' (k + 1 - (d' + 1))
      rw [show k + 1 - (d' + 1) + 1 = k + 1 - d' by omega] at hho
      replace hho : vs (fun j => z (at' + (d' + j))) (k + 1 - d') % 18446744073709551616 = (vs (fun j => z (at' + (d' + 1 + j))) (k + 1 - (d' + 1)) % 18446744073709551616 * 128 + z P % 128) % 18446744073709551616 := by rw [← hP]; exact hho
      have hX : vs (fun j => z (at' + (d' + 1 + j))) (k + 1 - (d' + 1)) % 18446744073709551616 < 18446744073709551616 := Nat.mod_lt _ (by decide)
      generalize hN1 : vs (fun j => z (at' + (d' + j))) (k + 1 - d') % 18446744073709551616 = N1 at *
      generalize vs (fun j => z (at' + (d' + 1 + j))) (k + 1 - (d' + 1)) % 18446744073709551616 = N0 at *
      have hw : IntKind.u64.wrap (IntKind.u64.wrap ((N0 : Int) * 128) + (z P : Int) % 128) = (N1 : Int) := by
        rw [IntKind.wrap_u64, IntKind.wrap_u64]; omega
      clear hR hV hkj hho
      go_wp2_with fail
      go_roundg d'
      case measure => go_light; omega
      case rel => go_light; exact ⟨d', (P : Int) - 1, by omega, rfl, by rw [hN1], rfl, by omega, rfl⟩


set_option maxHeartbeats 1600000 in
set_option maxRecDepth 100000 in
theorem gVar (eb hb ho hc n at' bad most : Nat) (z : Nat → Nat) (w : World) (h : IsG w eb hb ho hc n z at' bad) (hn : n ≤ 140737488351232) :
    Calls Tryd.prog 56 #[.pointer (some ⟨eb, 0, none⟩), .int .u64 most] w fun e w' => e = .returned (.int .u64 ((varAns z n most at' bad).1 : Nat)) ∧ But eb w w' ∧ IsG w' eb hb ho hc n z (varAns z n most at' bad).2.1 (varAns z n most at' bad).2.2 := by
  unfold varAns
  by_cases hbad : bad = 0
  · subst hbad
    rw [if_neg (by simp)]
    have hvl : vlook (fun j => z (at' + j)) (n - at') most = _ := vres_last (fun j => z (at' + j)) (n - at') most 10 0 rfl (Nat.zero_le _)
    cases hR : lastAt (fun j => z (at' + j)) (n - at') 10 0 with
    | some k =>
      rw [hR] at hvl
      rw [hvl]
      refine gVar_some eb hb ho hc n at' most k z w h hR hn _ _ _ ?_
      show _ = ((if (k = 9 ∧ 1 < z (at' + k)) ∨ (z (at' + k) = 0 ∧ 0 < k) then ((0, 0, 11) : Nat × Nat × Nat) else if most < vs (fun j => z (at' + j)) (k + 1) then (0, 0, 12) else (vs (fun j => z (at' + j)) (k + 1), k + 1, 0)).1, at' + (if (k = 9 ∧ 1 < z (at' + k)) ∨ (z (at' + k) = 0 ∧ 0 < k) then ((0, 0, 11) : Nat × Nat × Nat) else if most < vs (fun j => z (at' + j)) (k + 1) then (0, 0, 12) else (vs (fun j => z (at' + j)) (k + 1), k + 1, 0)).2.1, (if (k = 9 ∧ 1 < z (at' + k)) ∨ (z (at' + k) = 0 ∧ 0 < k) then ((0, 0, 11) : Nat × Nat × Nat) else if most < vs (fun j => z (at' + j)) (k + 1) then (0, 0, 12) else (vs (fun j => z (at' + j)) (k + 1), k + 1, 0)).2.2)
      by_cases h1 : (k = 9 ∧ 1 < z (at' + k)) ∨ (z (at' + k) = 0 ∧ 0 < k)
      · rw [if_pos h1, if_pos h1]; rfl
      · rw [if_neg h1, if_neg h1]
        by_cases h2 : most < vs (fun j => z (at' + j)) (k + 1)
        · rw [if_pos h2, if_pos h2]; rfl
        · rw [if_neg h2, if_neg h2]
    | none =>
      rw [hR] at hvl
      rw [hvl]
      show Calls _ _ _ _ fun e w' => e = .returned (.int .u64 ((if n - at' < 10 then ((0, 0, 10) : Nat × Nat × Nat) else (0, 0, 11)).1 : Nat)) ∧ But eb w w' ∧ IsG w' eb hb ho hc n z (at' + (if n - at' < 10 then ((0, 0, 10) : Nat × Nat × Nat) else (0, 0, 11)).2.1) (if n - at' < 10 then ((0, 0, 10) : Nat × Nat × Nat) else (0, 0, 11)).2.2
      have hla := gLast eb hb ho hc n at' 0 z w h none hR
      replace hla : Calls Tryd.prog 69 #[.pointer (some ⟨eb, 0, none⟩)] w fun e w' => e = .returned (.int .i64 (-1)) ∧ w.Since w.heap.size w' := hla
      have c2 := h.c2
      clear hvl hR
      by_cases hm : n - at' < 10
      · rw [if_pos hm]
        have hp : ((n - at' : Nat) : Int) < 10 := by omega
        go_enter Tryd.func56, Tryd.ntmps56
        go_wp2_with fail
        refine hla.mono ?_
        rintro e w1 ⟨rfl, hs1⟩
        have h1 := h.since hs1
        have f2 := h1.rd.frozen 2
        have g2 := h1.c2
        have hI := h1.setBad 11
        have hB : But eb w (w1.setCell ⟨eb, 2, none⟩ (.int .i64 11)) := (But.of_since hs1).setCell 2 _
        have e11 : ((11 : Nat) : Int) = 11 := rfl
        rw [e11] at hI
        have hlf := gLeft eb hb ho hc n at' 11 z _ hI
        clear hla c2
        generalize ((n - at' : Nat) : Int) = LL at *
        go_wp2_with fail
        generalize w1.setCell ⟨eb, 2, none⟩ (.int .i64 11) = w2 at *
        refine hlf.mono ?_
        rintro e w3 ⟨rfl, m3, rfl⟩
        have h3 := hI.since (since_drewN' (World.Since.refl _ _) m3)
        have f3 := h3.rd.frozen 2
        have g3 := h3.c2
        have hI3 := h3.setBad 10
        have hB3 : But eb w ((w2.drewN m3).setCell ⟨eb, 2, none⟩ (.int .i64 10)) := (hB.trans (But.of_since (since_drewN' (World.Since.refl _ _) m3))).setCell 2 _
        generalize w2.drewN m3 = w3 at *
        clear hlf g2 f2
        go_wp2_with fail
        go_ret
        exact ⟨rfl, hB3, hI3⟩
      · rw [if_neg hm]
        have hp : ¬ (((n - at' : Nat) : Int) < 10) := by omega
        go_enter Tryd.func56, Tryd.ntmps56
        go_wp2_with fail
        refine hla.mono ?_
        rintro e w1 ⟨rfl, hs1⟩
        have h1 := h.since hs1
        have f2 := h1.rd.frozen 2
        have g2 := h1.c2
        have hI := h1.setBad 11
        have hB : But eb w (w1.setCell ⟨eb, 2, none⟩ (.int .i64 11)) := (But.of_since hs1).setCell 2 _
        have e11 : ((11 : Nat) : Int) = 11 := rfl
        rw [e11] at hI
        have hlf := gLeft eb hb ho hc n at' 11 z _ hI
        clear hla c2
        generalize ((n - at' : Nat) : Int) = LL at *
        go_wp2_with fail
        generalize w1.setCell ⟨eb, 2, none⟩ (.int .i64 11) = w2 at *
        refine hlf.mono ?_
        rintro e w3 ⟨rfl, m3, rfl⟩
        have h3 := hI.since (since_drewN' (World.Since.refl _ _) m3)
        have hB3 : But eb w (w2.drewN m3) := hB.trans (But.of_since (since_drewN' (World.Since.refl _ _) m3))
        generalize w2.drewN m3 = w3 at *
        clear hlf g2 f2
        go_wp2_with fail
        go_ret
        exact ⟨rfl, hB3, h3⟩
  · rw [if_pos hbad]
    have hq : ((bad : Int) != 0) = true := by simp; omega
    have c2 := h.c2
    go_enter Tryd.func56, Tryd.ntmps56
    go_wp2_with fail
    go_ret
    exact ⟨rfl, But.of_since (World.Since.refl _ _), h⟩

set_option maxHeartbeats 1600000 in
theorem gText (eb hb ho hc n at' bad : Nat) (most : Int) (z : Nat → Nat) (w : World) (h : IsG w eb hb ho hc n z at' bad) (hm : most ≤ 9223372036854775807) (hn : n ≤ 140737488351232) :
    Calls Tryd.prog 39 #[.pointer (some ⟨eb, 0, none⟩), .int .i64 most] w fun e w' => (∃ ta, e = .returned (.slice ta (bytesAns z n most.toNat at' bad).1 (bytesAns z n most.toNat at' bad).1) ∧ Txt w.heap.size w' ta (bytesAns z n most.toNat at' bad).1 (fun j => z ((bytesAns z n most.toNat at' bad).2.1 + j))) ∧ But eb w w' ∧ IsG w' eb hb ho hc n z (bytesAns z n most.toNat at' bad).2.2.1 (bytesAns z n most.toNat at' bad).2.2.2 := by
  obtain ⟨M, hM, hMb⟩ : ∃ M : Nat, M = most.toNat ∧ M < 9223372036854775808 := ⟨_, rfl, by omega⟩
  rw [← hM]
  have hle := h.le
  have c1 := h.c1
  have key : ∀ (X : Int), X = (M : Int) → Calls Tryd.prog 56 #[.pointer (some ⟨eb, 0, none⟩), .int .u64 X] w fun e w' => e = .returned (.int .u64 ((varAns z n M at' bad).1 : Nat)) ∧ But eb w w' ∧ IsG w' eb hb ho hc n z (varAns z n M at' bad).2.1 (varAns z n M at' bad).2.2 := fun X hX => by rw [hX]; exact gVar eb hb ho hc n at' bad M z w h hn
  obtain ⟨p1, p2, p3⟩ := bytes_parts z n M at' bad
  generalize bytesAns z n M at' bad = BB at *
  obtain ⟨bl, bf, ba, bb⟩ := BB
  generalize varAns z n M at' bad = V at *
  obtain ⟨A, a2, b2⟩ := V
  replace p3 : A ≤ M := p3
  have raw : ∀ w1, IsG w1 eb hb ho hc n z a2 b2 → Calls Tryd.prog 40 #[.pointer (some ⟨eb, 0, none⟩), .int .i64 (A : Nat)] w1 fun e w' => (∃ ta, e = .returned (.slice ta (rawAns n A a2 b2).1 (rawAns n A a2 b2).1) ∧ Txt w1.heap.size w' ta (rawAns n A a2 b2).1 (fun j => z (a2 + j))) ∧ But eb w1 w' ∧ IsG w' eb hb ho hc n z (rawAns n A a2 b2).2.2.1 (rawAns n A a2 b2).2.2.2 := fun w1 h1 => by
    have := gRaw eb hb ho hc n a2 b2 A z w1 h1 (by omega)
    rw [raw_from] at this
    exact this
  generalize rawAns n A a2 b2 = R at *
  obtain ⟨l, fr, a3, b3⟩ := R
  have HK := hide key
  have HR := hide raw
  clear key raw
  have hA64 : (A : Int) < 9223372036854775808 := by omega
  obtain ⟨X0, hX0, hcase⟩ : ∃ X0 : Int, X0 = (M : Int) ∧ ((most < 0 ∧ X0 = 0) ∨ (¬ most < 0 ∧ X0 = most)) := by
    by_cases hneg : most < 0
    · exact ⟨0, by omega, Or.inl ⟨hneg, rfl⟩⟩
    · exact ⟨most, by omega, Or.inr ⟨hneg, rfl⟩⟩
  clear hM
  rcases hcase with ⟨hneg, rfl⟩ | ⟨hneg, rfl⟩
  all_goals
    go_enter Tryd.func39, Tryd.ntmps39
    have HX := hide hX0
    clear hX0
    go_wp2_with fail
    refine ((unhide HK) _ (unhide HX)).mono ?_
    rintro e w1 ⟨rfl, hB1, hI1⟩
    have hr1 := (unhide HR) w1 hI1
    clear HK HR
    go_wp2_with fail
    refine hr1.mono ?_
    rintro e w2 ⟨⟨ta, rfl, htx⟩, hB2, hI2⟩
    have g2 := hI2.c2
    have hB := hB1.trans hB2
    clear hr1
    by_cases hb3 : b3 = 0
    · obtain ⟨q1, q2, q3, q4⟩ := p2 hb3
      replace q1 : bl = l := q1
      replace q2 : bf = a2 := q2
      replace q3 : ba = a3 := q3
      replace q4 : bb = 0 := q4
      subst q1
      subst q2
      subst q3
      subst q4
      subst hb3
      clear p1 p2
      go_wp2_with fail
      go_ret
      exact ⟨⟨ta, rfl, htx.mono' hB1.size⟩, hB, hI2⟩
    · obtain ⟨q1, q3, q4⟩ := p1 hb3
      replace q1 : bl = 0 := q1
      replace q3 : ba = at' := q3
      replace q4 : bb = b3 := q4
      subst q1
      subst q3
      subst q4
      have hq : ((bb : Int) != 0) = true := by simp; omega
      have f1 := hI2.rd.frozen 1
      have g1 := hI2.c1
      have hI3 := hI2.setAt ba hle
      have hB3 := hB.setCell 1 (.int .i64 (ba : Int))
      clear p1 p2
      go_wp2_with fail
      go_ret
      exact ⟨⟨none, rfl, txt_none _ _ _ _ rfl⟩, hB3, hI3⟩
end Go.Proofs.YtbmdnlomhnodeabDoor
