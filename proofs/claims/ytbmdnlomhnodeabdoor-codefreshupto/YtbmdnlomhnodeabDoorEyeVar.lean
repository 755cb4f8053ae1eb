/- The document's Reader: Var. -/
import Derived.Test.YtbmdnlomhnodeabDoorEyeMath
namespace Go.Proofs.YtbmdnlomhnodeabDoor
open Go.RowKit
set_option maxRecDepth 100000

theorem horner (z : Nat → Nat) (d s : Nat) : vs (fun j => z (d + j)) (s + 1) % 18446744073709551616 = (vs (fun j => z (d + 1 + j)) s % 18446744073709551616 * 128 + z d % 128) % 18446744073709551616 := by
  rw [vs_shift]
  have e : vs (fun j => (fun j => z (d + j)) (j + 1)) s = vs (fun j => z (d + 1 + j)) s := vs_congr s (fun j _ => by show z (d + (j + 1)) = z (d + 1 + j); congr 1; omega)
  rw [e]
  show (z (d + 0) % 128 + 128 * _) % _ = _
  rw [Nat.add_zero]
  omega

set_option maxHeartbeats 3200000 in
set_option maxRecDepth 100000 in
theorem eyeVar_some (eb hb n at' most k : Nat) (z : Nat → Nat) (w : World) (h : IsE w eb hb n z at' 0) (hR : lastAt (fun j => z (at' + j)) (n - at') 10 0 = some k) (hn : n ≤ 140737488351232) (A a2 b2 : Nat)
    (hV : (if (k = 9 ∧ 1 < z (at' + k)) ∨ (z (at' + k) = 0 ∧ 0 < k) then ((0, at', 11) : Nat × Nat × Nat) else if most < vs (fun j => z (at' + j)) (k + 1) then (0, at', 12) else (vs (fun j => z (at' + j)) (k + 1), at' + (k + 1), 0)) = (A, a2, b2)) :
    Calls Tryd.prog 56 #[.pointer (some ⟨eb, 0, none⟩), .int .u64 most] w fun e w' => e = .returned (.int .u64 A) ∧ But eb w w' ∧ IsE w' eb hb n z a2 b2 := by
  have hla := eyeLast eb hb n at' 0 z w h _ hR
  obtain ⟨_, hk10, hkm, hkz, hkj⟩ := last_some _ _ _ _ _ hR
  replace hk10 : k < 10 := by omega
  have hle := h.le
  have hz := h.byte
  have c2 := h.c2
  obtain ⟨E, hE⟩ : ∃ E, at' + k = E := ⟨_, rfl⟩
  replace hla : Calls Tryd.prog 69 #[.pointer (some ⟨eb, 0, none⟩)] w fun e w' => e = .returned (.int .i64 (E : Nat)) ∧ w.Since w.heap.size w' := by rw [← hE]; exact hla
  go_enter Tryd.func56, Tryd.ntmps56
  go_wp2_with fail
  refine hla.mono ?_
  rintro e w1 ⟨rfl, hs1⟩
  have h1 := h.since hs1
  have d0 := h1.c0
  have d1 := h1.c1
  clear hla c2
  go_wp2_with fail
  go_loopg [6, 7] (k + 1) (fun q s6 s7 wx => ∃ (d : Nat) (Z : Int), d ≤ k + 1 ∧ d = q ∧ s6 = .int .u64 (vs (fun j => z (at' + (d + j))) (k + 1 - d) % 18446744073709551616 : Nat) ∧ s7 = .int .i64 Z ∧ Z = (at' : Int) + d - 1 ∧ wx = w1)
  case atStart => exact ⟨k + 1, (E : Int), Nat.le_refl _, rfl, by rw [Nat.sub_self]; rfl, rfl, by omega, rfl⟩
  case round =>
    obtain ⟨d, Z, hd, rfl, rfl, rfl, hZ, hwx⟩ := hrel
    subst hwx
    rcases Nat.eq_zero_or_pos d with hd0 | hdp
    · subst hd0
      have hge : ¬ ((at' : Int) ≤ Z) := by omega
      have e0 : vs (fun j => z (at' + (0 + j))) (k + 1 - 0) = vs (fun j => z (at' + j)) (k + 1) := vs_congr (k + 1) (fun j _ => by show z (at' + (0 + j)) = z (at' + j); rw [Nat.zero_add])
      rw [e0]
      clear hR e0
      have hlt64 : vs (fun j => z (at' + j)) (k + 1) % 18446744073709551616 < 18446744073709551616 := Nat.mod_lt _ (by decide)
      obtain ⟨G, hG⟩ : ∃ G, E + 1 = G := ⟨_, rfl⟩
      have hna : ¬ n = at' := by omega
      have hGa : (at' : Int) ≤ (G : Int) := by omega
      have hGn : (G : Int) ≤ (n : Int) := by omega
      have hGs : (E : Int) + 1 = (G : Int) := by omega
      have hwG : IntKind.i64.wrap (G : Int) = (G : Int) := by rw [IntKind.wrap_i64]; omega
      have hwS : IntKind.i64.wrap ((E : Int) + 1) = (G : Int) := by rw [hGs]; exact hwG
      have hG1 : G - at' = k + 1 := by omega
      have hbz : ∀ W, wr.Since wr.heap.size W → Byt W (some ⟨hb, at', none⟩) (k + 1) (fun j => z (at' + j)) := fun W hW => eye_place h1 hW at' (k + 1) (by omega) (fun _ => rfl)
      obtain ⟨BB, hBB, hEq⟩ : ∃ BB : Bool, (BB = true → ¬ ((k = 9 ∧ 1 < z (at' + k)) ∨ (z (at' + k) = 0 ∧ 0 < k)) ∧ vs (fun j => z (at' + j)) (k + 1) % 18446744073709551616 = vs (fun j => z (at' + j)) (k + 1)) ∧ (∀ W aa cc, wr.Since wr.heap.size W → Byt W aa (vl 9 (vs (fun j => z (at' + j)) (k + 1) % 18446744073709551616)).length (fun j => (vl 9 (vs (fun j => z (at' + j)) (k + 1) % 18446744073709551616)).getD j 0) → Calls Tryd.prog 22 #[.slice aa (vl 9 (vs (fun j => z (at' + j)) (k + 1) % 18446744073709551616)).length cc, .slice (some ⟨hb, at', none⟩) (G - at') (n - at')] W fun e w' => e = .returned (.bool BB) ∧ wr.Since wr.heap.size w') ∧ (BB = false → ((k = 9 ∧ 1 < z (at' + k)) ∨ (z (at' + k) = 0 ∧ 0 < k))) := by
        by_cases hcond : (k = 9 ∧ 1 < z (at' + k)) ∨ (z (at' + k) = 0 ∧ 0 < k)
        · refine ⟨false, fun e => (by cases e), fun W aa cc hW hy => ?_, fun _ => hcond⟩
          rw [hG1]
          have hne := vl_ne (fun j => z (at' + j)) k hk10 hcond hkz
          have hlen := vl_len 9 (vs (fun j => z (at' + j)) (k + 1) % 18446744073709551616)
          exact (eq_diff aa _ _ (k + 1) cc (n - at') _ _ W hy (hbz W hW) (by omega) (by omega) (fun hh => hne ⟨hh.1, fun j hj => hh.2 j (by omega)⟩)).mono fun e w' ⟨he, m, hm⟩ => ⟨he, by rw [hm]; exact since_drewN' hW m⟩
        · obtain ⟨g1, g2⟩ := vl_eq (fun j => z (at' + j)) (fun j => hz _) k hk10 hcond hkz (fun j hj => hkj j (Nat.zero_le _) hj)
          refine ⟨true, fun _ => ⟨hcond, g1⟩, fun W aa cc hW hy => ?_, fun e => (by cases e)⟩
          rw [hG1]
          rw [g1, g2] at hy ⊢
          simp only [List.length_map, List.length_range] at hy ⊢
          have hy' : Byt W aa (k + 1) (fun j => z (at' + j)) := fun j hj => by
            obtain ⟨b, off, ea, hc⟩ := hy j hj
            have hg := getD_range_map (fun j => z (at' + j)) (k + 1) j hj
            simp only [hg] at hc
            exact ⟨b, off, ea, hc⟩
          exact (eq_same aa _ (k + 1) cc (n - at') _ W hy' (hbz W hW) (by omega)).mono fun e w' ⟨he, m, hm⟩ => ⟨he, by rw [hm]; exact since_drewN' hW m⟩
      obtain ⟨hEq, hBF⟩ := hEq
      have hVar : ∀ W, wr.Since wr.heap.size W → Calls Tryd.prog 59 #[.int .u64 (vs (fun j => z (at' + j)) (k + 1) % 18446744073709551616 : Nat)] W fun e w' => ∃ v, e = .returned v ∧ wr.Since wr.heap.size w' ∧ ∃ aa cc, v = .slice aa (vl 9 (vs (fun j => z (at' + j)) (k + 1) % 18446744073709551616)).length cc ∧ Byt w' aa (vl 9 (vs (fun j => z (at' + j)) (k + 1) % 18446744073709551616)).length (fun j => (vl 9 (vs (fun j => z (at' + j)) (k + 1) % 18446744073709551616)).getD j 0) := fun W hW =>
        (refvar 9 _ W (Nat.lt_of_lt_of_le hlt64 (by decide)) hlt64 (by decide)).mono fun e w' ⟨v, he, hs, ho⟩ => by
          obtain ⟨a, c, rfl, hy, _⟩ := own_byt ho
          exact ⟨_, he, hW.trans (since_mono hs hW.size), a, c, rfl, hy⟩
      have hBT : BB = true → vs (fun j => z (at' + j)) (k + 1) % 18446744073709551616 = vs (fun j => z (at' + j)) (k + 1) := fun e => (hBB e).2
      have hV2 : (if BB = true then (if most < vs (fun j => z (at' + j)) (k + 1) % 18446744073709551616 then ((0, at', 12) : Nat × Nat × Nat) else (vs (fun j => z (at' + j)) (k + 1) % 18446744073709551616, at' + (k + 1), 0)) else (0, at', 11)) = (A, a2, b2) := by
        rw [← hV]
        cases BB with
        | true => rw [if_pos rfl, if_neg (hBB rfl).1, hBT rfl]
        | false => rw [if_neg (by decide), if_pos (hBF rfl)]
      have hG2 : at' + (k + 1) = G := by omega
      clear hV hBB hBF hBT hkj hkz hbz hG1
      generalize vs (fun j => z (at' + j)) (k + 1) % 18446744073709551616 = N at *
      have hcell : ∀ W, wr.Since wr.heap.size W → W.cell? ⟨eb, 0, none⟩ = some (.slice (some ⟨hb, 0, none⟩) n n) ∧ W.cell? ⟨eb, 1, none⟩ = some (.int .i64 at') := fun W hW => ⟨(h1.since hW).c0, (h1.since hW).c1⟩
      have HE := hide hEq
      have HV := hide hVar
      clear hEq hVar
      have hZ' : Z < (at' : Int) := by omega
      go_upto_region 14 with fail
      go_region_held3 (fun W => wr.Since wr.heap.size W ∧ W.cell? ⟨eb, 0, none⟩ = some (.slice (some ⟨hb, 0, none⟩) n n) ∧ W.cell? ⟨eb, 1, none⟩ = some (.int .i64 at'))
        ((first | exact ⟨by assumption, hcell _ (by assumption)⟩ | exact ⟨(World.Since.refl _ _).drew, hcell _ (World.Since.refl _ _).drew⟩))
        ((first
          | (go_at_call 59; refine ((unhide HV) _ ?_).mono ?_; (go_split_ands; assumption); rintro e w3 ⟨_, rfl, hs3, aa, cc, rfl, hy3⟩)
          | (go_at_call 22; refine ((unhide HE) _ _ _ ?_ hy3).mono ?_; (go_split_ands; assumption); rintro e w4 ⟨rfl, hs4⟩)))
      all_goals
        have h4 := h1.since hs4
        have hsw : w.Since w.heap.size w4 := hs1.trans (since_mono hs4 hs1.size)
        have f1 := h4.rd.frozen 1
        have f2 := h4.rd.frozen 2
        have g1 := h4.c1
        have g2 := h4.c2
        clear HE HV hcell hy3 hs3
        cases BB with
        | false =>
          rw [if_neg (by decide)] at hV2
          cases hV2
          have hI := h4.setBad 11
          have hB : But eb w (w4.setCell ⟨eb, 2, none⟩ (.int .i64 11)) := (But.of_since hsw).setCell 2 _
          go_wp2_with fail
          go_ret
          exact ⟨rfl, hB, hI⟩
        | true =>
          rw [if_pos rfl] at hV2
          by_cases hmo : most < N
          · rw [if_pos hmo] at hV2
            cases hV2
            have hmo' : (most : Int) < (N : Int) := by omega
            have hI := h4.setBad 12
            have hB : But eb w (w4.setCell ⟨eb, 2, none⟩ (.int .i64 12)) := (But.of_since hsw).setCell 2 _
            go_wp2_with fail
            go_ret
            exact ⟨rfl, hB, hI⟩
          · rw [if_neg hmo] at hV2
            have hmo' : ¬ ((most : Int) < (N : Int)) := by omega
            cases hV2
            have hI := h4.setAt (at' + (k + 1)) (by omega)
            have hB : But eb w (w4.setCell ⟨eb, 1, none⟩ (.int .i64 ((at' + (k + 1) : Nat) : Int))) := (But.of_since hsw).setCell 1 _
            have eG : ((at' + (k + 1) : Nat) : Int) = (G : Int) := by omega
            rw [eG] at hI hB
            clear eG
            go_wp2_with fail
            go_ret
            first | exact ⟨rfl, hB, hI⟩ | exact ⟨rfl, hB, isE_eq hI hG2 rfl⟩ | exact ⟨rfl, hB, isE_eq hI hG2.symm rfl⟩
    · obtain ⟨d', rfl⟩ : ∃ d', d = d' + 1 := ⟨d - 1, by omega⟩
      obtain ⟨P, hP, rfl⟩ : ∃ P : Nat, at' + d' = P ∧ Z = (P : Int) := ⟨at' + d', rfl, by omega⟩
      have hge : (at' : Int) ≤ (P : Int) := by omega
      clear hZ
      have hPn : (P : Int) < (n : Int) := by omega
      have cz : wr.cell? ⟨hb, P, none⟩ = some (.int .u8 (z P : Nat)) := h1.row.cell (i := P) (by omega)
      have hc := hz P
      have hho := horner (fun j => z (at' + j)) d' (k + 1 - (d' + 1))
      rw [show k + 1 - (d' + 1) + 1 = k + 1 - d' by omega] at hho
      replace hho : vs (fun j => z (at' + (d' + j))) (k + 1 - d') % 18446744073709551616 = (vs (fun j => z (at' + (d' + 1 + j))) (k + 1 - (d' + 1)) % 18446744073709551616 * 128 + z P % 128) % 18446744073709551616 := by rw [← hP]; exact hho
      have hX : vs (fun j => z (at' + (d' + 1 + j))) (k + 1 - (d' + 1)) % 18446744073709551616 < 18446744073709551616 := Nat.mod_lt _ (by decide)
      generalize hN1 : vs (fun j => z (at' + (d' + j))) (k + 1 - d') % 18446744073709551616 = N1 at *
      generalize vs (fun j => z (at' + (d' + 1 + j))) (k + 1 - (d' + 1)) % 18446744073709551616 = N0 at *
      have hw : IntKind.u64.wrap (IntKind.u64.wrap ((N0 : Int) * 128) + (z P : Int) % 128) = (N1 : Int) := by
        rw [IntKind.wrap_u64, IntKind.wrap_u64]; omega
      clear hR hV hkj hho
      go_wp2_with fail
      go_roundg d'
      case measure => go_light; omega
      case rel => go_light; exact ⟨d', (P : Int) - 1, by omega, rfl, by rw [hN1], rfl, by omega, rfl⟩
end Go.Proofs.YtbmdnlomhnodeabDoor
