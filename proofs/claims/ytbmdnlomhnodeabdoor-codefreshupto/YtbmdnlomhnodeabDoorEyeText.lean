/- The document's Reader: Var whatever its place and fault, Text. -/
import Derived.Test.YtbmdnlomhnodeabDoorEyeVar
namespace Go.Proofs.YtbmdnlomhnodeabDoor
open Go.RowKit
set_option maxRecDepth 100000

set_option maxHeartbeats 1600000 in
set_option maxRecDepth 100000 in
theorem eyeVar (eb hb n at' bad most : Nat) (z : Nat → Nat) (w : World) (h : IsE w eb hb n z at' bad) (hn : n ≤ 140737488351232) :
    Calls Tryd.prog 56 #[.pointer (some ⟨eb, 0, none⟩), .int .u64 most] w fun e w' => e = .returned (.int .u64 ((varAns z n most at' bad).1 : Nat)) ∧ But eb w w' ∧ IsE w' eb hb n z (varAns z n most at' bad).2.1 (varAns z n most at' bad).2.2 := by
  unfold varAns
  by_cases hbad : bad = 0
  · subst hbad
    rw [if_neg (by simp)]
    have hvl : vlook (fun j => z (at' + j)) (n - at') most = _ := vres_last (fun j => z (at' + j)) (n - at') most 10 0 rfl (Nat.zero_le _)
    cases hR : lastAt (fun j => z (at' + j)) (n - at') 10 0 with
    | some k =>
      rw [hR] at hvl
      rw [hvl]
      refine eyeVar_some eb hb n at' most k z w h hR hn _ _ _ ?_
      show _ = ((if (k = 9 ∧ 1 < z (at' + k)) ∨ (z (at' + k) = 0 ∧ 0 < k) then ((0, 0, 11) : Nat × Nat × Nat) else if most < vs (fun j => z (at' + j)) (k + 1) then (0, 0, 12) else (vs (fun j => z (at' + j)) (k + 1), k + 1, 0)).1, at' + (if (k = 9 ∧ 1 < z (at' + k)) ∨ (z (at' + k) = 0 ∧ 0 < k) then ((0, 0, 11) : Nat × Nat × Nat) else if most < vs (fun j => z (at' + j)) (k + 1) then (0, 0, 12) else (vs (fun j => z (at' + j)) (k + 1), k + 1, 0)).2.1, (if (k = 9 ∧ 1 < z (at' + k)) ∨ (z (at' + k) = 0 ∧ 0 < k) then ((0, 0, 11) : Nat × Nat × Nat) else if most < vs (fun j => z (at' + j)) (k + 1) then (0, 0, 12) else (vs (fun j => z (at' + j)) (k + 1), k + 1, 0)).2.2)
      by_cases h1 : (k = 9 ∧ 1 < z (at' + k)) ∨ (z (at' + k) = 0 ∧ 0 < k)
      · rw [if_pos h1, if_pos h1]; rfl
      · rw [if_neg h1, if_neg h1]
        by_cases h2 : most < vs (fun j => z (at' + j)) (k + 1)
        · rw [if_pos h2, if_pos h2]; rfl
        · rw [if_neg h2, if_neg h2]
    | none =>
      rw [hR] at hvl
      rw [hvl]
      show Calls _ _ _ _ fun e w' => e = .returned (.int .u64 ((if n - at' < 10 then ((0, 0, 10) : Nat × Nat × Nat) else (0, 0, 11)).1 : Nat)) ∧ But eb w w' ∧ IsE w' eb hb n z (at' + (if n - at' < 10 then ((0, 0, 10) : Nat × Nat × Nat) else (0, 0, 11)).2.1) (if n - at' < 10 then ((0, 0, 10) : Nat × Nat × Nat) else (0, 0, 11)).2.2
      have hla := eyeLast eb hb n at' 0 z w h none hR
      replace hla : Calls Tryd.prog 69 #[.pointer (some ⟨eb, 0, none⟩)] w fun e w' => e = .returned (.int .i64 (-1)) ∧ w.Since w.heap.size w' := hla
      have c2 := h.c2
      clear hvl hR
      by_cases hm : n - at' < 10
      · rw [if_pos hm]
        have hp : ((n - at' : Nat) : Int) < 10 := by omega
        go_enter Tryd.func56, Tryd.ntmps56
        go_wp2_with fail
        refine hla.mono ?_
        rintro e w1 ⟨rfl, hs1⟩
        have h1 := h.since hs1
        have f2 := h1.rd.frozen 2
        have g2 := h1.c2
        have hI := h1.setBad 11
        have hB : But eb w (w1.setCell ⟨eb, 2, none⟩ (.int .i64 11)) := (But.of_since hs1).setCell 2 _
        have e11 : ((11 : Nat) : Int) = 11 := rfl
        rw [e11] at hI
        have hlf := eyeLeft eb hb n at' 11 z _ hI
        clear hla c2
        generalize ((n - at' : Nat) : Int) = LL at *
        go_wp2_with fail
        generalize w1.setCell ⟨eb, 2, none⟩ (.int .i64 11) = w2 at *
        refine hlf.mono ?_
        rintro e w3 ⟨rfl, m3, rfl⟩
        have h3 := hI.since (since_drewN' (World.Since.refl _ _) m3)
        have f3 := h3.rd.frozen 2
        have g3 := h3.c2
        have hI3 := h3.setBad 10
        have hB3 : But eb w ((w2.drewN m3).setCell ⟨eb, 2, none⟩ (.int .i64 10)) := (hB.trans (But.of_since (since_drewN' (World.Since.refl _ _) m3))).setCell 2 _
        generalize w2.drewN m3 = w3 at *
        clear hlf g2 f2
        go_wp2_with fail
        go_ret
        exact ⟨rfl, hB3, hI3⟩
      · rw [if_neg hm]
        have hp : ¬ (((n - at' : Nat) : Int) < 10) := by omega
        go_enter Tryd.func56, Tryd.ntmps56
        go_wp2_with fail
        refine hla.mono ?_
        rintro e w1 ⟨rfl, hs1⟩
        have h1 := h.since hs1
        have f2 := h1.rd.frozen 2
        have g2 := h1.c2
        have hI := h1.setBad 11
        have hB : But eb w (w1.setCell ⟨eb, 2, none⟩ (.int .i64 11)) := (But.of_since hs1).setCell 2 _
        have e11 : ((11 : Nat) : Int) = 11 := rfl
        rw [e11] at hI
        have hlf := eyeLeft eb hb n at' 11 z _ hI
        clear hla c2
        generalize ((n - at' : Nat) : Int) = LL at *
        go_wp2_with fail
        generalize w1.setCell ⟨eb, 2, none⟩ (.int .i64 11) = w2 at *
        refine hlf.mono ?_
        rintro e w3 ⟨rfl, m3, rfl⟩
        have h3 := hI.since (since_drewN' (World.Since.refl _ _) m3)
        have hB3 : But eb w (w2.drewN m3) := hB.trans (But.of_since (since_drewN' (World.Since.refl _ _) m3))
        generalize w2.drewN m3 = w3 at *
        clear hlf g2 f2
        go_wp2_with fail
        go_ret
        exact ⟨rfl, hB3, h3⟩
  · rw [if_pos hbad]
    have hq : ((bad : Int) != 0) = true := by simp; omega
    have c2 := h.c2
    go_enter Tryd.func56, Tryd.ntmps56
    go_wp2_with fail
    go_ret
    exact ⟨rfl, But.of_since (World.Since.refl _ _), h⟩

theorem bytes_parts (z : Nat → Nat) (n most at' bad : Nat) :
    ((rawAns n (varAns z n most at' bad).1 (varAns z n most at' bad).2.1 (varAns z n most at' bad).2.2).2.2.2 ≠ 0 → (bytesAns z n most at' bad).1 = 0 ∧ (bytesAns z n most at' bad).2.2.1 = at' ∧ (bytesAns z n most at' bad).2.2.2 = (rawAns n (varAns z n most at' bad).1 (varAns z n most at' bad).2.1 (varAns z n most at' bad).2.2).2.2.2) ∧
    ((rawAns n (varAns z n most at' bad).1 (varAns z n most at' bad).2.1 (varAns z n most at' bad).2.2).2.2.2 = 0 → (bytesAns z n most at' bad).1 = (rawAns n (varAns z n most at' bad).1 (varAns z n most at' bad).2.1 (varAns z n most at' bad).2.2).1 ∧ (bytesAns z n most at' bad).2.1 = (varAns z n most at' bad).2.1 ∧ (bytesAns z n most at' bad).2.2.1 = (rawAns n (varAns z n most at' bad).1 (varAns z n most at' bad).2.1 (varAns z n most at' bad).2.2).2.2.1 ∧ (bytesAns z n most at' bad).2.2.2 = 0) ∧ (varAns z n most at' bad).1 ≤ most := by
  unfold varAns bytesAns
  by_cases hb : bad ≠ 0
  · rw [if_pos hb, if_pos hb]
    unfold rawAns
    rw [if_pos hb]
    exact ⟨fun _ => ⟨rfl, rfl, rfl⟩, fun h => absurd h hb, Nat.zero_le _⟩
  · rw [if_neg hb, if_neg hb]
    have hvs := vlook_size (fun j => z (at' + j)) (n - at') most
    have hvb := vlook_bad (fun j => z (at' + j)) (n - at') most
    unfold blook
    generalize vlook (fun j => z (at' + j)) (n - at') most = V at *
    obtain ⟨N, s, bv⟩ := V
    unfold rawAns
    by_cases hbv : bv = 0
    · subst hbv
      obtain ⟨g1, _, _, g4⟩ := hvs rfl
      replace g1 : s ≤ n - at' := g1
      replace g4 : N ≤ most := g4
      simp only [ne_eq, not_true_eq_false, if_false]
      rw [if_neg (show ¬ ((N : Int) < 0) by omega), Int.toNat_natCast]
      unfold rlook
      by_cases hN : n - at' - s < N
      · have hN' : n - (at' + s) < N := by omega
        simp only [hN, hN', if_true]
        refine ⟨?_, ?_, g4⟩ <;> simp
      · have hN' : ¬ n - (at' + s) < N := by omega
        simp only [hN, hN', if_false]
        refine ⟨?_, ?_, g4⟩ <;> simp [Nat.add_assoc]
    · obtain ⟨e1, e2⟩ := hvb hbv
      replace e1 : N = 0 := e1
      replace e2 : s = 0 := e2
      subst e1
      subst e2
      simp only [ne_eq, hbv, not_false_eq_true, if_true]
      refine ⟨?_, ?_, Nat.zero_le _⟩ <;> simp

set_option maxHeartbeats 1600000 in
theorem eyeText (eb hb n at' bad : Nat) (most : Int) (z : Nat → Nat) (w : World) (h : IsE w eb hb n z at' bad) (hm : most ≤ 9223372036854775807) (hn : n ≤ 140737488351232) :
    Calls Tryd.prog 39 #[.pointer (some ⟨eb, 0, none⟩), .int .i64 most] w fun e w' => (∃ ta, e = .returned (.slice ta (bytesAns z n most.toNat at' bad).1 (bytesAns z n most.toNat at' bad).1) ∧ Txt w.heap.size w' ta (bytesAns z n most.toNat at' bad).1 (fun j => z ((bytesAns z n most.toNat at' bad).2.1 + j))) ∧ But eb w w' ∧ IsE w' eb hb n z (bytesAns z n most.toNat at' bad).2.2.1 (bytesAns z n most.toNat at' bad).2.2.2 := by
  obtain ⟨M, hM, hMb⟩ : ∃ M : Nat, M = most.toNat ∧ M < 9223372036854775808 := ⟨_, rfl, by omega⟩
  rw [← hM]
  have hle := h.le
  have c1 := h.c1
  have key : ∀ (X : Int), X = (M : Int) → Calls Tryd.prog 56 #[.pointer (some ⟨eb, 0, none⟩), .int .u64 X] w fun e w' => e = .returned (.int .u64 ((varAns z n M at' bad).1 : Nat)) ∧ But eb w w' ∧ IsE w' eb hb n z (varAns z n M at' bad).2.1 (varAns z n M at' bad).2.2 := fun X hX => by rw [hX]; exact eyeVar eb hb n at' bad M z w h hn
  obtain ⟨p1, p2, p3⟩ := bytes_parts z n M at' bad
  generalize bytesAns z n M at' bad = BB at *
  obtain ⟨bl, bf, ba, bb⟩ := BB
  generalize varAns z n M at' bad = V at *
  obtain ⟨A, a2, b2⟩ := V
  replace p3 : A ≤ M := p3
  have raw : ∀ w1, IsE w1 eb hb n z a2 b2 → Calls Tryd.prog 40 #[.pointer (some ⟨eb, 0, none⟩), .int .i64 (A : Nat)] w1 fun e w' => (∃ ta, e = .returned (.slice ta (rawAns n A a2 b2).1 (rawAns n A a2 b2).1) ∧ Txt w1.heap.size w' ta (rawAns n A a2 b2).1 (fun j => z (a2 + j))) ∧ But eb w1 w' ∧ IsE w' eb hb n z (rawAns n A a2 b2).2.2.1 (rawAns n A a2 b2).2.2.2 := fun w1 h1 => by
    have := eyeRaw eb hb n a2 b2 A z w1 h1 (by omega)
    rw [raw_from] at this
    exact this
  generalize rawAns n A a2 b2 = R at *
  obtain ⟨l, fr, a3, b3⟩ := R
  have HK := hide key
  have HR := hide raw
  clear key raw
  have hA64 : (A : Int) < 9223372036854775808 := by omega
  obtain ⟨X0, hX0, hcase⟩ : ∃ X0 : Int, X0 = (M : Int) ∧ ((most < 0 ∧ X0 = 0) ∨ (¬ most < 0 ∧ X0 = most)) := by
    by_cases hneg : most < 0
    · exact ⟨0, by omega, Or.inl ⟨hneg, rfl⟩⟩
    · exact ⟨most, by omega, Or.inr ⟨hneg, rfl⟩⟩
  clear hM
  rcases hcase with ⟨hneg, rfl⟩ | ⟨hneg, rfl⟩
  all_goals
    go_enter Tryd.func39, Tryd.ntmps39
    have HX := hide hX0
    clear hX0
    go_wp2_with fail
    refine ((unhide HK) _ (unhide HX)).mono ?_
    rintro e w1 ⟨rfl, hB1, hI1⟩
    have hr1 := (unhide HR) w1 hI1
    clear HK HR
    go_wp2_with fail
    refine hr1.mono ?_
    rintro e w2 ⟨⟨ta, rfl, htx⟩, hB2, hI2⟩
    have g2 := hI2.c2
    have hB := hB1.trans hB2
    clear hr1
    by_cases hb3 : b3 = 0
    · obtain ⟨q1, q2, q3, q4⟩ := p2 hb3
      replace q1 : bl = l := q1
      replace q2 : bf = a2 := q2
      replace q3 : ba = a3 := q3
      replace q4 : bb = 0 := q4
      subst q1
      subst q2
      subst q3
      subst q4
      subst hb3
      clear p1 p2
      go_wp2_with fail
      go_ret
      exact ⟨⟨ta, rfl, htx.mono' hB1.size⟩, hB, hI2⟩
    · obtain ⟨q1, q3, q4⟩ := p1 hb3
      replace q1 : bl = 0 := q1
      replace q3 : ba = at' := q3
      replace q4 : bb = b3 := q4
      subst q1
      subst q3
      subst q4
      have hq : ((bb : Int) != 0) = true := by simp; omega
      have f1 := hI2.rd.frozen 1
      have g1 := hI2.c1
      have hI3 := hI2.setAt ba hle
      have hB3 := hB.setCell 1 (.int .i64 (ba : Int))
      clear p1 p2
      go_wp2_with fail
      go_ret
      exact ⟨⟨none, rfl, txt_none _ _ _ _ rfl⟩, hB3, hI3⟩
end Go.Proofs.YtbmdnlomhnodeabDoor
