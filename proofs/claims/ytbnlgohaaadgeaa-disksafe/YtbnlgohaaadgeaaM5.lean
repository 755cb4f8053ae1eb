/- Own texts, joined: E22, E23, E24, E25, E26, E27, F1, F2. -/
import Derived.Test.YtbnlgohaaadgeaaM4
import Derived.ChangeMaps

/- Package disk: SyncNames, Remove. -/
namespace Go.Proofs.Ytbnlgohaaadgeaa
open Go.RowKit Go.Maps Go.Sort
set_option maxRecDepth 100000
set_option maxRecDepth 100000

def syncN (dm : DM) : DM × Nat := if dm.off then (dm, 45) else if strokeE dm = 0 then (safeN (strokeM dm), 0) else (strokeM dm, 45)
set_option maxHeartbeats 1600000 in
theorem syncNames_any {w : World} {B db sb nb N : Nat} {dm : DM} {mv : Value} {fs : List Nat} {fv : Nat → FV} (h : DiskIs w B db sb nb N dm mv fs fv) (hN : N + dm.ms.length ≤ 1099511627776) (hok : ∀ (i : Nat) (m : Mov), dm.ms[i]? = some m → m.ok) (hs : dm.st < 1152921504606846976) (ha : dm.ah ≤ dm.st) :
    Calls Try.prog 35 #[.pointer (some ⟨db, 0, none⟩)] w fun e w' => e = .returned (.int .i64 ((syncN dm).2 : Nat)) ∧ ∃ mv' N', N' + (syncN dm).1.ms.length ≤ N + dm.ms.length ∧ DiskIs w' B db sb nb N' (syncN dm).1 mv' fs fv ∧ Mv (DFt db sb nb dm mv fs fv) (DFt db sb nb (syncN dm).1 mv' fs fv) w w' := by
  have c4 : w.cell? ⟨db, 4, none⟩ = some (.bool dm.off) := h.row.cell (i := 4) (by decide)
  have hst := stroke_disk h hs ha
  unfold syncN
  cases hoff : dm.off with
  | true =>
    rw [hoff] at c4
    have HR : Hid (∃ mv' N', N' + dm.ms.length ≤ N + dm.ms.length ∧ DiskIs w B db sb nb N' dm mv' fs fv ∧ Mv (DFt db sb nb dm mv fs fv) (DFt db sb nb dm mv' fs fv) w w) := ⟨mv, N, Nat.le_refl _, h, Mv.refl _ _⟩
    simp only [if_pos]
    clear h hst hoff hok
    go_enter Try.func35, Try.ntmps35
    go_wp2_with fail
    go_ret
    exact ⟨rfl, HR.out⟩
  | false =>
    rw [hoff] at c4
    rcases strokeE_cases dm with hE | hE
    · rw [hE] at hst
      simp only [hE, if_pos, Bool.false_eq_true, if_false]
      have HST : Hid (Calls Try.prog 51 #[.pointer (some ⟨db, 4, none⟩)] w fun e w' => e = .returned (.int .i64 0) ∧ DiskIs w' B db sb nb N (strokeM dm) mv fs fv ∧ Mv (DFt db sb nb dm mv fs fv) (DFt db sb nb (strokeM dm) mv fs fv) w w') := hst
      have HMS : Hid (∀ W, DiskIs W B db sb nb N (strokeM dm) mv fs fv → Mv (DFt db sb nb dm mv fs fv) (DFt db sb nb (strokeM dm) mv fs fv) w W → Calls Try.prog 59 #[.pointer (some ⟨db, 1, none⟩)] W fun e w' => e = .returned (.tuple #[]) ∧ ∃ mv' N', N' + (safeN (strokeM dm)).ms.length ≤ N + dm.ms.length ∧ DiskIs w' B db sb nb N' (safeN (strokeM dm)) mv' fs fv ∧ Mv (DFt db sb nb dm mv fs fv) (DFt db sb nb (safeN (strokeM dm)) mv' fs fv) w w') := fun W hW hMW => by
        refine (safeN_disk hW hN hok).mono fun e w' ⟨he, mv', hD', hM'⟩ => ?_
        exact ⟨he, mv', _, Nat.le_refl _, hD', hMW.trans hM'⟩
      clear h hst hoff hok
      generalize safeN (strokeM dm) = D2 at *
      go_enter Try.func35, Try.ntmps35
      go_wp2_with (first
        | (go_at_call 51; refine HST.out.mono ?_; rintro e w2 ⟨rfl, hD2, hM2⟩; have HMS2 : Hid _ := HMS.out w2 hD2 hM2; clear hD2 hM2 HMS)
        | (go_at_call 59; refine Calls.mono HMS2.out ?_; rintro e w3 ⟨rfl, hFM⟩; have HFM : Hid _ := hFM; clear hFM HMS2))
      go_ret
      exact ⟨rfl, HFM.out⟩
    · rw [hE] at hst
      have e45 : ¬ ((45 : Nat) = 0) := by decide
      simp only [hE, if_neg e45, Bool.false_eq_true, if_false]
      have HST : Hid (Calls Try.prog 51 #[.pointer (some ⟨db, 4, none⟩)] w fun e w' => e = .returned (.int .i64 45) ∧ DiskIs w' B db sb nb N (strokeM dm) mv fs fv ∧ Mv (DFt db sb nb dm mv fs fv) (DFt db sb nb (strokeM dm) mv fs fv) w w') := hst
      clear h hst hoff hok e45
      go_enter Try.func35, Try.ntmps35
      go_wp2_with (go_at_call 51; refine HST.out.mono ?_; rintro e w2 ⟨rfl, hD2, hM2⟩; have HDM : Hid (DiskIs w2 B db sb nb N (strokeM dm) mv fs fv ∧ Mv (DFt db sb nb dm mv fs fv) (DFt db sb nb (strokeM dm) mv fs fv) w w2) := And.intro hD2 hM2; clear hD2 hM2)
      go_ret
      exact ⟨rfl, mv, N, Nat.le_refl _, HDM.out.1, HDM.out.2⟩
end Go.Proofs.Ytbnlgohaaadgeaa

/- Package disk: Remove. -/
namespace Go.Proofs.Ytbnlgohaaadgeaa
open Go.RowKit Go.Maps Go.Sort
set_option maxRecDepth 100000
set_option maxRecDepth 100000

theorem findM_ok {off : Bool} {D : DataW Nat} {s : ByteArray} {b e0 : Nat} (h : findM off D s = (some b, e0)) : okN s = true ∧ off = false ∧ D.atKey (.string s.data.toList) .nil = .held b := by
  unfold findM at h
  split at h
  · injection h with q _; cases q
  · rename_i h0
    split at h
    · rename_i h1
      split at h
      · rename_i b' h2
        injection h with q _
        refine ⟨h1, by simpa using h0, ?_⟩
        rw [h2, Option.some.inj q]
      · injection h with q _; cases q
    · injection h with q _; cases q
def removeD (dm : DM) (s : ByteArray) : DM × Nat := match findM dm.off dm.seen s with
  | (some _, _) => (changeM (strokeM dm) ⟨none, s, ⟨#[]⟩⟩, strokeE dm)
  | (none, e) => (dm, e)
set_option maxHeartbeats 1600000 in
theorem remove_any {w : World} {B db sb nb N : Nat} {dm : DM} {mv : Value} {fs : List Nat} {fv : Nat → FV} (h : DiskIs w B db sb nb N dm mv fs fv) (hF : Files dm.seen) (hN : N ≤ 1099511627776) (hk : dm.ms.length ≤ 1099511627776) (hs : dm.st < 1152921504606846976) (ha : dm.ah ≤ dm.st) (s : ByteArray) :
    Calls Try.prog 37 #[.pointer (some ⟨db, 0, none⟩), .string s] w fun e w' => e = .returned (.int .i64 ((removeD dm s).2 : Nat)) ∧ ∃ mv' N', N' ≤ N + 1 ∧ DiskIs w' B db sb nb N' (removeD dm s).1 mv' fs fv ∧ Mv (DFt db sb nb dm mv fs fv) (DFt db sb nb (removeD dm s).1 mv' fs fv) w w' := by
  have c4 : w.cell? ⟨db, 4, none⟩ = some (.bool dm.off) := h.row.cell (i := 4) (by decide)
  have c2 : w.cell? ⟨db, 2, none⟩ = some (.map (some nb)) := h.row.cell (i := 2) (by decide)
  have hfd := find_gen c4 c2 h.seen hF s
  unfold removeD
  obtain ⟨o, e0, hfm⟩ : ∃ o e0, findM dm.off dm.seen s = (o, e0) := ⟨_, _, rfl⟩
  rw [hfm] at hfd ⊢
  clear c4 c2
  cases o with
  | none =>
    have HR : Hid (∃ mv' N', N' ≤ N + 1 ∧ DiskIs w B db sb nb N' dm mv' fs fv ∧ Mv (DFt db sb nb dm mv fs fv) (DFt db sb nb dm mv' fs fv) w w) := ⟨mv, N, Nat.le_add_right _ _, h, Mv.refl _ _⟩
    have hne : (((e0 : Nat) : Int) != 0) = true := by
      have := findM_none hfm
      simp only [bne_iff_ne, ne_eq]; omega
    have HFD : Hid (Calls Try.prog 50 #[.pointer (some ⟨db, 0, none⟩), .string s] w fun e w' => e = .returned (.tuple #[.pointer none, .int .i64 ((e0 : Nat) : Int)]) ∧ w' = w) := hfd
    clear h hfd hfm
    go_enter Try.func37, Try.ntmps37
    go_wp2_with (go_at_call 50; refine HFD.out.mono ?_; rintro e w1 ⟨rfl, rfl⟩)
    go_ret
    exact ⟨rfl, HR.out⟩
  | some b =>
    have he0 := findM_some hfm
    subst he0
    have hsz := okN_size (findM_ok hfm).1
    have HFD : Hid (Calls Try.prog 50 #[.pointer (some ⟨db, 0, none⟩), .string s] w fun e w' => e = .returned (.tuple #[.pointer (some ⟨b, 0, none⟩), .int .i64 0]) ∧ w' = w) := hfd
    have HST : Hid (Calls Try.prog 51 #[.pointer (some ⟨db, 4, none⟩)] w fun e w' => e = .returned (.int .i64 (strokeE dm : Nat)) ∧ DiskIs w' B db sb nb N (strokeM dm) mv fs fv ∧ Mv (DFt db sb nb dm mv fs fv) (DFt db sb nb (strokeM dm) mv fs fv) w w') := stroke_disk h hs ha
    have HMS : Hid (∀ W, DiskIs W B db sb nb N (strokeM dm) mv fs fv → Mv (DFt db sb nb dm mv fs fv) (DFt db sb nb (strokeM dm) mv fs fv) w W → Calls Try.prog 55 #[.pointer (some ⟨db, 1, none⟩), .agg #[.pointer none, .string s, .string ⟨#[]⟩]] W fun e w' => e = .returned (.tuple #[]) ∧ ∃ mv' N', N' ≤ N + 1 ∧ DiskIs w' B db sb nb N' (changeM (strokeM dm) ⟨none, s, ⟨#[]⟩⟩) mv' fs fv ∧ Mv (DFt db sb nb dm mv fs fv) (DFt db sb nb (changeM (strokeM dm) ⟨none, s, ⟨#[]⟩⟩) mv' fs fv) w w') := fun W hW hMW => by
      refine (change_disk hW hN hk ⟨none, s, ⟨#[]⟩⟩ ⟨hsz.2, Nat.zero_le _, fun q => absurd rfl q⟩).mono fun e w' ⟨he, mv', hD', hM'⟩ => ?_
      exact ⟨he, mv', _, Nat.le_refl _, hD', hMW.trans hM'⟩
    show Calls _ _ _ _ fun e w' => e = .returned (.int .i64 (strokeE dm : Nat)) ∧ ∃ mv' N', N' ≤ N + 1 ∧ DiskIs w' B db sb nb N' (changeM (strokeM dm) ⟨none, s, ⟨#[]⟩⟩) mv' fs fv ∧ Mv (DFt db sb nb dm mv fs fv) (DFt db sb nb (changeM (strokeM dm) ⟨none, s, ⟨#[]⟩⟩) mv' fs fv) w w'
    clear h hfd hfm hsz
    generalize changeM (strokeM dm) ⟨none, s, ⟨#[]⟩⟩ = D2 at *
    generalize strokeE dm = SE at *
    go_enter Try.func37, Try.ntmps37
    go_wp2_with (first
      | (go_at_call 50; refine HFD.out.mono ?_; rintro e w1 ⟨rfl, rfl⟩)
      | (go_at_call 51; refine HST.out.mono ?_; rintro e w2 ⟨rfl, hD2, hM2⟩; have HMS2 : Hid _ := HMS.out w2 hD2 hM2; clear hD2 hM2 HMS)
      | (go_at_call 55; refine Calls.mono HMS2.out ?_; rintro e w3 ⟨rfl, hFM⟩; have HFM : Hid _ := hFM; clear hFM HMS2))
    go_ret
    exact ⟨rfl, HFM.out⟩
end Go.Proofs.Ytbnlgohaaadgeaa

/- Package disk: Rename. -/
namespace Go.Proofs.Ytbnlgohaaadgeaa
open Go.RowKit Go.Maps Go.Sort
set_option maxRecDepth 100000
set_option maxRecDepth 100000

def renameD (dm : DM) (s t : ByteArray) : DM × Nat := match findM dm.off dm.seen s with
  | (some b, _) => if okN t then (if s.toList = t.toList then strokeM dm else changeM (strokeM dm) ⟨some b, s, t⟩, strokeE dm) else (dm, 41)
  | (none, e) => (dm, if e ≠ 45 ∧ okN t = false then 41 else e)
set_option maxHeartbeats 1600000 in
theorem rename_any {w : World} {B db sb nb N : Nat} {dm : DM} {mv : Value} {fs : List Nat} {fv : Nat → FV} (h : DiskIs w B db sb nb N dm mv fs fv) (hF : Files dm.seen) (hN : N ≤ 1099511627776) (hk : dm.ms.length ≤ 1099511627776) (hs : dm.st < 1152921504606846976) (ha : dm.ah ≤ dm.st) (s t : ByteArray) :
    Calls Try.prog 36 #[.pointer (some ⟨db, 0, none⟩), .string s, .string t] w fun e w' => e = .returned (.int .i64 ((renameD dm s t).2 : Nat)) ∧ ∃ mv' N', N' ≤ N + 1 ∧ DiskIs w' B db sb nb N' (renameD dm s t).1 mv' fs fv ∧ Mv (DFt db sb nb dm mv fs fv) (DFt db sb nb (renameD dm s t).1 mv' fs fv) w w' := by
  have c4 : w.cell? ⟨db, 4, none⟩ = some (.bool dm.off) := h.row.cell (i := 4) (by decide)
  have c2 : w.cell? ⟨db, 2, none⟩ = some (.map (some nb)) := h.row.cell (i := 2) (by decide)
  have hfd := find_gen c4 c2 h.seen hF s
  have hfn := fun W => fileName_any t W
  unfold renameD
  obtain ⟨o, e0, hfm⟩ : ∃ o e0, findM dm.off dm.seen s = (o, e0) := ⟨_, _, rfl⟩
  rw [hfm] at hfd ⊢
  clear c4 c2
  cases o with
  | none =>
    have HR : Hid (∃ mv' N', N' ≤ N + 1 ∧ DiskIs w B db sb nb N' dm mv' fs fv ∧ Mv (DFt db sb nb dm mv fs fv) (DFt db sb nb dm mv' fs fv) w w) := ⟨mv, N, Nat.le_add_right _ _, h, Mv.refl _ _⟩
    have hne : (((e0 : Nat) : Int) != 0) = true := by
      have := findM_none hfm
      simp only [bne_iff_ne, ne_eq]; omega
    have HFD : Hid (Calls Try.prog 50 #[.pointer (some ⟨db, 0, none⟩), .string s] w fun e w' => e = .returned (.tuple #[.pointer none, .int .i64 ((e0 : Nat) : Int)]) ∧ w' = w) := hfd
    clear h hfd hfm
    by_cases h45 : e0 = 45
    · subst h45
      have e : (if (45 : Nat) ≠ 45 ∧ okN t = false then 41 else 45) = 45 := if_neg (fun q => q.1 rfl)
      simp only [e]
      clear hne e
      go_enter Try.func36, Try.ntmps36
      go_wp2_with (first
        | (go_at_call 50; refine HFD.out.mono ?_; rintro e w1 ⟨rfl, rfl⟩)
        | (go_at_call 60; refine (hfn _).mono ?_; rintro e w4 ⟨rfl, rfl⟩))
      go_ret
      exact ⟨rfl, HR.out⟩
    · have h45n : (((e0 : Nat) : Int) != 45) = true := by simp only [bne_iff_ne, ne_eq]; omega
      cases ht : okN t with
      | false =>
        rw [ht] at hfn
        show Calls _ _ _ _ fun e w' => e = .returned (.int .i64 ((if e0 ≠ 45 ∧ false = false then 41 else e0 : Nat) : Int)) ∧ ∃ mv' N', N' ≤ N + 1 ∧ DiskIs w' B db sb nb N' dm mv' fs fv ∧ Mv (DFt db sb nb dm mv fs fv) (DFt db sb nb dm mv' fs fv) w w'
        rw [if_pos ⟨h45, rfl⟩]
        clear ht
        go_enter Try.func36, Try.ntmps36
        go_wp2_with (first
          | (go_at_call 50; refine HFD.out.mono ?_; rintro e w1 ⟨rfl, rfl⟩)
          | (go_at_call 60; refine (hfn _).mono ?_; rintro e w4 ⟨rfl, rfl⟩))
        all_goals
          go_ret
          exact ⟨rfl, HR.out⟩
      | true =>
        rw [ht] at hfn
        have e : (if e0 ≠ 45 ∧ true = false then 41 else e0) = e0 := if_neg (fun q => by cases q.2)
        simp only [e]
        clear e ht
        go_enter Try.func36, Try.ntmps36
        go_wp2_with (first
          | (go_at_call 50; refine HFD.out.mono ?_; rintro e w1 ⟨rfl, rfl⟩)
          | (go_at_call 60; refine (hfn _).mono ?_; rintro e w4 ⟨rfl, rfl⟩))
        go_ret
        exact ⟨rfl, HR.out⟩
  | some b =>
    have he0 := findM_some hfm
    subst he0
    have hsz := okN_size (findM_ok hfm).1
    have HFD : Hid (Calls Try.prog 50 #[.pointer (some ⟨db, 0, none⟩), .string s] w fun e w' => e = .returned (.tuple #[.pointer (some ⟨b, 0, none⟩), .int .i64 0]) ∧ w' = w) := hfd
    cases ht : okN t with
    | false =>
      rw [ht] at hfn
      have HR : Hid (∃ mv' N', N' ≤ N + 1 ∧ DiskIs w B db sb nb N' dm mv' fs fv ∧ Mv (DFt db sb nb dm mv fs fv) (DFt db sb nb dm mv' fs fv) w w) := ⟨mv, N, Nat.le_add_right _ _, h, Mv.refl _ _⟩
      show Calls _ _ _ _ fun e w' => e = .returned (.int .i64 41) ∧ ∃ mv' N', N' ≤ N + 1 ∧ DiskIs w' B db sb nb N' dm mv' fs fv ∧ Mv (DFt db sb nb dm mv fs fv) (DFt db sb nb dm mv' fs fv) w w'
      clear h hfd hfm ht
      go_enter Try.func36, Try.ntmps36
      go_wp2_with (first
        | (go_at_call 50; refine HFD.out.mono ?_; rintro e w1 ⟨rfl, rfl⟩)
        | (go_at_call 60; refine (hfn _).mono ?_; rintro e w4 ⟨rfl, rfl⟩))
      go_ret
      exact ⟨rfl, HR.out⟩
    | true =>
      rw [ht] at hfn
      have htz := okN_size ht
      have HST : Hid (Calls Try.prog 51 #[.pointer (some ⟨db, 4, none⟩)] w fun e w' => e = .returned (.int .i64 (strokeE dm : Nat)) ∧ DiskIs w' B db sb nb N (strokeM dm) mv fs fv ∧ Mv (DFt db sb nb dm mv fs fv) (DFt db sb nb (strokeM dm) mv fs fv) w w') := stroke_disk h hs ha
      by_cases hst : s.toList = t.toList
      · show Calls _ _ _ _ fun e w' => e = .returned (.int .i64 (strokeE dm : Nat)) ∧ ∃ mv' N', N' ≤ N + 1 ∧ DiskIs w' B db sb nb N' (if s.toList = t.toList then strokeM dm else changeM (strokeM dm) ⟨some b, s, t⟩) mv' fs fv ∧ Mv (DFt db sb nb dm mv fs fv) (DFt db sb nb (if s.toList = t.toList then strokeM dm else changeM (strokeM dm) ⟨some b, s, t⟩) mv' fs fv) w w'
        rw [if_pos hst]
        clear h hfd hfm ht hsz htz
        generalize strokeE dm = SE at *
        generalize strokeM dm = D2 at *
        go_enter Try.func36, Try.ntmps36
        go_wp2_with (first
          | (go_at_call 50; refine HFD.out.mono ?_; rintro e w1 ⟨rfl, rfl⟩)
          | (go_at_call 60; refine (hfn _).mono ?_; rintro e w4 ⟨rfl, rfl⟩)
          | (go_at_call 51; refine HST.out.mono ?_; rintro e w2 ⟨rfl, hD2, hM2⟩; have HDM : Hid (DiskIs w2 B db sb nb N D2 mv fs fv ∧ Mv (DFt db sb nb dm mv fs fv) (DFt db sb nb D2 mv fs fv) w4 w2) := And.intro hD2 hM2; clear hD2 hM2))
        go_ret
        exact ⟨rfl, mv, N, Nat.le_add_right _ _, HDM.out.1, HDM.out.2⟩
      · have HMS : Hid (∀ W, DiskIs W B db sb nb N (strokeM dm) mv fs fv → Mv (DFt db sb nb dm mv fs fv) (DFt db sb nb (strokeM dm) mv fs fv) w W → Calls Try.prog 55 #[.pointer (some ⟨db, 1, none⟩), .agg #[.pointer (some ⟨b, 0, none⟩), .string s, .string t]] W fun e w' => e = .returned (.tuple #[]) ∧ ∃ mv' N', N' ≤ N + 1 ∧ DiskIs w' B db sb nb N' (changeM (strokeM dm) ⟨some b, s, t⟩) mv' fs fv ∧ Mv (DFt db sb nb dm mv fs fv) (DFt db sb nb (changeM (strokeM dm) ⟨some b, s, t⟩) mv' fs fv) w w') := fun W hW hMW => by
          refine (change_disk hW hN hk ⟨some b, s, t⟩ ⟨hsz.2, htz.2, fun _ => ⟨b, rfl⟩⟩).mono fun e w' ⟨he, mv', hD', hM'⟩ => ?_
          exact ⟨he, mv', _, Nat.le_refl _, hD', hMW.trans hM'⟩
        show Calls _ _ _ _ fun e w' => e = .returned (.int .i64 (strokeE dm : Nat)) ∧ ∃ mv' N', N' ≤ N + 1 ∧ DiskIs w' B db sb nb N' (if s.toList = t.toList then strokeM dm else changeM (strokeM dm) ⟨some b, s, t⟩) mv' fs fv ∧ Mv (DFt db sb nb dm mv fs fv) (DFt db sb nb (if s.toList = t.toList then strokeM dm else changeM (strokeM dm) ⟨some b, s, t⟩) mv' fs fv) w w'
        rw [if_neg hst]
        have hsb : (s.toList == t.toList) = false := beq_eq_false_iff_ne.2 hst
        clear h hfd hfm ht hsz htz
        generalize changeM (strokeM dm) ⟨some b, s, t⟩ = D2 at *
        generalize strokeE dm = SE at *
        go_enter Try.func36, Try.ntmps36
        go_wp2_with (first
          | (go_at_call 50; refine HFD.out.mono ?_; rintro e w1 ⟨rfl, rfl⟩)
          | (go_at_call 60; refine (hfn _).mono ?_; rintro e w4 ⟨rfl, rfl⟩)
          | (go_at_call 51; refine HST.out.mono ?_; rintro e w2 ⟨rfl, hD2, hM2⟩; have HMS2 : Hid _ := HMS.out w2 hD2 hM2; clear hD2 hM2 HMS)
          | (go_at_call 55; refine Calls.mono HMS2.out ?_; rintro e w3 ⟨rfl, hFM⟩; have HFM : Hid _ := hFM; clear hFM HMS2))
        go_ret
        exact ⟨rfl, HFM.out⟩
end Go.Proofs.Ytbnlgohaaadgeaa

/- Package disk: Read and Size on any disk. -/
namespace Go.Proofs.Ytbnlgohaaadgeaa
open Go.RowKit Go.Maps Go.Sort
set_option maxRecDepth 100000
set_option maxRecDepth 100000

set_option maxHeartbeats 1600000 in
theorem readD_none {w : World} {B db sb nb N : Nat} {dm : DM} {mv : Value} {fs : List Nat} {fv : Nat → FV} (h : DiskIs w B db sb nb N dm mv fs fv) (hF : Files dm.seen) (s : ByteArray) {e0 : Nat} (hfm : findM dm.off dm.seen s = (none, e0)) :
    Calls Try.prog 28 #[.pointer (some ⟨db, 0, none⟩), .string s] w fun e w' => e = .returned (.tuple #[.slice none 0 0, .int .i64 (e0 : Nat)]) ∧ w' = w := by
  have c4 : w.cell? ⟨db, 4, none⟩ = some (.bool dm.off) := h.row.cell (i := 4) (by decide)
  have c2 : w.cell? ⟨db, 2, none⟩ = some (.map (some nb)) := h.row.cell (i := 2) (by decide)
  have hfd := find_gen c4 c2 h.seen hF s
  rw [hfm] at hfd
  have hne : (((e0 : Nat) : Int) != 0) = true := by
    have := findM_none hfm
    simp only [bne_iff_ne, ne_eq]; omega
  have HFD : Hid (Calls Try.prog 50 #[.pointer (some ⟨db, 0, none⟩), .string s] w fun e w' => e = .returned (.tuple #[.pointer none, .int .i64 ((e0 : Nat) : Int)]) ∧ w' = w) := hfd
  clear h hfd hfm c4 c2
  go_enter Try.func28, Try.ntmps28
  go_wp2_with (go_at_call 50; refine HFD.out.mono ?_; rintro e w1 ⟨rfl, rfl⟩)
  go_ret2
  exact ⟨rfl, rfl⟩
set_option maxHeartbeats 1600000 in
theorem readD_some {w : World} {B db sb nb N : Nat} {dm : DM} {mv : Value} {fs : List Nat} {fv : Nat → FV} (h : DiskIs w B db sb nb N dm mv fs fv) (hF : Files dm.seen) (s : ByteArray) {b e0 : Nat} (hfm : findM dm.off dm.seen s = (some b, e0)) (hb : b ∈ fs) (hfit : (dm.fm b).fit) (hU : unitsM (dm.fm b).chs ≤ 1099511627776) :
    Calls Try.prog 28 #[.pointer (some ⟨db, 0, none⟩), .string s] w fun e w' => ∃ v, e = .returned (.tuple #[v, .int .i64 0]) ∧ OwnL w' w.heap.size v (aftM (dm.fm b).safe (dm.fm b).chs (unitsM (dm.fm b).chs)) ∧ Below w.heap.size w w' := by
  have c4 : w.cell? ⟨db, 4, none⟩ = some (.bool dm.off) := h.row.cell (i := 4) (by decide)
  have c2 : w.cell? ⟨db, 2, none⟩ = some (.map (some nb)) := h.row.cell (i := 2) (by decide)
  have hfd := find_gen c4 c2 h.seen hF s
  rw [hfm] at hfd
  have he0 := findM_some hfm
  subst he0
  have HFD : Hid (Calls Try.prog 50 #[.pointer (some ⟨db, 0, none⟩), .string s] w fun e w' => e = .returned (.tuple #[.pointer (some ⟨b, 0, none⟩), .int .i64 0]) ∧ w' = w) := hfd
  have hf := h.files b hb
  have HU : Hid (Calls Try.prog 42 #[.pointer (some ⟨b, 0, none⟩)] w fun e w' => e = .returned (.int .i64 (unitsM (dm.fm b).chs : Nat)) ∧ Below w.heap.size w w') := units_any hf hU
  have HA : Hid (∀ W, Below w.heap.size w W → Calls Try.prog 41 #[.pointer (some ⟨b, 0, none⟩), .int .i64 (unitsM (dm.fm b).chs : Nat)] W fun e w' => ∃ v, e = .returned v ∧ OwnL w' w.heap.size v (aftM (dm.fm b).safe (dm.fm b).chs (unitsM (dm.fm b).chs)) ∧ Below w.heap.size w w') := fun W hW => by
    obtain ⟨q1, q2, q3, q4⟩ := hfit
    refine (after_any (hf.on hW) q1 q2 q3 _ (by omega)).mono fun e w' ⟨v, he, ho, hb'⟩ => ⟨v, he, ?_, hW.trans (hb'.mono hW.size)⟩
    refine ⟨ho.1, ?_⟩
    rcases ho.2 with q | ⟨g, cap, cur, e1, e2, e3⟩
    · exact .inl q
    · exact .inr ⟨g, cap, cur, e1, Nat.le_trans hW.size e2, e3⟩
  clear h hfd hfm c4 c2 hf hfit hU
  generalize aftM (dm.fm b).safe (dm.fm b).chs (unitsM (dm.fm b).chs) = R at *
  generalize unitsM (dm.fm b).chs = U at *
  go_enter Try.func28, Try.ntmps28
  go_wp2_with (first
    | (go_at_call 50; refine HFD.out.mono ?_; rintro e w1 ⟨rfl, rfl⟩)
    | (go_at_call 42; refine HU.out.mono ?_; rintro e w2 ⟨rfl, hb2⟩; have HA2 : Hid _ := HA.out w2 hb2; clear hb2 HA)
    | (go_at_call 41; refine Calls.mono HA2.out ?_; rintro e w3 ⟨v, rfl, hFM⟩; have HFM : Hid _ := hFM; clear hFM HA2))
  go_ret2
  exact ⟨_, rfl, HFM.out⟩
end Go.Proofs.Ytbnlgohaaadgeaa

/- Package disk: a disk in a later world; a file more. -/
namespace Go.Proofs.Ytbnlgohaaadgeaa
open Go.RowKit Go.Maps Go.Sort
set_option maxRecDepth 100000
set_option maxRecDepth 100000

theorem DiskIs.lt {w : World} {B db sb nb N : Nat} {dm : DM} {mv : Value} {fs : List Nat} {fv : Nat → FV} (h : DiskIs w B db sb nb N dm mv fs fv) : ∀ k, DFt db sb nb dm mv fs fv k → k < w.heap.size := by
  rintro k (e | e | e | e | ⟨b, hb, e⟩)
  · rw [e]; exact h.row.lt
  · rw [e]; exact h.safe.lt
  · rw [e]; exact h.seen.lt
  · exact (rows_lt h.mow k e).2
  · exact ((h.files b hb).ge k e).2
theorem DiskIs.on {w w' : World} {B db sb nb N : Nat} {dm : DM} {mv : Value} {fs : List Nat} {fv : Nat → FV} (h : DiskIs w B db sb nb N dm mv fs fv) (hb : Below w.heap.size w w') : DiskIs w' B db sb nb N dm mv fs fv :=
  ⟨h.row.of_block (hb.block _ h.row.lt), map_on h.safe hb, map_on h.seen hb, rows_keep h.mow (fun k e => hb.block k (rows_lt h.mow k e).2), fun b hf => (h.files b hf).on hb, h.apart, h.sn, ⟨h.lb.1, h.lb.2.1, h.lb.2.2.1, Nat.le_trans h.lb.2.2.2 hb.size⟩⟩
/-- A file more, of blocks that are new. -/
theorem DiskIs.born {w w' : World} {B db sb nb N : Nat} {dm : DM} {mv : Value} {fs : List Nat} {fv : Nat → FV} (h : DiskIs w B db sb nb N dm mv fs fv) (hb : Below w.heap.size w w') {b : Nat} {m : FM} {v : FV} (hF : FileIs w' B b m v.rv v.cv v.av) (hnew : ∀ k, v.ft b m.chs.length k → w.heap.size ≤ k) :
    DiskIs w' B db sb nb N { dm with fm := put1 dm.fm b m } mv (b :: fs) (put1 fv b v) ∧ Mv (DFt db sb nb dm mv fs fv) (DFt db sb nb { dm with fm := put1 dm.fm b m } mv (b :: fs) (put1 fv b v)) w w' := by
  have h1 := h.on hb
  have hbn : w.heap.size ≤ b := hnew b (.inl rfl)
  have hne : ∀ c, c ∈ fs → c ≠ b := fun c hc e => by
    have := ((h.files c hc).ge c (.inl rfl)).2
    omega
  have hlt : ∀ c, c ∈ fs → ∀ k, (fv c).ft c (dm.fm c).chs.length k → k < w.heap.size := fun c hc k hk => ((h.files c hc).ge k hk).2
  refine ⟨⟨h1.row, h1.safe, h1.seen, h1.mow, fun c hc => ?_, fun c d hc hd hcd k hk hk' => ?_, h1.sn, h1.lb⟩, hb.os, hb.tape, hb.output, hb.size, fun k hk _ => hb.block k hk, fun k hk => ?_⟩
  · show FileIs w' B c (put1 dm.fm b m c) (put1 fv b v c).rv (put1 fv b v c).cv (put1 fv b v c).av
    rcases List.mem_cons.1 hc with e | hc
    · rw [e, put1_at, put1_at]; exact hF
    · rw [put1_ne _ _ (hne c hc), put1_ne _ _ (hne c hc)]; exact h1.files c hc
  · have p : (put1 fv b v c).ft c (put1 dm.fm b m c).chs.length k := hk
    have q : (put1 fv b v d).ft d (put1 dm.fm b m d).chs.length k := hk'
    clear hk hk'
    rcases List.mem_cons.1 hc with e | hc
    · rcases List.mem_cons.1 hd with e2 | hd
      · exact hcd (e.trans e2.symm)
      · rw [e, put1_at, put1_at] at p
        rw [put1_ne _ _ (hne d hd), put1_ne _ _ (hne d hd)] at q
        have := hnew k p
        have := hlt d hd k q
        omega
    · rw [put1_ne _ _ (hne c hc), put1_ne _ _ (hne c hc)] at p
      rcases List.mem_cons.1 hd with e2 | hd
      · rw [e2, put1_at, put1_at] at q
        have := hnew k q
        have := hlt c hc k p
        omega
      · rw [put1_ne _ _ (hne d hd), put1_ne _ _ (hne d hd)] at q
        exact h.apart c d hc hd hcd k p q
  · rcases hk with e | e | e | e | ⟨c, hc, e⟩
    · exact .inl (.inl e)
    · exact .inl (.inr (.inl e))
    · exact .inl (.inr (.inr (.inl e)))
    · exact .inl (.inr (.inr (.inr (.inl e))))
    · have e : (put1 fv b v c).ft c (put1 dm.fm b m c).chs.length k := e
      rcases List.mem_cons.1 hc with e2 | hc
      · rw [e2, put1_at, put1_at] at e
        exact .inr (hnew k e)
      · rw [put1_ne _ _ (hne c hc), put1_ne _ _ (hne c hc)] at e
        exact .inl (.inr (.inr (.inr (.inr ⟨c, hc, e⟩))))
end Go.Proofs.Ytbnlgohaaadgeaa

/- Package disk: a new file; what an Append does. -/
namespace Go.Proofs.Ytbnlgohaaadgeaa
open Go.RowKit Go.Maps Go.Sort
set_option maxRecDepth 100000
set_option maxRecDepth 100000

/-- newFile: a file of blocks that are new. -/
theorem newFile_is (a : Option Addr) (cap : Nat) (l : List Nat) (w : World) (B : Nat) (hB : B ≤ w.heap.size) (hmax : l.length ≤ 140737488355328) (hc : BL w a l) :
    Calls Try.prog 47 #[.slice a l.length cap] w fun e w' => ∃ fb, ∃ v : FV, e = .returned (.pointer (some ⟨fb, 0, none⟩)) ∧ Below w.heap.size w w' ∧ FileIs w' B fb ⟨l, [], l.length⟩ v.rv v.cv v.av ∧ (∀ k, v.ft fb 0 k → w.heap.size ≤ k) := by
  have hcp := copied_any a l.length cap (fun j => l.getD j 0) w (by omega) hc
  go_enter Try.func47, Try.ntmps47
  go_wp2_with fail
  refine hcp.mono ?_
  rintro e w1 ⟨rfl, hs, hz, hr⟩
  clear hcp hz
  have hb1 := below_of_since hs
  go_wp2_with fail
  go_ret
  have hown : OwnL w1 B (.slice (some ⟨w.heap.size, 0, none⟩) l.length l.length) l := ownL_row hr hB hmax
  refine ⟨w1.heap.size, ⟨.slice (some ⟨w.heap.size, 0, none⟩) l.length l.length, .slice none 0 0, fun _ => .slice none 0 0⟩, rfl, hb1.alloc hb1.size _, ⟨?_, hown.on (fun k e => Below.heap_alloc _ _ k (hown.lt k e).2), ⟨rfl, .inl ⟨rfl, rfl⟩⟩, fun i c hc => by simp at hc, fun i hi => absurd hi (Nat.not_lt_zero _), fun i j _ hj => absurd hj (Nat.not_lt_zero _), by have := hb1.size; omega⟩, fun k hk => ?_⟩
  · exact World.rowIs_alloc w1 #[.slice (some ⟨w.heap.size, 0, none⟩) l.length l.length, .slice none 0 0, .int .i64 l.length] _ _ (fun i hi => by
      match i, hi with
      | 0, _ => rfl
      | 1, _ => rfl
      | 2, _ => rfl)
  · rcases hk with e | e | e | ⟨i, hi, _⟩
    · rw [e]; exact hb1.size
    · have : w.heap.size = k := by simpa [Value.ownBlock] using e
      omega
    · simp [Value.ownBlock] at e
    · exact absurd hi (Nat.not_lt_zero _)

/-- The bytes that are seen together. -/
def usedM (dm : DM) : Nat := match dm.seen with
  | .map es => allL (fun b => (dm.fm b).sz) es
  | _ => 0
def fullM (dm : DM) (n : Nat) : Bool := fullB dm.st dm.ah dm.pf dm.pt || !decide (n + usedM dm ≤ dm.room)
def orE (e : Nat) : Nat := if e = 0 then 44 else e
def m0 : FM := ⟨[], [], 0⟩
/-- What Append does; fb: the block of a new file. -/
def appD (dm : DM) (s : ByteArray) (l : List Nat) (fb : Nat) : DM × Nat := match findM dm.off dm.seen s with
  | (some b, _) => if fullM (strokeM dm) l.length then (strokeM dm, orE (strokeE dm)) else ({ strokeM dm with fm := put1 dm.fm b (addM (dm.fm b) l) }, strokeE dm)
  | (none, e) => if e = 42 then (if 64 ≤ size dm.seen then (dm, 41) else if fullM (strokeM dm) l.length then (strokeM dm, orE (strokeE dm)) else
      ({ changeM (strokeM dm) ⟨some fb, ⟨#[]⟩, s⟩ with fm := put1 dm.fm fb (addM m0 l) }, strokeE dm)) else (dm, e)

/-- hasRoom of the whole disk. -/
theorem hasRoom_disk {w : World} {B db sb nb N : Nat} {dm : DM} {mv : Value} {fs : List Nat} {fv : Nat → FV} (h : DiskIs w B db sb nb N dm mv fs fv) (hes : ∀ es, dm.seen = .map es → ∀ p ∈ es, ∃ fb, p.2 = .held fb ∧ fb ∈ fs) (hroom : dm.room ≤ 1099511627776) (hall : usedM dm ≤ 1099511627776) (k : Nat) :
    Calls Try.prog 53 #[.pointer (some ⟨db, 0, none⟩), .int .i64 k] w fun e w' => e = .returned (.bool (decide (k + usedM dm ≤ dm.room))) ∧ Below w.heap.size w w' := by
  obtain ⟨es, ees, _, _⟩ := h.seen.entries strK
  have hu : usedM dm = allL (fun b => (dm.fm b).sz) es := by unfold usedM; rw [ees]
  rw [hu] at hall ⊢
  have hs := h.seen
  rw [ees] at hs
  refine hasRoom_any (room := dm.room) h.row (by decide) rfl rfl hs (fun b => (dm.fm b).sz) (fun p hp => ?_) hroom hall k
  obtain ⟨fb, e, hf⟩ := hes es ees p hp
  exact ⟨fb, e, (h.files fb hf).row.cell (i := 2) (by decide)⟩
/-- isFull of the whole disk. -/
theorem isFull_disk {w : World} {B db sb nb N : Nat} {dm : DM} {mv : Value} {fs : List Nat} {fv : Nat → FV} (h : DiskIs w B db sb nb N dm mv fs fv) (hs : dm.st ≤ 1152921504606846976) (ha : dm.ah ≤ dm.st) :
    Calls Try.prog 52 #[.pointer (some ⟨db, 4, none⟩)] w fun e w' => e = .returned (.bool (fullB dm.st dm.ah dm.pf dm.pt)) ∧ ∃ j, w' = w.drewN j :=
  isFull_any (h.row.cell (i := 5) (by decide)) (h.row.cell (i := 6) (by decide)) (h.row.cell (i := 8) (by decide)) (h.row.cell (i := 9) (by decide)) hs ha
end Go.Proofs.Ytbnlgohaaadgeaa

/- Package disk: a disk as plain data, its files called by numbers; what holds of it at all times. -/
namespace Go.Proofs.Ytbnlgohaaadgeaa
open Go.Maps
set_option maxRecDepth 100000
set_option maxRecDepth 100000

/-- A file called otherwise. -/
def renV (ρ : Nat → Nat) : DataW Nat → DataW Nat
  | .held b => .held (ρ b)
  | d => d
def renE (ρ : Nat → Nat) (p : Lit × DataW Nat) : Lit × DataW Nat := (p.1, renV ρ p.2)
/-- The files of a map called otherwise. -/
def renD (ρ : Nat → Nat) : DataW Nat → DataW Nat
  | .map es => .map (es.map (renE ρ))
  | d => d
theorem ren_insert (ρ : Nat → Nat) (x : Lit × DataW Nat) : ∀ es, (DataW.insert x es).map (renE ρ) = DataW.insert (renE ρ x) (es.map (renE ρ))
  | [] => rfl
  | y :: r => by
    show (if x.1.before y.1 then x :: y :: r else y :: DataW.insert x r).map (renE ρ) = if x.1.before y.1 then _ else _
    by_cases h : x.1.before y.1 = true
    · rw [if_pos h, if_pos h]; rfl
    · rw [if_neg h, if_neg h, List.map_cons, ren_insert ρ x r]
theorem ren_filter (ρ : Nat → Nat) (k : Lit) : ∀ es : List (Lit × DataW Nat), (es.filter fun p => !p.1.sameKey k).map (renE ρ) = (es.map (renE ρ)).filter fun p => !p.1.sameKey k
  | [] => rfl
  | y :: r => by
    rw [List.map_cons, List.filter_cons, List.filter_cons]
    show (if (!y.1.sameKey k) = true then _ else _ : List (Lit × DataW Nat)).map (renE ρ) = if (!y.1.sameKey k) = true then _ else _
    by_cases h : (!y.1.sameKey k) = true
    · rw [if_pos h, if_pos h, List.map_cons, ren_filter ρ k r]
    · rw [if_neg h, if_neg h, ren_filter ρ k r]
theorem renD_put (ρ : Nat → Nat) (D : DataW Nat) (k : Lit) (b : Nat) : renD ρ (D.put k (.held b)) = (renD ρ D).put k (.held (ρ b)) := by
  cases D <;> try rfl
  rename_i es
  show DataW.map ((DataW.insert (k, .held b) (es.filter fun p => !p.1.sameKey k)).map (renE ρ)) = .map (DataW.insert (k, .held (ρ b)) ((es.map (renE ρ)).filter fun p => !p.1.sameKey k))
  rw [ren_insert, ren_filter]
  rfl
theorem renD_del (ρ : Nat → Nat) (D : DataW Nat) (k : Lit) : renD ρ (D.del k) = (renD ρ D).del k := by
  cases D <;> try rfl
  rename_i es
  show DataW.map ((es.filter fun p => !p.1.sameKey k).map (renE ρ)) = .map ((es.map (renE ρ)).filter fun p => !p.1.sameKey k)
  rw [ren_filter]
theorem ren_find (ρ : Nat → Nat) (k : Lit) : ∀ es : List (Lit × DataW Nat), (es.map (renE ρ)).find? (fun p => p.1.sameKey k) = (es.find? (fun p => p.1.sameKey k)).map (renE ρ)
  | [] => rfl
  | y :: r => by
    rw [List.map_cons, List.find?_cons, List.find?_cons]
    show (match y.1.sameKey k with | true => some (renE ρ y) | false => _) = Option.map (renE ρ) (match y.1.sameKey k with | true => some y | false => _)
    cases y.1.sameKey k
    · exact ren_find ρ k r
    · rfl
theorem renD_at (ρ : Nat → Nat) (D : DataW Nat) (k : Lit) : (renD ρ D).atKey k .nil = renV ρ (D.atKey k .nil) := by
  cases D <;> try rfl
  rename_i es
  simp only [renD, DataW.atKey]
  rw [ren_find]
  cases es.find? (fun p => p.1.sameKey k) <;> rfl
theorem renD_size (ρ : Nat → Nat) (D : DataW Nat) : size (renD ρ D) = size D := by
  cases D <;> try rfl
  rename_i es
  show (es.map (renE ρ)).length = es.length
  rw [List.length_map]
theorem renD_findM (ρ : Nat → Nat) (off : Bool) (D : DataW Nat) (s : ByteArray) : findM off (renD ρ D) s = ((findM off D s).1.map ρ, (findM off D s).2) := by
  unfold findM
  by_cases h : off = true
  · rw [if_pos h, if_pos h]; rfl
  · rw [if_neg h, if_neg h]
    by_cases h2 : okN s = true
    · rw [if_pos h2, if_pos h2, renD_at]
      cases D.atKey (.string s.data.toList) .nil <;> rfl
    · rw [if_neg h2, if_neg h2]; rfl
def renM (ρ : Nat → Nat) (m : Mov) : Mov := ⟨m.f.map ρ, m.fr, m.tt⟩
theorem renM_on (ρ : Nat → Nat) (m : Mov) (hm : m.tt.size ≠ 0 → ∃ b, m.f = some b) (D : DataW Nat) : (renM ρ m).on (renD ρ D) = renD ρ (m.on D) := by
  unfold Mov.on
  show (if m.tt.size = 0 then _ else _) = renD ρ (if m.tt.size = 0 then _ else _)
  by_cases h : m.tt.size = 0
  · rw [if_pos h, if_pos h, renD_del]; rfl
  · rw [if_neg h, if_neg h, renD_put, renD_del]
    obtain ⟨b, hb⟩ := hm h
    show _ = (_ : DataW Nat).put _ (.held (ρ (m.f.getD 0)))
    rw [hb]
    show DataW.put _ _ (.held ((m.f.map ρ).getD 0)) = _
    rw [hb]
    rfl
theorem renM_moves (ρ : Nat → Nat) : ∀ (ms : List Mov) (D : DataW Nat), (∀ m ∈ ms, m.tt.size ≠ 0 → ∃ b, m.f = some b) → movesOn (renD ρ D) (ms.map (renM ρ)) = renD ρ (movesOn D ms)
  | [], _, _ => rfl
  | m :: ms, D, h => by
    show movesOn ((renM ρ m).on (renD ρ D)) (ms.map (renM ρ)) = renD ρ (movesOn (m.on D) ms)
    rw [renM_on ρ m (h m (by simp)), renM_moves ρ ms _ (fun q hq => h q (by simp [hq]))]
theorem allL_ren (ρ : Nat → Nat) (sz : Nat → Nat) : ∀ es, (∀ p ∈ es, ∃ b, p.2 = DataW.held b) → allL sz (es.map (renE ρ)) = allL (fun b => sz (ρ b)) es
  | [], _ => rfl
  | y :: r, h => by
    have ih := allL_ren ρ sz r (fun p hp => h p (by simp [hp]))
    show szD sz (renE ρ y).2 + allL sz (r.map (renE ρ)) = szD (fun b => sz (ρ b)) y.2 + allL _ r
    rw [ih]
    obtain ⟨b, hb⟩ := h y (by simp)
    show szD sz (renV ρ y.2) + _ = _
    rw [hb]
    rfl
theorem allL_congr {f g : Nat → Nat} : ∀ es, (∀ p ∈ es, ∀ b, p.2 = DataW.held b → f b = g b) → allL f es = allL g es
  | [], _ => rfl
  | y :: r, h => by
    have ih := allL_congr (f := f) (g := g) r (fun p hp => h p (by simp [hp]))
    show szD f y.2 + allL f r = szD g y.2 + allL g r
    rw [ih]
    congr 1
    have := h y (by simp)
    cases hy : y.2 <;> try rfl
    rw [hy] at this
    exact this _ rfl

/-- What a map of names is: its names may be names, and rise; its files have numbers below n. -/
def Ents (n : Nat) (D : DataW Nat) : Prop := ∃ es, D = .map es ∧ es.Pairwise (fun p q => p.1.before q.1 = true) ∧ ∀ p ∈ es, ∃ s : ByteArray, okN s = true ∧ p.1 = .string s.data.toList ∧ ∃ i, i < n ∧ p.2 = .held i
def MovOK (n : Nat) (m : Mov) : Prop := m.fr.size ≤ 64 ∧ (m.tt.size = 0 ∨ (okN m.tt = true ∧ ∃ i, i < n ∧ m.f = some i)) ∧ ∀ i, m.f = some i → i < n
theorem MovOK.ok {n : Nat} {m : Mov} (h : MovOK n m) : m.ok := by
  refine ⟨h.1, ?_, fun h0 => ?_⟩
  · rcases h.2.1 with e | ⟨e, _⟩
    · omega
    · exact (okN_size e).2
  · rcases h.2.1 with e | ⟨_, i, _, e⟩
    · exact absurd e h0
    · exact ⟨i, e⟩
theorem MovOK.mono {n n' : Nat} {m : Mov} (h : MovOK n m) (hn : n ≤ n') : MovOK n' m := by
  refine ⟨h.1, ?_, fun i e => Nat.lt_of_lt_of_le (h.2.2 i e) hn⟩
  rcases h.2.1 with e | ⟨e, i, hi, he⟩
  · exact .inl e
  · exact .inr ⟨e, i, by omega, he⟩
theorem Ents.empty (n : Nat) : Ents n (.map []) := ⟨[], rfl, .nil, fun p hp => by simp at hp⟩
theorem Ents.mono {n n' : Nat} {D : DataW Nat} (h : Ents n D) (hn : n ≤ n') : Ents n' D := by
  obtain ⟨es, e, hp, hq⟩ := h
  refine ⟨es, e, hp, fun p hm => ?_⟩
  obtain ⟨s, h1, h2, i, hi, h3⟩ := hq p hm
  exact ⟨s, h1, h2, i, by omega, h3⟩
theorem Ents.tidy {n : Nat} {D : DataW Nat} (h : Ents n D) : Tidy D := by
  obtain ⟨es, e, hp, _⟩ := h
  refine ⟨es, e, hp.imp (fun {a b} hab e => ?_)⟩
  rw [e] at hab
  revert hab
  cases b.1 <;> simp [Lit.before, WideAt.bytes_irrefl]
theorem Ents.del {n : Nat} {D : DataW Nat} (h : Ents n D) (k : Lit) : Ents n (D.del k) := by
  obtain ⟨es, rfl, hp, hq⟩ := h
  exact ⟨_, rfl, hp.filter _, fun p hm => hq p (List.mem_filter.1 hm).1⟩
theorem Ents.put {n : Nat} {D : DataW Nat} (h : Ents n D) {s : ByteArray} (hs : okN s = true) {i : Nat} (hi : i < n) : Ents n (D.put (.string s.data.toList) (.held i)) := by
  obtain ⟨es, rfl, hp, hq⟩ := h
  refine ⟨_, rfl, ChangeMaps.insert_sorted ⟨_, rfl⟩ _ (hp.filter _) (fun p hm => ?_) (fun p hm => ?_), fun p hm => ?_⟩
  · obtain ⟨s', _, e, _⟩ := hq p (List.mem_filter.1 hm).1
    exact ⟨_, e⟩
  · have h2 := (List.mem_filter.1 hm).2
    intro e
    have e : p.1 = .string s.data.toList := e
    rw [e] at h2
    simp [Lit.sameKey] at h2
  · rcases ChangeMaps.mem_insert_iff.1 hm with e | hm
    · rw [e]; exact ⟨s, hs, rfl, i, hi, rfl⟩
    · exact hq p (List.mem_filter.1 hm).1
theorem Ents.on {n : Nat} {D : DataW Nat} (h : Ents n D) {m : Mov} (hm : MovOK n m) : Ents n (m.on D) := by
  unfold Mov.on
  rcases hm.2.1 with e | ⟨e, i, hi, he⟩
  · rw [if_pos e]; exact h.del _
  · rw [if_neg (by have := (okN_size e).1; omega), he]
    exact (h.del _).put e hi
theorem Ents.moves {n : Nat} : ∀ {ms : List Mov} {D : DataW Nat}, Ents n D → (∀ m ∈ ms, MovOK n m) → Ents n (movesOn D ms)
  | [], _, h, _ => h
  | m :: ms, D, h, hm => Ents.moves (ms := ms) (D := m.on D) (h.on (hm m (by simp))) (fun q hq => hm q (by simp [hq]))
theorem Ents.ren {n : Nat} {D : DataW Nat} (h : Ents n D) {ρ σ : Nat → Nat} (e : ∀ i, i < n → ρ i = σ i) : renD ρ D = renD σ D := by
  obtain ⟨es, rfl, _, hq⟩ := h
  show DataW.map _ = DataW.map _
  congr 1
  refine List.map_congr_left (fun p hp => ?_)
  obtain ⟨_, _, _, i, hi, h3⟩ := hq p hp
  show (p.1, renV ρ p.2) = (p.1, renV σ p.2)
  rw [h3]
  show (p.1, DataW.held (ρ i)) = (p.1, .held (σ i))
  rw [e i hi]
theorem Ents.files {n : Nat} {D : DataW Nat} (h : Ents n D) (k : Lit) : D.atKey k .nil = .nil ∨ ∃ i, i < n ∧ D.atKey k .nil = .held i := by
  obtain ⟨es, rfl, _, hq⟩ := h
  simp only [DataW.atKey]
  cases hf : es.find? (fun p => p.1.sameKey k) with
  | none => exact .inl rfl
  | some p =>
    obtain ⟨_, _, _, i, hi, h3⟩ := hq p (List.mem_of_find?_eq_some hf)
    exact .inr ⟨i, hi, h3⟩
theorem Ents.found {n : Nat} {D : DataW Nat} (h : Ents n D) {off : Bool} {s : ByteArray} {b e : Nat} (hf : findM off D s = (some b, e)) : b < n := by
  obtain ⟨_, _, h3⟩ := findM_ok hf
  rcases h.files (.string s.data.toList) with q | ⟨i, hi, q⟩
  · rw [q] at h3; cases h3
  · rw [q] at h3
    injection h3 with e
    omega
/-- Two models, one with the files called otherwise. -/
structure Ren (ρ : Nat → Nat) (n : Nat) (p d : DM) : Prop where
  room : d.room = p.room
  off : d.off = p.off
  st : d.st = p.st
  ah : d.ah = p.ah
  po : d.po = p.po
  pf : d.pf = p.pf
  pt : d.pt = p.pt
  safe : d.safe = renD ρ p.safe
  seen : d.seen = renD ρ p.seen
  ms : d.ms = p.ms.map (renM ρ)
  fm : ∀ i, i < n → d.fm (ρ i) = p.fm i
  inj : ∀ i j, i < n → j < n → ρ i = ρ j → i = j
theorem Ren.strE {ρ : Nat → Nat} {n : Nat} {p d : DM} (h : Ren ρ n p d) : strokeE d = strokeE p := by
  unfold Go.Proofs.Ytbnlgohaaadgeaa.strokeE
  rw [h.st, h.ah, h.po]
theorem Ren.stroke {ρ : Nat → Nat} {n : Nat} {p d : DM} (h : Ren ρ n p d) : Ren ρ n (strokeM p) (strokeM d) := by
  refine ⟨h.room, ?_, ?_, h.ah, h.po, h.pf, h.pt, h.safe, h.seen, h.ms, h.fm, h.inj⟩
  · show (if hitB d.st d.ah d.po then true else d.off) = if hitB p.st p.ah p.po then true else p.off
    rw [h.st, h.ah, h.po, h.off]
  · show d.st + 1 = p.st + 1
    rw [h.st]
theorem Ren.setF {ρ : Nat → Nat} {n : Nat} {p d : DM} (h : Ren ρ n p d) {i : Nat} (hi : i < n) (m : FM) : Ren ρ n { p with fm := put1 p.fm i m } { d with fm := put1 d.fm (ρ i) m } := by
  refine ⟨h.room, h.off, h.st, h.ah, h.po, h.pf, h.pt, h.safe, h.seen, h.ms, fun j hj => ?_, h.inj⟩
  show put1 d.fm (ρ i) m (ρ j) = put1 p.fm i m j
  by_cases e : j = i
  · rw [e, put1_at, put1_at]
  · rw [put1_ne _ _ e, put1_ne _ _ (fun q => e (h.inj j i hj hi q)), h.fm j hj]
theorem Ren.change {ρ : Nat → Nat} {n : Nat} {p d : DM} (h : Ren ρ n p d) {m : Mov} (hm : m.ok) : Ren ρ n (changeM p m) (changeM d (renM ρ m)) := by
  refine ⟨h.room, h.off, h.st, h.ah, h.po, h.pf, h.pt, h.safe, ?_, ?_, h.fm, h.inj⟩
  · show (renM ρ m).on d.seen = renD ρ (m.on p.seen)
    rw [h.seen, renM_on ρ m hm.2.2]
  · show d.ms ++ [renM ρ m] = (p.ms ++ [m]).map (renM ρ)
    rw [h.ms, List.map_append]
    rfl
theorem Ren.safeN {ρ : Nat → Nat} {n : Nat} {p d : DM} (h : Ren ρ n p d) (hm : ∀ m ∈ p.ms, m.ok) : Ren ρ n (safeN p) (safeN d) := by
  refine ⟨h.room, h.off, h.st, h.ah, h.po, h.pf, h.pt, ?_, h.seen, rfl, h.fm, h.inj⟩
  show movesOn d.safe d.ms = renD ρ (movesOn p.safe p.ms)
  rw [h.safe, h.ms, renM_moves ρ _ _ (fun m q => (hm m q).2.2)]
theorem Ren.born {ρ : Nat → Nat} {n : Nat} {p d : DM} (h : Ren ρ n p d) (h1 : Ents n p.safe) (h2 : Ents n p.seen) (h3 : ∀ m ∈ p.ms, MovOK n m) {b : Nat} (hb : ∀ i, i < n → ρ i ≠ b) (m : FM) : Ren (put1 ρ n b) (n + 1) { p with fm := put1 p.fm n m } { d with fm := put1 d.fm b m } := by
  have he : ∀ i, i < n → ρ i = put1 ρ n b i := fun i hi => (put1_ne ρ b (by omega)).symm
  refine ⟨h.room, h.off, h.st, h.ah, h.po, h.pf, h.pt, ?_, ?_, ?_, fun j hj => ?_, fun i j hi hj e => ?_⟩
  · show d.safe = renD (put1 ρ n b) p.safe
    rw [h.safe, h1.ren he]
  · show d.seen = renD (put1 ρ n b) p.seen
    rw [h.seen, h2.ren he]
  · show d.ms = p.ms.map (renM (put1 ρ n b))
    rw [h.ms]
    refine List.map_congr_left (fun q hq => ?_)
    have q2 := (h3 q hq).2.2
    show (⟨q.f.map ρ, _, _⟩ : Mov) = ⟨q.f.map (put1 ρ n b), _, _⟩
    cases hf : q.f with
    | none => rfl
    | some i =>
      show (⟨some (ρ i), _, _⟩ : Mov) = ⟨some (put1 ρ n b i), _, _⟩
      rw [he i (q2 i hf)]
  · show put1 d.fm b m (put1 ρ n b j) = put1 p.fm n m j
    by_cases e : j = n
    · rw [e, put1_at, put1_at, put1_at]
    · rw [put1_ne _ _ e, put1_ne _ _ e, put1_ne _ _ (hb j (by omega)), h.fm j (by omega)]
  · by_cases e1 : i = n
    · by_cases e2 : j = n
      · omega
      · rw [e1, put1_at, put1_ne _ _ e2] at e
        exact absurd e.symm (hb j (by omega))
    · by_cases e2 : j = n
      · rw [e2, put1_at, put1_ne _ _ e1] at e
        exact absurd e (hb i (by omega))
      · rw [put1_ne _ _ e1, put1_ne _ _ e2] at e
        exact h.inj i j (by omega) (by omega) e
theorem Ren.used {ρ : Nat → Nat} {n : Nat} {p d : DM} (h : Ren ρ n p d) (h2 : Ents n p.seen) : usedM d = usedM p := by
  obtain ⟨es, e, _, hq⟩ := h2
  unfold usedM
  rw [h.seen, e]
  show allL (fun b => (d.fm b).sz) (es.map (renE ρ)) = allL _ es
  rw [allL_ren ρ _ es (fun p hp => by obtain ⟨_, _, _, i, _, h3⟩ := hq p hp; exact ⟨i, h3⟩)]
  refine allL_congr es (fun q hp b hb => ?_)
  obtain ⟨_, _, _, i, hi, h3⟩ := hq q hp
  rw [h3] at hb
  injection hb with hb
  show (d.fm (ρ b)).sz = _
  rw [h.fm b (by omega)]
theorem Ren.full {ρ : Nat → Nat} {n : Nat} {p d : DM} (h : Ren ρ n p d) (h2 : Ents n p.seen) (k : Nat) : fullM d k = fullM p k := by
  unfold fullM
  rw [h.st, h.ah, h.pf, h.pt, h.used h2, h.room]

/-! Files. -/
theorem runM_append : ∀ (a b : List Chg) (r : List Nat), runM r (a ++ b) = runM (runM r a) b
  | [], _, _ => rfl
  | c :: a, b, r => runM_append a b (c.onto r c.un)
theorem okM_append : ∀ (a b : List Chg) (r : List Nat), okM r (a ++ b) ↔ okM r a ∧ okM (runM r a) b
  | [], _, _ => by simp [okM, runM]
  | c :: a, b, r => by
    show _ ∧ okM _ (a ++ b) ↔ (_ ∧ okM _ a) ∧ okM (runM (c.onto r c.un) a) b
    rw [okM_append a b (c.onto r c.un), and_assoc]
theorem sumB_append : ∀ (a b : List Chg), sumB (a ++ b) = sumB a + sumB b
  | [], _ => by simp [sumB]
  | c :: a, b => by show c.b.length + sumB (a ++ b) = c.b.length + sumB a + sumB b; rw [sumB_append a b]; omega
theorem runM_len : ∀ (cs : List Chg) (r : List Nat), (runM r cs).length ≤ r.length + sumB cs
  | [], r => by simp [runM, sumB]
  | c :: cs, r => by
    have := runM_len cs (c.onto r c.un)
    have := onto_len c r c.un
    show (runM (c.onto r c.un) cs).length ≤ r.length + (c.b.length + sumB cs)
    omega
theorem unitsM_le : ∀ (cs : List Chg), unitsM cs ≤ sumB cs + cs.length
  | [] => by simp [unitsM, sumB]
  | c :: cs => by
    have := unitsM_le cs
    have := un_le c
    show c.un + unitsM cs ≤ c.b.length + sumB cs + (cs.length + 1)
    omega
theorem onto_add (b : List Nat) (t : Nat) (r : List Nat) (hb : b.length ≠ 0) : (Chg.mk b t).onto r (Chg.mk b t).un = r ++ b := by
  unfold Chg.onto Chg.un
  show (if (if b.length = 0 then 1 else b.length) = 0 then r else if b.length = 0 then _ else r ++ b.take (if b.length = 0 then 1 else b.length)) = _
  rw [if_neg hb, if_neg hb, if_neg hb, List.take_length]
theorem onto_cut (t : Nat) (r : List Nat) : (Chg.mk [] t).onto r (Chg.mk [] t).un = r.take t := rfl
/-- addC, told by the list's end. -/
theorem addC_cases (cs : List Chg) (l : List Nat) : addC cs l = cs ++ [⟨l, 0⟩] ∨ ∃ i c, cs = i ++ [c] ∧ c.b.length ≠ 0 ∧ addC cs l = i ++ [⟨c.b ++ l, c.t⟩] := by
  rcases List.eq_nil_or_concat cs with rfl | ⟨i, c, rfl⟩
  · exact .inl rfl
  · unfold addC
    have e : (i ++ [c])[(i ++ [c]).length - 1]? = some c := by simp
    rw [List.concat_eq_append, e]
    by_cases h : c.b.length = 0
    · exact .inl (if_pos h)
    · refine .inr ⟨i, c, rfl, h, (if_neg h).trans ?_⟩
      simp
theorem addC_run (cs : List Chg) (l : List Nat) (hl : l.length ≠ 0) (r : List Nat) : runM r (addC cs l) = runM r cs ++ l := by
  rcases addC_cases cs l with e | ⟨i, c, rfl, hc, e⟩
  · rw [e, runM_append]
    exact onto_add l 0 _ hl
  · rw [e, runM_append, runM_append]
    show (Chg.mk (c.b ++ l) c.t).onto _ (Chg.mk (c.b ++ l) c.t).un = c.onto _ c.un ++ l
    rw [onto_add _ _ _ (by rw [List.length_append]; omega)]
    have : c.onto (runM r i) c.un = runM r i ++ c.b := onto_add c.b c.t _ hc
    rw [this, List.append_assoc]
theorem addC_ok (cs : List Chg) (l : List Nat) (hl : l.length ≠ 0) (r : List Nat) (h : okM r cs) : okM r (addC cs l) := by
  rcases addC_cases cs l with e | ⟨i, c, rfl, hc, e⟩
  · rw [e, okM_append]
    exact ⟨h, fun q => absurd q hl, trivial⟩
  · rw [e, okM_append]
    rw [okM_append] at h
    refine ⟨h.1, fun q => absurd q ?_, trivial⟩
    show ¬ (c.b ++ l).length = 0
    rw [List.length_append]; omega
theorem addC_sum (cs : List Chg) (l : List Nat) : sumB (addC cs l) = sumB cs + l.length ∧ (addC cs l).length ≤ cs.length + 1 := by
  rcases addC_cases cs l with e | ⟨i, c, rfl, hc, e⟩
  · rw [e, sumB_append]
    exact ⟨by simp [sumB], by simp⟩
  · rw [e, sumB_append, sumB_append]
    refine ⟨?_, by simp⟩
    simp only [sumB, List.length_append]
    omega

/-- A file's bounds. -/
def FitT (m : FM) (T : Nat) : Prop := okM m.safe m.chs ∧ m.sz = (runM m.safe m.chs).length ∧ m.safe.length + sumB m.chs + m.chs.length ≤ T
theorem FitT.mono {m : FM} {T T' : Nat} (h : FitT m T) (hT : T ≤ T') : FitT m T' := ⟨h.1, h.2.1, Nat.le_trans h.2.2 hT⟩
theorem FitT.szle {m : FM} {T : Nat} (h : FitT m T) : m.sz ≤ T := by
  have := runM_len m.chs m.safe
  have := h.2.2
  rw [h.2.1]
  omega
theorem FitT.fit {m : FM} {T : Nat} (h : FitT m T) (hT : T ≤ 1099511627776) : m.fit := by
  have := h.szle
  have := h.2.2
  exact ⟨h.1, by omega, by omega, by omega⟩
theorem FitT.cut {m : FM} {T : Nat} (h : FitT m T) {k : Nat} (hk : k ≤ m.sz) : FitT (cutM m k) (T + 1) := by
  unfold cutM
  by_cases e : k = m.sz
  · rw [if_pos e]; exact h.mono (by omega)
  · rw [if_neg e]
    have h3 := h.2.2
    refine ⟨?_, ?_, ?_⟩
    · show okM m.safe (m.chs ++ [(⟨[], k⟩ : Chg)])
      rw [okM_append]
      exact ⟨h.1, fun _ => by rw [← h.2.1]; exact hk, trivial⟩
    · show k = (runM m.safe (m.chs ++ [(⟨[], k⟩ : Chg)])).length
      rw [runM_append]
      show k = ((Chg.mk [] k).onto (runM m.safe m.chs) (Chg.mk [] k).un).length
      rw [onto_cut, List.length_take, ← h.2.1]
      omega
    · show m.safe.length + sumB (m.chs ++ [(⟨[], k⟩ : Chg)]) + (m.chs ++ [(⟨[], k⟩ : Chg)]).length ≤ T + 1
      rw [sumB_append, List.length_append]
      simp only [sumB, List.length_nil, List.length_singleton]
      omega
theorem FitT.add {m : FM} {T : Nat} (h : FitT m T) (l : List Nat) : FitT (addM m l) (T + l.length + 1) := by
  unfold addM
  by_cases e : l.length = 0
  · rw [if_pos e]; exact h.mono (by omega)
  · rw [if_neg e]
    have h3 := h.2.2
    obtain ⟨q1, q2⟩ := addC_sum m.chs l
    refine ⟨addC_ok _ _ e _ h.1, ?_, ?_⟩
    · show m.sz + l.length = (runM m.safe (addC m.chs l)).length
      rw [addC_run _ _ e, List.length_append, ← h.2.1]
    · show m.safe.length + sumB (addC m.chs l) + (addC m.chs l).length ≤ _
      omega
theorem FitT.sync {m : FM} {T : Nat} (h : FitT m T) : FitT (safeM m) T := by
  have := runM_len m.chs m.safe
  have := h.2.2
  refine ⟨trivial, h.2.1, ?_⟩
  show (runM m.safe m.chs).length + 0 + 0 ≤ T
  omega
theorem FitT.zero (T : Nat) : FitT m0 T := And.intro trivial (And.intro rfl (Nat.zero_le _))

/-- What holds of a disk at all times; n files have been made, T bounds all counts. -/
structure Inv (p : DM) (n T : Nat) : Prop where
  safe : Ents n p.safe
  seen : p.seen = movesOn p.safe p.ms
  ms : ∀ m ∈ p.ms, MovOK n m
  few : ∀ k, k ≤ p.ms.length → size (movesOn p.safe (p.ms.take k)) ≤ 64
  fit : ∀ i, i < n → FitT (p.fm i) T
  ah : p.ah ≤ p.st
  st : p.st ≤ T
  room : p.room ≤ 67108864
theorem Inv.ents {p : DM} {n T : Nat} (h : Inv p n T) : Ents n p.seen := by rw [h.seen]; exact h.safe.moves h.ms
theorem Inv.mono {p : DM} {n T T' : Nat} (h : Inv p n T) (hT : T ≤ T') : Inv p n T' := ⟨h.safe, h.seen, h.ms, h.few, fun i hi => (h.fit i hi).mono hT, h.ah, Nat.le_trans h.st hT, h.room⟩
theorem Inv.cnt {p : DM} {n T : Nat} (h : Inv p n T) : size p.seen ≤ 64 := by
  have := h.few p.ms.length (Nat.le_refl _)
  rw [List.take_length, ← h.seen] at this
  exact this
theorem Inv.stroke {p : DM} {n T : Nat} (h : Inv p n T) : Inv (strokeM p) n (T + 1) := by
  have h1 := h.ah
  have h2 := h.st
  exact ⟨h.safe, h.seen, h.ms, h.few, fun i hi => (h.fit i hi).mono (by omega), by show p.ah ≤ p.st + 1; omega, by show p.st + 1 ≤ T + 1; omega, h.room⟩
theorem Inv.setF {p : DM} {n T : Nat} (h : Inv p n T) {i : Nat} {m : FM} (hm : FitT m T) : Inv { p with fm := put1 p.fm i m } n T := by
  refine ⟨h.safe, h.seen, h.ms, h.few, fun j hj => ?_, h.ah, h.st, h.room⟩
  show FitT (put1 p.fm i m j) T
  by_cases e : j = i
  · rw [e, put1_at]; exact hm
  · rw [put1_ne _ _ e]; exact h.fit j hj
theorem movesOn_snoc (D : DataW Nat) (ms : List Mov) (m : Mov) : movesOn D (ms ++ [m]) = m.on (movesOn D ms) := by
  unfold movesOn
  rw [List.foldl_append]
  rfl
theorem Inv.change {p : DM} {n T : Nat} (h : Inv p n T) {m : Mov} (hm : MovOK n m) (hs : size (m.on p.seen) ≤ 64) : Inv (changeM p m) n T := by
  refine ⟨h.safe, ?_, ?_, ?_, h.fit, h.ah, h.st, h.room⟩
  · show m.on p.seen = movesOn p.safe (p.ms ++ [m])
    rw [movesOn_snoc, ← h.seen]
  · intro q hq
    rcases List.mem_append.1 hq with e | e
    · exact h.ms q e
    · rw [List.mem_singleton.1 e]; exact hm
  · intro k hk
    have hk : k ≤ (p.ms ++ [m]).length := hk
    rw [List.length_append] at hk
    show size (movesOn p.safe ((p.ms ++ [m]).take k)) ≤ 64
    by_cases e : k ≤ p.ms.length
    · rw [List.take_append_of_le_length e]; exact h.few k e
    · have : k = (p.ms ++ [m]).length := by rw [List.length_append]; simp at hk ⊢; omega
      rw [this, List.take_length, movesOn_snoc, ← h.seen]
      exact hs
theorem Inv.safeN {p : DM} {n T : Nat} (h : Inv p n T) : Inv (safeN p) n T := by
  refine ⟨h.safe.moves h.ms, h.seen, fun m hm => by simp [Go.Proofs.Ytbnlgohaaadgeaa.safeN] at hm, fun k hk => ?_, h.fit, h.ah, h.st, h.room⟩
  show size (movesOn (movesOn p.safe p.ms) (([] : List Mov).take k)) ≤ 64
  rw [List.take_nil, ← h.seen]
  exact h.cnt
theorem Inv.born {p : DM} {n T : Nat} (h : Inv p n T) {m : FM} (hm : FitT m T) : Inv { p with fm := put1 p.fm n m } (n + 1) T := by
  refine ⟨h.safe.mono (by omega), h.seen, fun q hq => (h.ms q hq).mono (by omega), h.few, fun j hj => ?_, h.ah, h.st, h.room⟩
  show FitT (put1 p.fm n m j) T
  by_cases e : j = n
  · rw [e, put1_at]; exact hm
  · rw [put1_ne _ _ e]; exact h.fit j (by omega)
theorem put1_put1 {α : Type} (f : Nat → α) (b : Nat) (x y : α) : put1 (put1 f b x) b y = put1 f b y := by
  funext c
  by_cases e : c = b
  · rw [e, put1_at, put1_at]
  · rw [put1_ne _ _ e, put1_ne _ _ e, put1_ne _ _ e]
end Go.Proofs.Ytbnlgohaaadgeaa

/- Package disk: one step of it; what is seen and what a crash leaves, as plain data. -/
namespace Go.Proofs.Ytbnlgohaaadgeaa
open Go.Maps
set_option maxRecDepth 100000
set_option maxRecDepth 100000

/-- What is done to a disk: 1 Append, 2 Cut, 3 Sync, 4 SyncNames, 5 Rename, 6 Remove. -/
structure Dp where
  kind : Int
  s : ByteArray
  t : ByteArray
  l : List Nat
  k : Int
/-- Is a new file made? -/
def madeM (p : DM) (s : ByteArray) (l : List Nat) : Bool := decide (findM p.off p.seen s = (none, 42)) && !decide (64 ≤ size p.seen) && !fullM (strokeM p) l.length
def appN (p : DM) (n : Nat) (s : ByteArray) (l : List Nat) : Nat := if madeM p s l then n + 1 else n
def stepM (p : DM) (n : Nat) (o : Dp) : DM × Nat × Nat :=
  if o.kind = 1 then ((appD p o.s o.l n).1, appN p n o.s o.l, (appD p o.s o.l n).2)
  else if o.kind = 2 then ((cutD p o.s o.k).1, n, (cutD p o.s o.k).2)
  else if o.kind = 3 then ((syncM p o.s).1, n, (syncM p o.s).2)
  else if o.kind = 4 then ((syncN p).1, n, (syncN p).2)
  else if o.kind = 5 then ((renameD p o.s o.t).1, n, (renameD p o.s o.t).2)
  else if o.kind = 6 then ((removeD p o.s).1, n, (removeD p o.s).2)
  else (p, n, 0)
theorem at_has {D : DataW Nat} {k : Lit} {b : Nat} (h : D.atKey k .nil = .held b) : has D k = true := by
  cases e : has D k with
  | true => rfl
  | false => rw [atKey_of_not_has e] at h; cases h
theorem lit_ne {s t : ByteArray} (h : s.toList ≠ t.toList) : (Lit.string t.data.toList) ≠ .string s.data.toList := by
  intro e
  injection e with e
  rw [← ByteArray.toList_eq, ← ByteArray.toList_eq] at e
  exact h e.symm
theorem size_on_rem {n : Nat} {D : DataW Nat} (h : Ents n D) (s : ByteArray) : size ((Mov.mk none s ⟨#[]⟩).on D) ≤ size D := by
  have := size_del h.tidy (k := .string s.data.toList)
  show size (D.del (.string s.data.toList)) ≤ size D
  omega
theorem size_on_ren {n : Nat} {D : DataW Nat} (h : Ents n D) {s t : ByteArray} {b : Nat} (hs : D.atKey (.string s.data.toList) .nil = .held b) (ht : okN t = true) : size ((Mov.mk (some b) s t).on D) ≤ size D := by
  have htz := (okN_size ht).1
  have e : (Mov.mk (some b) s t).on D = (D.del (.string s.data.toList)).put (.string t.data.toList) (.held b) := if_neg (by show ¬ t.size = 0; omega)
  rw [e, size_put (h.del _).tidy]
  have q := size_del h.tidy (k := .string s.data.toList)
  rw [at_has hs, if_pos rfl] at q
  split <;> omega
theorem size_on_new {n : Nat} {D : DataW Nat} (h : Ents n D) {s : ByteArray} {b : Nat} (ht : okN s = true) : size ((Mov.mk (some b) ⟨#[]⟩ s).on D) ≤ size D + 1 := by
  have htz := (okN_size ht).1
  have e : (Mov.mk (some b) ⟨#[]⟩ s).on D = (D.del (.string ([] : List UInt8))).put (.string s.data.toList) (.held b) := if_neg (by show ¬ s.size = 0; omega)
  rw [e, size_put (h.del _).tidy]
  have q := size_del h.tidy (k := .string ([] : List UInt8))
  split <;> omega
theorem findM_none_ok {off : Bool} {D : DataW Nat} {s : ByteArray} (h : findM off D s = (none, 42)) : okN s = true ∧ off = false ∧ ∀ b, D.atKey (.string s.data.toList) .nil ≠ .held b := by
  unfold findM at h
  split at h
  · simp at h
  · rename_i h0
    split at h
    · rename_i h1
      refine ⟨h1, by simpa using h0, fun b hb => ?_⟩
      rw [hb] at h
      simp at h
    · simp at h
theorem Inv.app {p : DM} {n T : Nat} (h : Inv p n T) (s : ByteArray) (l : List Nat) : Inv (appD p s l n).1 (appN p n s l) (T + l.length + 2) := by
  have hst := (h.stroke).mono (T' := T + l.length + 2) (by omega)
  have h0 := h.mono (T' := T + l.length + 2) (by omega)
  unfold appN appD madeM
  obtain ⟨q, e, hf⟩ : ∃ q e, findM p.off p.seen s = (q, e) := ⟨_, _, rfl⟩
  rw [hf]
  cases q with
  | some b =>
    have hb := h.ents.found hf
    have e1 : (decide ((some b, e) = ((none : Option Nat), 42))) = false := decide_eq_false (by simp)
    rw [e1]
    show Inv (if fullM (strokeM p) l.length = true then _ else _ : DM × Nat).1 n _
    by_cases hF : fullM (strokeM p) l.length = true
    · rw [if_pos hF]; exact hst
    · rw [if_neg hF]
      exact hst.setF (((h.fit b hb).add l).mono (by show T + l.length + 1 ≤ T + l.length + 2; omega))
  | none =>
    by_cases e42 : e = 42
    · subst e42
      show Inv (if 42 = 42 then _ else _ : DM × Nat).1 _ _
      rw [if_pos rfl]
      by_cases h64 : 64 ≤ size p.seen
      · have e1 : decide (64 ≤ size p.seen) = true := decide_eq_true h64
        rw [if_pos h64, e1]
        simp only [decide_true, Bool.not_true, Bool.and_false, Bool.false_and, if_false, Bool.false_eq_true]
        exact h0
      · have e1 : decide (64 ≤ size p.seen) = false := decide_eq_false h64
        rw [if_neg h64, e1]
        by_cases hF : fullM (strokeM p) l.length = true
        · rw [if_pos hF, hF]
          simp only [Bool.not_true, Bool.and_false, if_false, Bool.false_eq_true]
          exact hst
        · rw [if_neg hF]
          have hF' : fullM (strokeM p) l.length = false := by simpa using hF
          rw [hF']
          simp only [decide_true, Bool.not_false, Bool.and_true, if_true]
          obtain ⟨hok, _, _⟩ := findM_none_ok hf
          have hB := hst.born (m := addM m0 l) (((FitT.zero T).add l).mono (by show T + l.length + 1 ≤ T + l.length + 2; omega))
          exact Inv.change (p := { strokeM p with fm := put1 p.fm n (addM m0 l) }) hB (m := ⟨some n, ⟨#[]⟩, s⟩) ⟨Nat.zero_le _, .inr ⟨hok, n, by omega, rfl⟩, fun i hi => by
            have hi : some n = some i := hi
            have := Option.some.inj hi
            omega⟩ (by
            have := size_on_new h.ents (s := s) (b := n) hok
            show size ((Mov.mk (some n) ⟨#[]⟩ s).on p.seen) ≤ 64
            omega)
    · show Inv (if e = 42 then _ else (p, e) : DM × Nat).1 _ _
      have e1 : (decide (((none : Option Nat), e) = ((none : Option Nat), 42))) = false := decide_eq_false (by simp [e42])
      rw [if_neg e42, e1]
      exact h0
theorem Inv.cut {p : DM} {n T : Nat} (h : Inv p n T) (s : ByteArray) (k : Int) : Inv (cutD p s k).1 n (T + 2) := by
  have hst := (h.stroke).mono (T' := T + 2) (by omega)
  have h0 := h.mono (T' := T + 2) (by omega)
  unfold cutD
  obtain ⟨q, e, hf⟩ : ∃ q e, findM p.off p.seen s = (q, e) := ⟨_, _, rfl⟩
  rw [hf]
  cases q with
  | none => exact h0
  | some b =>
    show Inv (if k < 0 ∨ ((p.fm b).sz : Int) < k then _ else _ : DM × Nat).1 n _
    by_cases hb : k < 0 ∨ ((p.fm b).sz : Int) < k
    · rw [if_pos hb]; exact h0
    · rw [if_neg hb]
      exact hst.setF (((h.fit b (h.ents.found hf)).cut (by omega)).mono (by omega))
theorem Inv.sync {p : DM} {n T : Nat} (h : Inv p n T) (s : ByteArray) : Inv (syncM p s).1 n (T + 2) := by
  have hst := (h.stroke).mono (T' := T + 2) (by omega)
  have h0 := h.mono (T' := T + 2) (by omega)
  unfold syncM
  obtain ⟨q, e, hf⟩ : ∃ q e, findM p.off p.seen s = (q, e) := ⟨_, _, rfl⟩
  rw [hf]
  cases q with
  | none => exact h0
  | some b =>
    show Inv (if strokeE p = 0 then _ else _ : DM × Nat).1 n _
    by_cases hb : strokeE p = 0
    · rw [if_pos hb]
      exact hst.setF (((h.fit b (h.ents.found hf)).sync).mono (by omega))
    · rw [if_neg hb]; exact hst
theorem Inv.names {p : DM} {n T : Nat} (h : Inv p n T) : Inv (syncN p).1 n (T + 2) := by
  have hst := (h.stroke).mono (T' := T + 2) (by omega)
  have h0 := h.mono (T' := T + 2) (by omega)
  unfold syncN
  by_cases ho : p.off = true
  · rw [if_pos ho]; exact h0
  · rw [if_neg ho]
    by_cases hb : strokeE p = 0
    · rw [if_pos hb]; exact hst.safeN
    · rw [if_neg hb]; exact hst
theorem Inv.ren {p : DM} {n T : Nat} (h : Inv p n T) (s t : ByteArray) : Inv (renameD p s t).1 n (T + 2) := by
  have hst := (h.stroke).mono (T' := T + 2) (by omega)
  have h0 := h.mono (T' := T + 2) (by omega)
  unfold renameD
  obtain ⟨q, e, hf⟩ : ∃ q e, findM p.off p.seen s = (q, e) := ⟨_, _, rfl⟩
  rw [hf]
  cases q with
  | none => exact h0
  | some b =>
    show Inv (if okN t = true then _ else _ : DM × Nat).1 n _
    by_cases ht : okN t = true
    · rw [if_pos ht]
      by_cases hst2 : s.toList = t.toList
      · simp only [if_pos hst2]; exact hst
      · simp only [if_neg hst2]
        obtain ⟨hok, _, hat⟩ := findM_ok hf
        have hb := h.ents.found hf
        exact hst.change ⟨(okN_size hok).2, .inr ⟨ht, b, hb, rfl⟩, fun i hi => by
          have hi : some b = some i := hi
          have := Option.some.inj hi
          omega⟩ (by
          have := size_on_ren h.ents hat ht
          have := h.cnt
          show size ((Mov.mk (some b) s t).on p.seen) ≤ 64
          omega)
    · rw [if_neg ht]; exact h0
theorem Inv.rem {p : DM} {n T : Nat} (h : Inv p n T) (s : ByteArray) : Inv (removeD p s).1 n (T + 2) := by
  have hst := (h.stroke).mono (T' := T + 2) (by omega)
  have h0 := h.mono (T' := T + 2) (by omega)
  unfold removeD
  obtain ⟨q, e, hf⟩ : ∃ q e, findM p.off p.seen s = (q, e) := ⟨_, _, rfl⟩
  rw [hf]
  cases q with
  | none => exact h0
  | some b =>
    obtain ⟨hok, _, _⟩ := findM_ok hf
    exact hst.change ⟨(okN_size hok).2, .inl rfl, fun i hi => by cases hi⟩ (by
      have := size_on_rem h.ents s
      have := h.cnt
      show size ((Mov.mk none s ⟨#[]⟩).on p.seen) ≤ 64
      omega)
theorem Inv.step {p : DM} {n T : Nat} (h : Inv p n T) (o : Dp) : Inv (stepM p n o).1 (stepM p n o).2.1 (T + o.l.length + 2) := by
  unfold stepM
  split
  · exact h.app o.s o.l
  · split
    · exact (h.cut o.s o.k).mono (by omega)
    · split
      · exact (h.sync o.s).mono (by omega)
      · split
        · exact h.names.mono (by omega)
        · split
          · exact (h.ren o.s o.t).mono (by omega)
          · split
            · exact (h.rem o.s).mono (by omega)
            · exact h.mono (by omega)

/-! Images. -/
def keyB : Lit → List UInt8
  | .string s => s
  | _ => []
def fileOf (fm : Nat → FM) : DataW Nat → FM
  | .held i => fm i
  | _ => m0
/-- All its bytes. -/
def FM.all (m : FM) : List Nat := runM m.safe m.chs
def pickM (ps : List Int) (i ch : Nat) : Nat := match ps[i]? with
  | none => 0
  | some x => ((x.tmod ((ch : Int) + 1) + ((ch : Int) + 1)).tmod ((ch : Int) + 1)).toNat
theorem pickM_le (ps : List Int) (i ch : Nat) : pickM ps i ch ≤ ch := by
  unfold pickM
  split
  · omega
  · rename_i x _
    have h1 : (0 : Int) < (ch : Int) + 1 := by omega
    have h2 := Int.tmod_lt_of_pos x h1
    have h3 := Int.lt_tmod_of_pos x h1
    have h4 := Int.tmod_lt_of_pos (x.tmod ((ch : Int) + 1) + ((ch : Int) + 1)) h1
    omega
theorem aftM_all : ∀ (cs : List Chg) (r : List Nat) (k : Nat), unitsM cs ≤ k → aftM r cs k = runM r cs
  | [], _, _, _ => rfl
  | c :: cs, r, k, h => by
    have h : c.un + unitsM cs ≤ k := h
    show aftM (c.onto r (min k c.un)) cs (k - min k c.un) = runM (c.onto r c.un) cs
    rw [Nat.min_eq_right (by omega)]
    exact aftM_all cs _ _ (by omega)
theorem aftM_zero : ∀ (cs : List Chg) (r : List Nat), aftM r cs 0 = r
  | [], _ => rfl
  | c :: cs, r => by
    show aftM (c.onto r (min 0 c.un)) cs (0 - min 0 c.un) = r
    rw [Nat.zero_min]
    exact aftM_zero cs r
theorem aftM_len : ∀ (cs : List Chg) (r : List Nat) (k : Nat), (aftM r cs k).length ≤ r.length + sumB cs
  | [], r, k => by simp [aftM, sumB]
  | c :: cs, r, k => by
    have := aftM_len cs (c.onto r (min k c.un)) (k - min k c.un)
    have := onto_len c r (min k c.un)
    show (aftM (c.onto r (min k c.un)) cs (k - min k c.un)).length ≤ r.length + (c.b.length + sumB cs)
    omega
abbrev Image := List (List UInt8 × List Nat)
def entsOf : DataW Nat → List (Lit × DataW Nat)
  | .map es => es
  | _ => []
/-- All that is seen. -/
def seenI (p : DM) : Image := (entsOf p.seen).map (fun q => (keyB q.1, (fileOf p.fm q.2).all))
/-- What seen tells. -/
def lookI (p : DM) : Image := if p.off then [] else seenI p
/-- The names that a crash leaves. -/
def leftM (p : DM) (ps : List Int) : DataW Nat := movesOn p.safe (p.ms.take (pickM ps 0 p.ms.length))
def leftB (m : FM) (ps : List Int) (i : Nat) : List Nat := aftM m.safe m.chs (pickM ps (i + 1) (unitsM m.chs))
def crashI (p : DM) (ps : List Int) : Image := (entsOf (leftM p ps)).mapIdx (fun i q => (keyB q.1, leftB (fileOf p.fm q.2) ps i))
theorem Inv.left {p : DM} {n T : Nat} (h : Inv p n T) (ps : List Int) : Ents n (leftM p ps) ∧ size (leftM p ps) ≤ 64 :=
  ⟨h.safe.moves (fun m hm => h.ms m (List.mem_of_mem_take hm)), h.few _ (pickM_le _ _ _)⟩
end Go.Proofs.Ytbnlgohaaadgeaa
