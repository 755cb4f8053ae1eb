/- The Reader's reads, whatever its place and fault. -/
import Derived.Test.YtbmdnlomhnodeabDoorLooks
namespace Go.Proofs.YtbmdnlomhnodeabDoor
open Go.RowKit
set_option maxRecDepth 100000

/-- Behind a read of a number of fixed size: the number, the place, the fault. -/
def fixAns (z : Nat → Nat) (n width at' bad : Nat) : Nat × Nat × Nat := if bad ≠ 0 then (0, at', bad) else if n - at' < width then (0, at', 10) else (be (fun j => z (at' + j)) width, at' + width, 0)
def varAns (z : Nat → Nat) (n most at' bad : Nat) : Nat × Nat × Nat := if bad ≠ 0 then (0, at', bad) else ((vlook (fun j => z (at' + j)) (n - at') most).1, at' + (vlook (fun j => z (at' + j)) (n - at') most).2.1, (vlook (fun j => z (at' + j)) (n - at') most).2.2)
/-- Behind a read of a text: its length, where it lies, the place, the fault. -/
def bytesAns (z : Nat → Nat) (n most at' bad : Nat) : Nat × Nat × Nat × Nat := if bad ≠ 0 then (0, at', at', bad) else ((blook (fun j => z (at' + j)) (n - at') most).1, at' + (vlook (fun j => z (at' + j)) (n - at') most).2.1, at' + (blook (fun j => z (at' + j)) (n - at') most).2.1, (blook (fun j => z (at' + j)) (n - at') most).2.2)
def rawAns (n : Nat) (k : Int) (at' bad : Nat) : Nat × Nat × Nat × Nat := if bad ≠ 0 then (0, at', at', bad) else if k < 0 then (0, at', at', 14) else ((rlook k.toNat (n - at')).1, at', at' + (rlook k.toNat (n - at')).2.1, (rlook k.toNat (n - at')).2.2)
theorem blook_size (z : Nat → Nat) (m most : Nat) (h : (blook z m most).2.2 = 0) : (blook z m most).2.1 ≤ m := by
  unfold blook at h ⊢
  split at h
  · next h1 => exact absurd h h1
  · next h1 =>
    rw [if_neg h1]
    split at h
    · simp at h
    · next h2 =>
      rw [if_neg h2]
      have := (vlook_size z m most (by omega)).1
      show (vlook z m most).2.1 + (vlook z m most).1 ≤ m
      omega
theorem blook_bad (z : Nat → Nat) (m most : Nat) (h : (blook z m most).2.2 ≠ 0) : (blook z m most).1 = 0 ∧ (blook z m most).2.1 = 0 := by
  unfold blook at h ⊢
  split at h
  · next h1 => rw [if_pos h1]; exact ⟨rfl, rfl⟩
  · next h1 =>
    rw [if_neg h1]
    split at h
    · next h2 => rw [if_pos h2]; exact ⟨rfl, rfl⟩
    · exact absurd rfl h
theorem rlook_size (k m : Nat) (h : (rlook k m).2.2 = 0) : (rlook k m).2.1 ≤ m := by
  unfold rlook at h ⊢
  split at h
  · simp at h
  · next h1 => rw [if_neg h1]; show k ≤ m; omega
theorem rlook_bad (k m : Nat) (h : (rlook k m).2.2 ≠ 0) : (rlook k m).1 = 0 ∧ (rlook k m).2.1 = 0 := by
  unfold rlook at h ⊢
  split at h
  · next h1 => rw [if_pos h1]; exact ⟨rfl, rfl⟩
  · exact absurd rfl h
theorem isR_eq {w : World} {rb hb n a b c d : Nat} {z : Nat → Nat} (h : IsR w rb hb n z a c) (e : a = b) (f : c = d) : IsR w rb hb n z b d := by subst e; subst f; exact h
theorem txt_none (B : Nat) (w : World) (l : Nat) (tx : Nat → Nat) (h : l = 0) : Txt B w none l tx := Or.inl ⟨rfl, h⟩
theorem Txt.mono' {B B' : Nat} {w : World} {ta : Option Addr} {l : Nat} {tx : Nat → Nat} (h : Txt B w ta l tx) (hB : B' ≤ B) : Txt B' w ta l tx := by
  rcases h with h | ⟨t, e, hb, hr⟩
  · exact Or.inl h
  · exact Or.inr ⟨t, e, by omega, hr⟩
theorem be_pos (z : Nat → Nat) (hz : ∀ j, z j < 256) (i : Nat) (hi : i ≤ 4) : be z i < 4294967296 :=
  Nat.lt_of_lt_of_le (be_lt z hz i) (Nat.pow_le_pow_right (n := 256) (by decide) hi)

set_option maxHeartbeats 800000 in
theorem u8_r (rb hb n at' bad : Nat) (z : Nat → Nat) (w : World) (h : IsR w rb hb n z at' bad) (hw : Wid w) :
    Calls Tryd.prog 14 #[.pointer (some ⟨rb, 0, none⟩)] w fun e w' => e = .returned (.int .u8 ((fixAns z n 1 at' bad).1 : Nat)) ∧ But rb w w' ∧ IsR w' rb hb n z (fixAns z n 1 at' bad).2.1 (fixAns z n 1 at' bad).2.2 := by
  by_cases hbad : bad = 0
  · subst hbad
    unfold fixAns
    rw [if_neg (by simp)]
    by_cases hs : n - at' < 1
    · rw [if_pos hs]
      have hn := next_any rb hb n at' z 0 0 _ _ _ _ _ w h (looks_short 0 hb n at' z w (by decide) hw hs) (fun e => by simp at e)
      go_enter Tryd.func14, Tryd.ntmps14
      go_wp2_with fail
      refine hn.mono ?_
      rintro e w1 ⟨hb1, ⟨he, _⟩ | ⟨_, rfl, hI⟩⟩
      · exact absurd he (by decide)
      · have hfl := fld0 w1 0 0 none 0
        go_wp2
        go_ret
        exact ⟨rfl, hb1, hI⟩
    · rw [if_neg hs]
      have hle := h.le
      have hlt : be (fun j => z (at' + j)) 1 < 256 := be_lt _ (fun j => h.byte _) 1
      have hn := next_any rb hb n at' z 0 0 _ _ _ _ _ w h (looks_ok 0 rb hb n at' z w (by decide) hw h (by show 1 ≤ n - at'; omega)) (fun _ => by show at' + 1 ≤ n; omega)
      go_enter Tryd.func14, Tryd.ntmps14
      go_wp2_with fail
      refine hn.mono ?_
      rintro e w1 ⟨hb1, ⟨_, ⟨ta, rfl, _⟩, hI⟩ | ⟨hne, _⟩⟩
      · have hfl := fld0 w1 (be (fun j => z (at' + j)) (widthOf 0) : Nat) (widthOf 0 : Nat) ta 0
        change be (fun j => z (at' + j)) (widthOf 0) < _ at hlt
        go_wp2
        go_ret
        exact ⟨rfl, hb1, hI⟩
      · exact absurd rfl hne
  · unfold fixAns
    rw [if_pos hbad]
    go_enter Tryd.func14, Tryd.ntmps14
    go_wp2_with fail
    refine (next_bad rb hb n at' bad z 0 0 w h hbad).mono ?_
    rintro e w1 ⟨rfl, hs⟩
    have hfl := fld0 w1 0 0 none 0
    go_wp2
    go_ret
    exact ⟨rfl, But.of_since hs, h.since hs⟩

set_option maxHeartbeats 800000 in
theorem u32_r (rb hb n at' bad : Nat) (z : Nat → Nat) (w : World) (h : IsR w rb hb n z at' bad) (hw : Wid w) :
    Calls Tryd.prog 49 #[.pointer (some ⟨rb, 0, none⟩)] w fun e w' => e = .returned (.int .u32 ((fixAns z n 4 at' bad).1 : Nat)) ∧ But rb w w' ∧ IsR w' rb hb n z (fixAns z n 4 at' bad).2.1 (fixAns z n 4 at' bad).2.2 := by
  by_cases hbad : bad = 0
  · subst hbad
    unfold fixAns
    rw [if_neg (by simp)]
    by_cases hs : n - at' < 4
    · rw [if_pos hs]
      have hn := next_any rb hb n at' z 1 0 _ _ _ _ _ w h (looks_short 1 hb n at' z w (by decide) hw hs) (fun e => by simp at e)
      go_enter Tryd.func49, Tryd.ntmps49
      go_wp2_with fail
      refine hn.mono ?_
      rintro e w1 ⟨hb1, ⟨he, _⟩ | ⟨_, rfl, hI⟩⟩
      · exact absurd he (by decide)
      · have hfl := fld0 w1 0 0 none 0
        go_wp2
        go_ret
        exact ⟨rfl, hb1, hI⟩
    · rw [if_neg hs]
      have hle := h.le
      have hlt : be (fun j => z (at' + j)) 4 < 4294967296 := be_pos _ (fun j => h.byte _) 4 (by decide)
      have hn := next_any rb hb n at' z 1 0 _ _ _ _ _ w h (looks_ok 1 rb hb n at' z w (by decide) hw h (by show 4 ≤ n - at'; omega)) (fun _ => by show at' + 4 ≤ n; omega)
      go_enter Tryd.func49, Tryd.ntmps49
      go_wp2_with fail
      refine hn.mono ?_
      rintro e w1 ⟨hb1, ⟨_, ⟨ta, rfl, _⟩, hI⟩ | ⟨hne, _⟩⟩
      · have hfl := fld0 w1 (be (fun j => z (at' + j)) (widthOf 1) : Nat) (widthOf 1 : Nat) ta 0
        change be (fun j => z (at' + j)) (widthOf 1) < _ at hlt
        go_wp2
        go_ret
        exact ⟨rfl, hb1, hI⟩
      · exact absurd rfl hne
  · unfold fixAns
    rw [if_pos hbad]
    go_enter Tryd.func49, Tryd.ntmps49
    go_wp2_with fail
    refine (next_bad rb hb n at' bad z 1 0 w h hbad).mono ?_
    rintro e w1 ⟨rfl, hs⟩
    have hfl := fld0 w1 0 0 none 0
    go_wp2
    go_ret
    exact ⟨rfl, But.of_since hs, h.since hs⟩

set_option maxHeartbeats 800000 in
theorem u64_r (rb hb n at' bad : Nat) (z : Nat → Nat) (w : World) (h : IsR w rb hb n z at' bad) (hw : Wid w) :
    Calls Tryd.prog 50 #[.pointer (some ⟨rb, 0, none⟩)] w fun e w' => e = .returned (.int .u64 ((fixAns z n 8 at' bad).1 : Nat)) ∧ But rb w w' ∧ IsR w' rb hb n z (fixAns z n 8 at' bad).2.1 (fixAns z n 8 at' bad).2.2 := by
  by_cases hbad : bad = 0
  · subst hbad
    unfold fixAns
    rw [if_neg (by simp)]
    by_cases hs : n - at' < 8
    · rw [if_pos hs]
      have hn := next_any rb hb n at' z 2 0 _ _ _ _ _ w h (looks_short 2 hb n at' z w (by decide) hw hs) (fun e => by simp at e)
      go_enter Tryd.func50, Tryd.ntmps50
      go_wp2_with fail
      refine hn.mono ?_
      rintro e w1 ⟨hb1, ⟨he, _⟩ | ⟨_, rfl, hI⟩⟩
      · exact absurd he (by decide)
      · have hfl := fld0 w1 0 0 none 0
        go_wp2
        go_ret
        exact ⟨rfl, hb1, hI⟩
    · rw [if_neg hs]
      have hle := h.le
      have hlt : be (fun j => z (at' + j)) 8 < 18446744073709551616 := be_lt64 _ (fun j => h.byte _) 8 (by decide)
      have hn := next_any rb hb n at' z 2 0 _ _ _ _ _ w h (looks_ok 2 rb hb n at' z w (by decide) hw h (by show 8 ≤ n - at'; omega)) (fun _ => by show at' + 8 ≤ n; omega)
      go_enter Tryd.func50, Tryd.ntmps50
      go_wp2_with fail
      refine hn.mono ?_
      rintro e w1 ⟨hb1, ⟨_, ⟨ta, rfl, _⟩, hI⟩ | ⟨hne, _⟩⟩
      · have hfl := fld0 w1 (be (fun j => z (at' + j)) (widthOf 2) : Nat) (widthOf 2 : Nat) ta 0
        change be (fun j => z (at' + j)) (widthOf 2) < _ at hlt
        go_wp2
        go_ret
        exact ⟨rfl, hb1, hI⟩
      · exact absurd rfl hne
  · unfold fixAns
    rw [if_pos hbad]
    go_enter Tryd.func50, Tryd.ntmps50
    go_wp2_with fail
    refine (next_bad rb hb n at' bad z 2 0 w h hbad).mono ?_
    rintro e w1 ⟨rfl, hs⟩
    have hfl := fld0 w1 0 0 none 0
    go_wp2
    go_ret
    exact ⟨rfl, But.of_since hs, h.since hs⟩

set_option maxHeartbeats 800000 in
theorem var_r (rb hb n at' bad most : Nat) (z : Nat → Nat) (w : World) (h : IsR w rb hb n z at' bad) :
    Calls Tryd.prog 51 #[.pointer (some ⟨rb, 0, none⟩), .int .u64 most] w fun e w' => e = .returned (.int .u64 ((varAns z n most at' bad).1 : Nat)) ∧ But rb w w' ∧ IsR w' rb hb n z (varAns z n most at' bad).2.1 (varAns z n most at' bad).2.2 := by
  by_cases hbad : bad = 0
  · subst hbad
    unfold varAns
    rw [if_neg (by simp)]
    have hle := h.le
    have hn := next_any rb hb n at' z 3 most _ _ _ _ _ w h (looks_var rb hb n at' most z w h) (fun e => by have := (vlook_size _ _ _ e).1; omega)
    have hvb := vlook_bad (fun j => z (at' + j)) (n - at') most
    generalize vlook (fun j => z (at' + j)) (n - at') most = V at *
    obtain ⟨N, s, bd⟩ := V
    go_enter Tryd.func51, Tryd.ntmps51
    go_wp2_with fail
    refine hn.mono ?_
    rintro e w1 ⟨hb1, ⟨hbd, ⟨ta, rfl, _⟩, hI⟩ | ⟨hne, rfl, hI⟩⟩
    · have hfl := fld0 w1 N s ta 0
      clear hvb hn
      go_wp2
      go_ret
      exact ⟨rfl, hb1, isR_eq hI rfl hbd.symm⟩
    · have hfl := fld0 w1 0 0 none 0
      obtain ⟨e1, e2⟩ := hvb hne
      replace e1 : N = 0 := e1
      replace e2 : s = 0 := e2
      subst e1
      subst e2
      clear hvb hn
      go_wp2
      go_ret
      exact ⟨rfl, hb1, hI⟩
  · unfold varAns
    rw [if_pos hbad]
    go_enter Tryd.func51, Tryd.ntmps51
    go_wp2_with fail
    refine (next_bad rb hb n at' bad z 3 most w h hbad).mono ?_
    rintro e w1 ⟨rfl, hs⟩
    have hfl := fld0 w1 0 0 none 0
    go_wp2
    go_ret
    exact ⟨rfl, But.of_since hs, h.since hs⟩

set_option maxHeartbeats 800000 in
theorem bytes_r (rb hb n at' bad : Nat) (most : Int) (z : Nat → Nat) (w : World) (h : IsR w rb hb n z at' bad) (hm : most ≤ 9223372036854775807) :
    Calls Tryd.prog 37 #[.pointer (some ⟨rb, 0, none⟩), .int .i64 most] w fun e w' => (∃ ta, e = .returned (.slice ta (bytesAns z n most.toNat at' bad).1 (bytesAns z n most.toNat at' bad).1) ∧ Txt w.heap.size w' ta (bytesAns z n most.toNat at' bad).1 (fun j => z ((bytesAns z n most.toNat at' bad).2.1 + j))) ∧ But rb w w' ∧ IsR w' rb hb n z (bytesAns z n most.toNat at' bad).2.2.1 (bytesAns z n most.toNat at' bad).2.2.2 := by
  obtain ⟨M, hM, hMb⟩ : ∃ M : Nat, M = most.toNat ∧ M < 18446744073709551616 := ⟨_, rfl, by omega⟩
  rw [← hM]
  have key : Calls Tryd.prog 48 #[.pointer (some ⟨rb, 0, none⟩), .int .i64 4, .int .u64 (M : Nat)] w fun e w' => (∃ ta N S, e = .returned (.agg #[.int .u64 N, .slice ta (bytesAns z n M at' bad).1 (bytesAns z n M at' bad).1, .int .i64 S]) ∧ Txt w.heap.size w' ta (bytesAns z n M at' bad).1 (fun j => z ((bytesAns z n M at' bad).2.1 + j))) ∧ But rb w w' ∧ IsR w' rb hb n z (bytesAns z n M at' bad).2.2.1 (bytesAns z n M at' bad).2.2.2 := by
    by_cases hbad : bad = 0
    · subst hbad
      unfold bytesAns
      rw [if_neg (by simp)]
      have hle := h.le
      have hn := next_any rb hb n at' z 4 M _ _ _ _ _ w h (looks_bytes rb hb n at' M z w h) (fun e => by have := blook_size _ _ _ e; omega)
      have hvb := blook_bad (fun j => z (at' + j)) (n - at') M
      refine hn.mono ?_
      generalize blook (fun j => z (at' + j)) (n - at') M = V at *
      generalize vlook (fun j => z (at' + j)) (n - at') M = V2 at *
      obtain ⟨l, s, bd⟩ := V
      rintro e w1 ⟨hb1, ⟨hbd, ⟨ta, rfl, htx⟩, hI⟩ | ⟨hne, rfl, hI⟩⟩
      · exact ⟨⟨ta, _, _, rfl, by simpa [Nat.add_assoc] using htx⟩, hb1, isR_eq hI rfl hbd.symm⟩
      · obtain ⟨e1, e2⟩ := hvb hne
        replace e1 : l = 0 := e1
        replace e2 : s = 0 := e2
        subst e1
        subst e2
        exact ⟨⟨none, _, _, rfl, txt_none _ _ _ _ rfl⟩, hb1, hI⟩
    · unfold bytesAns
      rw [if_pos hbad]
      exact (next_bad rb hb n at' bad z 4 _ w h hbad).mono fun e w1 ⟨he, hs⟩ => ⟨⟨none, _, _, he, txt_none _ _ _ _ rfl⟩, But.of_since hs, h.since hs⟩
  generalize (bytesAns z n M at' bad) = V at *
  obtain ⟨l, f, a2, b2⟩ := V
  by_cases hneg : most < 0
  · obtain rfl : M = 0 := by omega
    have e0 : ((0 : Nat) : Int) = 0 := rfl
    rw [e0] at key
    have H := hide key
    clear key e0 hM
    go_enter Tryd.func37, Tryd.ntmps37
    go_wp2_with fail
    all_goals
      refine (unhide H).mono ?_
      rintro e w1 ⟨⟨ta, N, S, rfl, htx⟩, hb1, hI⟩
      have hfl := fld1 w1 N S ta l
      clear H
      go_wp2
      go_ret
      exact ⟨⟨ta, rfl, htx⟩, hb1, hI⟩
  · obtain rfl : most = (M : Nat) := by omega
    have H := hide key
    clear key hM
    go_enter Tryd.func37, Tryd.ntmps37
    go_wp2_with fail
    all_goals
      refine (unhide H).mono ?_
      rintro e w1 ⟨⟨ta, N, S, rfl, htx⟩, hb1, hI⟩
      have hfl := fld1 w1 N S ta l
      clear H
      go_wp2
      go_ret
      exact ⟨⟨ta, rfl, htx⟩, hb1, hI⟩

set_option maxHeartbeats 800000 in
theorem raw_r (rb hb n at' bad : Nat) (k : Int) (z : Nat → Nat) (w : World) (h : IsR w rb hb n z at' bad) (hm : k ≤ 9223372036854775807) :
    Calls Tryd.prog 34 #[.pointer (some ⟨rb, 0, none⟩), .int .i64 k] w fun e w' => (∃ ta, e = .returned (.slice ta (rawAns n k at' bad).1 (rawAns n k at' bad).1) ∧ Txt w.heap.size w' ta (rawAns n k at' bad).1 (fun j => z ((rawAns n k at' bad).2.1 + j))) ∧ But rb w w' ∧ IsR w' rb hb n z (rawAns n k at' bad).2.2.1 (rawAns n k at' bad).2.2.2 := by
  by_cases hneg : k < 0
  · by_cases hbad : bad = 0
    · subst hbad
      unfold rawAns
      rw [if_neg (by simp), if_pos hneg]
      have hf := fail_first rb 14 w h.c2 (h.rd.frozen 2)
      have hI := h.setBad 14
      have hB : But rb w (w.setCell ⟨rb, 2, none⟩ (.int .i64 14)) := (But.of_since (World.Since.refl _ _)).setCell 2 _
      go_enter Tryd.func34, Tryd.ntmps34
      go_wp2_with fail
      refine hf.mono ?_
      rintro e w1 ⟨rfl, rfl⟩
      go_wp2
      go_ret
      exact ⟨⟨none, rfl, txt_none _ _ _ _ rfl⟩, hB, hI⟩
    · unfold rawAns
      rw [if_pos hbad]
      have hq : ((bad : Int) == 0) = false := by simp; omega
      have hf := fail_none rb 14 bad w h.c2 hq
      go_enter Tryd.func34, Tryd.ntmps34
      go_wp2_with fail
      refine hf.mono ?_
      rintro e w1 ⟨rfl, rfl⟩
      go_wp2
      go_ret
      exact ⟨⟨none, rfl, txt_none _ _ _ _ rfl⟩, But.of_since (World.Since.refl _ _), h⟩
  · obtain ⟨M, rfl⟩ : ∃ M : Nat, k = (M : Nat) := ⟨k.toNat, by omega⟩
    have key : Calls Tryd.prog 48 #[.pointer (some ⟨rb, 0, none⟩), .int .i64 5, .int .u64 (M : Nat)] w fun e w' => (∃ ta N S, e = .returned (.agg #[.int .u64 N, .slice ta (rawAns n M at' bad).1 (rawAns n M at' bad).1, .int .i64 S]) ∧ Txt w.heap.size w' ta (rawAns n M at' bad).1 (fun j => z ((rawAns n M at' bad).2.1 + j))) ∧ But rb w w' ∧ IsR w' rb hb n z (rawAns n M at' bad).2.2.1 (rawAns n M at' bad).2.2.2 := by
      by_cases hbad : bad = 0
      · subst hbad
        unfold rawAns
        rw [if_neg (by simp), if_neg hneg, Int.toNat_natCast]
        have hle := h.le
        have hn := next_any rb hb n at' z 5 M _ _ _ _ _ w h (looks_raw rb hb n at' M z w h) (fun e => by have := rlook_size _ _ e; omega)
        have hvb := rlook_bad M (n - at')
        refine hn.mono ?_
        generalize rlook M (n - at') = V at *
        obtain ⟨l, s, bd⟩ := V
        rintro e w1 ⟨hb1, ⟨hbd, ⟨ta, rfl, htx⟩, hI⟩ | ⟨hne, rfl, hI⟩⟩
        · exact ⟨⟨ta, _, _, rfl, htx⟩, hb1, isR_eq hI rfl hbd.symm⟩
        · obtain ⟨e1, e2⟩ := hvb hne
          replace e1 : l = 0 := e1
          replace e2 : s = 0 := e2
          subst e1
          subst e2
          exact ⟨⟨none, _, _, rfl, txt_none _ _ _ _ rfl⟩, hb1, hI⟩
      · unfold rawAns
        rw [if_pos hbad]
        exact (next_bad rb hb n at' bad z 5 _ w h hbad).mono fun e w1 ⟨he, hs⟩ => ⟨⟨none, _, _, he, txt_none _ _ _ _ rfl⟩, But.of_since hs, h.since hs⟩
    generalize (rawAns n M at' bad) = V at *
    obtain ⟨l, f, a2, b2⟩ := V
    have H := hide key
    clear key
    go_enter Tryd.func34, Tryd.ntmps34
    go_wp2_with fail
    refine (unhide H).mono ?_
    rintro e w1 ⟨⟨ta, N, S, rfl, htx⟩, hb1, hI⟩
    have hfl := fld1 w1 N S ta l
    clear H
    go_wp2
    go_ret
    exact ⟨⟨ta, rfl, htx⟩, hb1, hI⟩
theorem since_drewN' {B : Nat} {w w' : World} (h : w.Since B w') (n : Nat) : w.Since B (w'.drewN n) := ⟨h.os, h.tape, h.output, h.size, h.block⟩
theorem end_r (rb hb n at' bad : Nat) (z : Nat → Nat) (w : World) (h : IsR w rb hb n z at' bad) :
    Calls Tryd.prog 18 #[.pointer (some ⟨rb, 0, none⟩)] w fun e w' => e = .returned (.int .i64 ((if bad = 0 ∧ at' < n then 13 else bad : Nat) : Int)) ∧ ∃ m, w' = w.drewN m := by
  have c2 := h.c2
  by_cases hbad : bad = 0
  · subst hbad
    have hlf := left_any rb hb n at' 0 z w h
    by_cases hlt : at' < n
    · rw [if_pos ⟨rfl, hlt⟩]
      have hp : (0 : Int) < ((n - at' : Nat) : Int) := by omega
      generalize n - at' = d at *
      go_enter Tryd.func18, Tryd.ntmps18
      go_wp2_with fail
      refine hlf.mono ?_
      rintro e w1 ⟨rfl, m, rfl⟩
      go_wp2
      go_ret
      exact ⟨rfl, m, rfl⟩
    · rw [if_neg (by omega)]
      have hp : ((n - at' : Nat) : Int) = 0 := by omega
      rw [hp] at hlf
      go_enter Tryd.func18, Tryd.ntmps18
      go_wp2_with fail
      refine hlf.mono ?_
      rintro e w1 ⟨rfl, m, rfl⟩
      have c3 := (h.since (since_drewN' (World.Since.refl _ _) m)).c2
      go_wp2
      go_ret
      exact ⟨rfl, m, rfl⟩
  · rw [if_neg (by omega)]
    have hq : ((bad : Int) == 0) = false := by simp; omega
    go_enter Tryd.func18, Tryd.ntmps18
    go_wp2
    go_ret
    exact ⟨rfl, 0, rfl⟩
end Go.Proofs.YtbmdnlomhnodeabDoor
