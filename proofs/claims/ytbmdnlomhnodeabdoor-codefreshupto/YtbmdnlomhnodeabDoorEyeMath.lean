/- What the document's Reader takes for a number, against package code's: the plain mathematics; Eq of bytes that differ. -/
import Derived.Test.YtbmdnlomhnodeabDoorEye2
namespace Go.Proofs.YtbmdnlomhnodeabDoor
open Go.RowKit
set_option maxRecDepth 100000

theorem vres_last (z : Nat → Nat) (m most : Nat) : ∀ f i, i + f = 10 → i ≤ m → vres z m most f i = match lastAt z m f i with
    | none => if m < 10 then (0, 0, 10) else (0, 0, 11)
    | some k => if (k = 9 ∧ 1 < z k) ∨ (z k = 0 ∧ 0 < k) then (0, 0, 11) else if most < vs z (k + 1) then (0, 0, 12) else (vs z (k + 1), k + 1, 0)
  | 0, i, hi, him => by
    show ((0, 0, 11) : Nat × Nat × Nat) = if m < 10 then (0, 0, 10) else (0, 0, 11)
    rw [if_neg (by omega)]
  | f + 1, i, hi, him => by
    unfold vres lastAt
    by_cases h1 : i = m
    · rw [if_pos h1, if_neg (by omega)]
      show _ = if m < 10 then (0, 0, 10) else (0, 0, 11)
      rw [if_pos (by omega)]
    · rw [if_neg h1, if_pos (show i < m by omega)]
      by_cases h3 : 128 ≤ z i
      · rw [if_neg (show ¬ z i < 128 by omega)]
        by_cases h2 : i = 9 ∧ 1 < z i
        · rw [if_pos h2]
          obtain rfl : f = 0 := by omega
          show _ = if m < 10 then (0, 0, 10) else (0, 0, 11)
          rw [if_neg (by omega)]
        · rw [if_neg h2, if_pos h3]
          exact vres_last z m most f (i + 1) (by omega) (by omega)
      · rw [if_pos (show z i < 128 by omega)]
        show _ = if (i = 9 ∧ 1 < z i) ∨ (z i = 0 ∧ 0 < i) then ((0, 0, 11) : Nat × Nat × Nat) else if most < vs z (i + 1) then (0, 0, 12) else (vs z (i + 1), i + 1, 0)
        by_cases h2 : i = 9 ∧ 1 < z i
        · rw [if_pos h2, if_pos (Or.inl h2)]
        · rw [if_neg h2, if_neg h3]
          by_cases h4 : z i = 0 ∧ 0 < i
          · rw [if_pos h4, if_pos (Or.inr h4)]
          · rw [if_neg h4, if_neg (show ¬ ((i = 9 ∧ 1 < z i) ∨ (z i = 0 ∧ 0 < i)) from fun h => h.elim h2 h4)]
theorem last_some (z : Nat → Nat) (m : Nat) : ∀ f i k, lastAt z m f i = some k → i ≤ k ∧ k < i + f ∧ k < m ∧ z k < 128 ∧ ∀ j, i ≤ j → j < k → 128 ≤ z j
  | 0, i, k, h => by simp [lastAt] at h
  | f + 1, i, k, h => by
    unfold lastAt at h
    split at h
    · next h1 =>
      split at h
      · next h2 => cases h; exact ⟨Nat.le_refl _, by omega, h1, h2, fun j _ _ => by omega⟩
      · next h2 =>
        obtain ⟨a, b, c, d, e⟩ := last_some z m f (i + 1) k h
        refine ⟨by omega, by omega, c, d, fun j hj hk => ?_⟩
        rcases Nat.eq_or_lt_of_le hj with ee | ee
        · rw [← ee]; omega
        · exact e j (by omega) hk
    · cases h
theorem vs_congr {x y : Nat → Nat} : ∀ s, (∀ j, j < s → x j = y j) → vs x s = vs y s
  | 0, _ => rfl
  | s + 1, h => by
    show vs x s + x s % 128 * 128 ^ s = vs y s + y s % 128 * 128 ^ s
    rw [vs_congr s (fun j hj => h j (by omega)), h s (by omega)]
theorem vs_one (x : Nat → Nat) : vs x 1 = x 0 % 128 := by simp [vs]
theorem vs_vl : ∀ f N, N < 128 ^ (f + 1) → vs (fun j => (vl f N).getD j 0) (vl f N).length = N
  | 0, N, h => by
    show vs (fun j => [N % 256].getD j 0) 1 = N
    rw [vs_one]
    show N % 256 % 128 = N
    have : N < 128 := by simpa using h
    omega
  | f + 1, N, h => by
    unfold vl
    by_cases h1 : N < 128
    · rw [if_pos h1]
      show vs (fun j => [N].getD j 0) 1 = N
      rw [vs_one]
      show N % 128 = N
      omega
    · rw [if_neg h1]
      have ih := vs_vl f (N / 128) (by rw [Nat.pow_succ] at h; omega)
      show vs (fun j => ((N % 128 + 128) :: vl f (N / 128)).getD j 0) ((vl f (N / 128)).length + 1) = N
      rw [vs_shift]
      show (N % 128 + 128) % 128 + 128 * vs (fun j => (vl f (N / 128)).getD j 0) (vl f (N / 128)).length = N
      rw [ih]
      omega
theorem vl_pos (f N : Nat) : 0 < (vl f N).length := by
  cases f with
  | zero => exact Nat.zero_lt_one
  | succ f => unfold vl; split <;> simp
theorem vl_last : ∀ f N, 0 < N → N < 128 ^ (f + 1) → (vl f N).getD ((vl f N).length - 1) 0 ≠ 0
  | 0, N, hp, h => by
    show [N % 256].getD 0 0 ≠ 0
    show N % 256 ≠ 0
    have : N < 128 := by simpa using h
    omega
  | f + 1, N, hp, h => by
    unfold vl
    by_cases h1 : N < 128
    · rw [if_pos h1]
      show N ≠ 0
      omega
    · rw [if_neg h1]
      have ih := vl_last f (N / 128) (by omega) (by rw [Nat.pow_succ] at h; omega)
      have hl := vl_pos f (N / 128)
      show ((N % 128 + 128) :: vl f (N / 128)).getD ((vl f (N / 128)).length + 1 - 1) 0 ≠ 0
      have hL : (vl f (N / 128)).length + 1 - 1 = ((vl f (N / 128)).length - 1) + 1 := by omega
      rw [hL, List.getD_cons_succ]
      exact ih
/-- Bytes that are no number's shortest form. -/
theorem vl_ne (z : Nat → Nat) (k : Nat) (hk : k < 10) (hb : (k = 9 ∧ 1 < z k) ∨ (z k = 0 ∧ 0 < k)) (hz : z k < 128) : ¬ ((vl 9 (vs z (k + 1) % 18446744073709551616)).length = k + 1 ∧ ∀ j, j < k + 1 → (vl 9 (vs z (k + 1) % 18446744073709551616)).getD j 0 = z j) := by
  rintro ⟨h1, h2⟩
  have hlt : vs z (k + 1) % 18446744073709551616 < 18446744073709551616 := Nat.mod_lt _ (by decide)
  generalize hN : vs z (k + 1) % 18446744073709551616 = N at *
  have hp : N < 128 ^ (9 + 1) := Nat.lt_of_lt_of_le hlt (by decide)
  have e1 := vs_vl 9 N hp
  rw [h1, vs_congr (k + 1) h2] at e1
  rcases hb with ⟨rfl, h9⟩ | ⟨h0, hpos⟩
  · have e : vs z (9 + 1) = vs z 9 + z 9 % 128 * 128 ^ 9 := rfl
    have h3 : 2 * 128 ^ 9 ≤ z 9 % 128 * 128 ^ 9 := Nat.mul_le_mul_right _ (by omega)
    omega
  · by_cases hN0 : N = 0
    · subst hN0
      have : (vl 9 0).length = 1 := by decide
      omega
    · have := vl_last 9 N (by omega) hp
      rw [h1, Nat.add_sub_cancel, h2 k (by omega)] at this
      exact this h0
/-- Bytes that are one. -/
theorem vl_eq (z : Nat → Nat) (hz : ∀ j, z j < 256) (k : Nat) (hk : k < 10) (hb : ¬ ((k = 9 ∧ 1 < z k) ∨ (z k = 0 ∧ 0 < k))) (hl : z k < 128) (hm : ∀ j, j < k → 128 ≤ z j) : vs z (k + 1) % 18446744073709551616 = vs z (k + 1) ∧ vl 9 (vs z (k + 1)) = (List.range (k + 1)).map z := by
  have hlt : vs z (k + 1) < 18446744073709551616 := by
    have e : vs z (k + 1) = vs z k + z k % 128 * 128 ^ k := rfl
    by_cases e9 : k = 9
    · subst e9
      have := vs_lt z 9
      have h3 : z 9 % 128 * 128 ^ 9 ≤ 1 * 128 ^ 9 := Nat.mul_le_mul_right _ (by omega)
      omega
    · have h1 := vs_lt z (k + 1)
      have h2 : 128 ^ (k + 1) ≤ 128 ^ 9 := Nat.pow_le_pow_right (by decide) (by omega)
      omega
  exact ⟨Nat.mod_eq_of_lt hlt, vl_shape (k + 1) 9 z ⟨by omega, hz, fun j hj => hm j (by omega), hl, fun e => by
    have e : z k = 0 := e
    omega⟩ (by omega)⟩

set_option maxHeartbeats 800000 in
/-- Cmp of bytes that differ. -/
theorem cmp_diff (a b : Option Addr) (n m c d : Nat) (x y : Nat → Nat) (w : World) (ha : Byt w a n x) (hb : Byt w b m y) (hn : n ≤ 140737488355328) (_hm : m ≤ 140737488355328) (hne : ¬ (n = m ∧ ∀ j, j < n → x j = y j)) :
    Calls Tryd.prog 52 #[.slice a n c, .slice b m d] w fun e w' => (e = .returned (.int .i64 (-1)) ∨ e = .returned (.int .i64 1)) ∧ ∃ k, w' = w.drewN k := by
  go_enter Tryd.func52, Tryd.ntmps52
  go_wp2_with fail
  go_loopg [5] n (fun q s5 wx => ∃ i k : Nat, i ≤ n ∧ i ≤ m ∧ q = n - i ∧ s5 = .int .i64 i ∧ wx = w.drewN k ∧ ∀ j, j < i → x j = y j)
  case atStart => exact ⟨0, 0, Nat.zero_le _, Nat.zero_le _, rfl, rfl, rfl, fun j hj => absurd hj (Nat.not_lt_zero _)⟩
  case round =>
    obtain ⟨i, k, hi, him, rfl, rfl, rfl, hq⟩ := hrel
    by_cases hlt : i < n ∧ i < m
    · obtain ⟨b1, o1, rfl, hc1⟩ := ha i hlt.1
      obtain ⟨b2, o2, rfl, hc2⟩ := hb i hlt.2
      have hc1' : (w.drewN k).cell? ⟨b1, o1 + i, none⟩ = some (.int .u8 (x i : Nat)) := hc1
      have hc2' : (w.drewN k).cell? ⟨b2, o2 + i, none⟩ = some (.int .u8 (y i : Nat)) := hc2
      have hz : (i : Int) < (n : Int) := by omega
      have hz2 : (i : Int) < (m : Int) := by omega
      have HD : Hid (∀ n, (w.drewN k).drewN n = w.drewN (k + n)) := fun n => World.drewN_drewN _ _ _
      generalize w.drewN k = wd at *
      clear hc1 hc2 ha hb
      by_cases h1 : x i < y i
      · have h1' : (x i : Int) < (y i : Int) := by omega
        clear hne hq
        go_wp2_with fail
        go_quiet (fail)
        go_wp2_with fail
        go_ret
        exact ⟨Or.inl rfl, _, (unhide HD) _⟩
      · have h1' : ¬ ((x i : Int) < (y i : Int)) := by omega
        by_cases h2 : y i < x i
        · have h2' : (y i : Int) < (x i : Int) := by omega
          clear hne hq
          go_wp2_with fail
          go_quiet (fail)
          go_wp2_with fail
          go_quiet (fail)
          go_wp2_with fail
          go_ret
          exact ⟨Or.inr rfl, _, by rw [World.drewN_drewN]; exact (unhide HD) _⟩
        · have h2' : ¬ ((y i : Int) < (x i : Int)) := by omega
          have hxy : ∀ j, j < i + 1 → x j = y j := fun j hj => by
            rcases Nat.lt_or_ge j i with h | h
            · exact hq j h
            · obtain rfl : j = i := by omega
              omega
          clear hne hq h1 h2
          have HX := hide hxy
          clear hxy
          go_wp2_with fail
          go_quiet (fail)
          go_wp2_with fail
          go_quiet (fail)
          go_wp2_with fail
          go_roundg (n - (i + 1))
          case measure => go_light; omega
          case rel => go_light; exact ⟨i + 1, _, by omega, by omega, rfl, by simp, by first | exact (unhide HD) _ | (rw [World.drewN_drewN]; exact (unhide HD) _), unhide HX⟩
    · clear ha hb
      have hnm : n ≠ m := fun e => hne ⟨e, fun j hj => hq j (by omega)⟩
      clear hq hne
      have hil : (i : Int) < (n : Int) → ¬ ((i : Int) < (m : Int)) := by omega
      by_cases hin : (i : Int) < (n : Int)
      · have := hil hin
        have h3 : ¬ ((n : Int) < (m : Int)) := by omega
        have h4 : (m : Int) < (n : Int) := by omega
        clear hil
        go_wp2_with fail
        go_ret
        exact ⟨Or.inr rfl, k, rfl⟩
      · have h4 : (n : Int) < (m : Int) := by omega
        clear hil
        go_wp2_with fail
        go_ret
        exact ⟨Or.inl rfl, k, rfl⟩
theorem eq_diff (a b : Option Addr) (n m c d : Nat) (x y : Nat → Nat) (w : World) (ha : Byt w a n x) (hb : Byt w b m y) (hn : n ≤ 140737488355328) (hm : m ≤ 140737488355328) (hne : ¬ (n = m ∧ ∀ j, j < n → x j = y j)) :
    Calls Tryd.prog 22 #[.slice a n c, .slice b m d] w fun e w' => e = .returned (.bool false) ∧ ∃ m, w' = w.drewN m := by
  have hc := cmp_diff a b n m c d x y w ha hb hn hm hne
  go_enter Tryd.func22, Tryd.ntmps22
  go_wp2_with fail
  refine hc.mono ?_
  rintro e w1 ⟨rfl | rfl, k, rfl⟩
  · go_wp2
    go_ret
    exact ⟨rfl, k, rfl⟩
  · go_wp2
    go_ret
    exact ⟨rfl, k, rfl⟩
end Go.Proofs.YtbmdnlomhnodeabDoor
