/- The document's own pace: Times, New, Tick, Wait. -/
import Derived.Test.YtjmgddaikcpinaaPC6
namespace Go.Proofs.Ytjmgddaikcpinaa
open Go.RowKit
set_option maxRecDepth 100000
set_option maxRecDepth 100000

/-- Behind t ticks: how many were times, at which tick the next one is, the gap behind it. -/
def tmS (m : Nat) : Nat → Nat × Nat × Nat
  | 0 => (0, 1, 1)
  | t + 1 => if t + 1 < (tmS m t).2.1 then tmS m t else ((tmS m t).1 + 1, (tmS m t).2.1 + (tmS m t).2.2, min (2 * (tmS m t).2.2) m)
theorem tm_succ (m t : Nat) : tmS m (t + 1) = if t + 1 < (tmS m t).2.1 then tmS m t else ((tmS m t).1 + 1, (tmS m t).2.1 + (tmS m t).2.2, min (2 * (tmS m t).2.2) m) := rfl
structure TmOk (m t : Nat) (s : Nat × Nat × Nat) : Prop where
  lt : t < s.2.1
  le : s.2.1 ≤ t + m
  g1 : 1 ≤ s.2.2
  gm : s.2.2 ≤ m
  k : s.1 ≤ t
theorem tm_ok {m : Nat} (hm : 1 ≤ m) : ∀ t, TmOk m t (tmS m t)
  | 0 => ⟨Nat.zero_lt_one, by show 1 ≤ 0 + m; omega, Nat.le_refl _, hm, Nat.le_refl _⟩
  | t + 1 => by
    have h := tm_ok hm t
    obtain ⟨h1, h2, h3, h4, h5⟩ := h
    rw [tm_succ]
    split
    · exact ⟨by omega, by omega, h3, h4, by omega⟩
    · exact ⟨by show _ < _ + _; omega, by show _ + _ ≤ _; omega, by show 1 ≤ min _ _; omega, by show min _ _ ≤ _; omega, by show _ + 1 ≤ _; omega⟩
theorem tm_stay {m t : Nat} : ∀ d, t + d < (tmS m t).2.1 → tmS m (t + d) = tmS m t
  | 0, _ => rfl
  | d + 1, h => by
    have ih := tm_stay (m := m) (t := t) d (by omega)
    show tmS m (t + d + 1) = _
    rw [tm_succ, ih, if_pos (show t + d + 1 < (tmS m t).2.1 by omega)]
/-- At the tick that is a time. -/
theorem tm_at {m t : Nat} {k a g : Nat} (h : tmS m t = (k, a, g)) (hta : t < a) : tmS m a = (k + 1, a + g, min (2 * g) m) := by
  obtain ⟨d, rfl⟩ : ∃ d, a = t + d + 1 := ⟨a - t - 1, by omega⟩
  have hs := tm_stay (m := m) (t := t) d (by rw [h]; show _ < t + d + 1; omega)
  rw [tm_succ, hs, h, if_neg (by show ¬ _ < t + d + 1; omega)]
theorem tm_end {m t n : Nat} {k a g : Nat} (h : tmS m t = (k, a, g)) (h1 : t ≤ n) (h2 : n < a) : tmS m n = (k, a, g) := by
  obtain ⟨d, rfl⟩ : ∃ d, n = t + d := ⟨n - t, by omega⟩
  rw [tm_stay d (by rw [h]; exact h2), h]

set_option maxHeartbeats 1000000 in
theorem times_any (m n : Nat) (hm1 : 1 ≤ m) (hm : m ≤ 64) (hn : n ≤ 100000) (w : World) :
    Calls Try.prog 18 #[.int .i64 (m : Nat), .int .i64 (n : Nat)] w fun e w' => e = .returned (.tuple #[.int .i64 ((tmS m n).1 : Nat), .int .i64 ((tmS m n).2.1 : Nat)]) ∧ w = w' := by
  go_enter Try.func18, Try.ntmps18
  go_wp2_with fail
  go_loopg [6, 7, 8] (n + 1 - 1) (fun q s6 s7 s8 wx => ∃ t k a g : Nat, s6 = .int .i64 (g : Nat) ∧ s7 = .int .i64 (a : Nat) ∧ s8 = .int .i64 (k : Nat) ∧ q = n + 1 - a ∧ t ≤ n ∧ tmS m t = (k, a, g) ∧ TmOk m t (k, a, g) ∧ w = wx)
  case atStart => exact ⟨0, 0, 1, 1, rfl, rfl, rfl, rfl, Nat.zero_le _, rfl, tm_ok hm1 0, rfl⟩
  case round =>
    obtain ⟨t, k, a, g, rfl, rfl, rfl, rfl, htn, hts, hok, rfl⟩ := hrel
    obtain ⟨h1, h2, h3, h4, h5⟩ := hok
    simp only at h1 h2 h3 h4 h5
    by_cases hlt : a ≤ n
    · have z1 : (a : Int) ≤ (n : Int) := by omega
      have hat := tm_at hts h1
      have hok2 := tm_ok hm1 a
      rw [hat] at hok2
      obtain ⟨k1, hk1, hk2⟩ : ∃ x : Nat, (k : Int) + 1 = (x : Int) ∧ x = k + 1 := ⟨k + 1, by omega, rfl⟩
      obtain ⟨a1, ha1, ha2⟩ : ∃ x : Nat, (a : Int) + (g : Int) = (x : Int) ∧ x = a + g := ⟨a + g, by omega, rfl⟩
      obtain ⟨g1, hg1, hg2⟩ : ∃ x : Nat, 2 * (g : Int) = (x : Int) ∧ x = 2 * g := ⟨2 * g, by omega, rfl⟩
      have wk : IntKind.i64.wrap (k1 : Int) = (k1 : Int) := wi (by omega)
      have wa : IntKind.i64.wrap (a1 : Int) = (a1 : Int) := wi (by omega)
      have wg : IntKind.i64.wrap (g1 : Int) = (g1 : Int) := wi (by omega)
      rw [← hk2, ← ha2, ← hg2] at hat hok2
      have hme : n + 1 - a1 < n + 1 - a := by omega
      by_cases hc : m < g1
      · have e1 : min g1 m = m := Nat.min_eq_right (by omega)
        rw [e1] at hat hok2
        have HH : Hid (a ≤ n ∧ tmS m a = (k1, a1, m) ∧ TmOk m a (k1, a1, m)) := ⟨hlt, hat, hok2⟩
        have z2 : (g1 : Int) > (m : Int) := by omega
        clear hat hok2 hts h1 h2 h3 h4 h5 hk2 ha2 hg2 e1 hc
        go_wp2_with fail
        go_roundg (n + 1 - a1)
        case measure => go_light; exact hme
        case rel => go_light; exact ⟨a, k1, a1, m, rfl, rfl, rfl, rfl, HH.out.1, HH.out.2.1, HH.out.2.2, rfl⟩
      · have e1 : min g1 m = g1 := Nat.min_eq_left (by omega)
        rw [e1] at hat hok2
        have HH : Hid (a ≤ n ∧ tmS m a = (k1, a1, g1) ∧ TmOk m a (k1, a1, g1)) := ⟨hlt, hat, hok2⟩
        have z2 : ¬ (g1 : Int) > (m : Int) := by omega
        clear hat hok2 hts h1 h2 h3 h4 h5 hk2 ha2 hg2 e1 hc
        go_wp2_with fail
        go_roundg (n + 1 - a1)
        case measure => go_light; exact hme
        case rel => go_light; exact ⟨a, k1, a1, g1, rfl, rfl, rfl, rfl, HH.out.1, HH.out.2.1, HH.out.2.2, rfl⟩
    · have z1 : ¬ (a : Int) ≤ (n : Int) := by omega
      have HE : Hid (tmS m n = (k, a, g)) := tm_end hts htn (by omega)
      clear hts h1 h2 h3 h4 h5
      go_wp2_with fail
      go_ret2
      exact ⟨by rw [HE.out]; rfl, rfl⟩
end Go.Proofs.Ytjmgddaikcpinaa
