/- The walks of the reference's Text, of Cmp, Eq and into. -/
import Derived.Test.YtbmdnlomhnodeabDoorRefCode
namespace Go.Proofs.YtbmdnlomhnodeabDoor
open Go.RowKit
set_option maxRecDepth 100000

set_option maxHeartbeats 800000 in
set_option maxRecDepth 100000 in
theorem reftext (a : Option Addr) (m c : Nat) (y : Nat → Nat) (w : World) (hb : Byt w a m y) (ha : a = none → m = 0 ∧ c = 0) (hmax : m + 10 ≤ 140737488355328) :
    Calls Tryd.prog 35 #[.slice a m c] w fun e w' => ∃ v, e = .returned v ∧ w.Since w.heap.size w' ∧ OwnL w' w.heap.size v (vl 9 m ++ (List.range m).map y) := by
  have hv := refvar 9 m w (Nat.lt_of_lt_of_le (show m < 2 ^ 64 by omega) (by decide)) (by omega) (Nat.le_refl _)
  have hlen := vl_len 9 m
  go_enter Tryd.func35, Tryd.ntmps35
  go_wp2_with fail
  refine hv.mono ?_
  rintro e w1 ⟨v1, rfl, hs1, ho1⟩
  obtain ⟨v2, w2, hr2, ho2, hg2, _⟩ := app_l ho1 a m c y (hb.since hs1) ha (by omega) hs1.size
  have hs2 := grown_since hs1 hg2 hs1.size (own_block ho1)
  have H2 := hide hr2
  clear hr2 hg2 ho1 hs1 hv
  go_wp2_with (at_builtin; refine wpList_append_eq rfl _ _ 22 rfl _ _ _ (by rfl) (by rfl) (unhide H2) ?_)
  go_ret
  exact ⟨_, rfl, hs2, ho2⟩

set_option maxHeartbeats 800000 in
theorem cmp_same (a b : Option Addr) (n c d : Nat) (x : Nat → Nat) (w : World) (ha : Byt w a n x) (hb : Byt w b n x) (hmax : n ≤ 140737488355328) :
    Calls Tryd.prog 52 #[.slice a n c, .slice b n d] w fun e w' => e = .returned (.int .i64 0) ∧ ∃ m, w' = w.drewN m := by
  go_enter Tryd.func52, Tryd.ntmps52
  go_wp2_with fail
  go_loopg [5] n (fun q s5 wx => ∃ (i m : Nat), i ≤ n ∧ q = n - i ∧ s5 = .int .i64 i ∧ wx = w.drewN m)
  case atStart => exact ⟨0, 0, Nat.zero_le _, rfl, rfl, rfl⟩
  case round =>
    obtain ⟨i, m, hi, rfl, rfl, rfl⟩ := hrel
    by_cases hlt : i < n
    · obtain ⟨b1, o1, rfl, hc1⟩ := ha i hlt
      obtain ⟨b2, o2, rfl, hc2⟩ := hb i hlt
      have hc1' : (w.drewN m).cell? ⟨b1, o1 + i, none⟩ = some (.int .u8 (x i : Nat)) := hc1
      have hc2' : (w.drewN m).cell? ⟨b2, o2 + i, none⟩ = some (.int .u8 (x i : Nat)) := hc2
      have hz : (i : Int) < (n : Int) := by omega
      have HD : Hid (∀ n, (w.drewN m).drewN n = w.drewN (m + n)) := fun n => World.drewN_drewN _ _ _
      generalize w.drewN m = wd at *
      clear hc1 hc2 ha hb
      go_wp2_with fail
      go_quiet (fail)
      go_wp2_with fail
      go_quiet (fail)
      go_wp2_with fail
      go_roundg (n - (i + 1))
      case measure => go_light; omega
      case rel => go_light; exact ⟨i + 1, _, by omega, rfl, by simp, (unhide HD) _⟩
    · obtain rfl : i = n := by omega
      clear ha hb
      go_wp2_with fail
      go_ret
      exact ⟨rfl, m, rfl⟩
theorem eq_same (a b : Option Addr) (n c d : Nat) (x : Nat → Nat) (w : World) (ha : Byt w a n x) (hb : Byt w b n x) (hmax : n ≤ 140737488355328) :
    Calls Tryd.prog 22 #[.slice a n c, .slice b n d] w fun e w' => e = .returned (.bool true) ∧ ∃ m, w' = w.drewN m := by
  have hc := cmp_same a b n c d x w ha hb hmax
  go_enter Tryd.func22, Tryd.ntmps22
  go_wp2_with fail
  refine hc.mono ?_
  rintro e w1 ⟨rfl, m, rfl⟩
  go_wp2_with fail
  go_ret
  exact ⟨rfl, m, rfl⟩
theorem into_two (K : Int) (w : World) : Calls Tryd.prog 26 #[.int .i64 K, .int .i64 2] w fun e w' => w' = w ∧ (e = .returned (.int .i64 0) ∨ e = .returned (.int .i64 1)) := by
  have h3 : K.tmod 2 = 0 ∨ K.tmod 2 = 1 ∨ K.tmod 2 = -1 := by
    have h1 := Int.tmod_lt_of_pos K (show (0 : Int) < 2 by decide)
    have h2 := Int.lt_tmod_of_pos K (show (0 : Int) < 2 by decide)
    omega
  go_enter Tryd.func26, Tryd.ntmps26
  rcases h3 with h | h | h
  · go_wp2_with fail
    go_ret
    exact ⟨rfl, Or.inl rfl⟩
  · go_wp2_with fail
    go_ret
    exact ⟨rfl, Or.inr rfl⟩
  · go_wp2_with fail
    go_ret
    exact ⟨rfl, Or.inr rfl⟩
end Go.Proofs.YtbmdnlomhnodeabDoor
