/- The walks of Book.plain and Book.holds. -/
import Derived.Test.YtgpmoakfbhcidaaBZ4
import Derived.Deep.RegionHeld3
namespace Go.Proofs.Ytgpmoakfbhcidaa
open Go.RowKit
set_option maxRecDepth 100000

theorem owns_form {w : World} {B e n : Nat} {v : Value} {f : Nat → Value} (h : w.ownsRow B e 1 v n ((List.range n).map f)) : ∃ a c, v = .slice a n c ∧ ∀ j, j < n → ∃ g, a = some ⟨g, 0, none⟩ ∧ w.cell? ⟨g, j, none⟩ = some (f j) := by
  rcases h.2 with ⟨rfl, h0⟩ | ⟨g, c, cur, rfl, _⟩
  · subst h0; exact ⟨none, 0, rfl, fun j hj => absurd hj (Nat.not_lt_zero _)⟩
  · exact ⟨_, c, rfl, fun j hj => ⟨g, rfl, by rw [h.cellAt j (by omega)]; simp [hj]⟩⟩

set_option maxHeartbeats 3200000 in
set_option maxRecDepth 100000 in
theorem book_plain {w : World} {B bk n lo hi : Nat} {A : Nat → Option Addr} {ln C M : Nat → Nat} {bv ov : Value} {at' turn done used : Nat} (h : BookIs w B bk n lo hi A ln C M bv ov at' turn done used) (ht : turn ≤ 1000000000) (hn : n ≤ 1000000) (hln : ∀ i, i < n → ln i ≤ 140737488355328) :
    Calls Try.prog 54 #[.pointer (some ⟨bk, 0, none⟩)] w fun e w' => e = .returned (.bool true) ∧ ∃ m, w' = w.drewN m := by
  obtain ⟨va, vc, rfl, hvc⟩ := owns_form h.ob
  obtain ⟨oa, oc, rfl, hoc⟩ := owns_form h.oo
  have c0 : ∀ m, (w.drewN m).cell? ⟨bk, 0, none⟩ = some (.slice va n vc) := fun m => h.row.cell (i := 0) (by decide)
  have c1 : ∀ m, (w.drewN m).cell? ⟨bk, 1, none⟩ = some (.slice oa n oc) := fun m => h.row.cell (i := 1) (by decide)
  have c3 : ∀ m, (w.drewN m).cell? ⟨bk, 3, none⟩ = some (.slice none 0 0) := fun m => h.row.cell (i := 3) (by decide)
  have hent : ∀ i, i < n → ∃ gv go, va = some ⟨gv, 0, none⟩ ∧ oa = some ⟨go, 0, none⟩ ∧ (∀ m, (w.drewN m).cell? ⟨gv, i, none⟩ = some (.slice (A i) (ln i) (C i))) ∧ (∀ m, (w.drewN m).cell? ⟨go, i, none⟩ = some (.int .i64 (M i : Nat))) := fun i hi => by
    obtain ⟨gv, e1, q1⟩ := hvc i hi
    obtain ⟨go, e2, q2⟩ := hoc i hi
    exact ⟨gv, go, e1, e2, fun m => q1, fun m => q2⟩
  have hby : ∀ i k, i < n → k < ln i → ∃ b off, A i = some ⟨b, off, none⟩ ∧ ∀ m, (w.drewN m).cell? ⟨b, off + k, none⟩ = some (.int .u8 (mrk (M i) k : Nat)) := fun i k hi hk => by
    obtain ⟨b, off, e, hc⟩ := h.byt i hi k hk
    exact ⟨b, off, e, fun m => hc⟩
  have hM : ∀ i, i < n → M i ≤ 1000000000 := fun i hi => Nat.le_trans (h.mt i hi) ht
  clear h hvc hoc
  go_enter Try.func54, Try.ntmps54
  go_wp2_with fail
  go_loopg [3] n (fun q s3 wx => ∃ (i m : Nat), i ≤ n ∧ q = n - i ∧ s3 = .int .i64 i ∧ wx = w.drewN m)
  case atStart => exact ⟨0, 0, Nat.zero_le _, rfl, rfl, rfl⟩
  case round =>
    obtain ⟨i, m, hi, rfl, rfl, rfl⟩ := hrel
    have d0 := c0 m
    by_cases hlt : i < n
    · obtain ⟨gv, go, rfl, rfl, cv, co⟩ := hent i hlt
      have dv := cv m
      have hz : (i : Int) < (n : Int) := by omega
      have hli := hln i hlt
      have hMi := hM i hlt
      have hb2 := fun k hk => hby i k hlt hk
      generalize A i = ta at *
      generalize ln i = tl at *
      generalize C i = tc at *
      generalize M i = mi at *
      go_wp2_with fail
      go_loopg [4] tl (fun q s4 wx => ∃ (k m : Nat), k ≤ tl ∧ q = tl - k ∧ s4 = .int .i64 k ∧ wx = w.drewN m)
      case atStart => exact ⟨0, m, Nat.zero_le _, rfl, rfl, rfl⟩
      case round =>
        obtain ⟨k, m2, hk, rfl, rfl, rfl⟩ := hrel
        have e0 := c0 m2
        have e1 := c1 m2
        have ev := cv m2
        have eo := co m2
        by_cases hkl : k < tl
        · obtain ⟨b, off, rfl, cb⟩ := hb2 k hkl
          have eb := cb m2
          have hkz : (k : Int) < (tl : Int) := by omega
          have hac : ∀ W, _ := fun W => at_any' mi k W hMi
          generalize mrk mi k = mk1 at *
          have HD : Hid (∀ n, (w.drewN m2).drewN n = w.drewN (m2 + n)) := fun n => World.drewN_drewN _ _ _
          generalize w.drewN m2 = wd at *
          go_upto_region 7 with fail
          go_region_held3 (fun W => W.cell? ⟨bk, 0, none⟩ = some (.slice (some ⟨gv, 0, none⟩) n vc) ∧ W.cell? ⟨bk, 1, none⟩ = some (.slice (some ⟨go, 0, none⟩) n oc) ∧ W.cell? ⟨gv, i, none⟩ = some (.slice (some ⟨b, off, none⟩) tl tc) ∧ W.cell? ⟨go, i, none⟩ = some (.int .i64 (mi : Nat)) ∧ W.cell? ⟨b, off + k, none⟩ = some (.int .u8 (mk1 : Nat)))
            (exact ⟨e0, e1, ev, eo, eb⟩)
            ((first | (go_at_call 79; refine (hac _).mono ?_; rintro e w3 ⟨rfl, rfl⟩)))
          all_goals
            clear hac
            go_wp2_with fail
            go_roundg (tl - (k + 1))
            case measure => go_light; omega
            case rel => go_light; exact ⟨k + 1, m2 + 1, by omega, rfl, by simp, (unhide HD) 1⟩
        · have hkz : ¬ ((k : Int) < (tl : Int)) := by omega
          have HD : Hid (w.drewN m2 = w.drewN m2) := rfl
          go_wp2_with fail
          go_roundg (n - (i + 1))
          case measure => go_light; omega
          case rel => go_light; exact ⟨i + 1, m2, by omega, rfl, by simp, rfl⟩
    · have hz : ¬ ((i : Int) < (n : Int)) := by omega
      have d3 := c3 m
      go_wp2_with fail
      go_loopg [5] 0 (fun q s5 wx => q = 0 ∧ s5 = .int .i64 0 ∧ w.drewN m = wx)
      case atStart => exact ⟨rfl, rfl, rfl⟩
      case round =>
        obtain ⟨rfl, rfl, rfl⟩ := hrel
        go_wp2_with fail
        go_ret
        exact ⟨rfl, m, rfl⟩

set_option maxHeartbeats 1600000 in
set_option maxRecDepth 100000 in
theorem book_holds {w : World} {B bk n lo hi : Nat} {A : Nat → Option Addr} {ln C M : Nat → Nat} {bv ov : Value} {at' turn done used : Nat} (h : BookIs w B bk n lo hi A ln C M bv ov at' turn done used) (ht : turn ≤ 1000000000) (hn : n ≤ 1000000) (hln : ∀ i, i < n → ln i ≤ 140737488355328) :
    Calls Try.prog 37 #[.pointer (some ⟨bk, 0, none⟩)] w fun e w' => e = .returned (.bool true) ∧ ∃ m, w' = w.drewN m := by
  have hp := book_plain h ht hn hln
  have hk : ∀ m, Calls Try.prog 55 #[.pointer (some ⟨bk, 0, none⟩)] (w.drewN m) fun e w' => e = .returned (.bool true) ∧ w' = w.drewN m := fun m => book_kept bk _ _ (h.since (since_drewN' (World.Since.refl _ _) m)).row rfl rfl rfl rfl
  have ht' : ∀ m, Calls Try.prog 56 #[.pointer (some ⟨bk, 0, none⟩)] (w.drewN m) fun e w' => e = .returned (.bool true) ∧ w' = w.drewN m := fun m => book_told bk _ _ (h.since (since_drewN' (World.Since.refl _ _) m)).row rfl rfl rfl rfl
  have hh : ∀ m, Calls Try.prog 57 #[.pointer (some ⟨bk, 0, none⟩)] (w.drewN m) fun e w' => e = .returned (.bool true) ∧ w' = w.drewN m := fun m => book_held bk _ _ (h.since (since_drewN' (World.Since.refl _ _) m)).row rfl rfl
  clear h
  go_enter Try.func37, Try.ntmps37
  go_wp2_with fail
  refine hp.mono ?_
  rintro e w1 ⟨rfl, m, rfl⟩
  go_wp2_with fail
  refine (hk m).mono ?_
  rintro e w2 ⟨rfl, rfl⟩
  go_wp2_with fail
  refine (ht' m).mono ?_
  rintro e w3 ⟨rfl, rfl⟩
  go_wp2_with fail
  refine (hh m).mono ?_
  rintro e w4 ⟨rfl, rfl⟩
  go_wp2_with fail
  go_ret
  exact ⟨rfl, m, rfl⟩
end Go.Proofs.Ytgpmoakfbhcidaa
