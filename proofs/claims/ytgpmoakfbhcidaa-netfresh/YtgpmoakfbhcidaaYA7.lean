/- The walk of Shelf.Same over lists of bytes. -/
import Derived.Test.YtgpmoakfbhcidaaYA6
namespace Go.Proofs.Ytgpmoakfbhcidaa
open Go.RowKit
set_option maxRecDepth 100000
set_option maxRecDepth 100000

theorem ShB.drewN {w : World} {B xb sz N : Nat} {kv ov : Value} {A A' : Nat → Option Addr} {ln C C' : Nat → Nat} {X : Nat → Nat → Nat} (h : ShB w B xb sz N kv ov A A' ln C C' X) (m : Nat) : ShB (w.drewN m) B xb sz N kv ov A A' ln C C' X := h.later (fun _ _ => rfl)
set_option maxHeartbeats 3200000 in
theorem shelfB_same {w : World} {B xb sz N : Nat} {kv ov : Value} {A A' : Nat → Option Addr} {ln C C' : Nat → Nat} {X : Nat → Nat → Nat} (h : ShB w B xb sz N kv ov A A' ln C C' X) :
    Calls Try.prog 47 #[.pointer (some ⟨xb, 0, none⟩)] w fun e w' => e = .returned (.bool true) ∧ ∃ m, w' = w.drewN m := by
  have hN := h.hN
  obtain ⟨ka, kc, rfl, hka⟩ := owns_form h.lst
  obtain ⟨oa, oc, rfl, hoa⟩ := owns_form h.olst
  have HC : Hid (∀ m i, i < 11 → (w.drewN m).cell? ⟨xb, i, none⟩ = some (shB sz (.slice ka N kc) (.slice oa N oc) i)) := fun m i hi => h.row.cell (i := i) hi
  have HK : Hid (∀ i, i < N → ∃ g g', ka = some ⟨g, 0, none⟩ ∧ oa = some ⟨g', 0, none⟩ ∧ (∀ m, (w.drewN m).cell? ⟨g, i, none⟩ = some (.slice (A i) (ln i) (C i))) ∧ (∀ m, (w.drewN m).cell? ⟨g', i, none⟩ = some (.slice (A' i) (ln i) (C' i))) ∧
      ∀ m, Calls Try.prog 46 #[.slice (A i) (ln i) (C i), .slice (A' i) (ln i) (C' i)] (w.drewN m) fun e w' => e = .returned (.bool true) ∧ ∃ m', w' = w.drewN m') := fun i hi => by
    obtain ⟨g, e, hc⟩ := hka i hi
    obtain ⟨g', e', hc'⟩ := hoa i hi
    refine ⟨g, g', e, e', fun m => hc, fun m => hc', fun m => ?_⟩
    obtain ⟨q, e1, _, hr⟩ := h.was i hi
    have hb1 : Byt w (A i) (ln i) (X i) := by
      obtain ⟨x, cc, e, hb, _⟩ := ownZ_byt' (h.fam.own i hi)
      unfold sl at e
      injection e with e1
      rw [e1]
      exact hb
    have hb2 : Byt w (A' i) (ln i) (X i) := by rw [e1]; exact Byt.of_row hr
    refine (eq_same (A i) (A' i) (ln i) (C i) (C' i) (X i) (w.drewN m) (fun j hj => hb1 j hj) (fun j hj => hb2 j hj) (by have := h.ll i hi; omega)).mono fun e w' ⟨he, m', e2⟩ => ⟨he, m + m', ?_⟩
    rw [e2, World.drewN_drewN]
  have c1 : w.cell? ⟨xb, 1, none⟩ = some (.slice none 0 0) := HC.out 0 1 (by decide)
  clear h hka hoa
  go_enter Try.func47, Try.ntmps47
  go_wp2_with fail
  go_loopg [3] 0 (fun q sx wx => q = 0 ∧ sx = .int .i64 0 ∧ w = wx)
  case atStart => exact ⟨rfl, rfl, rfl⟩
  case round =>
    obtain ⟨rfl, rfl, rfl⟩ := hrel
    go_wp2_with fail
    go_loopg [4] N (fun q s4 wx => ∃ (p m : Nat), p ≤ N ∧ q = N - p ∧ s4 = .int .i64 (p : Nat) ∧ wx = w.drewN m)
    case atStart => exact ⟨0, 0, Nat.zero_le _, rfl, rfl, rfl⟩
    case round =>
      clear c1
      obtain ⟨p, m, hp, rfl, rfl, rfl⟩ := hrel
      have c3 : (w.drewN m).cell? ⟨xb, 3, none⟩ = some (.slice ka N kc) := HC.out m 3 (by decide)
      by_cases hlt : p < N
      · have hpz : (p : Int) < (N : Int) := by omega
        have hwp : IntKind.i64.wrap ((p : Int) + 1) = (p : Int) + 1 := by rw [IntKind.wrap_i64]; omega
        obtain ⟨g, g', rfl, rfl, e1, e2, heq⟩ := HK.out p hlt
        have d1 : (w.drewN m).drew.cell? ⟨g, p, none⟩ = some (.slice (A p) (ln p) (C p)) := e1 m
        have d2 : (w.drewN m).drew.cell? ⟨g', p, none⟩ = some (.slice (A' p) (ln p) (C' p)) := e2 m
        have d3 : (w.drewN m).drew.cell? ⟨xb, 3, none⟩ = some (.slice (some ⟨g, 0, none⟩) N kc) := HC.out m 3 (by decide)
        have d4 : (w.drewN m).drew.cell? ⟨xb, 4, none⟩ = some (.slice (some ⟨g', 0, none⟩) N oc) := HC.out m 4 (by decide)
        have HEQ : Hid (Calls Try.prog 46 #[.slice (A p) (ln p) (C p), .slice (A' p) (ln p) (C' p)] (w.drewN m).drew fun e w' => e = .returned (.bool true) ∧ ∃ m', w' = w.drewN m') := heq (m + 1)
        generalize w.drewN m = wd at *
        generalize A p = ap at *
        generalize A' p = ap' at *
        generalize ln p = n at *
        generalize C p = cp at *
        generalize C' p = cp' at *
        clear e1 e2 heq
        go_upto_region 9 with fail
        go_region_law (first
          | (go_simp; go_at_call 46; refine HEQ.out.mono ?_; rintro e w4 ⟨rfl, m', HM⟩))
        all_goals
          go_wp2_with fail
          go_roundg (N - (p + 1))
          case measure => go_light; omega
          case rel => go_light; exact ⟨p + 1, m', by omega, rfl, by simp, rfl⟩
      · have hpz : ¬ (p : Int) < (N : Int) := by omega
        have c5 : (w.drewN m).cell? ⟨xb, 5, none⟩ = some (.slice none 0 0) := HC.out m 5 (by decide)
        have c7 : (w.drewN m).cell? ⟨xb, 7, none⟩ = some (.slice none 0 0) := HC.out m 7 (by decide)
        have c9 : (w.drewN m).cell? ⟨xb, 9, none⟩ = some (.slice none 0 0) := HC.out m 9 (by decide)
        generalize hwd : w.drewN m = wr at *
        have HWD := hide hwd
        clear hwd
        go_wp2_with fail
        go_loopg [5] 0 (fun q sx wx => q = 0 ∧ sx = .int .i64 0 ∧ wr = wx)
        case atStart => exact ⟨rfl, rfl, rfl⟩
        case round =>
          obtain ⟨rfl, rfl, rfl⟩ := hrel
          go_wp2_with fail
          go_loopg [6] 0 (fun q sx wx => q = 0 ∧ sx = .int .i64 0 ∧ wr = wx)
          case atStart => exact ⟨rfl, rfl, rfl⟩
          case round =>
            obtain ⟨rfl, rfl, rfl⟩ := hrel
            go_wp2_with fail
            go_loopg [7] 0 (fun q sx wx => q = 0 ∧ sx = .int .i64 0 ∧ wr = wx)
            case atStart => exact ⟨rfl, rfl, rfl⟩
            case round =>
              obtain ⟨rfl, rfl, rfl⟩ := hrel
              go_wp2_with fail
              go_ret
              exact ⟨rfl, m, (unhide HWD).symm⟩
end Go.Proofs.Ytgpmoakfbhcidaa
