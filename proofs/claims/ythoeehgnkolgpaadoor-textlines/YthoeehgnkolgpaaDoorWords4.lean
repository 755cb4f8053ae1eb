/- The steps of a parting, told apart by what it is in; the end of a line. -/
import Derived.Test.YthoeehgnkolgpaaDoorWords3
namespace Go.Proofs.YthoeehgnkolgpaaDoor
open Go.RowKit

section
variable (B K a : Nat) (wd : List UInt8) (ws : List (List UInt8)) (vw vs : Value) (r : Nat) (w : World)

set_option maxHeartbeats 1600000 in
set_option maxRecDepth 100000 in
theorem take_any (ha : a ≤ 4) (hr : r ≤ 1114111) (h : Part B K a wd ws vw vs w) (hlen : wd.length + 4 ≤ 140737488355328) (hws : (ws.length + 1) * 16 ≤ 140737488355328) :
    Calls Tryd.prog 43 #[.pointer (some ⟨B, 0, none⟩), .int .i32 r] w fun e w' => Did B K w (stp a wd ws r) e w' := by
  have c0 := h.cell0
  rcases (by omega : a = 0 ∨ a = 1 ∨ a = 2 ∨ a = 3 ∨ a = 4) with rfl | rfl | rfl | rfl | rfl
  · have hm := begin_any B K wd ws vw vs r w hr h hlen hws
    generalize stp 0 wd ws r = o at *
    go_enter Tryd.func43, Tryd.ntmps43
    go_wp2_with (first
      | (go_at_call 57; refine hm.mono ?_; rintro e w1 ⟨rfl, hK, hp⟩))
    go_ret
    exact ⟨rfl, hK, hp⟩
  · have hm := inBare_any B K wd ws vw vs r w hr h hlen hws
    rw [show stp 1 wd ws r = bareS wd ws r from rfl]
    generalize bareS wd ws r = o at *
    go_enter Tryd.func43, Tryd.ntmps43
    go_wp2_with (first
      | (go_at_call 58; refine hm.mono ?_; rintro e w1 ⟨rfl, hK, hp⟩))
    go_ret
    exact ⟨rfl, hK, hp⟩
  · have hm := inQuoted_any B K wd ws vw vs r w hr h hlen
    generalize stp 2 wd ws r = o at *
    go_enter Tryd.func43, Tryd.ntmps43
    go_wp2_with (first
      | (go_at_call 59; refine hm.mono ?_; rintro e w1 ⟨rfl, hK, hp⟩))
    go_ret
    exact ⟨rfl, hK, hp⟩
  · have hm := unescape_any B K wd ws vw vs r w hr h hlen
    generalize stp 3 wd ws r = o at *
    go_enter Tryd.func43, Tryd.ntmps43
    go_wp2_with (first
      | (go_at_call 60; refine hm.mono ?_; rintro e w1 ⟨rfl, hK, hp⟩))
    go_ret
    exact ⟨rfl, hK, hp⟩
  · have hm := behind_any B K wd ws vw vs r w h hws
    generalize stp 4 wd ws r = o at *
    go_enter Tryd.func43, Tryd.ntmps43
    go_wp2_with (first
      | (go_at_call 61; refine hm.mono ?_; rintro e w1 ⟨rfl, hK, hp⟩))
    go_ret
    exact ⟨rfl, hK, hp⟩

/-- What a line that ends here comes to. -/
def fin (s : PSt) : Option (List (List UInt8)) := match stp s.1 s.2.1 s.2.2 32 with
  | some s' => if s'.1 = 0 then some s'.2.2 else none
  | none => none

set_option maxHeartbeats 1600000 in
set_option maxRecDepth 100000 in
theorem end_any (ha : a ≤ 4) (h : Part B K a wd ws vw vs w) (hlen : wd.length + 4 ≤ 140737488355328) (hws : (ws.length + 1) * 16 ≤ 140737488355328) :
    Calls Tryd.prog 44 #[.pointer (some ⟨B, 0, none⟩)] w fun e w' => e = .returned (.bool (fin (a, wd, ws)).isSome) ∧ Kp B K w w' ∧ ∀ l, fin (a, wd, ws) = some l → ∃ wd' vw vs, Part B K 0 wd' l vw vs w' := by
  have hm := take_any B K a wd ws vw vs 32 w ha (by decide) h hlen hws
  unfold fin
  simp only
  cases ho : stp a wd ws 32 with
  | none =>
    rw [ho] at hm
    clear ho
    go_enter Tryd.func44, Tryd.ntmps44
    go_wp2_with (first
      | (go_at_call 43; refine hm.mono ?_; rintro e w1 ⟨rfl, hK, hp⟩))
    go_ret
    exact ⟨rfl, hK, fun _ e => by cases e⟩
  | some s =>
    rw [ho] at hm
    clear ho
    by_cases h0 : s.1 = 0
    · have e0 : ((s.1 : Int) == 0) = true := beq_iff_eq.2 (by omega)
      simp only [h0, if_true]
      have H0 := hide h0
      clear h0
      go_enter Tryd.func44, Tryd.ntmps44
      go_wp2_with fail
      refine hm.mono ?_
      rintro e w1 ⟨rfl, hK, hp⟩
      obtain ⟨vw', vs', hp'⟩ := hp s rfl
      have c1 := hp'.cell0
      rw [H0.out] at hp'
      go_wp2
      go_ret
      exact ⟨ret_bool (by first | exact e0 | rfl), hK, fun l e => by cases e; exact ⟨_, _, _, hp'⟩⟩
    · have e0 : ((s.1 : Int) == 0) = false := beq_eq_false_iff_ne.2 (by omega)
      simp only [if_neg h0]
      clear h0
      go_enter Tryd.func44, Tryd.ntmps44
      go_wp2_with fail
      refine hm.mono ?_
      rintro e w1 ⟨rfl, hK, hp⟩
      obtain ⟨vw', vs', hp'⟩ := hp s rfl
      have c1 := hp'.cell0
      go_wp2
      go_ret
      exact ⟨ret_bool (by first | exact e0 | rfl), hK, fun l e => by cases e⟩
end
end Go.Proofs.YthoeehgnkolgpaaDoor
