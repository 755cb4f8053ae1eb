/- One code point further: every step of a parting. -/
import Derived.Test.YthoeehgnkolgpaaDoorWords2
namespace Go.Proofs.YthoeehgnkolgpaaDoor
open Go.RowKit

abbrev PSt := Nat × List UInt8 × List (List UInt8)
/-- What a parting goes on to by a code point; none: it may not stand there. -/
def bareS (wd : List UInt8) (ws : List (List UInt8)) (r : Nat) : Option PSt :=
  if blankR r = true then some (0, [], ws ++ [wd]) else if r = 34 then none else if r = 92 then none else some (1, wd ++ Lib.encodeRune r, ws)
def stp (a : Nat) (wd : List UInt8) (ws : List (List UInt8)) (r : Nat) : Option PSt :=
  if a = 0 then (if blankR r = true then some (0, wd, ws) else if r = 34 then some (2, wd, ws) else bareS wd ws r)
  else if a = 1 then bareS wd ws r
  else if a = 2 then (if r = 34 then some (4, wd, ws) else if r = 92 then some (3, wd, ws) else some (2, wd ++ Lib.encodeRune r, ws))
  else if a = 3 then (if r = 34 then some (2, wd ++ Lib.encodeRune r, ws) else if r = 92 then some (2, wd ++ Lib.encodeRune r, ws) else none)
  else (if blankR r = true then some (0, [], ws ++ [wd]) else none)
def Did (B K : Nat) (w : World) (o : Option PSt) (e : Ending) (w' : World) : Prop :=
  e = .returned (.bool o.isSome) ∧ Kp B K w w' ∧ ∀ s, o = some s → ∃ vw vs, Part B K s.1 s.2.1 s.2.2 vw vs w'
theorem did_none {B K : Nat} {w w' : World} (h : Kp B K w w') : Did B K w none (.returned (.bool false)) w' := ⟨rfl, h, fun _ e => by cases e⟩
theorem did_some {B K a : Nat} {wd : List UInt8} {ws : List (List UInt8)} {vw vs : Value} {w w' : World} (h : Kp B K w w') (p : Part B K a wd ws vw vs w') : Did B K w (some (a, wd, ws)) (.returned (.bool true)) w' := ⟨rfl, h, fun _ e => by cases e; exact ⟨vw, vs, p⟩⟩
theorem Part.cell0 {B K a : Nat} {wd : List UInt8} {ws : List (List UInt8)} {vw vs : Value} {w : World} (h : Part B K a wd ws vw vs w) : w.cell? ⟨B, 0, none⟩ = some (.int .i64 a) := box_cell h.box 0 (by simp)
theorem Part.frz {B K a : Nat} {wd : List UInt8} {ws : List (List UInt8)} {vw vs : Value} {w : World} (h : Part B K a wd ws vw vs w) (i : Nat) : w.frozen? ⟨B, i, none⟩ = false := box_frozen h.box i

section
variable (B K a : Nat) (wd : List UInt8) (ws : List (List UInt8)) (vw vs : Value) (r : Nat) (w : World)

set_option maxHeartbeats 1600000 in
theorem inBare_any (hr : r ≤ 1114111) (h : Part B K 1 wd ws vw vs w) (hlen : wd.length + 4 ≤ 140737488355328) (hws : (ws.length + 1) * 16 ≤ 140737488355328) :
    Calls Tryd.prog 58 #[.pointer (some ⟨B, 0, none⟩), .int .i32 r] w fun e w' => Did B K w (bareS wd ws r) e w' := by
  have hb := isBlank_any r w
  have hf := finish_any B K 1 wd ws vw vs w h hws
  have ha := add_any B K 1 wd ws vw vs r w hr h hlen
  unfold bareS
  cases hk : blankR r with
  | true =>
    rw [hk] at hb
    simp only [if_true]
    clear hk
    go_enter Tryd.func58, Tryd.ntmps58
    go_wp2_with (first
      | (go_at_call 72; refine hb.mono ?_; rintro e w' ⟨rfl, rfl⟩)
      | (go_at_call 73; refine hf.mono ?_; rintro e w1 ⟨rfl, ⟨vw', vs', hp⟩, hK⟩))
    go_ret
    exact did_some hK hp
  | false =>
    rw [hk] at hb
    simp only [Bool.false_eq_true, if_false]
    clear hk
    by_cases h34 : r = 34
    · have e1 : ((r : Int) == 34) = true := beq_iff_eq.2 (by omega)
      rw [if_pos h34]
      clear h34
      go_enter Tryd.func58, Tryd.ntmps58
      go_wp2_with (first
        | (go_at_call 72; refine hb.mono ?_; rintro e w' ⟨rfl, rfl⟩))
      go_ret
      exact did_none (Kp.refl _ _ _)
    · have e1 : ((r : Int) == 34) = false := beq_eq_false_iff_ne.2 (by omega)
      rw [if_neg h34]
      clear h34
      by_cases h92 : r = 92
      · have e2 : ((r : Int) == 92) = true := beq_iff_eq.2 (by omega)
        rw [if_pos h92]
        clear h92
        go_enter Tryd.func58, Tryd.ntmps58
        go_wp2_with (first
          | (go_at_call 72; refine hb.mono ?_; rintro e w' ⟨rfl, rfl⟩))
        go_ret
        exact did_none (Kp.refl _ _ _)
      · have e2 : ((r : Int) == 92) = false := beq_eq_false_iff_ne.2 (by omega)
        rw [if_neg h92]
        clear h92
        go_enter Tryd.func58, Tryd.ntmps58
        go_wp2_with (first
          | (go_at_call 72; refine hb.mono ?_; rintro e w' ⟨rfl, rfl⟩)
          | (go_at_call 74; refine ha.mono ?_; rintro e w1 ⟨rfl, ⟨vw', hp⟩, hK⟩))
        go_ret
        exact did_some hK hp

set_option maxHeartbeats 1600000 in
theorem begin_any (hr : r ≤ 1114111) (h : Part B K 0 wd ws vw vs w) (hlen : wd.length + 4 ≤ 140737488355328) (hws : (ws.length + 1) * 16 ≤ 140737488355328) :
    Calls Tryd.prog 57 #[.pointer (some ⟨B, 0, none⟩), .int .i32 r] w fun e w' => Did B K w (stp 0 wd ws r) e w' := by
  have hb := isBlank_any r w
  have h1 := h.setAt 1
  have h2 := h.setAt 2
  have hi := inBare_any B K wd ws vw vs r _ hr h1 hlen hws
  have c0 := h.cell0
  have f0 := h.frz 0
  unfold stp
  rw [if_pos rfl]
  cases hk : blankR r with
  | true =>
    rw [hk] at hb
    simp only [if_true]
    clear hk
    go_enter Tryd.func57, Tryd.ntmps57
    go_wp2_with (first
      | (go_at_call 72; refine hb.mono ?_; rintro e w' ⟨rfl, rfl⟩))
    go_ret
    exact did_some (Kp.refl _ _ _) h
  | false =>
    rw [hk] at hb
    simp only [Bool.false_eq_true, if_false]
    clear hk
    by_cases h34 : r = 34
    · have e1 : ((r : Int) == 34) = true := beq_iff_eq.2 (by omega)
      rw [if_pos h34]
      clear h34
      go_enter Tryd.func57, Tryd.ntmps57
      go_wp2_with (first
        | (go_at_call 72; refine hb.mono ?_; rintro e w' ⟨rfl, rfl⟩))
      go_ret
      exact did_some ((Kp.refl _ _ _).setCell 0 _) h2
    · have e1 : ((r : Int) == 34) = false := beq_eq_false_iff_ne.2 (by omega)
      rw [if_neg h34]
      clear h34
      go_enter Tryd.func57, Tryd.ntmps57
      go_wp2_with (first
        | (go_at_call 72; refine hb.mono ?_; rintro e w' ⟨rfl, rfl⟩)
        | (go_at_call 58; refine hi.mono ?_; rintro e w1 ⟨rfl, hK, hp⟩))
      go_ret
      exact ⟨rfl, ((Kp.refl _ _ _).setCell 0 _).trans hK, hp⟩

set_option maxHeartbeats 1600000 in
theorem inQuoted_any (hr : r ≤ 1114111) (h : Part B K 2 wd ws vw vs w) (hlen : wd.length + 4 ≤ 140737488355328) :
    Calls Tryd.prog 59 #[.pointer (some ⟨B, 0, none⟩), .int .i32 r] w fun e w' => Did B K w (stp 2 wd ws r) e w' := by
  have ha := add_any B K 2 wd ws vw vs r w hr h hlen
  have h3 := h.setAt 3
  have h4 := h.setAt 4
  have c0 := h.cell0
  have f0 := h.frz 0
  unfold stp
  rw [if_neg (by decide), if_neg (by decide), if_pos rfl]
  by_cases h34 : r = 34
  · have e1 : ((r : Int) == 34) = true := beq_iff_eq.2 (by omega)
    rw [if_pos h34]
    clear h34
    go_enter Tryd.func59, Tryd.ntmps59
    go_wp2
    go_ret
    exact did_some ((Kp.refl _ _ _).setCell 0 _) h4
  · have e1 : ((r : Int) == 34) = false := beq_eq_false_iff_ne.2 (by omega)
    rw [if_neg h34]
    clear h34
    by_cases h92 : r = 92
    · have e2 : ((r : Int) == 92) = true := beq_iff_eq.2 (by omega)
      rw [if_pos h92]
      clear h92
      go_enter Tryd.func59, Tryd.ntmps59
      go_wp2
      go_ret
      exact did_some ((Kp.refl _ _ _).setCell 0 _) h3
    · have e2 : ((r : Int) == 92) = false := beq_eq_false_iff_ne.2 (by omega)
      rw [if_neg h92]
      clear h92
      go_enter Tryd.func59, Tryd.ntmps59
      go_wp2_with (first
        | (go_at_call 74; refine ha.mono ?_; rintro e w1 ⟨rfl, ⟨vw', hp⟩, hK⟩))
      go_ret
      exact did_some hK hp

set_option maxHeartbeats 1600000 in
theorem unescape_any (hr : r ≤ 1114111) (h : Part B K 3 wd ws vw vs w) (hlen : wd.length + 4 ≤ 140737488355328) :
    Calls Tryd.prog 60 #[.pointer (some ⟨B, 0, none⟩), .int .i32 r] w fun e w' => Did B K w (stp 3 wd ws r) e w' := by
  have ha := add_any B K 3 wd ws vw vs r w hr h hlen
  unfold stp
  rw [if_neg (by decide), if_neg (by decide), if_neg (by decide), if_pos rfl]
  by_cases h34 : r = 34
  · have e1 : ((r : Int) != 34) = false := by simp; omega
    rw [if_pos h34]
    clear h34
    go_enter Tryd.func60, Tryd.ntmps60
    go_wp2_with fail
    refine ha.mono ?_
    rintro e w1 ⟨rfl, ⟨vw', hp⟩, hK⟩
    have c0 := hp.cell0
    have f0 := hp.frz 0
    have h2 := hp.setAt 2
    go_wp2
    go_ret
    exact did_some (hK.setCell 0 _) h2
  · have e1 : ((r : Int) != 34) = true := by simp; omega
    rw [if_neg h34]
    clear h34
    by_cases h92 : r = 92
    · have e2 : ((r : Int) != 92) = false := by simp; omega
      rw [if_pos h92]
      clear h92
      go_enter Tryd.func60, Tryd.ntmps60
      go_wp2_with fail
      refine ha.mono ?_
      rintro e w1 ⟨rfl, ⟨vw', hp⟩, hK⟩
      have c0 := hp.cell0
      have f0 := hp.frz 0
      have h2 := hp.setAt 2
      go_wp2
      go_ret
      exact did_some (hK.setCell 0 _) h2
    · have e2 : ((r : Int) != 92) = true := by simp; omega
      rw [if_neg h92]
      clear h92
      go_enter Tryd.func60, Tryd.ntmps60
      go_wp2
      go_ret
      exact did_none (Kp.refl _ _ _)

set_option maxHeartbeats 1600000 in
theorem behind_any (h : Part B K 4 wd ws vw vs w) (hws : (ws.length + 1) * 16 ≤ 140737488355328) :
    Calls Tryd.prog 61 #[.pointer (some ⟨B, 0, none⟩), .int .i32 r] w fun e w' => Did B K w (stp 4 wd ws r) e w' := by
  have hb := isBlank_any r w
  have hf := finish_any B K 4 wd ws vw vs w h hws
  unfold stp
  rw [if_neg (by decide), if_neg (by decide), if_neg (by decide), if_neg (by decide)]
  cases hk : blankR r with
  | true =>
    rw [hk] at hb
    simp only [if_true]
    clear hk
    go_enter Tryd.func61, Tryd.ntmps61
    go_wp2_with (first
      | (go_at_call 72; refine hb.mono ?_; rintro e w' ⟨rfl, rfl⟩)
      | (go_at_call 73; refine hf.mono ?_; rintro e w1 ⟨rfl, ⟨vw', vs', hp⟩, hK⟩))
    go_ret
    exact did_some hK hp
  | false =>
    rw [hk] at hb
    simp only [Bool.false_eq_true, if_false]
    clear hk
    go_enter Tryd.func61, Tryd.ntmps61
    go_wp2_with (first
      | (go_at_call 72; refine hb.mono ?_; rintro e w' ⟨rfl, rfl⟩))
    go_ret
    exact did_none (Kp.refl _ _ _)
end
end Go.Proofs.YthoeehgnkolgpaaDoor
