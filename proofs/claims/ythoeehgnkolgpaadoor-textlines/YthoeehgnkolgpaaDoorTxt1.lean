/- The plain questions that package text asks of one code point. -/
import Derived.Test.YthoeehgnkolgpaaDoorShelf
import Derived.WalkKit
import Derived.Deep.OwnRows
import Derived.Deep.QuietTactic
import Derived.BigQuiet
import Derived.Below
namespace Go.Proofs.YthoeehgnkolgpaaDoor
open Go.RowKit

theorem hide {p : Prop} (h : p) : Hid p := h
theorem unhide {p : Prop} (h : Hid p) : p := h

theorem ret_bool {a b : Bool} (h : a = b) : Ending.returned (.bool a) = .returned (.bool b) := by rw [h]
theorem dec_of {p q : Prop} [Decidable p] [Decidable q] (h : p ↔ q) : decide p = decide q := decide_eq_decide.2 h

def digitR (r : Nat) : Bool := decide (48 ≤ r ∧ r ≤ 57)
def mayNameR (r : Nat) : Bool := decide ((97 ≤ r ∧ r ≤ 122) ∨ (65 ≤ r ∧ r ≤ 90) ∨ (48 ≤ r ∧ r ≤ 57) ∨ r = 45 ∨ r = 46 ∨ r = 95 ∨ 128 ≤ r)
def blankR (r : Nat) : Bool := decide (r = 32 ∨ r = 9)
def mayStandR (r : Nat) : Bool := decide (r = 9 ∨ (32 ≤ r ∧ r ≠ 127))

theorem isDigit_any (r : Nat) (w : World) : Calls Tryd.prog 56 #[.int .i32 r] w fun e w' => e = .returned (.bool (digitR r)) ∧ w' = w := by
  have k : digitR r = (if 48 ≤ r then decide (r ≤ 57) else false) := by unfold digitR; split <;> simp [*]
  rw [k]
  go_enter Tryd.func56, Tryd.ntmps56
  by_cases h1 : 48 ≤ r
  · have h1z : (48 : Int) ≤ (r : Int) := by omega
    rw [if_pos h1]
    go_wp2
    go_ret
    exact ⟨ret_bool (dec_of (p := (r : Int) ≤ 57) (by omega)), rfl⟩
  · have h1z : ¬ (48 : Int) ≤ (r : Int) := by omega
    rw [if_neg h1]
    go_wp2
    go_ret
    exact ⟨rfl, rfl⟩

theorem isBlank_any (r : Nat) (w : World) : Calls Tryd.prog 72 #[.int .i32 r] w fun e w' => e = .returned (.bool (blankR r)) ∧ w' = w := by
  go_enter Tryd.func72, Tryd.ntmps72
  by_cases h1 : r = 32
  · subst h1
    go_wp2
    go_ret
    exact ⟨rfl, rfl⟩
  · have h1z : ((r : Int) == 32) = false := beq_eq_false_iff_ne.2 (by omega)
    have k : blankR r = decide (r = 9) := by simp [blankR, h1]
    rw [k]
    by_cases h2 : r = 9
    · subst h2
      go_wp2
      go_ret
      exact ⟨rfl, rfl⟩
    · have h2z : ((r : Int) == 9) = false := beq_eq_false_iff_ne.2 (by omega)
      rw [decide_eq_false h2]
      go_wp2
      go_ret
      exact ⟨rfl, rfl⟩

theorem mayStand_any (r : Nat) (w : World) : Calls Tryd.prog 42 #[.int .i32 r] w fun e w' => e = .returned (.bool (mayStandR r)) ∧ w' = w := by
  go_enter Tryd.func42, Tryd.ntmps42
  by_cases h1 : r = 9
  · subst h1
    go_wp2
    go_ret
    exact ⟨rfl, rfl⟩
  · have h1z : ((r : Int) == 9) = false := beq_eq_false_iff_ne.2 (by omega)
    by_cases h2 : 32 ≤ r
    · have h2z : (32 : Int) ≤ (r : Int) := by omega
      by_cases h3 : r = 127
      · subst h3
        go_wp2
        go_ret
        exact ⟨rfl, rfl⟩
      · have h3z : ((r : Int) != 127) = true := by simp; omega
        have k : mayStandR r = true := by simp [mayStandR, h2, h3]
        rw [k]
        go_wp2
        go_ret
        exact ⟨rfl, rfl⟩
    · have h2z : ¬ (32 : Int) ≤ (r : Int) := by omega
      have k : mayStandR r = false := by simp [mayStandR, h2, h1]
      rw [k]
      go_wp2
      go_ret
      exact ⟨rfl, rfl⟩

set_option maxHeartbeats 800000 in
set_option maxRecDepth 100000 in
theorem mayName_low (r : Nat) (h0 : 97 ≤ r) (h1 : r ≤ 122) (w : World) : Calls Tryd.prog 40 #[.int .i32 r] w fun e w' => e = .returned (.bool (mayNameR r)) ∧ w' = w := by
  rw [show mayNameR r = true by simp [mayNameR]; omega]
  have a1 : (97 : Int) ≤ (r : Int) := by omega
  have a2 : (r : Int) ≤ 122 := by omega
  go_enter Tryd.func40, Tryd.ntmps40
  go_wp2
  go_ret
  exact ⟨rfl, rfl⟩

set_option maxHeartbeats 800000 in
set_option maxRecDepth 100000 in
theorem mayName_up (r : Nat) (h0 : 65 ≤ r) (h1 : r ≤ 90) (w : World) : Calls Tryd.prog 40 #[.int .i32 r] w fun e w' => e = .returned (.bool (mayNameR r)) ∧ w' = w := by
  rw [show mayNameR r = true by simp [mayNameR]; omega]
  have a1 : ¬ (97 : Int) ≤ (r : Int) := by omega
  have a3 : (65 : Int) ≤ (r : Int) := by omega
  have a4 : (r : Int) ≤ 90 := by omega
  go_enter Tryd.func40, Tryd.ntmps40
  go_wp2
  go_ret
  exact ⟨rfl, rfl⟩

set_option maxHeartbeats 800000 in
set_option maxRecDepth 100000 in
theorem mayName_dig (r : Nat) (h0 : 48 ≤ r) (h1 : r ≤ 57) (w : World) : Calls Tryd.prog 40 #[.int .i32 r] w fun e w' => e = .returned (.bool (mayNameR r)) ∧ w' = w := by
  rw [show mayNameR r = true by simp [mayNameR]; omega]
  have hdig := isDigit_any r
  rw [show digitR r = true by simp [digitR]; omega] at hdig
  have a1 : ¬ (97 : Int) ≤ (r : Int) := by omega
  have a3 : ¬ (65 : Int) ≤ (r : Int) := by omega
  go_enter Tryd.func40, Tryd.ntmps40
  go_wp2_with (go_at_call 56; refine (hdig _).mono ?_; rintro e w' ⟨rfl, rfl⟩)
  go_ret
  exact ⟨rfl, rfl⟩

set_option maxHeartbeats 800000 in
set_option maxRecDepth 100000 in
theorem mayName_hi (r : Nat) (h0 : 122 < r) (w : World) : Calls Tryd.prog 40 #[.int .i32 r] w fun e w' => e = .returned (.bool (mayNameR r)) ∧ w' = w := by
  have hdig := isDigit_any r
  rw [show digitR r = false by simp [digitR]; omega] at hdig
  have a1 : (97 : Int) ≤ (r : Int) := by omega
  have a2 : ¬ (r : Int) ≤ 122 := by omega
  have a3 : (65 : Int) ≤ (r : Int) := by omega
  have a4 : ¬ (r : Int) ≤ 90 := by omega
  have e1 : ((r : Int) == 45) = false := beq_eq_false_iff_ne.2 (by omega)
  have e2 : ((r : Int) == 46) = false := beq_eq_false_iff_ne.2 (by omega)
  have e3 : ((r : Int) == 95) = false := beq_eq_false_iff_ne.2 (by omega)
  go_enter Tryd.func40, Tryd.ntmps40
  go_wp2_with (go_at_call 56; refine (hdig _).mono ?_; rintro e w' ⟨rfl, rfl⟩)
  go_ret
  exact ⟨ret_bool ((dec_of (p := (128 : Int) ≤ (r : Int)) (q := 128 ≤ r) (by omega)).trans (by unfold mayNameR; exact dec_of (by omega))), rfl⟩

set_option maxHeartbeats 800000 in
set_option maxRecDepth 100000 in
theorem mayName_mid (r : Nat) (h0 : 90 < r) (h1 : r < 97) (h2 : r ≠ 95) (w : World) : Calls Tryd.prog 40 #[.int .i32 r] w fun e w' => e = .returned (.bool (mayNameR r)) ∧ w' = w := by
  have hdig := isDigit_any r
  rw [show digitR r = false by simp [digitR]; omega] at hdig
  have a1 : ¬ (97 : Int) ≤ (r : Int) := by omega
  have a3 : (65 : Int) ≤ (r : Int) := by omega
  have a4 : ¬ (r : Int) ≤ 90 := by omega
  have e1 : ((r : Int) == 45) = false := beq_eq_false_iff_ne.2 (by omega)
  have e2 : ((r : Int) == 46) = false := beq_eq_false_iff_ne.2 (by omega)
  have e3 : ((r : Int) == 95) = false := beq_eq_false_iff_ne.2 (by omega)
  go_enter Tryd.func40, Tryd.ntmps40
  go_wp2_with (go_at_call 56; refine (hdig _).mono ?_; rintro e w' ⟨rfl, rfl⟩)
  go_ret
  exact ⟨ret_bool ((dec_of (p := (128 : Int) ≤ (r : Int)) (q := 128 ≤ r) (by omega)).trans (by unfold mayNameR; exact dec_of (by omega))), rfl⟩

set_option maxHeartbeats 800000 in
set_option maxRecDepth 100000 in
theorem mayName_n95 (r : Nat) (h0 : r = 95) (w : World) : Calls Tryd.prog 40 #[.int .i32 r] w fun e w' => e = .returned (.bool (mayNameR r)) ∧ w' = w := by
  rw [show mayNameR r = true by simp [mayNameR]; omega]
  have hdig := isDigit_any r
  rw [show digitR r = false by simp [digitR]; omega] at hdig
  have a1 : ¬ (97 : Int) ≤ (r : Int) := by omega
  have a3 : (65 : Int) ≤ (r : Int) := by omega
  have a4 : ¬ (r : Int) ≤ 90 := by omega
  have e1 : ((r : Int) == 45) = false := beq_eq_false_iff_ne.2 (by omega)
  have e2 : ((r : Int) == 46) = false := beq_eq_false_iff_ne.2 (by omega)
  have e3 : ((r : Int) == 95) = true := beq_iff_eq.2 (by omega)
  clear h0
  go_enter Tryd.func40, Tryd.ntmps40
  go_wp2_with (go_at_call 56; refine (hdig _).mono ?_; rintro e w' ⟨rfl, rfl⟩)
  go_ret
  exact ⟨rfl, rfl⟩

set_option maxHeartbeats 800000 in
set_option maxRecDepth 100000 in
theorem mayName_n45 (r : Nat) (h0 : r = 45) (w : World) : Calls Tryd.prog 40 #[.int .i32 r] w fun e w' => e = .returned (.bool (mayNameR r)) ∧ w' = w := by
  rw [show mayNameR r = true by simp [mayNameR]; omega]
  have hdig := isDigit_any r
  rw [show digitR r = false by simp [digitR]; omega] at hdig
  have a1 : ¬ (97 : Int) ≤ (r : Int) := by omega
  have a3 : ¬ (65 : Int) ≤ (r : Int) := by omega
  have e1 : ((r : Int) == 45) = true := beq_iff_eq.2 (by omega)
  clear h0
  go_enter Tryd.func40, Tryd.ntmps40
  go_wp2_with (go_at_call 56; refine (hdig _).mono ?_; rintro e w' ⟨rfl, rfl⟩)
  go_ret
  exact ⟨rfl, rfl⟩

set_option maxHeartbeats 800000 in
set_option maxRecDepth 100000 in
theorem mayName_n46 (r : Nat) (h0 : r = 46) (w : World) : Calls Tryd.prog 40 #[.int .i32 r] w fun e w' => e = .returned (.bool (mayNameR r)) ∧ w' = w := by
  rw [show mayNameR r = true by simp [mayNameR]; omega]
  have hdig := isDigit_any r
  rw [show digitR r = false by simp [digitR]; omega] at hdig
  have a1 : ¬ (97 : Int) ≤ (r : Int) := by omega
  have a3 : ¬ (65 : Int) ≤ (r : Int) := by omega
  have e1 : ((r : Int) == 45) = false := beq_eq_false_iff_ne.2 (by omega)
  have e2 : ((r : Int) == 46) = true := beq_iff_eq.2 (by omega)
  clear h0
  go_enter Tryd.func40, Tryd.ntmps40
  go_wp2_with (go_at_call 56; refine (hdig _).mono ?_; rintro e w' ⟨rfl, rfl⟩)
  go_ret
  exact ⟨rfl, rfl⟩

set_option maxHeartbeats 800000 in
set_option maxRecDepth 100000 in
theorem mayName_lo (r : Nat) (h0 : r < 65) (hd : ¬ (48 ≤ r ∧ r ≤ 57)) (h1 : r ≠ 45) (h2 : r ≠ 46) (w : World) : Calls Tryd.prog 40 #[.int .i32 r] w fun e w' => e = .returned (.bool (mayNameR r)) ∧ w' = w := by
  have hdig := isDigit_any r
  rw [show digitR r = false by simp [digitR]; omega] at hdig
  have a1 : ¬ (97 : Int) ≤ (r : Int) := by omega
  have a3 : ¬ (65 : Int) ≤ (r : Int) := by omega
  have e1 : ((r : Int) == 45) = false := beq_eq_false_iff_ne.2 (by omega)
  have e2 : ((r : Int) == 46) = false := beq_eq_false_iff_ne.2 (by omega)
  have e3 : ((r : Int) == 95) = false := beq_eq_false_iff_ne.2 (by omega)
  go_enter Tryd.func40, Tryd.ntmps40
  go_wp2_with (go_at_call 56; refine (hdig _).mono ?_; rintro e w' ⟨rfl, rfl⟩)
  go_ret
  exact ⟨ret_bool ((dec_of (p := (128 : Int) ≤ (r : Int)) (q := 128 ≤ r) (by omega)).trans (by unfold mayNameR; exact dec_of (by omega))), rfl⟩

theorem mayName_any (r : Nat) (w : World) : Calls Tryd.prog 40 #[.int .i32 r] w fun e w' => e = .returned (.bool (mayNameR r)) ∧ w' = w := by
  rcases Nat.lt_or_ge 122 r with h | h
  · exact mayName_hi r h w
  rcases Nat.lt_or_ge r 97 with h1 | h1
  · rcases Nat.lt_or_ge 90 r with h2 | h2
    · by_cases h3 : r = 95
      · exact mayName_n95 r h3 w
      · exact mayName_mid r h2 h1 h3 w
    · rcases Nat.lt_or_ge r 65 with h3 | h3
      · by_cases h4 : 48 ≤ r ∧ r ≤ 57
        · exact mayName_dig r h4.1 h4.2 w
        · by_cases h5 : r = 45
          · exact mayName_n45 r h5 w
          · by_cases h6 : r = 46
            · exact mayName_n46 r h6 w
            · exact mayName_lo r h3 h4 h5 h6 w
      · exact mayName_up r h3 h2 w
  · exact mayName_low r h1 h w
end Go.Proofs.YthoeehgnkolgpaaDoor
