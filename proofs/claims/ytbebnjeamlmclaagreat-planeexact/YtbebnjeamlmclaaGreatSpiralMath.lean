/- The spiral: plain mathematics. No program here. -/
import Derived.Test.YtbebnjeamlmclaaGreatFloatMath
namespace Go.Proofs.YtbebnjeamlmclaaGreat

/-- How many whole pairs of legs lie within k steps. -/
def pairsM : Nat → Nat
  | 0 => 0
  | k + 1 => if (pairsM k + 1) * (pairsM k + 2) ≤ k + 1 then pairsM k + 1 else pairsM k

theorem pairsM_spec (k : Nat) : pairsM k * (pairsM k + 1) ≤ k ∧ k < (pairsM k + 1) * (pairsM k + 2) := by
  induction k with
  | zero => simp [pairsM]
  | succ k ih =>
    unfold pairsM
    split
    · rename_i h
      refine ⟨h, ?_⟩
      have e : (pairsM k + 1 + 1) * (pairsM k + 1 + 2) = (pairsM k + 1) * (pairsM k + 2) + 2 * pairsM k + 4 := by grind
      omega
    · rename_i h
      exact ⟨by omega, by omega⟩

theorem pairs_mono {p q : Nat} (h : p ≤ q) : p * (p + 1) ≤ q * (q + 1) := Nat.mul_le_mul h (by omega)

theorem pairsM_eq {p k : Nat} (h1 : p * (p + 1) ≤ k) (h2 : k < (p + 1) * (p + 2)) : pairsM k = p := by
  obtain ⟨g1, g2⟩ := pairsM_spec k
  rcases Nat.lt_trichotomy (pairsM k) p with h | h | h
  · have := pairs_mono (p := pairsM k + 1) (q := p) h
    have e : (pairsM k + 1) * (pairsM k + 1 + 1) = (pairsM k + 1) * (pairsM k + 2) := rfl
    omega
  · exact h
  · have := pairs_mono (p := p + 1) (q := pairsM k) h
    have e : (p + 1) * (p + 1 + 1) = (p + 1) * (p + 2) := rfl
    omega

/-- The point behind p pairs of legs, f steps of the next leg and g of the one behind it. -/
def spQ (p : Nat) (f g : Int) : Int × Int :=
  if p % 2 = 0 then (-((p / 2 : Nat) : Int) + f, -((p / 2 : Nat) : Int) + g) else ((((p + 1) / 2 : Nat) : Int) - f, (((p + 1) / 2 : Nat) : Int) - g)

def stM (k : Nat) : Nat := k - pairsM k * (pairsM k + 1)
def fiM (k : Nat) : Nat := min (stM k) (pairsM k + 1)
def spM (k : Nat) : Int × Int := spQ (pairsM k) (fiM k) ((stM k - fiM k : Nat) : Int)

theorem sp_even {h k : Nat} (s : Nat) (hk : k = 4 * (h * h) + 2 * h + s) (hs : s ≤ 4 * h + 1) :
    spM k = if s ≤ 2 * h + 1 then (-(h : Int) + s, -(h : Int)) else ((h : Int) + 1, (s : Int) - 3 * h - 1) := by
  have e1 : 2 * h * (2 * h + 1) = 4 * (h * h) + 2 * h := by grind
  have e2 : (2 * h + 1) * (2 * h + 2) = 4 * (h * h) + 6 * h + 2 := by grind
  have hp : pairsM k = 2 * h := pairsM_eq (by omega) (by omega)
  have hst : stM k = s := by unfold stM; rw [hp]; omega
  unfold spM fiM spQ
  rw [hst, hp]
  have m : (2 * h) % 2 = 0 := by omega
  have d : (2 * h) / 2 = h := by omega
  rw [if_pos m, d]
  split
  · have : min s (2 * h + 1) = s := by omega
    rw [this]; simp
  · have : min s (2 * h + 1) = 2 * h + 1 := by omega
    rw [this]; refine Prod.ext ?_ ?_ <;> simp <;> omega

theorem sp_odd {h k : Nat} (s : Nat) (hk : k = 4 * (h * h) + 6 * h + 2 + s) (hs : s ≤ 4 * h + 3) :
    spM k = if s ≤ 2 * h + 2 then ((h : Int) + 1 - s, (h : Int) + 1) else (-(h : Int) - 1, 3 * (h : Int) + 3 - s) := by
  have e1 : (2 * h + 1) * (2 * h + 1 + 1) = 4 * (h * h) + 6 * h + 2 := by grind
  have e2 : (2 * h + 1 + 1) * (2 * h + 1 + 2) = 4 * (h * h) + 10 * h + 6 := by grind
  have hp : pairsM k = 2 * h + 1 := pairsM_eq (by omega) (by omega)
  have hst : stM k = s := by unfold stM; rw [hp]; omega
  unfold spM fiM spQ
  rw [hst, hp]
  have m : ¬ ((2 * h + 1) % 2 = 0) := by omega
  have d : (2 * h + 1 + 1) / 2 = h + 1 := by omega
  rw [if_neg m, d]
  split
  · have : min s (2 * h + 1 + 1) = s := by omega
    rw [this]; simp
  · have : min s (2 * h + 1 + 1) = 2 * h + 2 := by omega
    rw [this]; refine Prod.ext ?_ ?_ <;> simp <;> omega

/-- Each number is of the one form or of the other. -/
theorem sp_forms (k : Nat) : (∃ h s, k = 4 * (h * h) + 2 * h + s ∧ s ≤ 4 * h + 1) ∨ (∃ h s, k = 4 * (h * h) + 6 * h + 2 + s ∧ s ≤ 4 * h + 3) := by
  obtain ⟨g1, g2⟩ := pairsM_spec k
  by_cases m : pairsM k % 2 = 0
  · left
    obtain ⟨h, e⟩ : ∃ h, pairsM k = 2 * h := ⟨pairsM k / 2, by omega⟩
    rw [e] at g1 g2
    have e1 : 2 * h * (2 * h + 1) = 4 * (h * h) + 2 * h := by grind
    have e2 : (2 * h + 1) * (2 * h + 2) = 4 * (h * h) + 6 * h + 2 := by grind
    exact ⟨h, k - 2 * h * (2 * h + 1), by omega, by omega⟩
  · right
    obtain ⟨h, e⟩ : ∃ h, pairsM k = 2 * h + 1 := ⟨pairsM k / 2, by omega⟩
    rw [e] at g1 g2
    have e1 : (2 * h + 1) * (2 * h + 1 + 1) = 4 * (h * h) + 6 * h + 2 := by grind
    have e2 : (2 * h + 1 + 1) * (2 * h + 1 + 2) = 4 * (h * h) + 10 * h + 6 := by grind
    exact ⟨h, k - (2 * h + 1) * (2 * h + 1 + 1), by omega, by omega⟩

/-- The number of a point, by its ring r. -/
def numR (r x y : Int) : Int :=
  if x = r ∧ y > -r then 4 * r * r - 3 * r + y else if y = r then 4 * r * r - r - x else if x = -r then 4 * r * r + r - y else 4 * r * r + 3 * r + x

def ringM (x y : Int) : Int := max (max (max x (-x)) y) (-y)
def numM (x y : Int) : Int := numR (ringM x y) x y

theorem numM_at {r x y : Int} (h : ringM x y = r) : numM x y = numR r x y := by unfold numM; rw [h]

theorem num_sp (k : Nat) : numM (spM k).1 (spM k).2 = k := by
  rcases sp_forms k with ⟨h, s, hk, hs⟩ | ⟨h, s, hk, hs⟩
  · rw [sp_even s hk hs]
    have e1 : (4 : Int) * ((h : Int) + 1) * ((h : Int) + 1) = 4 * ((h * h : Nat) : Int) + 8 * h + 4 := by
      have : ((h * h : Nat) : Int) = (h : Int) * h := by simp
      rw [this]; grind
    have e0 : (4 : Int) * (h : Int) * (h : Int) = 4 * ((h * h : Nat) : Int) := by
      have : ((h * h : Nat) : Int) = (h : Int) * h := by simp
      rw [this]; grind
    split
    · by_cases h2 : s ≤ 2 * h
      · rw [numM_at (r := h) (by simp only [ringM]; omega)]
        unfold numR; rw [e0]
        split
        · omega
        · split
          · omega
          · split <;> omega
      · rw [numM_at (r := (h : Int) + 1) (by simp only [ringM]; omega)]
        unfold numR; rw [e1]
        split
        · omega
        · omega
    · rw [numM_at (r := (h : Int) + 1) (by simp only [ringM]; omega)]
      unfold numR; rw [e1]
      split
      · omega
      · omega
  · rw [sp_odd s hk hs]
    have e1 : (4 : Int) * ((h : Int) + 1) * ((h : Int) + 1) = 4 * ((h * h : Nat) : Int) + 8 * h + 4 := by
      have : ((h * h : Nat) : Int) = (h : Int) * h := by simp
      rw [this]; grind
    split
    · rw [numM_at (r := (h : Int) + 1) (by simp only [ringM]; omega)]
      unfold numR; rw [e1]
      split
      · omega
      · split <;> omega
    · rw [numM_at (r := (h : Int) + 1) (by simp only [ringM]; omega)]
      unfold numR; rw [e1]
      split
      · omega
      · split
        · omega
        · split <;> omega

theorem sq_cast (r : Int) (h : Nat) (e : r = h) : 4 * r * r = 4 * ((h * h : Nat) : Int) := by
  subst e
  have : ((h * h : Nat) : Int) = (h : Int) * h := by simp
  rw [this]; grind

/-- Each point's number leads to the point. -/
theorem sp_num (x y : Int) : 0 ≤ numM x y ∧ spM (numM x y).toNat = (x, y) := by
  have hr : ∃ r : Nat, ringM x y = r := ⟨(ringM x y).toNat, by unfold ringM; omega⟩
  obtain ⟨r, hr⟩ := hr
  have b1 : x ≤ r ∧ -x ≤ r ∧ y ≤ r ∧ -y ≤ r ∧ (x = r ∨ -x = r ∨ y = r ∨ -y = r) := by unfold ringM at hr; omega
  rw [numM_at hr]
  obtain ⟨b1, b2, b3, b4, b5⟩ := b1
  have e0 := sq_cast (r : Int) r rfl
  rcases Nat.eq_zero_or_pos r with h0 | h0
  · subst h0
    have hx : x = 0 := by omega
    have hy : y = 0 := by omega
    subst hx hy
    exact ⟨by decide, by decide⟩
  · obtain ⟨h, rfl⟩ : ∃ h, r = h + 1 := ⟨r - 1, by omega⟩
    have e2 : (h + 1) * (h + 1) = h * h + 2 * h + 1 := by grind
    unfold numR
    rw [e0]
    split
    · rename_i c
      by_cases hy : y = (h : Int) + 1
      · have : (4 * (((h + 1) * (h + 1) : Nat) : Int) - 3 * ((h + 1 : Nat) : Int) + y).toNat = 4 * (h * h) + 6 * h + 2 + 0 := by omega
        refine ⟨by omega, ?_⟩
        rw [this, sp_odd 0 rfl (by omega), if_pos (by omega)]
        refine Prod.ext ?_ ?_ <;> simp <;> omega
      · obtain ⟨s, hs⟩ : ∃ s : Nat, (s : Int) = 3 * (h : Int) + 1 + y := ⟨(3 * (h : Int) + 1 + y).toNat, by omega⟩
        have : (4 * (((h + 1) * (h + 1) : Nat) : Int) - 3 * ((h + 1 : Nat) : Int) + y).toNat = 4 * (h * h) + 2 * h + s := by omega
        refine ⟨by omega, ?_⟩
        rw [this, sp_even s rfl (by omega)]
        split
        · refine Prod.ext ?_ ?_ <;> simp <;> omega
        · refine Prod.ext ?_ ?_ <;> simp <;> omega
    · split
      · obtain ⟨s, hs⟩ : ∃ s : Nat, (s : Int) = (h : Int) + 1 - x := ⟨((h : Int) + 1 - x).toNat, by omega⟩
        have : (4 * (((h + 1) * (h + 1) : Nat) : Int) - ((h + 1 : Nat) : Int) - x).toNat = 4 * (h * h) + 6 * h + 2 + s := by omega
        refine ⟨by omega, ?_⟩
        rw [this, sp_odd s rfl (by omega), if_pos (by omega)]
        refine Prod.ext ?_ ?_ <;> simp <;> omega
      · split
        · by_cases hy : y = -((h : Int) + 1)
          · have : (4 * (((h + 1) * (h + 1) : Nat) : Int) + ((h + 1 : Nat) : Int) - y).toNat = 4 * ((h + 1) * (h + 1)) + 2 * (h + 1) + 0 := by omega
            refine ⟨by omega, ?_⟩
            rw [this, sp_even (h := h + 1) 0 rfl (by omega), if_pos (by omega)]
            refine Prod.ext ?_ ?_ <;> simp <;> omega
          · obtain ⟨s, hs⟩ : ∃ s : Nat, (s : Int) = 3 * (h : Int) + 3 - y := ⟨(3 * (h : Int) + 3 - y).toNat, by omega⟩
            have : (4 * (((h + 1) * (h + 1) : Nat) : Int) + ((h + 1 : Nat) : Int) - y).toNat = 4 * (h * h) + 6 * h + 2 + s := by omega
            refine ⟨by omega, ?_⟩
            rw [this, sp_odd s rfl (by omega), if_neg (by omega)]
            refine Prod.ext ?_ ?_ <;> simp <;> omega
        · obtain ⟨s, hs⟩ : ∃ s : Nat, (s : Int) = (h : Int) + 1 + x := ⟨((h : Int) + 1 + x).toNat, by omega⟩
          have : (4 * (((h + 1) * (h + 1) : Nat) : Int) + 3 * ((h + 1 : Nat) : Int) + x).toNat = 4 * ((h + 1) * (h + 1)) + 2 * (h + 1) + s := by omega
          refine ⟨by omega, ?_⟩
          rw [this, sp_even (h := h + 1) s rfl (by omega), if_pos (by omega)]
          refine Prod.ext ?_ ?_ <;> simp <;> omega

/-- The square of a distance. -/
def apM (p q : Int × Int) : Int := (p.1 - q.1) * (p.1 - q.1) + (p.2 - q.2) * (p.2 - q.2)

theorem apM_one {p q : Int × Int} (h : (p.1 = q.1 ∧ (p.2 - q.2 = 1 ∨ p.2 - q.2 = -1)) ∨ (p.2 = q.2 ∧ (p.1 - q.1 = 1 ∨ p.1 - q.1 = -1))) : apM p q = 1 := by
  unfold apM
  rcases h with ⟨h, h' | h'⟩ | ⟨h, h' | h'⟩ <;> rw [h, h', Int.sub_self] <;> rfl

/-- One step on is one apart. -/
theorem sp_next (k : Nat) : apM (spM k) (spM (k + 1)) = 1 := by
  apply apM_one
  rcases sp_forms k with ⟨h, s, hk, hs⟩ | ⟨h, s, hk, hs⟩
  · rw [sp_even s hk hs]
    by_cases h2 : s = 4 * h + 1
    · have := sp_odd (h := h) (k := k + 1) 0 (by omega) (by omega)
      rw [if_pos (by omega)] at this
      rw [this]
      split <;> simp <;> omega
    · rw [sp_even (h := h) (k := k + 1) (s + 1) (by omega) (by omega)]
      split <;> split <;> simp <;> omega
  · rw [sp_odd s hk hs]
    by_cases h2 : s = 4 * h + 3
    · have e2 : (h + 1) * (h + 1) = h * h + 2 * h + 1 := by grind
      have := sp_even (h := h + 1) (k := k + 1) 0 (by omega) (by omega)
      rw [if_pos (by omega)] at this
      rw [this]
      split <;> simp <;> omega
    · rw [sp_odd (h := h) (k := k + 1) (s + 1) (by omega) (by omega)]
      split <;> split <;> simp <;> omega
end Go.Proofs.YtbebnjeamlmclaaGreat
