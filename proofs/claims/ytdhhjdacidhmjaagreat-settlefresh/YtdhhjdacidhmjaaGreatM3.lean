/- Own texts, joined: SpiralMath, PlaneKit, PlaneShelf, PlaneSpiral, PlaneSpiral2, PlaneSpiral3, PlaneSort, PlaneSort2. -/
import Derived.Test.YtdhhjdacidhmjaaGreatM2
import Derived.Test.YtdhhjdacidhmjaaGreatProg
import Derived.WalkKit
import Derived.Deep.OwnRows
import Derived.Deep.QuietTactic
import Derived.BigQuiet
import Derived.Deep.LoopGhost
import Derived.Below
import Derived.WalkLawsBesides
import Derived.Shelf.SlSorted.Search
import Derived.Shelf.Small.Wraps
import Derived.Shelf.Slices.Clone
import Derived.Shelf.SlSortCmp.Insertion1
import Derived.Shelf.Small.Bits
import Derived.Deep.RegionHeld3
import Derived.Deep.Light

/- The spiral: plain mathematics. No program here. -/
namespace Go.Proofs.YtdhhjdacidhmjaaGreat

/-- How many whole pairs of legs lie within k steps. -/
def pairsM : Nat → Nat
  | 0 => 0
  | k + 1 => if (pairsM k + 1) * (pairsM k + 2) ≤ k + 1 then pairsM k + 1 else pairsM k

theorem pairsM_spec (k : Nat) : pairsM k * (pairsM k + 1) ≤ k ∧ k < (pairsM k + 1) * (pairsM k + 2) := by
  induction k with
  | zero => simp [pairsM]
  | succ k ih =>
    unfold pairsM
    split
    · rename_i h
      refine ⟨h, ?_⟩
      have e : (pairsM k + 1 + 1) * (pairsM k + 1 + 2) = (pairsM k + 1) * (pairsM k + 2) + 2 * pairsM k + 4 := by grind
      omega
    · rename_i h
      exact ⟨by omega, by omega⟩

theorem pairs_mono {p q : Nat} (h : p ≤ q) : p * (p + 1) ≤ q * (q + 1) := Nat.mul_le_mul h (by omega)

theorem pairsM_eq {p k : Nat} (h1 : p * (p + 1) ≤ k) (h2 : k < (p + 1) * (p + 2)) : pairsM k = p := by
  obtain ⟨g1, g2⟩ := pairsM_spec k
  rcases Nat.lt_trichotomy (pairsM k) p with h | h | h
  · have := pairs_mono (p := pairsM k + 1) (q := p) h
    have e : (pairsM k + 1) * (pairsM k + 1 + 1) = (pairsM k + 1) * (pairsM k + 2) := rfl
    omega
  · exact h
  · have := pairs_mono (p := p + 1) (q := pairsM k) h
    have e : (p + 1) * (p + 1 + 1) = (p + 1) * (p + 2) := rfl
    omega

/-- The point behind p pairs of legs, f steps of the next leg and g of the one behind it. -/
def spQ (p : Nat) (f g : Int) : Int × Int :=
  if p % 2 = 0 then (-((p / 2 : Nat) : Int) + f, -((p / 2 : Nat) : Int) + g) else ((((p + 1) / 2 : Nat) : Int) - f, (((p + 1) / 2 : Nat) : Int) - g)

def stM (k : Nat) : Nat := k - pairsM k * (pairsM k + 1)
def fiM (k : Nat) : Nat := min (stM k) (pairsM k + 1)
def spM (k : Nat) : Int × Int := spQ (pairsM k) (fiM k) ((stM k - fiM k : Nat) : Int)

theorem sp_even {h k : Nat} (s : Nat) (hk : k = 4 * (h * h) + 2 * h + s) (hs : s ≤ 4 * h + 1) :
    spM k = if s ≤ 2 * h + 1 then (-(h : Int) + s, -(h : Int)) else ((h : Int) + 1, (s : Int) - 3 * h - 1) := by
  have e1 : 2 * h * (2 * h + 1) = 4 * (h * h) + 2 * h := by grind
  have e2 : (2 * h + 1) * (2 * h + 2) = 4 * (h * h) + 6 * h + 2 := by grind
  have hp : pairsM k = 2 * h := pairsM_eq (by omega) (by omega)
  have hst : stM k = s := by unfold stM; rw [hp]; omega
  unfold spM fiM spQ
  rw [hst, hp]
  have m : (2 * h) % 2 = 0 := by omega
  have d : (2 * h) / 2 = h := by omega
  rw [if_pos m, d]
  split
  · have : min s (2 * h + 1) = s := by omega
    rw [this]; simp
  · have : min s (2 * h + 1) = 2 * h + 1 := by omega
    rw [this]; refine Prod.ext ?_ ?_ <;> simp <;> omega

theorem sp_odd {h k : Nat} (s : Nat) (hk : k = 4 * (h * h) + 6 * h + 2 + s) (hs : s ≤ 4 * h + 3) :
    spM k = if s ≤ 2 * h + 2 then ((h : Int) + 1 - s, (h : Int) + 1) else (-(h : Int) - 1, 3 * (h : Int) + 3 - s) := by
  have e1 : (2 * h + 1) * (2 * h + 1 + 1) = 4 * (h * h) + 6 * h + 2 := by grind
  have e2 : (2 * h + 1 + 1) * (2 * h + 1 + 2) = 4 * (h * h) + 10 * h + 6 := by grind
  have hp : pairsM k = 2 * h + 1 := pairsM_eq (by omega) (by omega)
  have hst : stM k = s := by unfold stM; rw [hp]; omega
  unfold spM fiM spQ
  rw [hst, hp]
  have m : ¬ ((2 * h + 1) % 2 = 0) := by omega
  have d : (2 * h + 1 + 1) / 2 = h + 1 := by omega
  rw [if_neg m, d]
  split
  · have : min s (2 * h + 1 + 1) = s := by omega
    rw [this]; simp
  · have : min s (2 * h + 1 + 1) = 2 * h + 2 := by omega
    rw [this]; refine Prod.ext ?_ ?_ <;> simp <;> omega

/-- Each number is of the one form or of the other. -/
theorem sp_forms (k : Nat) : (∃ h s, k = 4 * (h * h) + 2 * h + s ∧ s ≤ 4 * h + 1) ∨ (∃ h s, k = 4 * (h * h) + 6 * h + 2 + s ∧ s ≤ 4 * h + 3) := by
  obtain ⟨g1, g2⟩ := pairsM_spec k
  by_cases m : pairsM k % 2 = 0
  · left
    obtain ⟨h, e⟩ : ∃ h, pairsM k = 2 * h := ⟨pairsM k / 2, by omega⟩
    rw [e] at g1 g2
    have e1 : 2 * h * (2 * h + 1) = 4 * (h * h) + 2 * h := by grind
    have e2 : (2 * h + 1) * (2 * h + 2) = 4 * (h * h) + 6 * h + 2 := by grind
    exact ⟨h, k - 2 * h * (2 * h + 1), by omega, by omega⟩
  · right
    obtain ⟨h, e⟩ : ∃ h, pairsM k = 2 * h + 1 := ⟨pairsM k / 2, by omega⟩
    rw [e] at g1 g2
    have e1 : (2 * h + 1) * (2 * h + 1 + 1) = 4 * (h * h) + 6 * h + 2 := by grind
    have e2 : (2 * h + 1 + 1) * (2 * h + 1 + 2) = 4 * (h * h) + 10 * h + 6 := by grind
    exact ⟨h, k - (2 * h + 1) * (2 * h + 1 + 1), by omega, by omega⟩

/-- The number of a point, by its ring r. -/
def numR (r x y : Int) : Int :=
  if x = r ∧ y > -r then 4 * r * r - 3 * r + y else if y = r then 4 * r * r - r - x else if x = -r then 4 * r * r + r - y else 4 * r * r + 3 * r + x

def ringM (x y : Int) : Int := max (max (max x (-x)) y) (-y)
def numM (x y : Int) : Int := numR (ringM x y) x y

theorem numM_at {r x y : Int} (h : ringM x y = r) : numM x y = numR r x y := by unfold numM; rw [h]

theorem num_sp (k : Nat) : numM (spM k).1 (spM k).2 = k := by
  rcases sp_forms k with ⟨h, s, hk, hs⟩ | ⟨h, s, hk, hs⟩
  · rw [sp_even s hk hs]
    have e1 : (4 : Int) * ((h : Int) + 1) * ((h : Int) + 1) = 4 * ((h * h : Nat) : Int) + 8 * h + 4 := by
      have : ((h * h : Nat) : Int) = (h : Int) * h := by simp
      rw [this]; grind
    have e0 : (4 : Int) * (h : Int) * (h : Int) = 4 * ((h * h : Nat) : Int) := by
      have : ((h * h : Nat) : Int) = (h : Int) * h := by simp
      rw [this]; grind
    split
    · by_cases h2 : s ≤ 2 * h
      · rw [numM_at (r := h) (by simp only [ringM]; omega)]
        unfold numR; rw [e0]
        split
        · omega
        · split
          · omega
          · split <;> omega
      · rw [numM_at (r := (h : Int) + 1) (by simp only [ringM]; omega)]
        unfold numR; rw [e1]
        split
        · omega
        · omega
    · rw [numM_at (r := (h : Int) + 1) (by simp only [ringM]; omega)]
      unfold numR; rw [e1]
      split
      · omega
      · omega
  · rw [sp_odd s hk hs]
    have e1 : (4 : Int) * ((h : Int) + 1) * ((h : Int) + 1) = 4 * ((h * h : Nat) : Int) + 8 * h + 4 := by
      have : ((h * h : Nat) : Int) = (h : Int) * h := by simp
      rw [this]; grind
    split
    · rw [numM_at (r := (h : Int) + 1) (by simp only [ringM]; omega)]
      unfold numR; rw [e1]
      split
      · omega
      · split <;> omega
    · rw [numM_at (r := (h : Int) + 1) (by simp only [ringM]; omega)]
      unfold numR; rw [e1]
      split
      · omega
      · split
        · omega
        · split <;> omega

theorem sq_cast (r : Int) (h : Nat) (e : r = h) : 4 * r * r = 4 * ((h * h : Nat) : Int) := by
  subst e
  have : ((h * h : Nat) : Int) = (h : Int) * h := by simp
  rw [this]; grind

/-- Each point's number leads to the point. -/
theorem sp_num (x y : Int) : 0 ≤ numM x y ∧ spM (numM x y).toNat = (x, y) := by
  have hr : ∃ r : Nat, ringM x y = r := ⟨(ringM x y).toNat, by unfold ringM; omega⟩
  obtain ⟨r, hr⟩ := hr
  have b1 : x ≤ r ∧ -x ≤ r ∧ y ≤ r ∧ -y ≤ r ∧ (x = r ∨ -x = r ∨ y = r ∨ -y = r) := by unfold ringM at hr; omega
  rw [numM_at hr]
  obtain ⟨b1, b2, b3, b4, b5⟩ := b1
  have e0 := sq_cast (r : Int) r rfl
  rcases Nat.eq_zero_or_pos r with h0 | h0
  · subst h0
    have hx : x = 0 := by omega
    have hy : y = 0 := by omega
    subst hx hy
    exact ⟨by decide, by decide⟩
  · obtain ⟨h, rfl⟩ : ∃ h, r = h + 1 := ⟨r - 1, by omega⟩
    have e2 : (h + 1) * (h + 1) = h * h + 2 * h + 1 := by grind
    unfold numR
    rw [e0]
    split
    · rename_i c
      by_cases hy : y = (h : Int) + 1
      · have : (4 * (((h + 1) * (h + 1) : Nat) : Int) - 3 * ((h + 1 : Nat) : Int) + y).toNat = 4 * (h * h) + 6 * h + 2 + 0 := by omega
        refine ⟨by omega, ?_⟩
        rw [this, sp_odd 0 rfl (by omega), if_pos (by omega)]
        refine Prod.ext ?_ ?_ <;> simp <;> omega
      · obtain ⟨s, hs⟩ : ∃ s : Nat, (s : Int) = 3 * (h : Int) + 1 + y := ⟨(3 * (h : Int) + 1 + y).toNat, by omega⟩
        have : (4 * (((h + 1) * (h + 1) : Nat) : Int) - 3 * ((h + 1 : Nat) : Int) + y).toNat = 4 * (h * h) + 2 * h + s := by omega
        refine ⟨by omega, ?_⟩
        rw [this, sp_even s rfl (by omega)]
        split
        · refine Prod.ext ?_ ?_ <;> simp <;> omega
        · refine Prod.ext ?_ ?_ <;> simp <;> omega
    · split
      · obtain ⟨s, hs⟩ : ∃ s : Nat, (s : Int) = (h : Int) + 1 - x := ⟨((h : Int) + 1 - x).toNat, by omega⟩
        have : (4 * (((h + 1) * (h + 1) : Nat) : Int) - ((h + 1 : Nat) : Int) - x).toNat = 4 * (h * h) + 6 * h + 2 + s := by omega
        refine ⟨by omega, ?_⟩
        rw [this, sp_odd s rfl (by omega), if_pos (by omega)]
        refine Prod.ext ?_ ?_ <;> simp <;> omega
      · split
        · by_cases hy : y = -((h : Int) + 1)
          · have : (4 * (((h + 1) * (h + 1) : Nat) : Int) + ((h + 1 : Nat) : Int) - y).toNat = 4 * ((h + 1) * (h + 1)) + 2 * (h + 1) + 0 := by omega
            refine ⟨by omega, ?_⟩
            rw [this, sp_even (h := h + 1) 0 rfl (by omega), if_pos (by omega)]
            refine Prod.ext ?_ ?_ <;> simp <;> omega
          · obtain ⟨s, hs⟩ : ∃ s : Nat, (s : Int) = 3 * (h : Int) + 3 - y := ⟨(3 * (h : Int) + 3 - y).toNat, by omega⟩
            have : (4 * (((h + 1) * (h + 1) : Nat) : Int) + ((h + 1 : Nat) : Int) - y).toNat = 4 * (h * h) + 6 * h + 2 + s := by omega
            refine ⟨by omega, ?_⟩
            rw [this, sp_odd s rfl (by omega), if_neg (by omega)]
            refine Prod.ext ?_ ?_ <;> simp <;> omega
        · obtain ⟨s, hs⟩ : ∃ s : Nat, (s : Int) = (h : Int) + 1 + x := ⟨((h : Int) + 1 + x).toNat, by omega⟩
          have : (4 * (((h + 1) * (h + 1) : Nat) : Int) + 3 * ((h + 1 : Nat) : Int) + x).toNat = 4 * ((h + 1) * (h + 1)) + 2 * (h + 1) + s := by omega
          refine ⟨by omega, ?_⟩
          rw [this, sp_even (h := h + 1) s rfl (by omega), if_pos (by omega)]
          refine Prod.ext ?_ ?_ <;> simp <;> omega

/-- The square of a distance. -/
def apM (p q : Int × Int) : Int := (p.1 - q.1) * (p.1 - q.1) + (p.2 - q.2) * (p.2 - q.2)

theorem apM_one {p q : Int × Int} (h : (p.1 = q.1 ∧ (p.2 - q.2 = 1 ∨ p.2 - q.2 = -1)) ∨ (p.2 = q.2 ∧ (p.1 - q.1 = 1 ∨ p.1 - q.1 = -1))) : apM p q = 1 := by
  unfold apM
  rcases h with ⟨h, h' | h'⟩ | ⟨h, h' | h'⟩ <;> rw [h, h', Int.sub_self] <;> rfl

/-- One step on is one apart. -/
theorem sp_next (k : Nat) : apM (spM k) (spM (k + 1)) = 1 := by
  apply apM_one
  rcases sp_forms k with ⟨h, s, hk, hs⟩ | ⟨h, s, hk, hs⟩
  · rw [sp_even s hk hs]
    by_cases h2 : s = 4 * h + 1
    · have := sp_odd (h := h) (k := k + 1) 0 (by omega) (by omega)
      rw [if_pos (by omega)] at this
      rw [this]
      split <;> simp <;> omega
    · rw [sp_even (h := h) (k := k + 1) (s + 1) (by omega) (by omega)]
      split <;> split <;> simp <;> omega
  · rw [sp_odd s hk hs]
    by_cases h2 : s = 4 * h + 3
    · have e2 : (h + 1) * (h + 1) = h * h + 2 * h + 1 := by grind
      have := sp_even (h := h + 1) (k := k + 1) 0 (by omega) (by omega)
      rw [if_pos (by omega)] at this
      rw [this]
      split <;> simp <;> omega
    · rw [sp_odd (h := h) (k := k + 1) (s + 1) (by omega) (by omega)]
      split <;> split <;> simp <;> omega
end Go.Proofs.YtdhhjdacidhmjaaGreat

/- Complex numbers of whole parts in the walk: sums, products; conjugate, Apart, Turn. -/
namespace Go.Proofs.YtdhhjdacidhmjaaGreat
open Go.RowKit
set_option maxRecDepth 100000

theorem hideP {p : Prop} (h : p) : Hid p := h

theorem f64_format : FloatKind.f64.format = Ieee.double := rfl

theorem fl_neg {b : Nat} {n : Int} (h : Fl b n) : Fl (Op.negFloat .f64 b) (-n) := by
  obtain ⟨s, m, q, hr, hm, hs, hb⟩ := h
  refine ⟨!s, m, q, ?_, by rw [Int.natAbs_neg]; exact hm, ?_, by rw [Int.natAbs_neg]; exact hb⟩
  · have e1 : Op.negFloat .f64 b % 2 ^ 63 = b % 2 ^ 63 := by
      show (b ^^^ 2 ^ 63) % 2 ^ 63 = _
      rw [Nat.xor_mod_two_pow, Nat.mod_self, Nat.xor_zero]
    have e2 : Op.negFloat .f64 b / 2 ^ 63 % 2 = (b / 2 ^ 63 + 1) % 2 := by
      show (b ^^^ 2 ^ 63) / 2 ^ 63 % 2 = _
      rw [Nat.xor_div_two_pow, Nat.div_self (Nat.two_pow_pos 63)]
      have := Nat.xor_mod_two_pow (a := b / 2 ^ 63) (b := 1) (n := 1)
      rw [Nat.pow_one] at this
      rw [this]
      rcases Nat.mod_two_eq_zero_or_one (b / 2 ^ 63) with h | h
      · rw [h]; show 1 = _; omega
      · rw [h]; show 0 = _; omega
    have e3 : (Op.negFloat .f64 b / 2 ^ 63 % 2 == 1) = !(b / 2 ^ 63 % 2 == 1) := by
      rw [e2]
      rcases Nat.mod_two_eq_zero_or_one (b / 2 ^ 63) with h | h
      · have : (b / 2 ^ 63 + 1) % 2 = 1 := by omega
        rw [h, this]; rfl
      · have : (b / 2 ^ 63 + 1) % 2 = 0 := by omega
        rw [h, this]; rfl
    have hsw : Ieee.double.signWeight = 2 ^ 63 := rfl
    unfold Ieee.Format.read at hr ⊢
    simp only [hsw, e1, e3] at hr ⊢
    generalize (b / 2 ^ 63 % 2 == 1) = t at hr ⊢
    split at hr
    · rename_i c
      rw [if_pos c]
      injection hr with h1 h2 h3
      rw [h1, h2, h3]
    · rename_i c
      rw [if_neg c]
      split at hr
      · rename_i c
        rw [if_pos c]
        injection hr with h1 h2 h3
        rw [h1, h2, h3]
      · split at hr <;> cases hr
  · intro h0
    have h' : n ≠ 0 := by omega
    rw [hs h']
    by_cases hn : n < 0
    · have : ¬ (-n < 0) := by omega
      rw [decide_eq_true hn, decide_eq_false this]; rfl
    · have : (-n < 0) := by omega
      rw [decide_eq_false hn, decide_eq_true this]; rfl

section
variable {P : Program} {a b c d : Nat} {x y u v : Int}

theorem c_add (ha : Fl a x) (hb : Fl b y) (hc : Fl c u) (hd : Fl d v) (h1 : (x + u).natAbs < 2 ^ 53) (h2 : (y + v).natAbs < 2 ^ 53) (t : TypeId) :
    ∃ r s, (∀ w, (binOp .add t (.complex .f64 a b) (.complex .f64 c d)).run P w = .ok (.complex .f64 r s) w) ∧ Fl r (x + u) ∧ Fl s (y + v) := by
  obtain ⟨r, hr, fr⟩ := fl_add ha hc h1
  obtain ⟨s, hs, fs⟩ := fl_add hb hd h2
  refine ⟨r, s, fun w => run_complex_sum w .add (.inl rfl) t .f64 a b c d r s ?_, fr, fs⟩
  simp [cSumBits, floatBits, f64_format, hr, hs]

theorem c_sub (ha : Fl a x) (hb : Fl b y) (hc : Fl c u) (hd : Fl d v) (h1 : (x - u).natAbs < 2 ^ 53) (h2 : (y - v).natAbs < 2 ^ 53) (t : TypeId) :
    ∃ r s, (∀ w, (binOp .sub t (.complex .f64 a b) (.complex .f64 c d)).run P w = .ok (.complex .f64 r s) w) ∧ Fl r (x - u) ∧ Fl s (y - v) := by
  obtain ⟨r, hr, fr⟩ := fl_sub ha hc h1
  obtain ⟨s, hs, fs⟩ := fl_sub hb hd h2
  refine ⟨r, s, fun w => run_complex_sum w .sub (.inr rfl) t .f64 a b c d r s ?_, fr, fs⟩
  simp [cSumBits, floatBits, f64_format, hr, hs]

theorem c_mul (ha : Fl a x) (hb : Fl b y) (hc : Fl c u) (hd : Fl d v) (h1 : (x * u).natAbs < 2 ^ 53) (h2 : (y * v).natAbs < 2 ^ 53) (h3 : (x * v).natAbs < 2 ^ 53) (h4 : (y * u).natAbs < 2 ^ 53)
    (h5 : (x * u - y * v).natAbs < 2 ^ 53) (h6 : (x * v + y * u).natAbs < 2 ^ 53) (t : TypeId) :
    ∃ r s, (∀ w, (binOp .mul t (.complex .f64 a b) (.complex .f64 c d)).run P w = .ok (.complex .f64 r s) w) ∧ Fl r (x * u - y * v) ∧ Fl s (x * v + y * u) := by
  obtain ⟨p, hp, fp⟩ := fl_mul ha hc h1
  obtain ⟨q, hq, fq⟩ := fl_mul hb hd h2
  obtain ⟨p', hp', fp'⟩ := fl_mul ha hd h3
  obtain ⟨q', hq', fq'⟩ := fl_mul hb hc h4
  obtain ⟨r, hr, fr⟩ := fl_sub fp fq h5
  obtain ⟨s, hs, fs⟩ := fl_add fp' fq' h6
  refine ⟨r, s, fun w => run_complex_mul w t a b c d r s ?_, fr, fs⟩
  simp [cMulBits, floatBits, f64_format, hp, hq, hp', hq', hr, hs]

/-- A square of a length: its real part may be 2^53 itself. -/
theorem c_square (ha : Fl a x) (hb : Fl b y) (hc : Fl c x) (hd : Fl d (-y)) (hx : x.natAbs ≤ 2 ^ 26) (hy : y.natAbs ≤ 2 ^ 26) (t : TypeId) :
    ∃ r s, (∀ w, (binOp .mul t (.complex .f64 a b) (.complex .f64 c d)).run P w = .ok (.complex .f64 r s) w) ∧ (Ieee.double.read r).toInt .zero = some (x * x + y * y) := by
  have hxx : (x * x).natAbs ≤ 2 ^ 52 := by rw [Int.natAbs_mul]; exact Nat.le_trans (Nat.mul_le_mul hx hx) (by decide)
  have hyy : (y * -y).natAbs ≤ 2 ^ 52 := by rw [Int.natAbs_mul, Int.natAbs_neg]; exact Nat.le_trans (Nat.mul_le_mul hy hy) (by decide)
  have hxy : (x * -y).natAbs ≤ 2 ^ 52 := by rw [Int.natAbs_mul, Int.natAbs_neg]; exact Nat.le_trans (Nat.mul_le_mul hx hy) (by decide)
  have hyx : (y * x).natAbs ≤ 2 ^ 52 := by rw [Int.natAbs_mul]; exact Nat.le_trans (Nat.mul_le_mul hy hx) (by decide)
  have lt : (2 : Nat) ^ 52 < 2 ^ 53 := by decide
  obtain ⟨p, hp, fp⟩ := fl_mul ha hc (by omega)
  obtain ⟨q, hq, fq⟩ := fl_mul hb hd (by omega)
  obtain ⟨p', hp', fp'⟩ := fl_mul ha hd (by omega)
  obtain ⟨q', hq', fq'⟩ := fl_mul hb hc (by omega)
  have e0 : x * -y + y * x = 0 := by grind
  obtain ⟨s, hs, _⟩ := fl_add fp' fq' (by rw [e0]; decide)
  obtain ⟨r, hr, tr⟩ := fl_sub_to fp fq (by omega)
  refine ⟨r, s, fun w => run_complex_mul w t a b c d r s ?_, ?_⟩
  · simp [cMulBits, floatBits, f64_format, hp, hq, hp', hq', hr, hs]
  · rw [tr]; congr 1; grind
end

theorem conj_any (a b : Nat) (w : World) : Calls Tryz.prog 106 #[.complex .f64 a b] w fun e w' => e = .returned (.complex .f64 a (Op.negFloat .f64 b)) ∧ w' = w := by
  have hn : ∀ w, (Op.unary .neg (.float .f64 b)).run Tryz.prog w = .ok (.float .f64 (Op.negFloat .f64 b)) w := fun _ => rfl
  generalize Op.negFloat .f64 b = nb at *
  go_enter Tryz.func106, Tryz.ntmps106
  go_wp2
  go_ret
  exact ⟨rfl, rfl⟩

theorem apart_any {a b c d : Nat} {x y u v : Int} (ha : Fl a x) (hb : Fl b y) (hc : Fl c u) (hd : Fl d v) (h1 : (x - u).natAbs ≤ 2 ^ 26) (h2 : (y - v).natAbs ≤ 2 ^ 26) (w : World) :
    Calls Tryz.prog 97 #[.complex .f64 a b, .complex .f64 c d] w fun e w' => e = .returned (.int .i64 (apM (x, y) (u, v))) ∧ w' = w := by
  have lt : (2 : Nat) ^ 26 < 2 ^ 53 := by decide
  obtain ⟨r, s, hrun, fr, fs⟩ := c_sub (P := Tryz.prog) ha hb hc hd (by omega) (by omega) 175
  obtain ⟨r', s', hrun', ht⟩ := c_square (P := Tryz.prog) fr fs fr (fl_neg fs) h1 h2 175
  have hcon := conj_any r s w
  have hxx : ((x - u) * (x - u)).natAbs ≤ 2 ^ 52 := by rw [Int.natAbs_mul]; exact Nat.le_trans (Nat.mul_le_mul h1 h1) (by decide)
  have hyy : ((y - v) * (y - v)).natAbs ≤ 2 ^ 52 := by rw [Int.natAbs_mul]; exact Nat.le_trans (Nat.mul_le_mul h2 h2) (by decide)
  have hcv : ∀ w, (convert 183 3 (.float .f64 r')).run Tryz.prog w = .ok (.int .i64 (apM (x, y) (u, v))) w := fun w => by
    refine run_convert_float_int w 183 3 .f64 .i64 r' _ (by kernel_rfl) (by kernel_rfl) ?_
    unfold floatToIntVal
    show (match (Ieee.double.read r').toInt .zero with | some n => if IntKind.i64.min ≤ n ∧ n ≤ IntKind.i64.max then some n else none | none => none) = _
    rw [ht]
    have m1 : IntKind.i64.min = -9223372036854775808 := by decide
    have m2 : IntKind.i64.max = 9223372036854775807 := by decide
    have := Int.natAbs_mul_self (a := x - u)
    simp only [m1, m2, apM]
    rw [if_pos]
    omega
  generalize apM (x, y) (u, v) = ap at *
  clear ha hb hc hd h1 h2 lt fr fs ht hxx hyy
  go_enter Tryz.func97, Tryz.ntmps97
  go_wp2_with (go_at_call 106; refine hcon.mono ?_; rintro e w' ⟨rfl, rfl⟩)
  go_ret
  exact ⟨rfl, rfl⟩

/-- A quarter to the left, so many times. -/
def turnN : Nat → Int × Int → Int × Int
  | 0, p => p
  | n + 1, p => turnN n (-p.2, p.1)

theorem and_three (q : Int) : bits .and .i64 q 3 = ((q % 4).toNat : Int) := by
  show IntKind.i64.wrap (((BitVec.ofInt 64 q &&& BitVec.ofInt 64 3).toNat : Nat) : Int) = _
  rw [BitVec.toNat_and, BitVec.toNat_ofInt]
  have e : (BitVec.ofInt 64 3).toNat = 2 ^ 2 - 1 := by decide
  rw [e, Nat.and_two_pow_sub_one_eq_mod, IntKind.wrap_i64]
  omega

theorem turn_one {P : Program} {a b : Nat} {x y : Int} (ha : Fl a x) (hb : Fl b y) (t : TypeId) :
    ∃ r s, (∀ w, (binOp .mul t (.complex .f64 a b) (.complex .f64 0 4607182418800017408)).run P w = .ok (.complex .f64 r s) w) ∧ Fl r (-y) ∧ Fl s x := by
  have h1 := fl_lt ha
  have h2 := fl_lt hb
  obtain ⟨r, s, h, fr, fs⟩ := c_mul (P := P) ha hb fl_zero fl_one (by omega) (by omega) (by omega) (by omega) (by omega) (by omega) t
  refine ⟨r, s, h, ?_, ?_⟩
  · have e : x * 0 - y * 1 = -y := by omega
    rwa [e] at fr
  · have e : x * 1 + y * 0 = x := by omega
    rwa [e] at fs

theorem turn_last {P : Program} {a b : Nat} {x y : Int} (ha : Fl a x) (hb : Fl b y) (t : TypeId) :
    ∃ r s, (∀ w, (binOp .add t (.complex .f64 a b) (.complex .f64 0 0)).run P w = .ok (.complex .f64 r s) w) ∧ Fl r x ∧ Fl s y := by
  have h1 := fl_lt ha
  have h2 := fl_lt hb
  obtain ⟨r, s, h, fr, fs⟩ := c_add (P := P) ha hb fl_zero fl_zero (by omega) (by omega) t
  refine ⟨r, s, h, ?_, ?_⟩
  · rwa [Int.add_zero] at fr
  · rwa [Int.add_zero] at fs

theorem turn_any {a b : Nat} {x y : Int} (q : Int) (ha : Fl a x) (hb : Fl b y) (w : World) :
    Calls Tryz.prog 95 #[.complex .f64 a b, .int .i64 q] w fun e w' => ∃ r s, e = .returned (.complex .f64 r s) ∧ Fl r (turnN (q % 4).toNat (x, y)).1 ∧ Fl s (turnN (q % 4).toNat (x, y)).2 ∧ w' = w := by
  have hand := and_three q
  have hn4 : (q % 4).toNat < 4 := by omega
  generalize (q % 4).toNat = n at *
  go_enter Tryz.func95, Tryz.ntmps95
  go_wp2
  go_loopg [0, 7] 4 (fun g z k wr => ∃ (c d i : Nat) (u v : Int), z = .complex .f64 c d ∧ k = .int .i64 i ∧ wr = w ∧ g = 4 - i ∧ i ≤ n ∧ Fl c u ∧ Fl d v ∧ Hid (turnN (n - i) (u, v) = turnN n (x, y)))
  case atStart => exact ⟨a, b, 0, x, y, rfl, rfl, rfl, rfl, Nat.zero_le _, ha, hb, hideP rfl⟩
  case round =>
    obtain ⟨c, d, i, u, v, rfl, rfl, rfl, hg, hi, fc, fd, HT⟩ := hrel
    by_cases hlt : i < n
    · obtain ⟨r, s, hrun, fr, fs⟩ := turn_one (P := Tryz.prog) fc fd 175
      have hz : (i : Int) < (n : Int) := by omega
      go_wp2
      go_roundg (4 - (i + 1))
      case measure => omega
      case rel =>
        refine ⟨r, s, i + 1, -v, u, rfl, by go_num, rfl, by omega, by omega, fr, fs, hideP ?_⟩
        have := HT.out
        rw [← this, show n - i = (n - (i + 1)) + 1 by omega]
        rfl
    · have hz : ¬ (i : Int) < (n : Int) := by omega
      have e : n - i = 0 := by omega
      have := HT.out
      rw [e] at this
      obtain ⟨r, s, hrun, fr, fs⟩ := turn_last (P := Tryz.prog) fc fd 175
      clear fc fd ha hb HT
      go_wp2
      go_ret
      rw [← this]
      exact ⟨r, s, rfl, fr, fs, rfl⟩

end Go.Proofs.YtdhhjdacidhmjaaGreat

/- The library's contracts that package plane's calls lean on, laid at this program's numbers. -/
namespace Go.Proofs.YtdhhjdacidhmjaaGreat
open Go.RowKit Go.Shelf
set_option maxRecDepth 100000

def searchRen : Ren := ⟨fun | 16 => 117 | n => n, fun | 3 => 3 | 4 => 4 | 35 => 135 | 38 => 179 | n => n, fun | n => n⟩
theorem searchL : SlLaysO.n16 Tryz.prog searchRen := {
  mixed := by kernel_rfl
  f16 := Tryz.func117.trans (congrArg some (by kernel_rfl))
  t3 := Tryz.underlying3
  a3 := Tryz.isAgg3
  z3 := Tryz.sizeOf3
  v3 := Tryz.zeroValue3
  t4 := Tryz.underlying4
  a4 := Tryz.isAgg4
  z4 := Tryz.sizeOf4
  v4 := Tryz.zeroValue4
  t35 := Tryz.underlying135
  a35 := Tryz.isAgg135
  z35 := Tryz.sizeOf135
  v35 := Tryz.zeroValue135
  t38 := Tryz.underlying179
  a38 := Tryz.isAgg179
  z38 := Tryz.sizeOf179
  v38 := Tryz.zeroValue179 }

def compareRen : Ren := ⟨fun | 122 => 94 | 215 => 101 | n => n, fun | 3 => 3 | 4 => 4 | n => n, fun | n => n⟩
theorem compareL : Lays.n122 Tryz.prog compareRen := {
  mixed := by kernel_rfl
  f122 := Tryz.func94.trans (congrArg some (by kernel_rfl))
  f215 := Tryz.func101.trans (congrArg some (by kernel_rfl))
  t3 := Tryz.underlying3
  a3 := Tryz.isAgg3
  z3 := Tryz.sizeOf3
  v3 := Tryz.zeroValue3
  t4 := Tryz.underlying4
  a4 := Tryz.isAgg4
  z4 := Tryz.sizeOf4
  v4 := Tryz.zeroValue4 }

def cloneRen : Ren := ⟨fun | 15 => 74 | n => n, fun | 3 => 3 | 4 => 4 | 22 => 30 | n => n, fun | n => n⟩
theorem cloneL : Lays2.n15 Tryz.prog cloneRen := {
  mixed := by kernel_rfl
  f15 := Tryz.func74.trans (congrArg some (by kernel_rfl))
  t3 := Tryz.underlying3
  a3 := Tryz.isAgg3
  z3 := Tryz.sizeOf3
  v3 := Tryz.zeroValue3
  t4 := Tryz.underlying4
  a4 := Tryz.isAgg4
  z4 := Tryz.sizeOf4
  v4 := Tryz.zeroValue4
  t22 := Tryz.underlying30
  a22 := Tryz.isAgg30
  z22 := Tryz.sizeOf30
  v22 := Tryz.zeroValue30
  i3 := by kernel_rfl }

def insRen : Ren := ⟨fun | 20 => 107 | n => n, fun | 0 => 0 | 3 => 3 | 4 => 4 | 22 => 30 | 24 => 3 | 25 => 50 | n => n, fun | n => n⟩
theorem insL : SlLaysF.n20 Tryz.prog insRen := {
  mixed := by kernel_rfl
  f20 := ⟨"slices.insertionSortCmpFunc[int]", rfl, Tryz.func107.trans (congrArg some (by kernel_rfl))⟩
  t0 := Tryz.underlying0
  a0 := Tryz.isAgg0
  z0 := Tryz.sizeOf0
  v0 := Tryz.zeroValue0
  t3 := Tryz.underlying3
  a3 := Tryz.isAgg3
  z3 := Tryz.sizeOf3
  v3 := Tryz.zeroValue3
  t4 := Tryz.underlying4
  a4 := Tryz.isAgg4
  z4 := Tryz.sizeOf4
  v4 := Tryz.zeroValue4
  t22 := Tryz.underlying30
  a22 := Tryz.isAgg30
  z22 := Tryz.sizeOf30
  v22 := Tryz.zeroValue30
  a24 := Tryz.isAgg3
  z24 := Tryz.sizeOf3
  t25 := Tryz.underlying50
  a25 := Tryz.isAgg50
  z25 := Tryz.sizeOf50
  v25 := Tryz.zeroValue50 }
end Go.Proofs.YtdhhjdacidhmjaaGreat

/- Package plane: Spiral. -/
namespace Go.Proofs.YtdhhjdacidhmjaaGreat
open Go.RowKit Go.Shelf Go.Sort
set_option maxRecDepth 100000
set_option maxRecDepth 100000

theorem below_grow (B : Nat) (w : World) (n : Nat) (os : Array Obj) (hB : B ≤ w.heap.size) : Below B w (grow (w.drewN n) os) :=
  ⟨rfl, rfl, rfl, by rw [size_grow]; exact Nat.le_add_right _ _, fun k hk => by rw [heap_grow_old _ _ (by show k < w.heap.size; omega)]; rfl⟩

theorem steps_any (p : Nat) (hp : p ≤ 1048577) (w : World) : Calls Tryz.prog 103 #[.int .i64 p] w fun e w' => e = .returned (.int .i64 ((p * (p + 1) : Nat) : Int)) ∧ w' = w := by
  have hb : p * (p + 1) ≤ 1048577 * 1048578 := Nat.mul_le_mul hp (by omega)
  have h1 : IntKind.i64.wrap ((p : Int) * ((p : Int) + 1)) = ((p * (p + 1) : Nat) : Int) := by
    have e : (p : Int) * ((p : Int) + 1) = ((p * (p + 1) : Nat) : Int) := by simp
    rw [e, IntKind.wrap_i64]; omega
  generalize ((p * (p + 1) : Nat) : Int) = r at *
  clear hb
  go_enter Tryz.func103, Tryz.ntmps103
  go_wp2
  go_ret
  exact ⟨rfl, rfl⟩

theorem within_any (k n blk : Nat) (hn : n < 1048576) (W : World) (hc : W.cell? ⟨blk, 0, none⟩ = some (.int .i64 k)) :
    Calls Tryz.prog 118 #[.int .i64 n, .pointer (some ⟨blk, 0, none⟩)] W fun e w' => e = .returned (.bool (decide (k < (n + 1) * (n + 2)))) ∧ ∃ q, w' = W.drewN q := by
  have hs := fun w => steps_any (n + 1) (by omega) w
  have e1 : ((n + 1 : Nat) : Int) = (n : Int) + 1 := by omega
  rw [e1] at hs
  have e2 : (n + 1) * (n + 1 + 1) = (n + 1) * (n + 2) := rfl
  rw [e2] at hs
  generalize hr : (n + 1) * (n + 2) = r at *
  clear hr e1 e2
  go_enter Tryz.func118, Tryz.ntmps118
  go_wp2_with fail
  go_quiet (exact Calls.quiet_of_same (hs _))
  go_wp2
  go_ret
  exact ⟨rfl, nq, rfl⟩

theorem count_below (m : Nat) : ∀ n, m ≤ n → (List.range n).countP (fun i => decide (i < m)) = m
  | 0, h => by simp; omega
  | n + 1, h => by
    rw [List.range_succ, List.countP_append]
    by_cases e : m = n + 1
    · subst e
      have : (List.range n).countP (fun i => decide (i < n + 1)) = n := by
        have : (List.range n).countP (fun i => decide (i < n + 1)) = (List.range n).length := by
          rw [List.countP_eq_length]
          intro a ha
          have := List.mem_range.1 ha
          exact decide_eq_true (by omega)
        rw [this, List.length_range]
      rw [this]; simp
    · rw [count_below m n (by omega)]
      have : ¬ n < m := by omega
      simp [this]

theorem pairs_lt (k : Nat) (hk : k ≤ 1099511627776) : pairsM k ≤ 1048575 := by
  obtain ⟨h, _⟩ := pairsM_spec k
  by_cases c : pairsM k ≤ 1048575
  · exact c
  · have := pairs_mono (p := 1048576) (q := pairsM k) (by omega)
    omega

theorem pairs_iff (k i : Nat) : k < (i + 1) * (i + 2) ↔ ¬ i < pairsM k := by
  obtain ⟨h1, h2⟩ := pairsM_spec k
  constructor
  · intro h c
    have := pairs_mono (p := i + 1) (q := pairsM k) c
    have e : (i + 1) * (i + 1 + 1) = (i + 1) * (i + 2) := rfl
    omega
  · intro h
    have := pairs_mono (p := pairsM k + 1) (q := i + 1) (by omega)
    have e : (i + 1) * (i + 1 + 1) = (i + 1) * (i + 2) := rfl
    have e' : (pairsM k + 1) * (pairsM k + 1 + 1) = (pairsM k + 1) * (pairsM k + 2) := rfl
    omega

theorem pairs_any (k : Nat) (hk : k ≤ 1099511627776) (w : World) : Calls Tryz.prog 102 #[.int .i64 k] w fun e w' => e = .returned (.int .i64 (pairsM k)) ∧ Below w.heap.size w w' := by
  obtain ⟨wb, hwb⟩ : ∃ wb, wb = w.alloc (.cells #[.int .i64 k] 3) := ⟨_, rfl⟩
  have hcell : wb.cell? ⟨w.heap.size, 0, none⟩ = some (.int .i64 k) := by
    rw [hwb]; exact World.cell?_alloc_at (w := w) #[.int .i64 k] 3 _ 0 rfl
  have hsize : w.heap.size < wb.heap.size := by rw [hwb]; simp
  have hbel : Below w.heap.size w wb := by rw [hwb]; exact (Below.refl _ _).alloc (Nat.le_refl _) _
  have eg : ∀ args w, (callFunc 118 args).run Tryz.prog w = .ok (.enter 118 args) w := enters_of Tryz.func118 (by kernel_rfl) rfl
  have hp := pairs_lt k hk
  have hcon := Any.sort_Search searchL 118 #[.pointer (some ⟨w.heap.size, 0, none⟩)] 1048576 (fun i => decide (k < (i + 1) * (i + 2))) wb eg (by decide)
    (fun m os i hi => (within_any k i w.heap.size hi (grow (wb.drewN m) os) (by rw [cell?_grow _ _ _ hsize]; exact hcell)).mono fun _ _ ⟨he, q, hq⟩ => ⟨he, q, #[], by rw [hq, grow_empty]⟩)
    (fun a b hab _ h => by
      have h1 := (pairs_iff k a).1 (of_decide_eq_true h)
      exact decide_eq_true ((pairs_iff k b).2 (by omega)))
  have ec : (List.range 1048576).countP (fun i => !decide (k < (i + 1) * (i + 2))) = pairsM k := by
    have e : (fun i => !decide (k < (i + 1) * (i + 2))) = (fun i => decide (i < pairsM k)) := by
      funext i
      by_cases c : i < pairsM k
      · have : ¬ k < (i + 1) * (i + 2) := fun h => (pairs_iff k i).1 h c
        rw [decide_eq_true c, decide_eq_false this]; rfl
      · rw [decide_eq_false c, decide_eq_true ((pairs_iff k i).2 c)]; rfl
    rw [e, count_below _ _ (by omega)]
  rw [ec] at hcon
  generalize pairsM k = r at *
  change Calls Tryz.prog 117 #[.int .i64 (1048576 : Int), _] wb _ at hcon
  clear eg ec hcell hsize
  rw [hwb] at hcon
  go_enter Tryz.func102, Tryz.ntmps102
  go_wp2_with fail
  refine hcon.mono ?_
  rintro e w' ⟨rfl, q, os, rfl⟩
  go_wp2
  go_ret
  refine ⟨rfl, ?_⟩
  rw [← hwb]
  exact hbel.trans (below_grow _ _ _ _ hbel.size)

/-- The step of a leg. -/
def dirM (n : Nat) : Int × Int := if n % 4 = 0 then (1, 0) else if n % 4 = 1 then (0, 1) else if n % 4 = 2 then (-1, 0) else (0, -1)

theorem direction_any (n : Nat) (w : World) : Calls Tryz.prog 119 #[.int .i64 n] w fun e w' => ∃ a b, e = .returned (.complex .f64 a b) ∧ Fl a (dirM n).1 ∧ Fl b (dirM n).2 ∧ Below w.heap.size w w' := by
  have hm : n % 4 = 0 ∨ n % 4 = 1 ∨ n % 4 = 2 ∨ n % 4 = 3 := by omega
  have hst : ∀ (a : Addr) (x y : Nat) (m : Mode) (w : World), (store a (.complex .f64 x y) m).run Tryz.prog w = stored Tryz.prog w a (.complex .f64 x y) m := fun a x y m w => run_store _ w a _ m rfl
  rcases hm with h | h | h | h
  · have ht : (n : Int).tmod 4 = 0 := by rw [Int.tmod_eq_emod_of_nonneg (by omega)]; omega
    have hd : dirM n = (1, 0) := by unfold dirM; rw [if_pos h]
    rw [hd]; clear hd
    go_enter Tryz.func119, Tryz.ntmps119
    go_wp2
    go_ret
    exact ⟨_, _, rfl, fl_one, fl_zero, by (repeat first | exact (Below.refl _ _).alloc (Nat.le_refl _) _ | refine Below.setCell ?_ (Nat.le_refl _) _)⟩
  · have ht : (n : Int).tmod 4 = 1 := by rw [Int.tmod_eq_emod_of_nonneg (by omega)]; omega
    have hd : dirM n = (0, 1) := by unfold dirM; rw [if_neg (by omega), if_pos h]
    rw [hd]; clear hd
    go_enter Tryz.func119, Tryz.ntmps119
    go_wp2
    go_ret
    exact ⟨_, _, rfl, fl_zero, fl_one, by (repeat first | exact (Below.refl _ _).alloc (Nat.le_refl _) _ | refine Below.setCell ?_ (Nat.le_refl _) _)⟩
  · have ht : (n : Int).tmod 4 = 2 := by rw [Int.tmod_eq_emod_of_nonneg (by omega)]; omega
    have hd : dirM n = (-1, 0) := by unfold dirM; rw [if_neg (by omega), if_neg (by omega), if_pos h]
    rw [hd]; clear hd
    go_enter Tryz.func119, Tryz.ntmps119
    go_wp2
    go_ret
    exact ⟨_, _, rfl, fl_negone, fl_zero, by (repeat first | exact (Below.refl _ _).alloc (Nat.le_refl _) _ | refine Below.setCell ?_ (Nat.le_refl _) _)⟩
  · have ht : (n : Int).tmod 4 = 3 := by rw [Int.tmod_eq_emod_of_nonneg (by omega)]; omega
    have hd : dirM n = (0, -1) := by unfold dirM; rw [if_neg (by omega), if_neg (by omega), if_neg (by omega)]
    rw [hd]; clear hd
    go_enter Tryz.func119, Tryz.ntmps119
    go_wp2
    go_ret
    exact ⟨_, _, rfl, fl_zero, fl_negone, by (repeat first | exact (Below.refl _ _).alloc (Nat.le_refl _) _ | refine Below.setCell ?_ (Nat.le_refl _) _)⟩

end Go.Proofs.YtdhhjdacidhmjaaGreat

/- Package plane: Spiral, its last steps. -/
namespace Go.Proofs.YtdhhjdacidhmjaaGreat
open Go.RowKit Go.Shelf Go.Sort
set_option maxRecDepth 100000
set_option maxRecDepth 100000

theorem dirM_cases (n : Nat) : dirM n = (1, 0) ∨ dirM n = (0, 1) ∨ dirM n = (-1, 0) ∨ dirM n = (0, -1) := by
  unfold dirM
  split
  · exact .inl rfl
  · split
    · exact .inr (.inl rfl)
    · split
      · exact .inr (.inr (.inl rfl))
      · exact .inr (.inr (.inr rfl))

theorem along_mul {P : Program} {a b c : Nat} {x y s : Int} (hd : (x, y) = ((1 : Int), (0 : Int)) ∨ (x, y) = ((0 : Int), (1 : Int)) ∨ (x, y) = ((-1 : Int), (0 : Int)) ∨ (x, y) = ((0 : Int), (-1 : Int))) (ha : Fl a x) (hb : Fl b y) (hc : Fl c s) (t : TypeId) :
    ∃ r q, (∀ w, (binOp .mul t (.complex .f64 a b) (.complex .f64 c 0)).run P w = .ok (.complex .f64 r q) w) ∧ Fl r (x * s) ∧ Fl q (y * s) := by
  have h1 := fl_lt hc
  have e1 : x * s - y * 0 = x * s := by omega
  have e2 : x * 0 + y * s = y * s := by omega
  have hxy : (x * s).natAbs < 2 ^ 53 ∧ (y * s).natAbs < 2 ^ 53 := by
    rcases hd with h | h | h | h <;> (injection h with h1 h2; subst h1 h2; constructor <;> omega)
  obtain ⟨r, q, h, fr, fs⟩ := c_mul (P := P) ha hb hc fl_zero hxy.1 (by simp) (by simp) hxy.2 (by rw [e1]; exact hxy.1) (by rw [e2]; exact hxy.2) t
  rw [e1] at fr
  rw [e2] at fs
  exact ⟨r, q, h, fr, fs⟩

theorem fl_conv (n : Int) (hb : n.natAbs < 2 ^ 53) : Fl (floatOfInt .f64 n) n := fl_ofInt n hb

theorem along_any (n s : Nat) (hs : s < 2 ^ 53) (w : World) :
    Calls Tryz.prog 105 #[.int .i64 n, .int .i64 s] w fun e w' => ∃ a b, e = .returned (.complex .f64 a b) ∧ Fl a ((dirM n).1 * s) ∧ Fl b ((dirM n).2 * s) ∧ Below w.heap.size w w' := by
  have hcv := fl_conv (s : Int) (by omega)
  have hcon := direction_any n w
  go_enter Tryz.func105, Tryz.ntmps105
  go_wp2_with fail
  refine hcon.mono ?_
  rintro e w' ⟨a, b, rfl, fa, fb, hb⟩
  obtain ⟨r, q, hrun, fr, fq⟩ := along_mul (P := Tryz.prog) (dirM_cases n) fa fb hcv 175
  clear fa fb hcon hcv
  go_wp2
  go_ret
  exact ⟨r, q, rfl, fr, fq, hb⟩

/-- The corner behind p pairs. -/
def corM (p : Nat) : Int := if p % 2 = 0 then -((p / 2 : Nat) : Int) else (((p + 1) / 2 : Nat) : Int)

theorem corner_any (p : Nat) (hp : p ≤ 1048576) (w : World) :
    Calls Tryz.prog 104 #[.int .i64 p] w fun e w' => ∃ a b, e = .returned (.complex .f64 a b) ∧ Fl a (corM p) ∧ Fl b (corM p) ∧ w' = w := by
  have h1 : ((p : Int) + 1).tdiv 2 = (((p + 1) / 2 : Nat) : Int) := by rw [Int.tdiv_eq_ediv_of_nonneg (by omega)]; omega
  have h2 : (-(p : Int)).tdiv 2 = -((p / 2 : Nat) : Int) := by rw [Int.neg_tdiv, Int.tdiv_eq_ediv_of_nonneg (by omega)]; omega
  have h3 : (p : Int).tmod 2 = ((p % 2 : Nat) : Int) := by rw [Int.tmod_eq_emod_of_nonneg (by omega)]; omega
  have c1 := fl_conv (((p + 1) / 2 : Nat) : Int) (by omega)
  have c2 := fl_conv (-((p / 2 : Nat) : Int)) (by omega)
  have b1 : (p + 1) / 2 ≤ 1048576 := by omega
  have b2 : p / 2 ≤ 1048576 := by omega
  unfold corM
  by_cases hm : p % 2 = 0
  · have h3' : (p : Int).tmod 2 = 0 := by rw [h3, hm]; rfl
    rw [if_pos hm]
    clear h3 hm c1
    generalize (p + 1) / 2 = u at *
    generalize p / 2 = v at *
    go_enter Tryz.func104, Tryz.ntmps104
    go_wp2
    go_ret
    exact ⟨_, _, rfl, c2, c2, rfl⟩
  · have h3' : (p : Int).tmod 2 = 1 := by rw [h3, show p % 2 = 1 by omega]; rfl
    rw [if_neg hm]
    clear h3 hm c2
    generalize (p + 1) / 2 = u at *
    generalize p / 2 = v at *
    go_enter Tryz.func104, Tryz.ntmps104
    go_wp2
    go_ret
    exact ⟨_, _, rfl, c1, c1, rfl⟩
end Go.Proofs.YtdhhjdacidhmjaaGreat

/- Package plane: Spiral. -/
namespace Go.Proofs.YtdhhjdacidhmjaaGreat
open Go.RowKit Go.Shelf Go.Sort
set_option maxRecDepth 100000
set_option maxRecDepth 100000

theorem sp_sum (k : Nat) : spM k = (corM (pairsM k) + (dirM (2 * pairsM k)).1 * (fiM k : Nat) + (dirM (2 * pairsM k + 1)).1 * ((stM k - fiM k : Nat) : Int),
    corM (pairsM k) + (dirM (2 * pairsM k)).2 * (fiM k : Nat) + (dirM (2 * pairsM k + 1)).2 * ((stM k - fiM k : Nat) : Int)) := by
  unfold spM spQ corM
  generalize pairsM k = p
  generalize fiM k = f
  generalize stM k - f = g
  by_cases h : p % 2 = 0
  · have d1 : dirM (2 * p) = (1, 0) := by unfold dirM; rw [if_pos (by omega)]
    have d2 : dirM (2 * p + 1) = (0, 1) := by unfold dirM; rw [if_neg (by omega), if_pos (by omega)]
    rw [if_pos h, if_pos h, d1, d2]
    refine Prod.ext ?_ ?_ <;> simp
  · have d1 : dirM (2 * p) = (-1, 0) := by unfold dirM; rw [if_neg (by omega), if_neg (by omega), if_pos (by omega)]
    have d2 : dirM (2 * p + 1) = (0, -1) := by unfold dirM; rw [if_neg (by omega), if_neg (by omega), if_neg (by omega)]
    rw [if_neg h, if_neg h, d1, d2]
    refine Prod.ext ?_ ?_ <;> simp <;> omega

/-- The point of a step, of whatever number. -/
def spZ (k : Int) : Int × Int := if k < 0 ∨ k > 1099511627776 then (0, 0) else spM k.toNat

theorem st_le (k : Nat) : stM k ≤ 2 * pairsM k + 1 := by
  obtain ⟨h1, h2⟩ := pairsM_spec k
  have e : (pairsM k + 1) * (pairsM k + 2) = pairsM k * (pairsM k + 1) + 2 * pairsM k + 2 := by grind
  unfold stM
  omega

theorem mul_dir (d : Int × Int) (hd : d = (1, 0) ∨ d = (0, 1) ∨ d = (-1, 0) ∨ d = (0, -1)) (s : Nat) : (d.1 * s).natAbs ≤ s ∧ (d.2 * s).natAbs ≤ s := by
  rcases hd with h | h | h | h <;> (subst h; constructor <;> simp)

theorem cor_le (p : Nat) : (corM p).natAbs ≤ p := by
  unfold corM
  split <;> omega

theorem spiral_in (k : Nat) (hk : k ≤ 1099511627776) (w : World) :
    Calls Tryz.prog 96 #[.int .i64 k] w fun e w' => ∃ a b, e = .returned (.complex .f64 a b) ∧ Fl a (spM k).1 ∧ Fl b (spM k).2 ∧ Below w.heap.size w w' := by
  have hpw := pairs_any k hk w
  have hpl := pairs_lt k hk
  have hst := st_le k
  obtain ⟨g1, g2⟩ := pairsM_spec k
  have hfi : fiM k = min (stM k) (pairsM k + 1) := rfl
  have hdef : stM k = k - pairsM k * (pairsM k + 1) := rfl
  rw [sp_sum k]
  generalize pairsM k = p at *
  generalize stM k = s at *
  generalize fiM k = f at *
  have hsteps := fun w => steps_any p (by omega) w
  have hq : p * (p + 1) ≤ 1048575 * 1048576 := Nat.mul_le_mul hpl (by omega)
  generalize p * (p + 1) = q at *
  have hsub : (k : Int) - (q : Int) = (s : Int) := by omega
  have hcor := fun w => corner_any p (by omega) w
  have ha1 := fun w => along_any (2 * p) f (by omega) w
  have ha2 := fun w => along_any (2 * p + 1) (s - f) (by omega) w
  have hf : min (s : Int) ((p : Int) + 1) = (f : Int) := by omega
  have hsf : (s : Int) - (f : Int) = ((s - f : Nat) : Int) := by omega
  have bf : f ≤ 2 * p + 1 := by omega
  have bg : s - f ≤ 2 * p + 1 := by omega
  have hc := cor_le p
  have m1 := mul_dir (dirM (2 * p)) (dirM_cases (2 * p)) f
  have m2 := mul_dir (dirM (2 * p + 1)) (dirM_cases (2 * p + 1)) (s - f)
  generalize s - f = g at *
  have kk : 3 * 2097152 < 2 ^ 53 := by decide
  have HB : Hid ((corM p + (dirM (2 * p)).1 * (f : Int)).natAbs < 2 ^ 53 ∧ (corM p + (dirM (2 * p)).2 * (f : Int)).natAbs < 2 ^ 53 ∧ (corM p + (dirM (2 * p)).1 * (f : Int) + (dirM (2 * p + 1)).1 * (g : Int)).natAbs < 2 ^ 53 ∧ (corM p + (dirM (2 * p)).2 * (f : Int) + (dirM (2 * p + 1)).2 * (g : Int)).natAbs < 2 ^ 53) := by
    obtain ⟨m1, m1'⟩ := m1
    obtain ⟨m2, m2'⟩ := m2
    generalize (dirM (2 * p)).1 * (f : Int) = A1 at *
    generalize (dirM (2 * p)).2 * (f : Int) = A2 at *
    generalize (dirM (2 * p + 1)).1 * (g : Int) = A3 at *
    generalize (dirM (2 * p + 1)).2 * (g : Int) = A4 at *
    generalize corM p = A0 at *
    show _ ∧ _ ∧ _ ∧ _
    refine ⟨?_, ?_, ?_, ?_⟩ <;> omega
  have e2p : ((2 * p : Nat) : Int) = 2 * (p : Int) := by omega
  have e2p1 : ((2 * p + 1 : Nat) : Int) = 2 * (p : Int) + 1 := by omega
  rw [e2p] at ha1
  rw [e2p1] at ha2
  have HM : Hid (f = min s (p + 1) ∧ s = k - q) := ⟨hfi, hdef⟩
  clear hfi hdef g1 g2 e2p e2p1
  have bs : s ≤ 2097152 := by omega
  have bq : q ≤ 1099511627776 := by omega
  have ltk : ¬ (k : Int) < 0 := by omega
  have ltk2 : ¬ (k : Int) > 1099511627776 := by omega
  have HH : Hid (q ≤ 1048575 * 1048576 ∧ s ≤ 2 * p + 1) := ⟨hq, hst⟩
  clear hq hst
  go_enter Tryz.func96, Tryz.ntmps96
  go_wp2_with fail
  refine hpw.mono ?_
  rintro e w1 ⟨rfl, b1⟩
  go_wp2_with fail
  refine (hsteps _).mono ?_
  rintro e w2 ⟨rfl, rfl⟩
  go_wp2_with fail
  refine (hcor _).mono ?_
  rintro e w2 ⟨ca, cb, rfl, fca, fcb, rfl⟩
  go_wp2_with fail
  refine (ha1 _).mono ?_
  rintro e w2 ⟨xa, xb, rfl, fxa, fxb, b2⟩
  obtain ⟨r, t, hrun, fr, ft⟩ := c_add (P := Tryz.prog) fca fcb fxa fxb HB.out.1 HB.out.2.1 175
  clear fca fcb fxa fxb
  go_wp2_with fail
  refine (ha2 _).mono ?_
  rintro e w3 ⟨ya, yb, rfl, fya, fyb, b3⟩
  obtain ⟨r', t', hrun', fr', ft'⟩ := c_add (P := Tryz.prog) fr ft fya fyb HB.out.2.2.1 HB.out.2.2.2 175
  clear fr ft fya fyb hrun
  go_wp2
  go_ret
  exact ⟨r', t', rfl, fr', ft', b1.trans ((b2.mono b1.size).trans (b3.mono (Nat.le_trans b1.size b2.size)))⟩

theorem spiral_any (k : Int) (w : World) :
    Calls Tryz.prog 96 #[.int .i64 k] w fun e w' => ∃ a b, e = .returned (.complex .f64 a b) ∧ Fl a (spZ k).1 ∧ Fl b (spZ k).2 ∧ Below w.heap.size w w' := by
  by_cases h0 : k < 0
  · have : spZ k = (0, 0) := if_pos (.inl h0)
    rw [this]
    go_enter Tryz.func96, Tryz.ntmps96
    go_wp2
    go_ret
    exact ⟨_, _, rfl, fl_zero, fl_zero, Below.refl _ _⟩
  · by_cases h1 : k > 1099511627776
    · have : spZ k = (0, 0) := if_pos (.inr h1)
      rw [this]
      go_enter Tryz.func96, Tryz.ntmps96
      go_wp2
      go_ret
      exact ⟨_, _, rfl, fl_zero, fl_zero, Below.refl _ _⟩
    · have e : spZ k = spM k.toNat := if_neg (by omega)
      rw [e]
      have := spiral_in k.toNat (by omega) w
      rwa [show ((k.toNat : Nat) : Int) = k by omega] at this
end Go.Proofs.YtdhhjdacidhmjaaGreat

/- Package plane: the nodes by nearness: what the sort asks. -/
namespace Go.Proofs.YtdhhjdacidhmjaaGreat
open Go.RowKit Go.Shelf Go.Sort
set_option maxRecDepth 100000
set_option maxRecDepth 100000

theorem compare_any (x y : Int) (w : World) : Calls Tryz.prog 94 #[.int .i64 x, .int .i64 y] w fun e w' => e = .returned (.int .i64 (Lib.compareInt x y)) ∧ w' = w :=
  Any.cmp_Compare_int compareL x y w

/-- The first that is not zero. -/
def orM (x y : Int) : Int := if x = 0 then y else x

theorem or_any (x y : Int) (b : Nat) (w : World) (h0 : w.cell? ⟨b, 0, none⟩ = some (.int .i64 x)) (h1 : w.cell? ⟨b, 1, none⟩ = some (.int .i64 y)) :
    Calls Tryz.prog 93 #[.slice (some ⟨b, 0, none⟩) 2 2] w fun e w' => e = .returned (.int .i64 (orM x y)) ∧ w' = w := by
  by_cases hx : x = 0
  · have e : orM x y = y := if_pos hx
    rw [e]
    have ex : (x == 0) = true := by rw [hx]; rfl
    go_enter Tryz.func93, Tryz.ntmps93
    go_wp2
    go_loopg [5, 8] 2 (fun q v s8 wr => ∃ i : Nat, i ≤ 2 ∧ q = 2 - i ∧ s8 = .int .i64 i ∧ wr = w ∧ Hid (i = 2 → y = 0))
    case atStart => exact ⟨0, by omega, rfl, rfl, rfl, hideP (by omega)⟩
    case round =>
      obtain ⟨i, hi, rfl, rfl, rfl, HY⟩ := hrel
      rcases (show i = 0 ∨ i = 1 ∨ i = 2 by omega) with rfl | rfl | rfl
      · go_wp2
        go_roundg 1
        case measure => omega
        case rel => exact ⟨1, by omega, rfl, rfl, rfl, hideP (by omega)⟩
      · by_cases hy : y = 0
        · have ey : (y == 0) = true := by rw [hy]; rfl
          go_wp2
          go_roundg 0
          case measure => omega
          case rel => exact ⟨2, by omega, rfl, rfl, rfl, hideP (fun _ => hy)⟩
        · have ey : (y == 0) = false := beq_eq_false_iff_ne.2 hy
          go_wp2
          go_ret
          exact ⟨rfl, rfl⟩
      · have H0 : Hid (y = 0) := HY.out rfl
        clear HY
        go_wp2
        go_ret
        exact ⟨by rw [H0.out]; rfl, rfl⟩
  · have e : orM x y = x := if_neg hx
    rw [e]
    have ex : (x == 0) = false := beq_eq_false_iff_ne.2 hx
    go_enter Tryz.func93, Tryz.ntmps93
    go_wp2
    go_loopg [5, 8] 2 (fun q v s8 wr => q = 2 ∧ s8 = .int .i64 0 ∧ wr = w)
    case atStart => exact ⟨rfl, rfl, rfl⟩
    case round =>
      obtain ⟨rfl, rfl, rfl⟩ := hrel
      go_wp2
      go_ret
      exact ⟨rfl, rfl⟩

theorem alloc_keeps (w : World) (o : Obj) (b i : Nat) (h : b < w.heap.size) : (w.alloc o).cell? ⟨b, i, none⟩ = w.cell? ⟨b, i, none⟩ := World.cell?_alloc_past (w := w) o b i h

/-- How two nodes stand to each other. -/
def nearM (D : Nat → Int) (x y : Nat) : Int := orM (Lib.compareInt (D x) (D y)) (Lib.compareInt x y)

set_option maxHeartbeats 1000000 in
theorem near_any (D : Nat → Int) (n x y : Nat) (hx : x < n) (hy : y < n) (bx ab ao ac : Nat) (W : World) (hbb : bx < W.heap.size) (hab : ab < W.heap.size) (hbox : W.cell? ⟨bx, 0, none⟩ = some (.slice (some ⟨ab, ao, none⟩) n ac))
    (hcx : W.cell? ⟨ab, ao + x, none⟩ = some (.int .i64 (D x))) (hcy : W.cell? ⟨ab, ao + y, none⟩ = some (.int .i64 (D y))) :
    Calls Tryz.prog 92 #[.int .i64 x, .int .i64 y, .pointer (some ⟨bx, 0, none⟩)] W fun e w' => e = .returned (.int .i64 (nearM D x y)) ∧ ∃ q os, w' = grow (W.drewN q) os := by
  have hxz : (x : Int) < (n : Int) := by omega
  have hyz : (y : Int) < (n : Int) := by omega
  have hc : ∀ (u v : Int) (w : World), _ := fun u v w => compare_any u v w
  unfold nearM
  have hor : ∀ (b : Nat) (w : World), _ := fun b w => or_any (Lib.compareInt (D x) (D y)) (Lib.compareInt x y) b w
  generalize D x = dx at *
  generalize D y = dy at *
  clear hx hy
  go_enter Tryz.func92, Tryz.ntmps92
  go_wp2_with fail
  go_region_held3 (fun W' => W'.cell? ⟨bx, 0, none⟩ = some (.slice (some ⟨ab, ao, none⟩) n ac) ∧ W'.cell? ⟨ab, ao + x, none⟩ = some (.int .i64 dx) ∧ W'.cell? ⟨ab, ao + y, none⟩ = some (.int .i64 dy))
    (first | exact ⟨hbox, hcx, hcy⟩ | exact ⟨(alloc_keeps _ _ bx 0 hbb).trans hbox, (alloc_keeps _ _ ab (ao + x) hab).trans hcx, (alloc_keeps _ _ ab (ao + y) hab).trans hcy⟩)
    (first | (go_at_call 94; refine (hc _ _ _).mono ?_; rintro e w' ⟨rfl, rfl⟩) | (go_at_call 93; refine (hor _ _ ?_ ?_).mono ?_; (go_simp); (go_simp); rintro e w' ⟨rfl, rfl⟩))
  all_goals
    go_wp2_with fail
    go_ret
    exact ⟨rfl, 1, #[.cells #[.int .i64 (Lib.compareInt dx dy), .int .i64 (Lib.compareInt x y)] 3], by rw [alloc_eq_grow]; rfl⟩
end Go.Proofs.YtdhhjdacidhmjaaGreat

/- Package plane: the sort of at most nine nodes. -/
namespace Go.Proofs.YtdhhjdacidhmjaaGreat
open Go.RowKit Go.Shelf Go.Sort
set_option maxRecDepth 100000
set_option maxRecDepth 100000

def lenRen : Ren := ⟨fun | 125 => 100 | 128 => 115 | 129 => 116 | n => n, fun | 3 => 3 | 4 => 4 | 5 => 5 | 9 => 9 | 46 => 179 | 51 => 194 | 53 => 51 | n => n, fun | n => n⟩
theorem lenL : Lays.n125 Tryz.prog lenRen := {
  mixed := by kernel_rfl
  f125 := Tryz.func100.trans (congrArg some (by kernel_rfl))
  f128 := Tryz.func115.trans (congrArg some (by kernel_rfl))
  f129 := Tryz.func116.trans (congrArg some (by kernel_rfl))
  t3 := Tryz.underlying3
  a3 := Tryz.isAgg3
  z3 := Tryz.sizeOf3
  v3 := Tryz.zeroValue3
  t4 := Tryz.underlying4
  a4 := Tryz.isAgg4
  z4 := Tryz.sizeOf4
  v4 := Tryz.zeroValue4
  t5 := Tryz.underlying5
  a5 := Tryz.isAgg5
  z5 := Tryz.sizeOf5
  v5 := Tryz.zeroValue5
  t9 := Tryz.underlying9
  a9 := Tryz.isAgg9
  z9 := Tryz.sizeOf9
  v9 := Tryz.zeroValue9
  t46 := Tryz.underlying179
  a46 := Tryz.isAgg179
  z46 := Tryz.sizeOf179
  v46 := Tryz.zeroValue179
  t51 := Tryz.underlying194
  a51 := Tryz.isAgg194
  z51 := Tryz.sizeOf194
  v51 := Tryz.zeroValue194
  t53 := Tryz.underlying51
  a53 := Tryz.isAgg51
  z53 := Tryz.sizeOf51
  v53 := Tryz.zeroValue51 }

section
variable {α : Type} [Inhabited α]

/-- A row of at most twelve: sorted by insertion. -/
theorem pdq_any (enc : α → Value) (cf : α → α → Int) (g : Nat) (cb : Array Value) (blk : Nat) (d : Array α) (lim : Int) (w : World)
    (eg : ∀ args w, (callFunc g args).run Tryz.prog w = .ok (.enter g args) w) (hcmp : CmpLays1 Tryz.prog g cb enc cf blk 0 d.size w) (R : Row1 enc w blk 0 d) (h12 : d.size ≤ 12) :
    Calls Tryz.prog 99 #[.slice (some ⟨blk, 0, none⟩) d.size d.size, .int .i64 0, .int .i64 d.size, .int .i64 lim, .func (.func g) #[] cb] w fun e w' => e = .returned (.tuple #[]) ∧ SW enc w blk 0 (Sort.insertionSort (ltOf cf) d 0 d.size) w' := by
  have hins := Any.insertionSortCmpFunc_s insL enc cf g cb blk 0 d.size 0 d.size d d w w eg hcmp R rfl (SW.start R.hH) (Nat.zero_le _) (Nat.le_refl _) (by omega)
  change Calls Tryz.prog 107 #[_, .int .i64 (0 : Int), _, _] w _ at hins
  have hz : (d.size : Int) ≤ 12 := by omega
  generalize Sort.insertionSort (ltOf cf) d 0 d.size = dd at *
  generalize d.size = n at *
  clear hcmp R eg
  go_enter Tryz.func99, Tryz.ntmps99
  go_wp2
  go_loopg [1, 2, 3] 1 (fun q a b l wr => q = 1 ∧ a = .int .i64 0 ∧ b = .int .i64 n ∧ l = .int .i64 lim ∧ wr = w)
  case atStart => exact ⟨rfl, rfl, rfl, rfl, rfl⟩
  case round =>
    obtain ⟨rfl, rfl, rfl, rfl, rfl⟩ := hrel
    go_wp2_with fail
    refine hins.mono ?_
    rintro e w' ⟨rfl, hS⟩
    go_wp2
    (try simp only [Exit.inBlock, Exit.then]); refine bodyPost_ret (results_none rfl _ _ _) rfl ?_
    exact ⟨rfl, hS⟩

theorem sort_any (enc : α → Value) (cf : α → α → Int) (g : Nat) (cb : Array Value) (blk : Nat) (d : Array α) (w : World)
    (eg : ∀ args w, (callFunc g args).run Tryz.prog w = .ok (.enter g args) w) (hcmp : CmpLays1 Tryz.prog g cb enc cf blk 0 d.size w) (R : Row1 enc w blk 0 d) (h12 : d.size ≤ 12) :
    Calls Tryz.prog 91 #[.slice (some ⟨blk, 0, none⟩) d.size d.size, .func (.func g) #[] cb] w fun e w' => e = .returned (.tuple #[]) ∧ SW enc w blk 0 (Sort.insertionSort (ltOf cf) d 0 d.size) w' := by
  have hp := fun lim => pdq_any enc cf g cb blk d lim w eg hcmp R h12
  have hl := Any.bits_Len lenL d.size w (by omega) (by omega)
  change Calls Tryz.prog 100 _ _ _ at hl
  generalize Sort.insertionSort (ltOf cf) d 0 d.size = dd at *
  have hz : (d.size : Int) ≤ 12 := by omega
  generalize d.size = n at *
  clear hcmp R eg
  go_enter Tryz.func91, Tryz.ntmps91
  go_wp2_with fail
  refine hl.mono ?_
  rintro e w' ⟨rfl, rfl⟩
  go_wp2_with fail
  refine (hp _).mono ?_
  rintro e w2 ⟨rfl, hS⟩
  go_wp2
  go_end0
  exact ⟨rfl, hS⟩
end
end Go.Proofs.YtdhhjdacidhmjaaGreat
