/- Plain facts on the check sum bit by bit: one step of the register, its order, and what a text's turned bits do to the sum. -/
import Derived.Test.YthoeehgnkolgpaaDoorCrc
namespace Go.Proofs.YthoeehgnkolgpaaDoor.Crc

def poly : Nat := 3988292384
def step (s : Nat) : Nat := (s / 2) ^^^ (if s % 2 = 1 then poly else 0)
def it : Nat → Nat → Nat
  | 0, s => s
  | k + 1, s => step (it k s)

theorem eq_of_xor {a b : Nat} (h : a ^^^ b = 0) : a = b := by
  have : (a ^^^ b) ^^^ b = b := by rw [h, Nat.zero_xor]
  rwa [Nat.xor_assoc, Nat.xor_self, Nat.xor_zero] at this

theorem it_add (a b s : Nat) : it (a + b) s = it a (it b s) := by
  induction a with
  | zero => simp [it]
  | succ a ih => rw [show a + 1 + b = (a + b) + 1 by omega]; show step _ = step _; rw [ih]
theorem xor_div2 (a b : Nat) : (a ^^^ b) / 2 = (a / 2) ^^^ (b / 2) := by
  have := Nat.shiftRight_xor_distrib (a := a) (b := b) (i := 1)
  simpa [Nat.shiftRight_eq_div_pow] using this
theorem xor_mod2 (a b : Nat) : (a ^^^ b) % 2 = (a % 2) ^^^ (b % 2) := by
  simpa using Nat.xor_mod_two_pow (a := a) (b := b) (n := 1)
theorem step_xor (a b : Nat) : step (a ^^^ b) = step a ^^^ step b := by
  unfold step
  rw [xor_div2, xor_mod2, xor4]
  congr 1
  rcases Nat.mod_two_eq_zero_or_one a with ha | ha <;> rcases Nat.mod_two_eq_zero_or_one b with hb | hb <;> rw [ha, hb] <;> simp
theorem it_xor (k a b : Nat) : it k (a ^^^ b) = it k a ^^^ it k b := by
  induction k with
  | zero => rfl
  | succ k ih => show step _ = step _ ^^^ step _; rw [ih, step_xor]
theorem step_zero : step 0 = 0 := by decide
theorem it_zero (k : Nat) : it k 0 = 0 := by
  induction k with
  | zero => rfl
  | succ k ih => show step _ = _; rw [ih, step_zero]
theorem step_lt (s : Nat) (h : s < 4294967296) : step s < 4294967296 := by
  unfold step
  refine Nat.xor_lt_two_pow (n := 32) ?_ ?_
  · show s / 2 < 4294967296; omega
  · split <;> decide
theorem it_lt (k s : Nat) (h : s < 4294967296) : it k s < 4294967296 := by
  induction k with
  | zero => exact h
  | succ k ih => exact step_lt _ ih
/-- The register's step loses nothing. -/
theorem step_eq_zero (s : Nat) (h : s < 4294967296) (e : step s = 0) : s = 0 := by
  unfold step at e
  split at e
  · have h2 : s / 2 = poly := eq_of_xor e
    have : poly = 3988292384 := rfl
    omega
  · have h2 : s / 2 = 0 := eq_of_xor e
    omega
theorem it_eq_zero (k s : Nat) (h : s < 4294967296) (e : it k s = 0) : s = 0 := by
  induction k with
  | zero => exact e
  | succ k ih => exact ih (step_eq_zero _ (it_lt k s h) e)
theorem it_inj (k a b : Nat) (ha : a < 4294967296) (hb : b < 4294967296) (e : it k a = it k b) : a = b := by
  have h := it_eq_zero k (a ^^^ b) (Nat.xor_lt_two_pow (n := 32) ha hb) (by rw [it_xor, e, Nat.xor_self])
  exact eq_of_xor h
theorem step_double (q : Nat) : step (2 * q) = q := by
  unfold step
  rw [if_neg (by omega)]; simp
theorem it_shift (t q : Nat) : it t (2 ^ t * q) = q := by
  induction t generalizing q with
  | zero => simp [it]
  | succ t ih => show step (it t _) = _; rw [Nat.pow_succ, Nat.mul_assoc, ih, step_double]
theorem it_pow (t : Nat) : it t (2 ^ t) = 1 := by have := it_shift t 1; simpa using this

/-- Four steps at once. -/
theorem split16 (s : Nat) : s = (16 * (s / 16)) ^^^ (s % 16) := by
  have h : 2 ^ 4 * (s / 16) ||| s % 16 = 2 ^ 4 * (s / 16) + s % 16 := (Nat.two_pow_add_eq_or_of_lt (by exact Nat.mod_lt s (by decide)) (s / 16)).symm
  apply Nat.eq_of_testBit_eq
  intro i
  rw [Nat.testBit_xor]
  by_cases hi : i < 4
  · have h1 : (16 * (s / 16)).testBit i = false := by
      rw [show 16 * (s / 16) = 2 ^ 4 * (s / 16) by rfl, Nat.testBit_two_pow_mul]; simp; omega
    have h2 : (s % 16).testBit i = s.testBit i := by
      rw [show s % 16 = s % 2 ^ 4 by rfl, Nat.testBit_mod_two_pow]; simp [hi]
    rw [h1, h2]; simp
  · have h1 : (16 * (s / 16)).testBit i = s.testBit i := by
      rw [show 16 * (s / 16) = 2 ^ 4 * (s / 16) by rfl, Nat.testBit_two_pow_mul, show s / 16 = s / 2 ^ 4 by rfl, Nat.testBit_div_two_pow]
      simp [show 4 ≤ i by omega]
    have h2 : (s % 16).testBit i = false := by
      rw [show s % 16 = s % 2 ^ 4 by rfl, Nat.testBit_mod_two_pow]; simp [hi]
    rw [h1, h2]; simp
theorem T_it16 : ∀ r : Fin 16, T r.val = it 4 r.val := by decide +kernel
theorem half_it (s : Nat) : half s = it 4 s := by
  have e : half s = (s / 16) ^^^ T (s % 16) := rfl
  rw [e, T_it16 ⟨s % 16, Nat.mod_lt _ (by decide)⟩]
  have h : it 4 s = it 4 ((16 * (s / 16)) ^^^ (s % 16)) := by rw [← split16]
  rw [h, it_xor]
  have : it 4 (16 * (s / 16)) = s / 16 := it_shift 4 (s / 16)
  rw [this]
theorem byte_it (s c : Nat) : byte s c = it 8 (s ^^^ c) := by
  show half (half _) = _
  rw [half_it, half_it, ← it_add]

/-- The text in which bit number i alone is set. -/
def bitAt (i j : Nat) : Nat := if j = i / 8 then 2 ^ (i % 8) else 0
theorem fold_map_xor (n s t : Nat) (x y : Nat → Nat) : fold (s ^^^ t) ((List.range n).map fun j => x j ^^^ y j) = fold s ((List.range n).map x) ^^^ fold t ((List.range n).map y) := by
  induction n with
  | zero => rfl
  | succ n ih => simp only [List.range_succ, List.map_append, List.map_cons, List.map_nil, fold_snoc]; rw [ih, byte_xor]
theorem fold_zeros (n : Nat) : fold 0 ((List.range n).map fun _ => 0) = 0 := by
  induction n with
  | zero => rfl
  | succ n ih => simp only [List.range_succ, List.map_append, List.map_cons, List.map_nil, fold_snoc]; rw [ih]; decide
theorem fold_bit (n i : Nat) : (8 * n ≤ i → fold 0 ((List.range n).map (bitAt i)) = 0) ∧ (i < 8 * n → fold 0 ((List.range n).map (bitAt i)) = it (8 * n - i) 1) := by
  induction n with
  | zero => exact ⟨fun _ => rfl, fun h => by omega⟩
  | succ n ih =>
    simp only [List.range_succ, List.map_append, List.map_cons, List.map_nil, fold_snoc, byte_it]
    refine ⟨fun h => ?_, fun h => ?_⟩
    · rw [ih.1 (by omega)]
      have : bitAt i n = 0 := by unfold bitAt; rw [if_neg (by omega)]
      rw [this]; exact it_zero 8
    · by_cases hi : i < 8 * n
      · have : bitAt i n = 0 := by unfold bitAt; rw [if_neg (by omega)]
        rw [this, Nat.xor_zero, ih.2 hi, ← it_add]
        congr 1; omega
      · have hb : bitAt i n = 2 ^ (i % 8) := by unfold bitAt; rw [if_pos (by omega)]
        rw [ih.1 (by omega), hb, Nat.zero_xor]
        have e : it 8 (2 ^ (i % 8)) = it (8 - i % 8) (it (i % 8) (2 ^ (i % 8))) := by rw [← it_add]; congr 1; omega
        rw [e, it_pow]
        congr 1; omega
/-- THE SUM OF A TEXT, SOME OF ITS BITS TURNED: what the turned bits alone make of the register. -/
theorem sum_turned (n : Nat) (x d : Nat → Nat) : sum ((List.range n).map fun j => x j ^^^ d j) = sum ((List.range n).map x) ^^^ fold 0 ((List.range n).map d) := by
  unfold sum
  have := fold_map_xor n 4294967295 0 x d
  rw [Nat.xor_zero] at this
  rw [this, Nat.xor_assoc, Nat.xor_assoc]; congr 1; exact Nat.xor_comm _ _

/-- The bits from 'at' on, k of them, as the word says. -/
def burst (at' word : Nat) : Nat → Nat → Nat
  | 0, _ => 0
  | k + 1, j => burst at' word k j ^^^ (if word / 2 ^ k % 2 = 1 then bitAt (at' + k) j else 0)
theorem mod_succ (w k : Nat) : w % 2 ^ (k + 1) = (w % 2 ^ k) ^^^ (if w / 2 ^ k % 2 = 1 then 2 ^ k else 0) := by
  apply Nat.eq_of_testBit_eq
  intro i
  have hw : w.testBit k = decide (w / 2 ^ k % 2 = 1) := Nat.testBit_eq_decide_div_mod_eq
  rw [Nat.testBit_xor, Nat.testBit_mod_two_pow, Nat.testBit_mod_two_pow]
  by_cases hb : w / 2 ^ k % 2 = 1
  · rw [if_pos hb, Nat.testBit_two_pow]
    by_cases e : k = i
    · subst e; rw [hw]; simp [hb]
    · have : decide (i < k + 1) = decide (i < k) := by simp; omega
      rw [this]; simp [e]
  · rw [if_neg hb, Nat.zero_testBit]
    by_cases e : k = i
    · subst e; rw [hw]; simp [hb]
    · have : decide (i < k + 1) = decide (i < k) := by simp; omega
      rw [this]; simp
theorem fold_burst (n at' word k : Nat) (h : at' + k ≤ 8 * n) : fold 0 ((List.range n).map (burst at' word k)) = it (8 * n - at') (word % 2 ^ k) := by
  induction k with
  | zero => rw [Nat.pow_zero, Nat.mod_one, it_zero]; exact fold_zeros n
  | succ k ih =>
    have e : burst at' word (k + 1) = fun j => burst at' word k j ^^^ (if word / 2 ^ k % 2 = 1 then bitAt (at' + k) j else 0) := rfl
    have hx := fold_map_xor n 0 0 (burst at' word k) (fun j => if word / 2 ^ k % 2 = 1 then bitAt (at' + k) j else 0)
    rw [Nat.xor_self] at hx
    rw [e, hx, ih (by omega), mod_succ, it_xor]
    congr 1
    by_cases hb : word / 2 ^ k % 2 = 1
    · simp only [if_pos hb]
      rw [show (fun j => bitAt (at' + k) j) = bitAt (at' + k) from rfl, (fold_bit n (at' + k)).2 (by omega)]
      have : it (8 * n - at') (2 ^ k) = it (8 * n - (at' + k)) (it k (2 ^ k)) := by rw [← it_add]; congr 1; omega
      rw [this, it_pow]
    · simp only [if_neg hb]
      rw [fold_zeros, it_zero]
/-- A BURST IS TOLD. -/
theorem burst_told (n at' word k : Nat) (h : at' + k ≤ 8 * n) (hk : k ≤ 32) (e : fold 0 ((List.range n).map (burst at' word k)) = 0) : word % 2 ^ k = 0 := by
  rw [fold_burst n at' word k h] at e
  refine it_eq_zero _ _ ?_ e
  exact Nat.lt_of_lt_of_le (Nat.mod_lt _ (Nat.two_pow_pos k)) (Nat.pow_le_pow_right (by decide) hk)
end Go.Proofs.YthoeehgnkolgpaaDoor.Crc
