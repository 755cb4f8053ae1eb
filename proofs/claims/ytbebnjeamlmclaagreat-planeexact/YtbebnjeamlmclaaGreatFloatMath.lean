/- Whole numbers as words of binary floating point: exact below 2^53. No program here. -/
import Ieee.Arith
namespace Go.Proofs.YtbebnjeamlmclaaGreat
open Ieee

/-- The word b stands for the whole number n (a zero may have either sign). -/
def Fl (b : Nat) (n : Int) : Prop :=
  ∃ (s : Bool) (m q : Nat), double.read b = .number s m (-(q : Int)) ∧ m = n.natAbs * 2 ^ q ∧ (n ≠ 0 → s = decide (n < 0)) ∧ n.natAbs < 2 ^ 53

theorem zero_fl (b : Nat) (s : Bool) (q : Nat) (h : double.read b = .number s 0 (-(q : Int))) : Fl b 0 :=
  ⟨s, 0, q, h, (Nat.zero_mul _).symm, fun h => absurd rfl h, by decide⟩

theorem log2_shift (k q : Nat) (hk : 0 < k) : (k * 2 ^ q).log2 = k.log2 + q := by
  have h1 : k * 2 ^ q ≠ 0 := by
    have := Nat.two_pow_pos q
    exact Nat.ne_of_gt (Nat.mul_pos hk this)
  have h2 : k.log2 + q ≤ (k * 2 ^ q).log2 := by
    rw [Nat.le_log2 h1, Nat.pow_add]
    exact Nat.mul_le_mul_right _ (Nat.log2_self_le (by omega))
  have h3 : (k * 2 ^ q).log2 < k.log2 + q + 1 := by
    rw [Nat.log2_lt h1]
    have : k < 2 ^ (k.log2 + 1) := Nat.lt_log2_self
    have : k * 2 ^ q < 2 ^ (k.log2 + 1) * 2 ^ q := Nat.mul_lt_mul_of_pos_right this (Nat.two_pow_pos q)
    rw [← Nat.pow_add] at this
    have e : k.log2 + 1 + q = k.log2 + q + 1 := by omega
    rwa [e] at this
  omega

theorem cut_exact (s : Bool) (a d : Nat) (ha : 0 < a) : Toward.even.cut s (a * 2 ^ d) d = a := by
  have hl : min d ((a * 2 ^ d).log2 + 2) = d := by
    rw [log2_shift a d ha]; omega
  have hp := Nat.two_pow_pos d
  unfold Toward.cut
  simp only [hl, Nat.shiftLeft_eq, Nat.one_mul]
  rw [Nat.mul_div_cancel _ hp, Nat.mul_mod_left]
  have h1 : ¬ (2 ^ d < 2 * 0) := by omega
  have h2 : ¬ (2 ^ d = 2 * 0) := by omega
  simp [h1]

theorem nearest_exact (s : Bool) (k q : Nat) (hk : 0 < k) (hb : k < 2 ^ 53) :
    double.nearest s (k * 2 ^ q) (-(q : Int)) = double.word s ((k.log2 + 1022) * 2 ^ 52 + k * 2 ^ (52 - k.log2)) := by
  have hne : k * 2 ^ q ≠ 0 := Nat.ne_of_gt (Nat.mul_pos hk (Nat.two_pow_pos q))
  have he : k.log2 < 53 := by rw [Nat.log2_lt (by omega)]; exact hb
  have hkl : 2 ^ 52 ≤ k * 2 ^ (52 - k.log2) := by
    have h1 := Nat.log2_self_le (n := k) (by omega)
    have h2 := Nat.mul_le_mul_right (2 ^ (52 - k.log2)) h1
    rw [← Nat.pow_add] at h2
    have e : k.log2 + (52 - k.log2) = 52 := by omega
    rwa [e] at h2
  have hkh : k * 2 ^ (52 - k.log2) < 2 ^ 53 := by
    have h1 : k < 2 ^ (k.log2 + 1) := Nat.lt_log2_self
    have h2 := Nat.mul_lt_mul_of_pos_right h1 (Nat.two_pow_pos (52 - k.log2))
    rw [← Nat.pow_add] at h2
    have e : k.log2 + 1 + (52 - k.log2) = 53 := by omega
    rwa [e] at h2
  have hlp : double.leastPlace = -1074 := by decide
  have hfb : (double.fractionBits : Int) = 52 := rfl
  have hbi : double.binade = 2 ^ 52 := rfl
  have hin : double.infRung = 2047 * 2 ^ 52 := rfl
  unfold Format.nearest
  rw [if_neg hne]
  simp only [log2_shift k q hk, hlp, hfb, hbi, hin]
  have hlast : max (-(q : Int) + ((k.log2 + q : Nat) : Int) - 52) (-1074) = (k.log2 : Int) - 52 := by omega
  rw [hlast]
  have hr : ((k.log2 : Int) - 52 - -1074).toNat = k.log2 + 1022 := by omega
  rw [hr]
  have hkept : Toward.even.cut s ((k * 2 ^ q) <<< (-(q : Int) - ((k.log2 : Int) - 52)).toNat) ((k.log2 : Int) - 52 - -(q : Int)).toNat = k * 2 ^ (52 - k.log2) := by
    by_cases hq : q ≤ 52 - k.log2
    · have e1 : (-(q : Int) - ((k.log2 : Int) - 52)).toNat = 52 - k.log2 - q := by omega
      have e2 : ((k.log2 : Int) - 52 - -(q : Int)).toNat = 0 := by omega
      rw [e1, e2, Nat.shiftLeft_eq, Nat.mul_assoc, ← Nat.pow_add]
      have e3 : q + (52 - k.log2 - q) = 52 - k.log2 := by omega
      rw [e3]
      have := cut_exact s (k * 2 ^ (52 - k.log2)) 0 (by omega)
      simpa using this
    · have e1 : (-(q : Int) - ((k.log2 : Int) - 52)).toNat = 0 := by omega
      have e2 : ((k.log2 : Int) - 52 - -(q : Int)).toNat = q - (52 - k.log2) := by omega
      rw [e1, e2, Nat.shiftLeft_eq, Nat.pow_zero, Nat.mul_one]
      have e3 : k * 2 ^ q = (k * 2 ^ (52 - k.log2)) * 2 ^ (q - (52 - k.log2)) := by
        rw [Nat.mul_assoc, ← Nat.pow_add]; congr 2; omega
      rw [e3]
      exact cut_exact s _ _ (by omega)
  rw [hkept]
  congr 1
  have : 2 ^ 53 = 2 * 2 ^ 52 := by rfl
  generalize 2 ^ 52 = B at *
  have h1 : (k.log2 + 1022) * B ≤ (52 + 1022) * B := Nat.mul_le_mul_right _ (by omega)
  omega

theorem read_word (s : Bool) (e f : Nat) (he : e ≤ 52) (h1 : 2 ^ 52 ≤ f) (h2 : f < 2 ^ 53) :
    double.read (double.word s ((e + 1022) * 2 ^ 52 + f)) = .number s f ((e : Int) - 52) := by
  have hlp : double.leastPlace = -1074 := by decide
  have hbi : double.binade = 2 ^ 52 := rfl
  have hin : double.infRung = 2047 * 2 ^ 52 := rfl
  have hsw : double.signWeight = 2 ^ 63 := rfl
  have h53 : (2:Nat) ^ 53 = 2 * 2 ^ 52 := by rfl
  have h63 : (2:Nat) ^ 63 = 2048 * 2 ^ 52 := by rfl
  have hB : (0:Nat) < 2 ^ 52 := Nat.two_pow_pos 52
  rw [h53] at h2
  simp only [Format.read, Format.word, hsw, hbi, hin, hlp, h63]
  clear hlp hbi hin hsw h53 h63
  revert h1 h2 hB
  generalize (2:Nat) ^ 52 = B
  intro h1 h2 hB
  obtain ⟨g, rfl⟩ : ∃ g, f = B + g := ⟨f - B, by omega⟩
  have hg : g < B := by omega
  have hrung : (e + 1022) * B + (B + g) = (e + 1023) * B + g := by
    have : (e + 1023) * B = (e + 1022) * B + B := by rw [show e + 1023 = (e + 1022) + 1 from rfl, Nat.add_mul, Nat.one_mul]
    omega
  rw [hrung]
  have hlt : (e + 1023) * B + g < 2047 * B := by
    have : (e + 1023) * B ≤ 1075 * B := Nat.mul_le_mul_right _ (by omega)
    omega
  have hge : ¬ ((e + 1023) * B + g < B) := by
    have : 1023 * B ≤ (e + 1023) * B := Nat.mul_le_mul_right _ (by omega)
    omega
  have hd : ((e + 1023) * B + g) / B = e + 1023 := by
    rw [Nat.mul_comm, Nat.mul_add_div hB, Nat.div_eq_of_lt hg, Nat.add_zero]
  have hm : ((e + 1023) * B + g) % B = g := by
    rw [Nat.mul_comm, Nat.mul_add_mod, Nat.mod_eq_of_lt hg]
  generalize (e + 1023) * B + g = R at *
  have hRs : R < 2048 * B := by omega
  have hmod : (if s = true then 2048 * B + R else R) % (2048 * B) = R := by
    cases s
    · simp [Nat.mod_eq_of_lt hRs]
    · simp only [if_true, Nat.add_mod_left, Nat.mod_eq_of_lt hRs]
  have hneg : ((if s = true then 2048 * B + R else R) / (2048 * B) % 2 == 1) = s := by
    cases s
    · have : R / (2048 * B) = 0 := Nat.div_eq_of_lt hRs
      simp only [Bool.false_eq_true, if_false, this]; rfl
    · have : (2048 * B + R) / (2048 * B) = 1 := by
        rw [Nat.add_div_left _ (by omega), Nat.div_eq_of_lt hRs]
      simp only [if_true, this]; rfl
  rw [hmod, hneg, if_neg hge, if_pos hlt, hm, hd]
  have : (-1074 : Int) + ((e + 1023 - 1 : Nat) : Int) = (e : Int) - 52 := by omega
  rw [this]

theorem read_zero (s : Bool) : double.read (double.word s 0) = .number s 0 (-1074) := by
  cases s <;> decide +kernel

/-- What is written of a whole number is that number's word. -/
theorem fl_write (s : Bool) (n : Int) (q : Nat) (hs : n ≠ 0 → s = decide (n < 0)) (hb : n.natAbs < 2 ^ 53) :
    Fl (double.nearest s (n.natAbs * 2 ^ q) (-(q : Int))) n := by
  by_cases h0 : n = 0
  · subst h0
    refine zero_fl _ s 1074 ?_
    have : double.nearest s ((0 : Int).natAbs * 2 ^ q) (-(q : Int)) = double.word s 0 := by
      unfold Format.nearest; simp
    rw [this]; exact read_zero s
  · have hk : 0 < n.natAbs := by omega
    have he : n.natAbs.log2 < 53 := by rw [Nat.log2_lt (by omega)]; exact hb
    rw [nearest_exact s _ q hk hb]
    refine ⟨s, n.natAbs * 2 ^ (52 - n.natAbs.log2), 52 - n.natAbs.log2, ?_, rfl, hs, hb⟩
    rw [read_word s _ _ (by omega)]
    · congr 1; omega
    · have h1 := Nat.log2_self_le (n := n.natAbs) (by omega)
      have h2 := Nat.mul_le_mul_right (2 ^ (52 - n.natAbs.log2)) h1
      rw [← Nat.pow_add] at h2
      have e : n.natAbs.log2 + (52 - n.natAbs.log2) = 52 := by omega
      rwa [e] at h2
    · have h1 : n.natAbs < 2 ^ (n.natAbs.log2 + 1) := Nat.lt_log2_self
      have h2 := Nat.mul_lt_mul_of_pos_right h1 (Nat.two_pow_pos (52 - n.natAbs.log2))
      rw [← Nat.pow_add] at h2
      have e : n.natAbs.log2 + 1 + (52 - n.natAbs.log2) = 53 := by omega
      rwa [e] at h2

/-- The number that the sign and the magnitude tell. -/
theorem signed_fl {s : Bool} {m q : Nat} {n : Int} (hm : m = n.natAbs * 2 ^ q) (hs : n ≠ 0 → s = decide (n < 0)) (u : Nat) :
    signed s m u = n * 2 ^ (q + u) := by
  have e : ((m <<< u : Nat) : Int) = (n.natAbs : Int) * 2 ^ (q + u) := by
    rw [Nat.shiftLeft_eq, hm, Nat.mul_assoc, ← Nat.pow_add]
    simp [Int.natCast_mul, Int.natCast_pow]
  unfold signed
  rw [e]
  by_cases h0 : n = 0
  · subst h0; simp
  · rw [hs h0]
    by_cases hn : n < 0
    · have : (n.natAbs : Int) = -n := by omega
      simp [hn, this, Int.neg_mul]
    · have : (n.natAbs : Int) = n := by omega
      simp [hn, this]

theorem natAbs_mul_pow (n : Int) (Q : Nat) : (n * 2 ^ Q).natAbs = n.natAbs * 2 ^ Q := by
  rw [Int.natAbs_mul, Int.natAbs_pow]; rfl

theorem pow_pos_int (Q : Nat) : (0 : Int) < 2 ^ Q := by
  have := Nat.two_pow_pos Q
  have : ((2 ^ Q : Nat) : Int) > 0 := by omega
  simpa using this

theorem mul_pow_neg (n : Int) (Q : Nat) : (n * 2 ^ Q < 0) ↔ n < 0 := by
  have := pow_pos_int Q
  constructor
  · intro h
    by_cases hn : n < 0
    · exact hn
    · have := Int.mul_nonneg (a := n) (b := 2 ^ Q) (by omega) (by omega)
      omega
  · intro h
    exact Int.mul_neg_of_neg_of_pos h this

theorem mul_pow_zero (n : Int) (Q : Nat) : (n * 2 ^ Q = 0) ↔ n = 0 := by
  have := pow_pos_int Q
  constructor
  · intro h
    rcases Int.mul_eq_zero.mp h with h | h
    · exact h
    · omega
  · intro h; subst h; simp

theorem sum_fl {s t : Bool} {m k i j : Nat} {a b : Int} (hm : m = a.natAbs * 2 ^ i) (hs : a ≠ 0 → s = decide (a < 0)) (hk : k = b.natAbs * 2 ^ j) (ht : b ≠ 0 → t = decide (b < 0)) (hb : (a + b).natAbs < 2 ^ 53) :
    ∃ r, ((Datum.sum (.number s m (-(i : Int))) (.number t k (-(j : Int)))).map double.write) = some r ∧ Fl r (a + b) := by
  have hbase : min (-(i : Int)) (-(j : Int)) = -((max i j : Nat) : Int) := by omega
  have e1 : (-(i : Int) - -((max i j : Nat) : Int)).toNat = max i j - i := by omega
  have e2 : (-(j : Int) - -((max i j : Nat) : Int)).toNat = max i j - j := by omega
  have t1 := signed_fl hm hs (max i j - i)
  have t2 := signed_fl hk ht (max i j - j)
  have f1 : i + (max i j - i) = max i j := by omega
  have f2 : j + (max i j - j) = max i j := by omega
  rw [f1] at t1
  rw [f2] at t2
  have tt : signed s m (max i j - i) + signed t k (max i j - j) = (a + b) * 2 ^ (max i j) := by rw [t1, t2, Int.add_mul]
  refine ⟨_, by unfold Datum.sum; simp only [hbase, e1, e2, tt, Option.map_some]; rfl, ?_⟩
  simp only [Format.write, natAbs_mul_pow, mul_pow_zero, mul_pow_neg]
  refine fl_write _ _ _ ?_ hb
  intro h
  simp [h]

theorem fl_add {x y : Nat} {a b : Int} (hx : Fl x a) (hy : Fl y b) (hb : (a + b).natAbs < 2 ^ 53) : ∃ r, double.add x y = some r ∧ Fl r (a + b) := by
  obtain ⟨s, m, i, hr, hm, hs, _⟩ := hx
  obtain ⟨t, k, j, hr', hk, ht, _⟩ := hy
  unfold Format.add
  rw [hr, hr']
  exact sum_fl hm hs hk ht hb

theorem fl_sub {x y : Nat} {a b : Int} (hx : Fl x a) (hy : Fl y b) (hb : (a - b).natAbs < 2 ^ 53) : ∃ r, double.sub x y = some r ∧ Fl r (a - b) := by
  obtain ⟨s, m, i, hr, hm, hs, _⟩ := hx
  obtain ⟨t, k, j, hr', hk, ht, _⟩ := hy
  unfold Format.sub
  rw [hr, hr']
  have := sum_fl (t := !t) (k := k) (j := j) (b := -b) hm hs (by rw [Int.natAbs_neg]; exact hk) (by
    intro h
    have h' : b ≠ 0 := by omega
    rw [ht h']
    by_cases hn : b < 0
    · have : ¬ (-b < 0) := by omega
      rw [decide_eq_true hn, decide_eq_false this]; rfl
    · have : (-b < 0) := by omega
      rw [decide_eq_false hn, decide_eq_true this]; rfl) (by rw [← Int.sub_eq_add_neg]; exact hb)
  simpa [Datum.opposite, Int.sub_eq_add_neg] using this

theorem fl_mul {x y : Nat} {a b : Int} (hx : Fl x a) (hy : Fl y b) (hb : (a * b).natAbs < 2 ^ 53) : ∃ r, double.mul x y = some r ∧ Fl r (a * b) := by
  obtain ⟨s, m, i, hr, hm, hs, _⟩ := hx
  obtain ⟨t, k, j, hr', hk, ht, _⟩ := hy
  unfold Format.mul
  rw [hr, hr']
  refine ⟨_, by unfold Datum.product; simp only [Option.map_some]; rfl, ?_⟩
  have e1 : m * k = (a * b).natAbs * 2 ^ (i + j) := by
    rw [hm, hk, Int.natAbs_mul, Nat.pow_add]
    ac_rfl
  have e2 : -(i : Int) + -(j : Int) = -((i + j : Nat) : Int) := by omega
  simp only [Format.write, e1, e2]
  refine fl_write _ _ _ ?_ hb
  intro h
  have ha : a ≠ 0 := fun e => h (by simp [e])
  have hb' : b ≠ 0 := fun e => h (by simp [e])
  rw [hs ha, ht hb']
  by_cases h1 : a < 0 <;> by_cases h2 : b < 0
  · have : ¬ (a * b < 0) := by have := Int.mul_pos_of_neg_of_neg h1 h2; omega
    simp [h1, h2, this]
  · have : (a * b < 0) := Int.mul_neg_of_neg_of_pos h1 (by omega)
    simp [h1, h2, this]
  · have : (a * b < 0) := Int.mul_neg_of_pos_of_neg (by omega) h2
    simp [h1, h2, this]
  · have : ¬ (a * b < 0) := by have := Int.mul_nonneg (a := a) (b := b) (by omega) (by omega); omega
    simp [h1, h2, this]

theorem fl_order {x y : Nat} {a b : Int} (hx : Fl x a) (hy : Fl y b) : double.order x y = some (compare a b) := by
  obtain ⟨s, m, i, hr, hm, hs, _⟩ := hx
  obtain ⟨t, k, j, hr', hk, ht, _⟩ := hy
  unfold Format.order
  rw [hr, hr']
  have hbase : min (-(i : Int)) (-(j : Int)) = -((max i j : Nat) : Int) := by omega
  have e1 : (-(i : Int) - -((max i j : Nat) : Int)).toNat = max i j - i := by omega
  have e2 : (-(j : Int) - -((max i j : Nat) : Int)).toNat = max i j - j := by omega
  have t1 := signed_fl hm hs (max i j - i)
  have t2 := signed_fl hk ht (max i j - j)
  have f1 : i + (max i j - i) = max i j := by omega
  have f2 : j + (max i j - j) = max i j := by omega
  rw [f1] at t1
  rw [f2] at t2
  unfold Datum.order
  simp only [hbase, e1, e2, t1, t2, Option.some.injEq]
  have hp := pow_pos_int (max i j)
  generalize (2:Int) ^ (max i j) = P at hp
  have hlt : ∀ u v : Int, u < v → u * P < v * P := fun u v h => Int.mul_lt_mul_of_pos_right h hp
  rcases Int.lt_trichotomy a b with h | h | h
  · have := hlt a b h
    rw [Int.compare_eq_lt.mpr this, Int.compare_eq_lt.mpr h]
  · subst h
    rw [Int.compare_eq_eq.mpr rfl, Int.compare_eq_eq.mpr rfl]
  · have := hlt b a h
    rw [Int.compare_eq_gt.mpr this, Int.compare_eq_gt.mpr h]

theorem fl_toInt {x : Nat} {a : Int} (hx : Fl x a) : (double.read x).toInt .zero = some a := by
  obtain ⟨s, m, i, hr, hm, hs, _⟩ := hx
  rw [hr]
  unfold Datum.toInt Datum.integral
  have e1 : (-(i : Int)).toNat = 0 := by omega
  have e2 : (- -(i : Int)).toNat = i := by omega
  simp only [e1, e2, Nat.shiftLeft_eq, Nat.pow_zero, Nat.mul_one]
  have hc : Toward.zero.cut s m i = a.natAbs := by
    unfold Toward.cut
    simp only [Nat.shiftLeft_eq, Nat.one_mul, Bool.toNat_false, Nat.add_zero]
    by_cases h0 : a.natAbs = 0
    · rw [hm, h0]; simp
    · have : min i (m.log2 + 2) = i := by rw [hm, log2_shift _ _ (by omega)]; omega
      rw [this, hm, Nat.mul_div_cancel _ (Nat.two_pow_pos i)]
  rw [hc]
  have := signed_fl (q := 0) (m := a.natAbs) (by simp) hs 0
  simpa using this

theorem fl_ofInt (n : Int) (hb : n.natAbs < 2 ^ 53) : Fl (double.write (.number (n < 0) n.natAbs 0)) n := by
  have := fl_write (decide (n < 0)) n 0 (fun _ => rfl) hb
  simpa [Format.write] using this

theorem nearest_top (s : Bool) (q : Nat) : double.nearest s (2 ^ 53 * 2 ^ q) (-(q : Int)) = double.word s (1076 * 2 ^ 52) := by
  have hne : 2 ^ 53 * 2 ^ q ≠ 0 := Nat.ne_of_gt (Nat.mul_pos (by decide) (Nat.two_pow_pos q))
  have hlp : double.leastPlace = -1074 := by decide
  have hfb : (double.fractionBits : Int) = 52 := rfl
  have hbi : double.binade = 2 ^ 52 := rfl
  have hin : double.infRung = 2047 * 2 ^ 52 := rfl
  have hl : (2 ^ 53 * 2 ^ q).log2 = 53 + q := by rw [log2_shift _ _ (by decide), show (2 ^ 53 : Nat).log2 = 53 by decide +kernel]
  unfold Format.nearest
  rw [if_neg hne]
  simp only [hl, hlp, hfb, hbi, hin]
  have hlast : max (-(q : Int) + ((53 + q : Nat) : Int) - 52) (-1074) = 1 := by omega
  rw [hlast]
  have e1 : (-(q : Int) - 1).toNat = 0 := by omega
  have e2 : ((1 : Int) - -(q : Int)).toNat = q + 1 := by omega
  have e3 : ((1 : Int) - -1074).toNat = 1075 := by decide
  rw [e1, e2, e3]
  have e4 : (2 ^ 53 * 2 ^ q) <<< 0 = 2 ^ 52 * 2 ^ (q + 1) := by
    rw [Nat.shiftLeft_zero, Nat.pow_succ 2 q]
    have : (2 : Nat) ^ 53 = 2 ^ 52 * 2 := by decide
    rw [this]; ac_rfl
  rw [e4, cut_exact s (2 ^ 52) (q + 1) (by decide)]
  congr 1

/-- A difference that may be 2^53 itself: as an integer. -/
theorem fl_sub_to {x y : Nat} {a b : Int} (hx : Fl x a) (hy : Fl y b) (hb : (a - b).natAbs ≤ 2 ^ 53) : ∃ r, double.sub x y = some r ∧ (double.read r).toInt .zero = some (a - b) := by
  by_cases h : (a - b).natAbs < 2 ^ 53
  · obtain ⟨r, hr, fr⟩ := fl_sub hx hy h
    exact ⟨r, hr, fl_toInt fr⟩
  have htop : (a - b).natAbs = 2 ^ 53 := by omega
  obtain ⟨s, m, i, hr, hm, hs, _⟩ := hx
  obtain ⟨t, k, j, hr', hk, ht, _⟩ := hy
  unfold Format.sub
  rw [hr, hr']
  have hk' : k = (-b).natAbs * 2 ^ j := by rw [Int.natAbs_neg]; exact hk
  have ht' : -b ≠ 0 → (!t) = decide (-b < 0) := by
    intro h
    have h' : b ≠ 0 := by omega
    rw [ht h']
    by_cases hn : b < 0
    · have : ¬ (-b < 0) := by omega
      rw [decide_eq_true hn, decide_eq_false this]; rfl
    · have : (-b < 0) := by omega
      rw [decide_eq_false hn, decide_eq_true this]; rfl
  have hbase : min (-(i : Int)) (-(j : Int)) = -((max i j : Nat) : Int) := by omega
  have e1 : (-(i : Int) - -((max i j : Nat) : Int)).toNat = max i j - i := by omega
  have e2 : (-(j : Int) - -((max i j : Nat) : Int)).toNat = max i j - j := by omega
  have t1 := signed_fl hm hs (max i j - i)
  have t2 := signed_fl hk' ht' (max i j - j)
  have f1 : i + (max i j - i) = max i j := by omega
  have f2 : j + (max i j - j) = max i j := by omega
  rw [f1] at t1
  rw [f2] at t2
  have tt : signed s m (max i j - i) + signed (!t) k (max i j - j) = (a - b) * 2 ^ (max i j) := by rw [t1, t2, ← Int.add_mul, Int.sub_eq_add_neg]
  have hne : a - b ≠ 0 := by intro e; rw [e] at htop; revert htop; decide
  refine ⟨_, by unfold Datum.opposite Datum.sum; simp only [hbase, e1, e2, tt, Option.map_some]; rfl, ?_⟩
  simp only [Format.write, natAbs_mul_pow, mul_pow_zero, mul_pow_neg, htop, nearest_top, if_neg hne]
  by_cases hn : a - b < 0
  · have : a - b = -(2 ^ 53 : Int) := by have := htop; omega
    rw [decide_eq_true hn, this]
    decide +kernel
  · have : a - b = (2 ^ 53 : Int) := by have := htop; omega
    rw [decide_eq_false hn, this]
    decide +kernel

theorem fl_inj {x : Nat} {a b : Int} (h : Fl x a) (h' : Fl x b) : a = b := by
  have := (fl_toInt h).symm.trans (fl_toInt h')
  simpa using this

theorem fl_zero : Fl 0 0 := zero_fl _ false 1074 (by decide +kernel)
theorem fl_one : Fl 0x3FF0000000000000 1 := ⟨false, 2 ^ 52, 52, rfl, by decide, by decide, by decide⟩
theorem fl_negone : Fl 0xBFF0000000000000 (-1) := ⟨true, 2 ^ 52, 52, rfl, by decide, by decide, by decide⟩
theorem fl_negzero : Fl 0x8000000000000000 0 := zero_fl _ true 1074 (by decide +kernel)
theorem fl_lt {x : Nat} {a : Int} (h : Fl x a) : a.natAbs < 2 ^ 53 := by obtain ⟨_, _, _, _, _, _, h⟩ := h; exact h
end Go.Proofs.YtbebnjeamlmclaaGreat
