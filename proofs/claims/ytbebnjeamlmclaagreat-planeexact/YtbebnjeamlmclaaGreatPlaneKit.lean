/- Complex numbers of whole parts in the walk: sums, products; conjugate, Apart, Turn. -/
import Derived.Test.YtbebnjeamlmclaaGreatSpiralMath
import Derived.Test.YtbebnjeamlmclaaGreatProg
import Derived.WalkKit
import Derived.Deep.OwnRows
import Derived.Deep.QuietTactic
import Derived.BigQuiet
import Derived.Deep.LoopGhost
import Derived.Below
import Derived.WalkLawsBesides
namespace Go.Proofs.YtbebnjeamlmclaaGreat
open Go.RowKit
set_option maxRecDepth 100000

theorem hide {p : Prop} (h : p) : Hid p := h

theorem f64_format : FloatKind.f64.format = Ieee.double := rfl

theorem fl_neg {b : Nat} {n : Int} (h : Fl b n) : Fl (Op.negFloat .f64 b) (-n) := by
  obtain ⟨s, m, q, hr, hm, hs, hb⟩ := h
  refine ⟨!s, m, q, ?_, by rw [Int.natAbs_neg]; exact hm, ?_, by rw [Int.natAbs_neg]; exact hb⟩
  · have e1 : Op.negFloat .f64 b % 2 ^ 63 = b % 2 ^ 63 := by
      show (b ^^^ 2 ^ 63) % 2 ^ 63 = _
      rw [Nat.xor_mod_two_pow, Nat.mod_self, Nat.xor_zero]
    have e2 : Op.negFloat .f64 b / 2 ^ 63 % 2 = (b / 2 ^ 63 + 1) % 2 := by
      show (b ^^^ 2 ^ 63) / 2 ^ 63 % 2 = _
      rw [Nat.xor_div_two_pow, Nat.div_self (Nat.two_pow_pos 63)]
      have := Nat.xor_mod_two_pow (a := b / 2 ^ 63) (b := 1) (n := 1)
      rw [Nat.pow_one] at this
      rw [this]
      rcases Nat.mod_two_eq_zero_or_one (b / 2 ^ 63) with h | h
      · rw [h]; show 1 = _; omega
      · rw [h]; show 0 = _; omega
    have e3 : (Op.negFloat .f64 b / 2 ^ 63 % 2 == 1) = !(b / 2 ^ 63 % 2 == 1) := by
      rw [e2]
      rcases Nat.mod_two_eq_zero_or_one (b / 2 ^ 63) with h | h
      · have : (b / 2 ^ 63 + 1) % 2 = 1 := by omega
        rw [h, this]; rfl
      · have : (b / 2 ^ 63 + 1) % 2 = 0 := by omega
        rw [h, this]; rfl
    have hsw : Ieee.double.signWeight = 2 ^ 63 := rfl
    unfold Ieee.Format.read at hr ⊢
    simp only [hsw, e1, e3] at hr ⊢
    generalize (b / 2 ^ 63 % 2 == 1) = t at hr ⊢
    split at hr
    · rename_i c
      rw [if_pos c]
      injection hr with h1 h2 h3
      rw [h1, h2, h3]
    · rename_i c
      rw [if_neg c]
      split at hr
      · rename_i c
        rw [if_pos c]
        injection hr with h1 h2 h3
        rw [h1, h2, h3]
      · split at hr <;> cases hr
  · intro h0
    have h' : n ≠ 0 := by omega
    rw [hs h']
    by_cases hn : n < 0
    · have : ¬ (-n < 0) := by omega
      rw [decide_eq_true hn, decide_eq_false this]; rfl
    · have : (-n < 0) := by omega
      rw [decide_eq_false hn, decide_eq_true this]; rfl

section
variable {P : Program} {a b c d : Nat} {x y u v : Int}

theorem c_add (ha : Fl a x) (hb : Fl b y) (hc : Fl c u) (hd : Fl d v) (h1 : (x + u).natAbs < 2 ^ 53) (h2 : (y + v).natAbs < 2 ^ 53) (t : TypeId) :
    ∃ r s, (∀ w, (binOp .add t (.complex .f64 a b) (.complex .f64 c d)).run P w = .ok (.complex .f64 r s) w) ∧ Fl r (x + u) ∧ Fl s (y + v) := by
  obtain ⟨r, hr, fr⟩ := fl_add ha hc h1
  obtain ⟨s, hs, fs⟩ := fl_add hb hd h2
  refine ⟨r, s, fun w => run_complex_sum w .add (.inl rfl) t .f64 a b c d r s ?_, fr, fs⟩
  simp [cSumBits, floatBits, f64_format, hr, hs]

theorem c_sub (ha : Fl a x) (hb : Fl b y) (hc : Fl c u) (hd : Fl d v) (h1 : (x - u).natAbs < 2 ^ 53) (h2 : (y - v).natAbs < 2 ^ 53) (t : TypeId) :
    ∃ r s, (∀ w, (binOp .sub t (.complex .f64 a b) (.complex .f64 c d)).run P w = .ok (.complex .f64 r s) w) ∧ Fl r (x - u) ∧ Fl s (y - v) := by
  obtain ⟨r, hr, fr⟩ := fl_sub ha hc h1
  obtain ⟨s, hs, fs⟩ := fl_sub hb hd h2
  refine ⟨r, s, fun w => run_complex_sum w .sub (.inr rfl) t .f64 a b c d r s ?_, fr, fs⟩
  simp [cSumBits, floatBits, f64_format, hr, hs]

theorem c_mul (ha : Fl a x) (hb : Fl b y) (hc : Fl c u) (hd : Fl d v) (h1 : (x * u).natAbs < 2 ^ 53) (h2 : (y * v).natAbs < 2 ^ 53) (h3 : (x * v).natAbs < 2 ^ 53) (h4 : (y * u).natAbs < 2 ^ 53)
    (h5 : (x * u - y * v).natAbs < 2 ^ 53) (h6 : (x * v + y * u).natAbs < 2 ^ 53) (t : TypeId) :
    ∃ r s, (∀ w, (binOp .mul t (.complex .f64 a b) (.complex .f64 c d)).run P w = .ok (.complex .f64 r s) w) ∧ Fl r (x * u - y * v) ∧ Fl s (x * v + y * u) := by
  obtain ⟨p, hp, fp⟩ := fl_mul ha hc h1
  obtain ⟨q, hq, fq⟩ := fl_mul hb hd h2
  obtain ⟨p', hp', fp'⟩ := fl_mul ha hd h3
  obtain ⟨q', hq', fq'⟩ := fl_mul hb hc h4
  obtain ⟨r, hr, fr⟩ := fl_sub fp fq h5
  obtain ⟨s, hs, fs⟩ := fl_add fp' fq' h6
  refine ⟨r, s, fun w => run_complex_mul w t a b c d r s ?_, fr, fs⟩
  simp [cMulBits, floatBits, f64_format, hp, hq, hp', hq', hr, hs]

/-- A square of a length: its real part may be 2^53 itself. -/
theorem c_square (ha : Fl a x) (hb : Fl b y) (hc : Fl c x) (hd : Fl d (-y)) (hx : x.natAbs ≤ 2 ^ 26) (hy : y.natAbs ≤ 2 ^ 26) (t : TypeId) :
    ∃ r s, (∀ w, (binOp .mul t (.complex .f64 a b) (.complex .f64 c d)).run P w = .ok (.complex .f64 r s) w) ∧ (Ieee.double.read r).toInt .zero = some (x * x + y * y) := by
  have hxx : (x * x).natAbs ≤ 2 ^ 52 := by rw [Int.natAbs_mul]; exact Nat.le_trans (Nat.mul_le_mul hx hx) (by decide)
  have hyy : (y * -y).natAbs ≤ 2 ^ 52 := by rw [Int.natAbs_mul, Int.natAbs_neg]; exact Nat.le_trans (Nat.mul_le_mul hy hy) (by decide)
  have hxy : (x * -y).natAbs ≤ 2 ^ 52 := by rw [Int.natAbs_mul, Int.natAbs_neg]; exact Nat.le_trans (Nat.mul_le_mul hx hy) (by decide)
  have hyx : (y * x).natAbs ≤ 2 ^ 52 := by rw [Int.natAbs_mul]; exact Nat.le_trans (Nat.mul_le_mul hy hx) (by decide)
  have lt : (2 : Nat) ^ 52 < 2 ^ 53 := by decide
  obtain ⟨p, hp, fp⟩ := fl_mul ha hc (by omega)
  obtain ⟨q, hq, fq⟩ := fl_mul hb hd (by omega)
  obtain ⟨p', hp', fp'⟩ := fl_mul ha hd (by omega)
  obtain ⟨q', hq', fq'⟩ := fl_mul hb hc (by omega)
  have e0 : x * -y + y * x = 0 := by grind
  obtain ⟨s, hs, _⟩ := fl_add fp' fq' (by rw [e0]; decide)
  obtain ⟨r, hr, tr⟩ := fl_sub_to fp fq (by omega)
  refine ⟨r, s, fun w => run_complex_mul w t a b c d r s ?_, ?_⟩
  · simp [cMulBits, floatBits, f64_format, hp, hq, hp', hq', hr, hs]
  · rw [tr]; congr 1; grind
end

theorem conj_any (a b : Nat) (w : World) : Calls Tryz.prog 52 #[.complex .f64 a b] w fun e w' => e = .returned (.complex .f64 a (Op.negFloat .f64 b)) ∧ w' = w := by
  have hn : ∀ w, (Op.unary .neg (.float .f64 b)).run Tryz.prog w = .ok (.float .f64 (Op.negFloat .f64 b)) w := fun _ => rfl
  generalize Op.negFloat .f64 b = nb at *
  go_enter Tryz.func52, Tryz.ntmps52
  go_wp2
  go_ret
  exact ⟨rfl, rfl⟩

theorem apart_any {a b c d : Nat} {x y u v : Int} (ha : Fl a x) (hb : Fl b y) (hc : Fl c u) (hd : Fl d v) (h1 : (x - u).natAbs ≤ 2 ^ 26) (h2 : (y - v).natAbs ≤ 2 ^ 26) (w : World) :
    Calls Tryz.prog 26 #[.complex .f64 a b, .complex .f64 c d] w fun e w' => e = .returned (.int .i64 (apM (x, y) (u, v))) ∧ w' = w := by
  have lt : (2 : Nat) ^ 26 < 2 ^ 53 := by decide
  obtain ⟨r, s, hrun, fr, fs⟩ := c_sub (P := Tryz.prog) ha hb hc hd (by omega) (by omega) 81
  obtain ⟨r', s', hrun', ht⟩ := c_square (P := Tryz.prog) fr fs fr (fl_neg fs) h1 h2 81
  have hcon := conj_any r s w
  have hxx : ((x - u) * (x - u)).natAbs ≤ 2 ^ 52 := by rw [Int.natAbs_mul]; exact Nat.le_trans (Nat.mul_le_mul h1 h1) (by decide)
  have hyy : ((y - v) * (y - v)).natAbs ≤ 2 ^ 52 := by rw [Int.natAbs_mul]; exact Nat.le_trans (Nat.mul_le_mul h2 h2) (by decide)
  have hcv : ∀ w, (convert 114 3 (.float .f64 r')).run Tryz.prog w = .ok (.int .i64 (apM (x, y) (u, v))) w := fun w => by
    refine run_convert_float_int w 114 3 .f64 .i64 r' _ (by kernel_rfl) (by kernel_rfl) ?_
    unfold floatToIntVal
    show (match (Ieee.double.read r').toInt .zero with | some n => if IntKind.i64.min ≤ n ∧ n ≤ IntKind.i64.max then some n else none | none => none) = _
    rw [ht]
    have m1 : IntKind.i64.min = -9223372036854775808 := by decide
    have m2 : IntKind.i64.max = 9223372036854775807 := by decide
    have := Int.natAbs_mul_self (a := x - u)
    simp only [m1, m2, apM]
    rw [if_pos]
    omega
  generalize apM (x, y) (u, v) = ap at *
  clear ha hb hc hd h1 h2 lt fr fs ht hxx hyy
  go_enter Tryz.func26, Tryz.ntmps26
  go_wp2_with (go_at_call 52; refine hcon.mono ?_; rintro e w' ⟨rfl, rfl⟩)
  go_ret
  exact ⟨rfl, rfl⟩

/-- A quarter to the left, so many times. -/
def turnN : Nat → Int × Int → Int × Int
  | 0, p => p
  | n + 1, p => turnN n (-p.2, p.1)

theorem and_three (q : Int) : bits .and .i64 q 3 = ((q % 4).toNat : Int) := by
  show IntKind.i64.wrap (((BitVec.ofInt 64 q &&& BitVec.ofInt 64 3).toNat : Nat) : Int) = _
  rw [BitVec.toNat_and, BitVec.toNat_ofInt]
  have e : (BitVec.ofInt 64 3).toNat = 2 ^ 2 - 1 := by decide
  rw [e, Nat.and_two_pow_sub_one_eq_mod, IntKind.wrap_i64]
  omega

theorem turn_one {P : Program} {a b : Nat} {x y : Int} (ha : Fl a x) (hb : Fl b y) (t : TypeId) :
    ∃ r s, (∀ w, (binOp .mul t (.complex .f64 a b) (.complex .f64 0 4607182418800017408)).run P w = .ok (.complex .f64 r s) w) ∧ Fl r (-y) ∧ Fl s x := by
  have h1 := fl_lt ha
  have h2 := fl_lt hb
  obtain ⟨r, s, h, fr, fs⟩ := c_mul (P := P) ha hb fl_zero fl_one (by omega) (by omega) (by omega) (by omega) (by omega) (by omega) t
  refine ⟨r, s, h, ?_, ?_⟩
  · have e : x * 0 - y * 1 = -y := by omega
    rwa [e] at fr
  · have e : x * 1 + y * 0 = x := by omega
    rwa [e] at fs

theorem turn_last {P : Program} {a b : Nat} {x y : Int} (ha : Fl a x) (hb : Fl b y) (t : TypeId) :
    ∃ r s, (∀ w, (binOp .add t (.complex .f64 a b) (.complex .f64 0 0)).run P w = .ok (.complex .f64 r s) w) ∧ Fl r x ∧ Fl s y := by
  have h1 := fl_lt ha
  have h2 := fl_lt hb
  obtain ⟨r, s, h, fr, fs⟩ := c_add (P := P) ha hb fl_zero fl_zero (by omega) (by omega) t
  refine ⟨r, s, h, ?_, ?_⟩
  · rwa [Int.add_zero] at fr
  · rwa [Int.add_zero] at fs

theorem turn_any {a b : Nat} {x y : Int} (q : Int) (ha : Fl a x) (hb : Fl b y) (w : World) :
    Calls Tryz.prog 24 #[.complex .f64 a b, .int .i64 q] w fun e w' => ∃ r s, e = .returned (.complex .f64 r s) ∧ Fl r (turnN (q % 4).toNat (x, y)).1 ∧ Fl s (turnN (q % 4).toNat (x, y)).2 ∧ w' = w := by
  have hand := and_three q
  have hn4 : (q % 4).toNat < 4 := by omega
  generalize (q % 4).toNat = n at *
  go_enter Tryz.func24, Tryz.ntmps24
  go_wp2
  go_loopg [0, 7] 4 (fun g z k wr => ∃ (c d i : Nat) (u v : Int), z = .complex .f64 c d ∧ k = .int .i64 i ∧ wr = w ∧ g = 4 - i ∧ i ≤ n ∧ Fl c u ∧ Fl d v ∧ Hid (turnN (n - i) (u, v) = turnN n (x, y)))
  case atStart => exact ⟨a, b, 0, x, y, rfl, rfl, rfl, rfl, Nat.zero_le _, ha, hb, hide rfl⟩
  case round =>
    obtain ⟨c, d, i, u, v, rfl, rfl, rfl, hg, hi, fc, fd, HT⟩ := hrel
    by_cases hlt : i < n
    · obtain ⟨r, s, hrun, fr, fs⟩ := turn_one (P := Tryz.prog) fc fd 81
      have hz : (i : Int) < (n : Int) := by omega
      go_wp2
      go_roundg (4 - (i + 1))
      case measure => omega
      case rel =>
        refine ⟨r, s, i + 1, -v, u, rfl, by go_num, rfl, by omega, by omega, fr, fs, hide ?_⟩
        have := HT.out
        rw [← this, show n - i = (n - (i + 1)) + 1 by omega]
        rfl
    · have hz : ¬ (i : Int) < (n : Int) := by omega
      have e : n - i = 0 := by omega
      have := HT.out
      rw [e] at this
      obtain ⟨r, s, hrun, fr, fs⟩ := turn_last (P := Tryz.prog) fc fd 81
      clear fc fd ha hb HT
      go_wp2
      go_ret
      rw [← this]
      exact ⟨r, s, rfl, fr, fs, rfl⟩

end Go.Proofs.YtbebnjeamlmclaaGreat
