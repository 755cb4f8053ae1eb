/- Package plane: Spiral, its last steps. -/
import Derived.Test.YtbebnjeamlmclaaGreatPlaneSpiral
namespace Go.Proofs.YtbebnjeamlmclaaGreat
open Go.RowKit Go.Shelf Go.Sort
set_option maxRecDepth 100000
set_option maxRecDepth 100000

theorem dirM_cases (n : Nat) : dirM n = (1, 0) ∨ dirM n = (0, 1) ∨ dirM n = (-1, 0) ∨ dirM n = (0, -1) := by
  unfold dirM
  split
  · exact .inl rfl
  · split
    · exact .inr (.inl rfl)
    · split
      · exact .inr (.inr (.inl rfl))
      · exact .inr (.inr (.inr rfl))

theorem along_mul {P : Program} {a b c : Nat} {x y s : Int} (hd : (x, y) = ((1 : Int), (0 : Int)) ∨ (x, y) = ((0 : Int), (1 : Int)) ∨ (x, y) = ((-1 : Int), (0 : Int)) ∨ (x, y) = ((0 : Int), (-1 : Int))) (ha : Fl a x) (hb : Fl b y) (hc : Fl c s) (t : TypeId) :
    ∃ r q, (∀ w, (binOp .mul t (.complex .f64 a b) (.complex .f64 c 0)).run P w = .ok (.complex .f64 r q) w) ∧ Fl r (x * s) ∧ Fl q (y * s) := by
  have h1 := fl_lt hc
  have e1 : x * s - y * 0 = x * s := by omega
  have e2 : x * 0 + y * s = y * s := by omega
  have hxy : (x * s).natAbs < 2 ^ 53 ∧ (y * s).natAbs < 2 ^ 53 := by
    rcases hd with h | h | h | h <;> (injection h with h1 h2; subst h1 h2; constructor <;> omega)
  obtain ⟨r, q, h, fr, fs⟩ := c_mul (P := P) ha hb hc fl_zero hxy.1 (by simp) (by simp) hxy.2 (by rw [e1]; exact hxy.1) (by rw [e2]; exact hxy.2) t
  rw [e1] at fr
  rw [e2] at fs
  exact ⟨r, q, h, fr, fs⟩

theorem fl_conv (n : Int) (hb : n.natAbs < 2 ^ 53) : Fl (floatOfInt .f64 n) n := fl_ofInt n hb

theorem along_any (n s : Nat) (hs : s < 2 ^ 53) (w : World) :
    Calls Tryz.prog 50 #[.int .i64 n, .int .i64 s] w fun e w' => ∃ a b, e = .returned (.complex .f64 a b) ∧ Fl a ((dirM n).1 * s) ∧ Fl b ((dirM n).2 * s) ∧ Below w.heap.size w w' := by
  have hcv := fl_conv (s : Int) (by omega)
  have hcon := direction_any n w
  go_enter Tryz.func50, Tryz.ntmps50
  go_wp2_with fail
  refine hcon.mono ?_
  rintro e w' ⟨a, b, rfl, fa, fb, hb⟩
  obtain ⟨r, q, hrun, fr, fq⟩ := along_mul (P := Tryz.prog) (dirM_cases n) fa fb hcv 81
  clear fa fb hcon hcv
  go_wp2
  go_ret
  exact ⟨r, q, rfl, fr, fq, hb⟩

/-- The corner behind p pairs. -/
def corM (p : Nat) : Int := if p % 2 = 0 then -((p / 2 : Nat) : Int) else (((p + 1) / 2 : Nat) : Int)

theorem corner_any (p : Nat) (hp : p ≤ 1048576) (w : World) :
    Calls Tryz.prog 49 #[.int .i64 p] w fun e w' => ∃ a b, e = .returned (.complex .f64 a b) ∧ Fl a (corM p) ∧ Fl b (corM p) ∧ w' = w := by
  have h1 : ((p : Int) + 1).tdiv 2 = (((p + 1) / 2 : Nat) : Int) := by rw [Int.tdiv_eq_ediv_of_nonneg (by omega)]; omega
  have h2 : (-(p : Int)).tdiv 2 = -((p / 2 : Nat) : Int) := by rw [Int.neg_tdiv, Int.tdiv_eq_ediv_of_nonneg (by omega)]; omega
  have h3 : (p : Int).tmod 2 = ((p % 2 : Nat) : Int) := by rw [Int.tmod_eq_emod_of_nonneg (by omega)]; omega
  have c1 := fl_conv (((p + 1) / 2 : Nat) : Int) (by omega)
  have c2 := fl_conv (-((p / 2 : Nat) : Int)) (by omega)
  have b1 : (p + 1) / 2 ≤ 1048576 := by omega
  have b2 : p / 2 ≤ 1048576 := by omega
  unfold corM
  by_cases hm : p % 2 = 0
  · have h3' : (p : Int).tmod 2 = 0 := by rw [h3, hm]; rfl
    rw [if_pos hm]
    clear h3 hm c1
    generalize (p + 1) / 2 = u at *
    generalize p / 2 = v at *
    go_enter Tryz.func49, Tryz.ntmps49
    go_wp2
    go_ret
    exact ⟨_, _, rfl, c2, c2, rfl⟩
  · have h3' : (p : Int).tmod 2 = 1 := by rw [h3, show p % 2 = 1 by omega]; rfl
    rw [if_neg hm]
    clear h3 hm c2
    generalize (p + 1) / 2 = u at *
    generalize p / 2 = v at *
    go_enter Tryz.func49, Tryz.ntmps49
    go_wp2
    go_ret
    exact ⟨_, _, rfl, c1, c1, rfl⟩
end Go.Proofs.YtbebnjeamlmclaaGreat
