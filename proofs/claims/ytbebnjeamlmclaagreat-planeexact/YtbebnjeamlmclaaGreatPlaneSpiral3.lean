/- Package plane: Spiral. -/
import Derived.Test.YtbebnjeamlmclaaGreatPlaneSpiral2
namespace Go.Proofs.YtbebnjeamlmclaaGreat
open Go.RowKit Go.Shelf Go.Sort
set_option maxRecDepth 100000
set_option maxRecDepth 100000

theorem sp_sum (k : Nat) : spM k = (corM (pairsM k) + (dirM (2 * pairsM k)).1 * (fiM k : Nat) + (dirM (2 * pairsM k + 1)).1 * ((stM k - fiM k : Nat) : Int),
    corM (pairsM k) + (dirM (2 * pairsM k)).2 * (fiM k : Nat) + (dirM (2 * pairsM k + 1)).2 * ((stM k - fiM k : Nat) : Int)) := by
  unfold spM spQ corM
  generalize pairsM k = p
  generalize fiM k = f
  generalize stM k - f = g
  by_cases h : p % 2 = 0
  · have d1 : dirM (2 * p) = (1, 0) := by unfold dirM; rw [if_pos (by omega)]
    have d2 : dirM (2 * p + 1) = (0, 1) := by unfold dirM; rw [if_neg (by omega), if_pos (by omega)]
    rw [if_pos h, if_pos h, d1, d2]
    refine Prod.ext ?_ ?_ <;> simp
  · have d1 : dirM (2 * p) = (-1, 0) := by unfold dirM; rw [if_neg (by omega), if_neg (by omega), if_pos (by omega)]
    have d2 : dirM (2 * p + 1) = (0, -1) := by unfold dirM; rw [if_neg (by omega), if_neg (by omega), if_neg (by omega)]
    rw [if_neg h, if_neg h, d1, d2]
    refine Prod.ext ?_ ?_ <;> simp <;> omega

/-- The point of a step, of whatever number. -/
def spZ (k : Int) : Int × Int := if k < 0 ∨ k > 1099511627776 then (0, 0) else spM k.toNat

theorem st_le (k : Nat) : stM k ≤ 2 * pairsM k + 1 := by
  obtain ⟨h1, h2⟩ := pairsM_spec k
  have e : (pairsM k + 1) * (pairsM k + 2) = pairsM k * (pairsM k + 1) + 2 * pairsM k + 2 := by grind
  unfold stM
  omega

theorem mul_dir (d : Int × Int) (hd : d = (1, 0) ∨ d = (0, 1) ∨ d = (-1, 0) ∨ d = (0, -1)) (s : Nat) : (d.1 * s).natAbs ≤ s ∧ (d.2 * s).natAbs ≤ s := by
  rcases hd with h | h | h | h <;> (subst h; constructor <;> simp)

theorem cor_le (p : Nat) : (corM p).natAbs ≤ p := by
  unfold corM
  split <;> omega

theorem spiral_in (k : Nat) (hk : k ≤ 1099511627776) (w : World) :
    Calls Tryz.prog 22 #[.int .i64 k] w fun e w' => ∃ a b, e = .returned (.complex .f64 a b) ∧ Fl a (spM k).1 ∧ Fl b (spM k).2 ∧ Below w.heap.size w w' := by
  have hpw := pairs_any k hk w
  have hpl := pairs_lt k hk
  have hst := st_le k
  obtain ⟨g1, g2⟩ := pairsM_spec k
  have hfi : fiM k = min (stM k) (pairsM k + 1) := rfl
  have hdef : stM k = k - pairsM k * (pairsM k + 1) := rfl
  rw [sp_sum k]
  generalize pairsM k = p at *
  generalize stM k = s at *
  generalize fiM k = f at *
  have hsteps := fun w => steps_any p (by omega) w
  have hq : p * (p + 1) ≤ 1048575 * 1048576 := Nat.mul_le_mul hpl (by omega)
  generalize p * (p + 1) = q at *
  have hsub : (k : Int) - (q : Int) = (s : Int) := by omega
  have hcor := fun w => corner_any p (by omega) w
  have ha1 := fun w => along_any (2 * p) f (by omega) w
  have ha2 := fun w => along_any (2 * p + 1) (s - f) (by omega) w
  have hf : min (s : Int) ((p : Int) + 1) = (f : Int) := by omega
  have hsf : (s : Int) - (f : Int) = ((s - f : Nat) : Int) := by omega
  have bf : f ≤ 2 * p + 1 := by omega
  have bg : s - f ≤ 2 * p + 1 := by omega
  have hc := cor_le p
  have m1 := mul_dir (dirM (2 * p)) (dirM_cases (2 * p)) f
  have m2 := mul_dir (dirM (2 * p + 1)) (dirM_cases (2 * p + 1)) (s - f)
  generalize s - f = g at *
  have kk : 3 * 2097152 < 2 ^ 53 := by decide
  have HB : Hid ((corM p + (dirM (2 * p)).1 * (f : Int)).natAbs < 2 ^ 53 ∧ (corM p + (dirM (2 * p)).2 * (f : Int)).natAbs < 2 ^ 53 ∧ (corM p + (dirM (2 * p)).1 * (f : Int) + (dirM (2 * p + 1)).1 * (g : Int)).natAbs < 2 ^ 53 ∧ (corM p + (dirM (2 * p)).2 * (f : Int) + (dirM (2 * p + 1)).2 * (g : Int)).natAbs < 2 ^ 53) := by
    obtain ⟨m1, m1'⟩ := m1
    obtain ⟨m2, m2'⟩ := m2
    generalize (dirM (2 * p)).1 * (f : Int) = A1 at *
    generalize (dirM (2 * p)).2 * (f : Int) = A2 at *
    generalize (dirM (2 * p + 1)).1 * (g : Int) = A3 at *
    generalize (dirM (2 * p + 1)).2 * (g : Int) = A4 at *
    generalize corM p = A0 at *
    show _ ∧ _ ∧ _ ∧ _
    refine ⟨?_, ?_, ?_, ?_⟩ <;> omega
  have e2p : ((2 * p : Nat) : Int) = 2 * (p : Int) := by omega
  have e2p1 : ((2 * p + 1 : Nat) : Int) = 2 * (p : Int) + 1 := by omega
  rw [e2p] at ha1
  rw [e2p1] at ha2
  have HM : Hid (f = min s (p + 1) ∧ s = k - q) := ⟨hfi, hdef⟩
  clear hfi hdef g1 g2 e2p e2p1
  have bs : s ≤ 2097152 := by omega
  have bq : q ≤ 1099511627776 := by omega
  have ltk : ¬ (k : Int) < 0 := by omega
  have ltk2 : ¬ (k : Int) > 1099511627776 := by omega
  have HH : Hid (q ≤ 1048575 * 1048576 ∧ s ≤ 2 * p + 1) := ⟨hq, hst⟩
  clear hq hst
  go_enter Tryz.func22, Tryz.ntmps22
  go_wp2_with fail
  refine hpw.mono ?_
  rintro e w1 ⟨rfl, b1⟩
  go_wp2_with fail
  refine (hsteps _).mono ?_
  rintro e w2 ⟨rfl, rfl⟩
  go_wp2_with fail
  refine (hcor _).mono ?_
  rintro e w2 ⟨ca, cb, rfl, fca, fcb, rfl⟩
  go_wp2_with fail
  refine (ha1 _).mono ?_
  rintro e w2 ⟨xa, xb, rfl, fxa, fxb, b2⟩
  obtain ⟨r, t, hrun, fr, ft⟩ := c_add (P := Tryz.prog) fca fcb fxa fxb HB.out.1 HB.out.2.1 81
  clear fca fcb fxa fxb
  go_wp2_with fail
  refine (ha2 _).mono ?_
  rintro e w3 ⟨ya, yb, rfl, fya, fyb, b3⟩
  obtain ⟨r', t', hrun', fr', ft'⟩ := c_add (P := Tryz.prog) fr ft fya fyb HB.out.2.2.1 HB.out.2.2.2 81
  clear fr ft fya fyb hrun
  go_wp2
  go_ret
  exact ⟨r', t', rfl, fr', ft', b1.trans ((b2.mono b1.size).trans (b3.mono (Nat.le_trans b1.size b2.size)))⟩

theorem spiral_any (k : Int) (w : World) :
    Calls Tryz.prog 22 #[.int .i64 k] w fun e w' => ∃ a b, e = .returned (.complex .f64 a b) ∧ Fl a (spZ k).1 ∧ Fl b (spZ k).2 ∧ Below w.heap.size w w' := by
  by_cases h0 : k < 0
  · have : spZ k = (0, 0) := if_pos (.inl h0)
    rw [this]
    go_enter Tryz.func22, Tryz.ntmps22
    go_wp2
    go_ret
    exact ⟨_, _, rfl, fl_zero, fl_zero, Below.refl _ _⟩
  · by_cases h1 : k > 1099511627776
    · have : spZ k = (0, 0) := if_pos (.inr h1)
      rw [this]
      go_enter Tryz.func22, Tryz.ntmps22
      go_wp2
      go_ret
      exact ⟨_, _, rfl, fl_zero, fl_zero, Below.refl _ _⟩
    · have e : spZ k = spM k.toNat := if_neg (by omega)
      rw [e]
      have := spiral_in k.toNat (by omega) w
      rwa [show ((k.toNat : Nat) : Int) = k by omega] at this
end Go.Proofs.YtbebnjeamlmclaaGreat
