/- The document's own answers for package plane: mathematics, and the walks of ring and Apart. -/
import Derived.Test.YtbebnjeamlmclaaGreatPlanePoint
namespace Go.Proofs.YtbebnjeamlmclaaGreat
open Go.RowKit Go.Shelf Go.Sort
set_option maxRecDepth 100000
set_option maxRecDepth 100000

/-- The point of step k, by its ring r and how far along the ring. -/
def refM (r m : Int) (q : Int) : Int × Int :=
  if q = 0 then (r, 1 - r + m) else if q = 1 then (3 * r - 1 - m, r) else if q = 2 then (-r, 5 * r - 1 - m) else (m + 1 - 7 * r, -r)

theorem ref_sp (h k m : Nat) (hk : k = 4 * (h * h) + 4 * h + 1 + m) (hm : m < 8 * h + 8) : refM ((h : Int) + 1) m ((m / (2 * h + 2) : Nat) : Int) = spM k := by
  have e2 : (h + 1) * (h + 1) = h * h + 2 * h + 1 := by grind
  by_cases c0 : m < 2 * h + 2
  · have q0 : m / (2 * h + 2) = 0 := Nat.div_eq_of_lt c0
    rw [q0]
    by_cases c : m ≤ 2 * h
    · rw [sp_even (h := h) (2 * h + 1 + m) (by omega) (by omega)]
      unfold refM
      rw [if_pos (by decide)]
      split <;> refine Prod.ext ?_ ?_ <;> simp <;> omega
    · rw [sp_odd (h := h) 0 (by omega) (by omega), if_pos (by omega)]
      unfold refM
      rw [if_pos (by decide)]
      refine Prod.ext ?_ ?_ <;> simp <;> omega
  · by_cases c1 : m < 4 * h + 4
    · have q1 : m / (2 * h + 2) = 1 := by rw [Nat.div_eq_iff (by omega)]; omega
      rw [q1, sp_odd (h := h) (m - 2 * h - 1) (by omega) (by omega), if_pos (by omega)]
      unfold refM
      rw [if_neg (by decide), if_pos (by decide)]
      refine Prod.ext ?_ ?_ <;> simp <;> omega
    · by_cases c2 : m < 6 * h + 6
      · have q2 : m / (2 * h + 2) = 2 := by rw [Nat.div_eq_iff (by omega)]; omega
        rw [q2]
        by_cases c : m ≤ 6 * h + 4
        · rw [sp_odd (h := h) (m - 2 * h - 1) (by omega) (by omega), if_neg (by omega)]
          unfold refM
          rw [if_neg (by decide), if_neg (by decide), if_pos (by decide)]
          refine Prod.ext ?_ ?_ <;> simp <;> omega
        · rw [sp_even (h := h + 1) 0 (by omega) (by omega), if_pos (by omega)]
          unfold refM
          rw [if_neg (by decide), if_neg (by decide), if_pos (by decide)]
          refine Prod.ext ?_ ?_ <;> simp <;> omega
      · have q3 : m / (2 * h + 2) = 3 := by rw [Nat.div_eq_iff (by omega)]; omega
        rw [q3, sp_even (h := h + 1) (m - 6 * h - 5) (by omega) (by omega), if_pos (by omega)]
        unfold refM
        rw [if_neg (by decide), if_neg (by decide), if_neg (by decide)]
        refine Prod.ext ?_ ?_ <;> simp <;> omega

theorem sq_mono {a b : Nat} (h : a ≤ b) : (2 * a + 1) * (2 * a + 1) ≤ (2 * b + 1) * (2 * b + 1) := Nat.mul_le_mul (by omega) (by omega)

/-- The ring of a step. -/
theorem ring_any (k : Nat) (hk : k ≤ 1099511627776) (w : World) :
    Calls Tryz.prog 51 #[.int .i64 k] w fun e w' => ∃ r : Nat, e = .returned (.int .i64 r) ∧ r ≤ 1048576 ∧ k < (2 * r + 1) * (2 * r + 1) ∧ (∀ j, j < r → (2 * j + 1) * (2 * j + 1) ≤ k) ∧ w' = w := by
  go_enter Tryz.func51, Tryz.ntmps51
  go_wp2
  go_loopg [3, 4, 5] 1048576 (fun q s3 s4 s5 wr => ∃ lo hi : Nat, s3 = .int .i64 lo ∧ s4 = .int .i64 hi ∧ lo ≤ hi ∧ hi ≤ 1048576 ∧ hi - lo ≤ q ∧ Hid ((∀ j, j < lo → (2 * j + 1) * (2 * j + 1) ≤ k) ∧ k < (2 * hi + 1) * (2 * hi + 1)) ∧ wr = w)
  case atStart => exact ⟨0, 1048576, rfl, rfl, by omega, by omega, by omega, ⟨fun j hj => absurd hj (Nat.not_lt_zero _), by omega⟩, rfl⟩
  case round =>
    obtain ⟨lo, hi, rfl, rfl, h1, h2, h3, HI, rfl⟩ := hrel
    by_cases hlt : lo < hi
    · have hz : (lo : Int) < (hi : Int) := by omega
      obtain ⟨m, hm⟩ : ∃ m : Nat, m = (lo + hi) / 2 := ⟨_, rfl⟩
      have d1 : ((lo : Int) + (hi : Int)).tdiv 2 = (m : Int) := by rw [Int.tdiv_eq_ediv_of_nonneg (by omega)]; omega
      have d2 : ((lo : Int) + (hi : Int)) / 2 = (m : Int) := by omega
      have hml : lo ≤ m := by omega
      have hmh : m < hi := by omega
      have HM : Hid (lo ≤ m ∧ m < hi) := ⟨hml, hmh⟩
      have hmb : (m : Int) ≤ 1048576 := by omega
      have hsqb : (2 * m + 1) * (2 * m + 1) ≤ 2097153 * 2097153 := Nat.mul_le_mul (by omega) (by omega)
      obtain ⟨sq, hsq⟩ : ∃ sq : Nat, (2 * m + 1) * (2 * m + 1) = sq := ⟨_, rfl⟩
      have e1 : (2 * (m : Int) + 1) * (2 * (m : Int) + 1) = (sq : Int) := by rw [← hsq]; simp
      have e2 : IntKind.i64.wrap ((2 * (m : Int) + 1) * (2 * (m : Int) + 1)) = (sq : Int) := by rw [e1, IntKind.wrap_i64]; omega
      have HS : Hid ((2 * m + 1) * (2 * m + 1) = sq) := hsq
      clear hsq hsqb hm e1
      by_cases hgt : k < sq
      · have hgz : (sq : Int) > (k : Int) := by omega
        have hgd : decide (k < sq) = true := decide_eq_true hgt
        go_wp2
        go_roundg (m - lo)
        case measure => have := HM.out; omega
        case rel => exact ⟨lo, m, rfl, rfl, by omega, by omega, by omega, ⟨HI.out.1, by rw [HS.out]; exact hgt⟩, rfl⟩
      · have hgz : ¬ (sq : Int) > (k : Int) := by omega
        have hgd : decide (k < sq) = false := decide_eq_false hgt
        go_wp2
        go_roundg (hi - (m + 1))
        case measure => have := HM.out; omega
        case rel => exact ⟨m + 1, hi, by go_num, rfl, by omega, by omega, by omega, ⟨fun j hj => by have := HS.out; have := sq_mono (a := j) (b := m) (by omega); omega, HI.out.2⟩, rfl⟩
    · have hz : ¬ (lo : Int) < (hi : Int) := by omega
      obtain rfl : lo = hi := by omega
      go_wp2
      go_ret
      exact ⟨lo, rfl, h2, HI.out.2, HI.out.1, rfl⟩

theorem refApart_any (x y u v : Int) (hx : (x - u).natAbs ≤ 2 ^ 26) (hy : (y - v).natAbs ≤ 2 ^ 26) (w : World) :
    Calls Tryz.prog 27 #[.agg #[.int .i64 x, .int .i64 y], .agg #[.int .i64 u, .int .i64 v]] w fun e w' => e = .returned (.int .i64 (apM (x, y) (u, v))) ∧ ∃ os, w' = grow w os := by
  have hxx : ((x - u) * (x - u)).natAbs ≤ 2 ^ 52 := by rw [Int.natAbs_mul]; exact Nat.le_trans (Nat.mul_le_mul hx hx) (by decide)
  have hyy : ((y - v) * (y - v)).natAbs ≤ 2 ^ 52 := by rw [Int.natAbs_mul]; exact Nat.le_trans (Nat.mul_le_mul hy hy) (by decide)
  have d1 : IntKind.i64.wrap (x - u) = x - u := by rw [IntKind.wrap_i64]; omega
  have d2 : IntKind.i64.wrap (y - v) = y - v := by rw [IntKind.wrap_i64]; omega
  have d3 : IntKind.i64.wrap ((x - u) * (x - u)) = (x - u) * (x - u) := by rw [IntKind.wrap_i64]; omega
  have d4 : IntKind.i64.wrap ((y - v) * (y - v)) = (y - v) * (y - v) := by rw [IntKind.wrap_i64]; omega
  have d5 : IntKind.i64.wrap ((x - u) * (x - u) + (y - v) * (y - v)) = (x - u) * (x - u) + (y - v) * (y - v) := by rw [IntKind.wrap_i64]; omega
  unfold apM
  simp only
  clear hxx hyy hx hy
  go_enter Tryz.func27, Tryz.ntmps27
  go_wp2
  go_ret
  exact ⟨rfl, _, by rw [alloc_eq_grow, alloc_eq_grow, grow_grow]⟩
end Go.Proofs.YtbebnjeamlmclaaGreat
