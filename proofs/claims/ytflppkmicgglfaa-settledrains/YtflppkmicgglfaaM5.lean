/- Own texts, joined: PlaneIs, PlanePoint, PlaneRef, PlaneRef2, PlaneTabG, PlaneRef3B, ST13, STM. -/
import Derived.Test.YtflppkmicgglfaaM4
import Derived.Laws.ResultCell
import Derived.Laws.Rows
import Derived.Test.YtflppkmicgglfaaM1

/- Stage 3's laws: is. -/
namespace Go.Proofs.Ytflppkmicgglfaa
open Go.RowKit Go.Shelf Go.Sort
set_option maxRecDepth 100000
set_option maxRecDepth 100000

end Go.Proofs.Ytflppkmicgglfaa

/- Stage 3's laws: turning, mathematics; a spot's point. -/
namespace Go.Proofs.Ytflppkmicgglfaa
open Go.RowKit Go.Shelf Go.Sort
set_option maxRecDepth 100000
set_option maxRecDepth 100000

theorem below_cell {W W' : World} {b i : Nat} {v : Value} (h : RowKit.Below W.heap.size W W') (hc : W.cell? ⟨b, i, none⟩ = some v) : W'.cell? ⟨b, i, none⟩ = some v := by
  rw [World.cell?_of_block (a := ⟨b, i, none⟩) (h.block _ (World.block_lt_of_cell? _ _ hc))]; exact hc

theorem spZ_nat (k : Nat) (hk : k ≤ 1099511627776) : spZ (k : Int) = spM k := by
  unfold spZ
  rw [if_neg (by omega), Int.toNat_natCast]

theorem turnN_add (p : Int × Int) : ∀ (n : Nat) (m : Nat), turnN m (turnN n p) = turnN (n + m) p := by
  intro n
  induction n generalizing p with
  | zero => intro m; rw [Nat.zero_add]; rfl
  | succ n ih => intro m; rw [show n + 1 + m = (n + m) + 1 by omega]; exact ih _ m

theorem turnN_four (n : Nat) (p : Int × Int) : turnN (n + 4) p = turnN n p := by
  show turnN n _ = _
  congr 1
  refine Prod.ext ?_ ?_ <;> simp

theorem turnN_mod (n : Nat) : ∀ p, turnN n p = turnN (n % 4) p := by
  induction n using Nat.strongRecOn with
  | ind n ih =>
    intro p
    by_cases h : n < 4
    · rw [Nat.mod_eq_of_lt h]
    · have := ih (n - 4) (by omega) p
      rw [show n = (n - 4) + 4 by omega, turnN_four, this]
      congr 1
      omega

theorem turnN_both (A B : Int) (p : Int × Int) : turnN (B % 4).toNat (turnN (A % 4).toNat p) = turnN ((A.tmod 4 + B.tmod 4) % 4).toNat p := by
  rw [turnN_add, turnN_mod]
  congr 1
  have h1 := Int.tmod_def A 4
  have h2 := Int.tmod_def B 4
  omega

theorem apM_turn (n : Nat) : ∀ p q, apM (turnN n p) (turnN n q) = apM p q := by
  induction n with
  | zero => intro p q; rfl
  | succ n ih =>
    intro p q
    show apM (turnN n _) (turnN n _) = _
    rw [ih]
    unfold apM
    grind

theorem turnN_bound (B : Nat) (n : Nat) : ∀ p : Int × Int, p.1.natAbs ≤ B → p.2.natAbs ≤ B → (turnN n p).1.natAbs ≤ B ∧ (turnN n p).2.natAbs ≤ B := by
  induction n with
  | zero => intro p h1 h2; exact ⟨h1, h2⟩
  | succ n ih => intro p h1 h2; exact ih (-p.2, p.1) (by simpa using h2) h1

theorem apM_comm (p q : Int × Int) : apM p q = apM q p := by unfold apM; grind
theorem sq_nonneg' (x : Int) : 0 ≤ x * x := by
  rcases Int.le_total 0 x with h | h
  · exact Int.mul_nonneg h h
  · have := Int.mul_nonneg (a := -x) (b := -x) (by omega) (by omega)
    rwa [Int.neg_mul_neg] at this
theorem sq_pos (x : Int) (h : x ≠ 0) : 0 < x * x := by
  rcases Int.lt_or_lt_of_ne h with h | h
  · exact Int.mul_pos_of_neg_of_neg h h
  · exact Int.mul_pos h h
theorem apM_nonneg (p q : Int × Int) : 0 ≤ apM p q := by
  unfold apM
  have := sq_nonneg' (p.1 - q.1)
  have := sq_nonneg' (p.2 - q.2)
  omega
theorem apM_zero (p q : Int × Int) : apM p q = 0 ↔ (p.1 = q.1 ∧ p.2 = q.2) := by
  constructor
  · intro h
    unfold apM at h
    have h1 := sq_nonneg' (p.1 - q.1)
    have h2 := sq_nonneg' (p.2 - q.2)
    by_cases e1 : p.1 - q.1 = 0
    · by_cases e2 : p.2 - q.2 = 0
      · exact ⟨by omega, by omega⟩
      · have := sq_pos _ e2; omega
    · have := sq_pos _ e1; omega
  · intro ⟨h1, h2⟩
    unfold apM
    rw [h1, h2]; simp

def nearZ (n : Int) : Int := n.tmod 33554433
theorem nearZ_bound (n : Int) : (nearZ n).natAbs ≤ 33554432 := by
  unfold nearZ
  rw [Int.natAbs_tmod]
  have := Nat.mod_lt n.natAbs (show 0 < (33554433 : Int).natAbs by decide)
  have e : (33554433 : Int).natAbs = 33554433 := rfl
  omega

theorem set2_keeps (W : World) (b i c : Nat) (u v : Value) (h : b ≠ c) : ((W.setCell ⟨c, 0, none⟩ u).setCell ⟨c, 1, none⟩ v).cell? ⟨b, i, none⟩ = W.cell? ⟨b, i, none⟩ := by
  rw [World.cell?_of_block (w := W.setCell ⟨c, 0, none⟩ u) (a := ⟨b, i, none⟩) (Below.heap_setCell _ _ _ _ h), World.cell?_of_block (w := W) (a := ⟨b, i, none⟩) (Below.heap_setCell _ _ _ _ h)]

end Go.Proofs.Ytflppkmicgglfaa

/- The document's own answers for package plane: mathematics, and the walks of ring and Apart. -/
namespace Go.Proofs.Ytflppkmicgglfaa
open Go.RowKit Go.Shelf Go.Sort
set_option maxRecDepth 100000
set_option maxRecDepth 100000

/-- The point of step k, by its ring r and how far along the ring. -/
def refM (r m : Int) (q : Int) : Int × Int :=
  if q = 0 then (r, 1 - r + m) else if q = 1 then (3 * r - 1 - m, r) else if q = 2 then (-r, 5 * r - 1 - m) else (m + 1 - 7 * r, -r)

theorem ref_sp (h k m : Nat) (hk : k = 4 * (h * h) + 4 * h + 1 + m) (hm : m < 8 * h + 8) : refM ((h : Int) + 1) m ((m / (2 * h + 2) : Nat) : Int) = spM k := by
  have e2 : (h + 1) * (h + 1) = h * h + 2 * h + 1 := by grind
  by_cases c0 : m < 2 * h + 2
  · have q0 : m / (2 * h + 2) = 0 := Nat.div_eq_of_lt c0
    rw [q0]
    by_cases c : m ≤ 2 * h
    · rw [sp_even (h := h) (2 * h + 1 + m) (by omega) (by omega)]
      unfold refM
      rw [if_pos (by decide)]
      split <;> refine Prod.ext ?_ ?_ <;> simp <;> omega
    · rw [sp_odd (h := h) 0 (by omega) (by omega), if_pos (by omega)]
      unfold refM
      rw [if_pos (by decide)]
      refine Prod.ext ?_ ?_ <;> simp <;> omega
  · by_cases c1 : m < 4 * h + 4
    · have q1 : m / (2 * h + 2) = 1 := by rw [Nat.div_eq_iff (by omega)]; omega
      rw [q1, sp_odd (h := h) (m - 2 * h - 1) (by omega) (by omega), if_pos (by omega)]
      unfold refM
      rw [if_neg (by decide), if_pos (by decide)]
      refine Prod.ext ?_ ?_ <;> simp <;> omega
    · by_cases c2 : m < 6 * h + 6
      · have q2 : m / (2 * h + 2) = 2 := by rw [Nat.div_eq_iff (by omega)]; omega
        rw [q2]
        by_cases c : m ≤ 6 * h + 4
        · rw [sp_odd (h := h) (m - 2 * h - 1) (by omega) (by omega), if_neg (by omega)]
          unfold refM
          rw [if_neg (by decide), if_neg (by decide), if_pos (by decide)]
          refine Prod.ext ?_ ?_ <;> simp <;> omega
        · rw [sp_even (h := h + 1) 0 (by omega) (by omega), if_pos (by omega)]
          unfold refM
          rw [if_neg (by decide), if_neg (by decide), if_pos (by decide)]
          refine Prod.ext ?_ ?_ <;> simp <;> omega
      · have q3 : m / (2 * h + 2) = 3 := by rw [Nat.div_eq_iff (by omega)]; omega
        rw [q3, sp_even (h := h + 1) (m - 6 * h - 5) (by omega) (by omega), if_pos (by omega)]
        unfold refM
        rw [if_neg (by decide), if_neg (by decide), if_neg (by decide)]
        refine Prod.ext ?_ ?_ <;> simp <;> omega

theorem sq_mono {a b : Nat} (h : a ≤ b) : (2 * a + 1) * (2 * a + 1) ≤ (2 * b + 1) * (2 * b + 1) := Nat.mul_le_mul (by omega) (by omega)

/-- The ring of a step. -/
theorem ring_any (k : Nat) (hk : k ≤ 1099511627776) (w : World) :
    Calls Try.prog 42 #[.int .i64 k] w fun e w' => ∃ r : Nat, e = .returned (.int .i64 r) ∧ r ≤ 1048576 ∧ k < (2 * r + 1) * (2 * r + 1) ∧ (∀ j, j < r → (2 * j + 1) * (2 * j + 1) ≤ k) ∧ w' = w := by
  go_enter Try.func42, Try.ntmps42
  go_wp2
  go_loopg [3, 4, 5] 1048576 (fun q s3 s4 s5 wr => ∃ lo hi : Nat, s3 = .int .i64 lo ∧ s4 = .int .i64 hi ∧ lo ≤ hi ∧ hi ≤ 1048576 ∧ hi - lo ≤ q ∧ Hid ((∀ j, j < lo → (2 * j + 1) * (2 * j + 1) ≤ k) ∧ k < (2 * hi + 1) * (2 * hi + 1)) ∧ wr = w)
  case atStart => exact ⟨0, 1048576, rfl, rfl, by omega, by omega, by omega, ⟨fun j hj => absurd hj (Nat.not_lt_zero _), by omega⟩, rfl⟩
  case round =>
    obtain ⟨lo, hi, rfl, rfl, h1, h2, h3, HI, rfl⟩ := hrel
    by_cases hlt : lo < hi
    · have hz : (lo : Int) < (hi : Int) := by omega
      obtain ⟨m, hm⟩ : ∃ m : Nat, m = (lo + hi) / 2 := ⟨_, rfl⟩
      have d1 : ((lo : Int) + (hi : Int)).tdiv 2 = (m : Int) := by rw [Int.tdiv_eq_ediv_of_nonneg (by omega)]; omega
      have d2 : ((lo : Int) + (hi : Int)) / 2 = (m : Int) := by omega
      have hml : lo ≤ m := by omega
      have hmh : m < hi := by omega
      have HM : Hid (lo ≤ m ∧ m < hi) := ⟨hml, hmh⟩
      have hmb : (m : Int) ≤ 1048576 := by omega
      have hsqb : (2 * m + 1) * (2 * m + 1) ≤ 2097153 * 2097153 := Nat.mul_le_mul (by omega) (by omega)
      obtain ⟨sq, hsq⟩ : ∃ sq : Nat, (2 * m + 1) * (2 * m + 1) = sq := ⟨_, rfl⟩
      have e1 : (2 * (m : Int) + 1) * (2 * (m : Int) + 1) = (sq : Int) := by rw [← hsq]; simp
      have e2 : IntKind.i64.wrap ((2 * (m : Int) + 1) * (2 * (m : Int) + 1)) = (sq : Int) := by rw [e1, IntKind.wrap_i64]; omega
      have HS : Hid ((2 * m + 1) * (2 * m + 1) = sq) := hsq
      clear hsq hsqb hm e1
      by_cases hgt : k < sq
      · have hgz : (sq : Int) > (k : Int) := by omega
        have hgd : decide (k < sq) = true := decide_eq_true hgt
        go_wp2
        go_roundg (m - lo)
        case measure => have := HM.out; omega
        case rel => exact ⟨lo, m, rfl, rfl, by omega, by omega, by omega, ⟨HI.out.1, by rw [HS.out]; exact hgt⟩, rfl⟩
      · have hgz : ¬ (sq : Int) > (k : Int) := by omega
        have hgd : decide (k < sq) = false := decide_eq_false hgt
        go_wp2
        go_roundg (hi - (m + 1))
        case measure => have := HM.out; omega
        case rel => exact ⟨m + 1, hi, by go_num, rfl, by omega, by omega, by omega, ⟨fun j hj => by have := HS.out; have := sq_mono (a := j) (b := m) (by omega); omega, HI.out.2⟩, rfl⟩
    · have hz : ¬ (lo : Int) < (hi : Int) := by omega
      obtain rfl : lo = hi := by omega
      go_wp2
      go_ret
      exact ⟨lo, rfl, h2, HI.out.2, HI.out.1, rfl⟩

theorem refApart_any (x y u v : Int) (hx : (x - u).natAbs ≤ 2 ^ 26) (hy : (y - v).natAbs ≤ 2 ^ 26) (w : World) :
    Calls Try.prog 36 #[.agg #[.int .i64 x, .int .i64 y], .agg #[.int .i64 u, .int .i64 v]] w fun e w' => e = .returned (.int .i64 (apM (x, y) (u, v))) ∧ ∃ os, w' = grow w os := by
  have hxx : ((x - u) * (x - u)).natAbs ≤ 2 ^ 52 := by rw [Int.natAbs_mul]; exact Nat.le_trans (Nat.mul_le_mul hx hx) (by decide)
  have hyy : ((y - v) * (y - v)).natAbs ≤ 2 ^ 52 := by rw [Int.natAbs_mul]; exact Nat.le_trans (Nat.mul_le_mul hy hy) (by decide)
  have d1 : IntKind.i64.wrap (x - u) = x - u := by rw [IntKind.wrap_i64]; omega
  have d2 : IntKind.i64.wrap (y - v) = y - v := by rw [IntKind.wrap_i64]; omega
  have d3 : IntKind.i64.wrap ((x - u) * (x - u)) = (x - u) * (x - u) := by rw [IntKind.wrap_i64]; omega
  have d4 : IntKind.i64.wrap ((y - v) * (y - v)) = (y - v) * (y - v) := by rw [IntKind.wrap_i64]; omega
  have d5 : IntKind.i64.wrap ((x - u) * (x - u) + (y - v) * (y - v)) = (x - u) * (x - u) + (y - v) * (y - v) := by rw [IntKind.wrap_i64]; omega
  unfold apM
  simp only
  clear hxx hyy hx hy
  go_enter Try.func36, Try.ntmps36
  go_wp2
  go_ret
  exact ⟨rfl, _, by rw [alloc_eq_grow, alloc_eq_grow, grow_grow]⟩
end Go.Proofs.Ytflppkmicgglfaa

/- The document's own answers for package plane: Spiral, Turn. -/
namespace Go.Proofs.Ytflppkmicgglfaa
open Go.RowKit Go.Shelf Go.Sort
set_option maxRecDepth 100000
set_option maxRecDepth 100000

theorem pointInfo : (Try.prog.info? 98).map (·.size) = some 2 := by kernel_rfl

set_option maxHeartbeats 1000000 in
theorem refSpiral_zero (k : Int) (hk : k < 1 ∨ k > 1099511627776) (w : World) :
    Calls Try.prog 35 #[.int .i64 k] w fun e w' => e = .returned (.agg #[.int .i64 0, .int .i64 0]) ∧ ∃ os, w' = grow w os := by
  by_cases h1 : k < 1
  · go_enter Try.func35, Try.ntmps35
    go_wp2
    refine bodyPost_ret_by (v := .agg #[.int .i64 0, .int .i64 0]) (results_cell_row rfl _ _ w.heap.size 98 #[.int .i64 0, .int .i64 0] (0, 0) _ rfl (heap_alloc_new w _) Try.underlying98 rfl pointInfo) rfl ⟨rfl, _, alloc_eq_grow _ _⟩
  · have h2 : k > 1099511627776 := by omega
    go_enter Try.func35, Try.ntmps35
    go_wp2
    refine bodyPost_ret_by (v := .agg #[.int .i64 0, .int .i64 0]) (results_cell_row rfl _ _ w.heap.size 98 #[.int .i64 0, .int .i64 0] (0, 0) _ rfl (heap_alloc_new w _) Try.underlying98 rfl pointInfo) rfl ⟨rfl, _, alloc_eq_grow _ _⟩

set_option maxHeartbeats 4000000 in
theorem refSpiral_in (k : Nat) (hk1 : 1 ≤ k) (hk : k ≤ 1099511627776) (w : World) :
    Calls Try.prog 35 #[.int .i64 k] w fun e w' => e = .returned (.agg #[.int .i64 (spM k).1, .int .i64 (spM k).2]) ∧ ∃ os, w' = grow w os := by
  have hz1 : ¬ (k : Int) < 1 := by omega
  have hz2 : ¬ (k : Int) > 1099511627776 := by omega
  go_enter Try.func35, Try.ntmps35
  go_wp2_with fail
  refine (ring_any k hk _).mono ?_
  rintro e w1 ⟨r, rfl, hr, hlo, hall, rfl⟩
  obtain ⟨h, hh⟩ : ∃ h, r = h + 1 := ⟨r - 1, by
    rcases Nat.eq_zero_or_pos r with e | e
    · subst e; simp at hlo; omega
    · omega⟩
  have hsq : (2 * h + 1) * (2 * h + 1) ≤ k := hall h (by omega)
  have e1 : (2 * h + 1) * (2 * h + 1) = 4 * (h * h) + 4 * h + 1 := by grind
  have e2 : (2 * r + 1) * (2 * r + 1) = 4 * (h * h) + 12 * h + 9 := by rw [hh]; grind
  obtain ⟨m, hm⟩ : ∃ m, k = 4 * (h * h) + 4 * h + 1 + m := ⟨k - (4 * (h * h) + 4 * h + 1), by omega⟩
  have hm8 : m < 8 * h + 8 := by omega
  have hR := ref_sp h k m hm hm8
  obtain ⟨u, hu⟩ : ∃ u : Nat, u = 2 * h + 1 := ⟨_, rfl⟩
  obtain ⟨sq, hsq'⟩ : ∃ sq : Nat, sq = (2 * h + 1) * (2 * h + 1) := ⟨_, rfl⟩
  have hub : u ≤ 2097152 := by omega
  have f1 : 2 * (r : Int) - 1 = (u : Int) := by omega
  have f2 : (u : Int) * (u : Int) = (sq : Int) := by rw [hsq', hu]; simp
  have hsqk : sq ≤ k := by omega
  have f3 : IntKind.i64.wrap ((u : Int) * (u : Int)) = (sq : Int) := by rw [f2, IntKind.wrap_i64]; omega
  have f4 : (k : Int) - (sq : Int) = (m : Int) := by omega
  obtain ⟨q, hq⟩ : ∃ q : Nat, q = m / (2 * h + 2) := ⟨_, rfl⟩
  have f5 : (m : Int).tdiv (2 * (r : Int)) = (q : Int) := by
    rw [Int.tdiv_eq_ediv_of_nonneg (by omega), hq]
    have : (2 * (r : Int)) = ((2 * h + 2 : Nat) : Int) := by omega
    rw [this]; rfl
  have f6 : (m : Int) / (2 * (r : Int)) = (q : Int) := by rw [← f5, Int.tdiv_eq_ediv_of_nonneg (by omega)]
  have hq3 : q ≤ 3 := by rw [hq]; exact Nat.lt_succ_iff.1 (Nat.div_lt_of_lt_mul (by omega))
  rw [← hq] at hR
  have hrr : ((h : Int) + 1) = (r : Int) := by omega
  rw [hrr] at hR
  have hmb : (m : Int) ≤ 9000000 := by omega
  have hrb : (r : Int) ≤ 1048576 := by omega
  have hr1 : (1 : Int) ≤ (r : Int) := by omega
  have hnz : ¬ 2 * (r : Int) = 0 := by omega
  have HR : Hid (refM (r : Int) m (q : Int) = spM k) := hR
  clear hR hm8 hm e1 e2 hsq hu hsq' hq hrr hh hlo hall f2
  rcases (show q = 0 ∨ q = 1 ∨ q = 2 ∨ q = 3 by omega) with rfl | rfl | rfl | rfl
  all_goals
    have H2 := HR
    clear HR
    go_wp2
    refine bodyPost_ret_by (results_cell_row rfl _ _ w.heap.size 98 _ (0, 0) _ rfl (heap_alloc_new w _) Try.underlying98 rfl pointInfo) rfl ⟨?_, _, alloc_eq_grow _ _⟩
    rw [← H2.out]
    rfl

theorem refSpiral_any (k : Int) (w : World) :
    Calls Try.prog 35 #[.int .i64 k] w fun e w' => e = .returned (.agg #[.int .i64 (spZ k).1, .int .i64 (spZ k).2]) ∧ ∃ os, w' = grow w os := by
  by_cases h : k < 1 ∨ k > 1099511627776
  · have e : spZ k = (0, 0) := by
      unfold spZ
      by_cases h' : k < 0 ∨ k > 1099511627776
      · rw [if_pos h']
      · rw [if_neg h', show k.toNat = 0 by omega]; decide
    rw [e]
    exact refSpiral_zero k h w
  · have e : spZ k = spM k.toNat := by unfold spZ; rw [if_neg (by omega)]
    rw [e]
    have := refSpiral_in k.toNat (by omega) (by omega) w
    rwa [show ((k.toNat : Nat) : Int) = k by omega] at this

set_option maxHeartbeats 4000000 in
theorem refTurn_any (x y q : Int) (hx : x.natAbs ≤ 2 ^ 30) (hy : y.natAbs ≤ 2 ^ 30) (w : World) :
    Calls Try.prog 34 #[.agg #[.int .i64 x, .int .i64 y], .int .i64 q] w fun e w' => e = .returned (.agg #[.int .i64 (turnN (q % 4).toNat (x, y)).1, .int .i64 (turnN (q % 4).toNat (x, y)).2]) ∧ RowKit.Below w.heap.size w w' := by
  obtain ⟨n0, hn0⟩ : ∃ n0, q.tmod 4 = n0 := ⟨_, rfl⟩
  have hb0 : n0.natAbs < 4 := by rw [← hn0, Int.natAbs_tmod]; exact Nat.mod_lt _ (by decide)
  have hmod : (n0 % 4).toNat = (q % 4).toNat := by have := Int.tmod_def q 4; omega
  rw [← hmod]
  clear hmod
  have bb : RowKit.Below w.heap.size w ((w.alloc (.cells #[.int .i64 x, .int .i64 y] 98)).alloc (.cells #[.int .i64 0, .int .i64 0] 98)) := ((RowKit.Below.refl _ _).alloc (Nat.le_refl _) _).alloc (by simp) _
  have e1 : (w.alloc (.cells #[.int .i64 x, .int .i64 y] 98)).heap.size = w.heap.size + 1 := by simp
  have hp : ((w.alloc (.cells #[.int .i64 x, .int .i64 y] 98)).alloc (.cells #[.int .i64 0, .int .i64 0] 98)).rowIs w.heap.size 98 2 (fun i => if i = 0 then .int .i64 x else .int .i64 y) :=
    (World.rowIs_alloc w #[.int .i64 x, .int .i64 y] 98 _ (fun i hi => by
      have : i = 0 ∨ i = 1 := by simp at hi; omega
      rcases this with rfl | rfl <;> rfl)).alloc _
  have hr := World.rowIs_alloc (w.alloc (.cells #[.int .i64 x, .int .i64 y] 98)) #[.int .i64 0, .int .i64 0] 98 (fun _ => .int .i64 0) (fun i hi => by
      have : i = 0 ∨ i = 1 := by simp at hi; omega
      rcases this with rfl | rfl <;> rfl)
  rw [e1] at hr
  clear e1
  go_enter Try.func34, Try.ntmps34
  go_wp2
  go_loopg [5] 4 (fun c s5 wr => ∃ (n u v : Int), s5 = .int .i64 n ∧ n.natAbs < 4 ∧ (n % 4).toNat ≤ c ∧ u.natAbs ≤ 2 ^ 30 ∧ v.natAbs ≤ 2 ^ 30 ∧ Hid (turnN (n % 4).toNat (u, v) = turnN (n0 % 4).toNat (x, y)) ∧ RowKit.Below w.heap.size w wr ∧
    wr.rowIs w.heap.size 98 2 (fun i => if i = 0 then .int .i64 u else .int .i64 v) ∧ wr.rowIs (w.heap.size + 1) 98 2 (fun _ => .int .i64 0))
  case atStart => exact ⟨n0, x, y, rfl, hb0, by omega, hx, hy, hideP rfl, bb, hp, hr⟩
  case round =>
    obtain ⟨n, u, v, rfl, hb, hc, hu, hv, HT, hB, hP, hR⟩ := hrel
    clear bb hp hr
    have p0 := hP.cell (i := 0) (by omega)
    have p1 := hP.cell (i := 1) (by omega)
    simp only [if_true, if_false, Nat.one_ne_zero] at p0 p1
    have z0 := hP.frozen 0
    have z1 := hP.frozen 1
    by_cases h0 : n = 0
    · have hne : (n != 0) = false := by rw [h0]; rfl
      have q0 := hR.cell (i := 0) (by omega)
      have q1 := hR.cell (i := 1) (by omega)
      have y0 := hR.frozen 0
      have y1 := hR.frozen 1
      have hR2 := (hR.set 0 (.int .i64 u)).set 1 (.int .i64 v)
      have hB2 : RowKit.Below w.heap.size w ((wr.setCell ⟨w.heap.size + 1, 0, none⟩ (.int .i64 u)).setCell ⟨w.heap.size + 1, 1, none⟩ (.int .i64 v)) := (hB.setCell (by simp) _).setCell (by simp) _
      obtain ⟨W2, hW2⟩ : ∃ W2, (wr.setCell ⟨w.heap.size + 1, 0, none⟩ (.int .i64 u)).setCell ⟨w.heap.size + 1, 1, none⟩ (.int .i64 v) = W2 := ⟨_, rfl⟩
      rw [hW2] at hR2 hB2
      have hheap : W2.heap[w.heap.size + 1]? = some (.cells #[.int .i64 u, .int .i64 v] 98 (0, 0)) := by
        obtain ⟨cs, hb', hn', hc'⟩ := hR2
        obtain ⟨a, b, rfl⟩ : ∃ a b, cs = #[a, b] := by
          obtain ⟨l⟩ := cs
          match l, hn' with
          | [a, b], _ => exact ⟨a, b, rfl⟩
        have k0 := hc' 0 (by omega)
        have k1 := hc' 1 (by omega)
        simp at k0 k1
        rw [hb', k0, k1]
      have HH : Hid (W2.heap[w.heap.size + 1]? = some (.cells #[.int .i64 u, .int .i64 v] 98 (0, 0))) := hheap
      have hans := HT.out
      rw [h0] at hans
      have HA : Hid ((u, v) = turnN (n0 % 4).toNat (x, y)) := hans
      clear hR hP hR2 hheap hans HT h0
      go_wp2
      refine bodyPost_ret_by (results_cell_row rfl _ _ (w.heap.size + 1) 98 #[.int .i64 u, .int .i64 v] (0, 0) _ rfl HH.out Try.underlying98 rfl pointInfo) rfl ⟨?_, hB2⟩
      rw [← HA.out]
    · have hne : (n != 0) = true := by simp [h0]
      obtain ⟨n1, hn1⟩ : ∃ n1, (n + 3).tmod 4 = n1 := ⟨_, rfl⟩
      have hb1 : n1.natAbs < 4 := by rw [← hn1, Int.natAbs_tmod]; exact Nat.mod_lt _ (by decide)
      have hm1 : (n1 % 4).toNat + 1 = (n % 4).toNat := by have := Int.tmod_def (n + 3) 4; omega
      have hP2 := (hP.set 0 (.int .i64 (-v))).set 1 (.int .i64 u)
      have hR2 : ((wr.setCell ⟨w.heap.size, 0, none⟩ (.int .i64 (-v))).setCell ⟨w.heap.size, 1, none⟩ (.int .i64 u)).rowIs (w.heap.size + 1) 98 2 (fun _ => .int .i64 0) := (hR.setOther (by simp) _).setOther (by simp) _
      have hB2 : RowKit.Below w.heap.size w ((wr.setCell ⟨w.heap.size, 0, none⟩ (.int .i64 (-v))).setCell ⟨w.heap.size, 1, none⟩ (.int .i64 u)) := (hB.setCell (by simp) _).setCell (by simp) _
      obtain ⟨W2, hW2⟩ : ∃ W2, (wr.setCell ⟨w.heap.size, 0, none⟩ (.int .i64 (-v))).setCell ⟨w.heap.size, 1, none⟩ (.int .i64 u) = W2 := ⟨_, rfl⟩
      rw [hW2] at hP2 hR2 hB2
      have hP3 : W2.rowIs w.heap.size 98 2 (fun i => if i = 0 then .int .i64 (-v) else .int .i64 u) := hP2.congr (fun i hi => by
        rcases (show i = 0 ∨ i = 1 by omega) with rfl | rfl <;> simp)
      have hT2 := HT.out
      rw [← hm1] at hT2
      have HT2 : Hid (turnN (n1 % 4).toNat (-v, u) = turnN (n0 % 4).toNat (x, y)) := hT2
      have hmz : n1.natAbs < 4 := hb1
      clear hR hP hP2 hT2 HT h0
      go_wp2
      go_roundg ((n1 % 4).toNat)
      case measure => omega
      case rel => exact ⟨n1, -v, u, rfl, hmz, Nat.le_refl _, by omega, hu, HT2, hB2, hP3, hR2⟩
end Go.Proofs.Ytflppkmicgglfaa

/- The copies of each shard in each cluster, and the squares: a table, checked by reckoning. -/
namespace Go.Proofs.Ytflppkmicgglfaa
open Go.RowKit Go.Shelf Go.Sort
set_option maxRecDepth 100000
set_option maxRecDepth 100000

def copTab : List (List (List Nat)) := [[[0], [0, 1], [0, 2, 1], [3, 0, 2, 1], [3, 0, 2, 4, 1], [3, 0, 2, 4, 1, 5], [3, 0, 2, 4, 1, 5, 6], [3, 0, 2, 4, 1, 5, 7, 6], [3, 0, 2, 4, 1, 5, 7, 6, 8]], [[0], [0, 1], [0, 2, 1], [3, 0, 2, 1], [4, 3, 0, 2, 1], [4, 3, 5, 0, 2, 1], [4, 3, 5, 0, 2, 6, 1], [4, 3, 5, 0, 2, 6, 1, 7], [4, 3, 5, 0, 2, 6, 1, 7, 8]], [[0], [0, 1], [0, 1, 2], [0, 3, 1, 2], [0, 4, 3, 1, 2], [5, 0, 4, 3, 1, 2], [5, 0, 4, 6, 3, 1, 2], [5, 0, 4, 6, 3, 7, 1, 2], [5, 0, 4, 6, 3, 7, 1, 2, 8]], [[0], [0, 1], [0, 1, 2], [0, 1, 3, 2], [0, 4, 1, 3, 2], [5, 0, 4, 1, 3, 2], [6, 5, 0, 4, 1, 3, 2], [6, 5, 7, 0, 4, 1, 3, 2], [6, 5, 7, 0, 4, 8, 1, 3, 2]], [[0], [0, 1], [0, 1, 2], [0, 1, 3, 2], [0, 1, 3, 2, 4], [0, 1, 5, 3, 2, 4], [0, 6, 1, 5, 3, 2, 4], [7, 0, 6, 1, 5, 3, 2, 4], [7, 0, 6, 8, 1, 5, 3, 2, 4]], [[0], [1, 0], [1, 0, 2], [1, 0, 2, 3], [1, 0, 2, 3, 4], [1, 0, 2, 3, 5, 4], [1, 0, 2, 6, 3, 5, 4], [1, 7, 0, 2, 6, 3, 5, 4], [8, 1, 7, 0, 2, 6, 3, 5, 4]], [[0], [1, 0], [1, 0, 2], [1, 0, 2, 3], [1, 0, 2, 3, 4], [1, 0, 2, 3, 5, 4], [1, 0, 2, 3, 5, 4, 6], [1, 0, 2, 3, 7, 5, 4, 6], [1, 0, 2, 8, 3, 7, 5, 4, 6]], [[0], [1, 0], [2, 1, 0], [2, 1, 3, 0], [2, 1, 3, 0, 4], [2, 1, 3, 0, 4, 5], [2, 1, 3, 0, 4, 5, 6], [2, 1, 3, 0, 4, 5, 7, 6], [2, 1, 3, 0, 4, 8, 5, 7, 6]]]
def apTab : List (List Int) := [[1, 2, 1, 0, 1, 2, 5, 4, 5], [2, 5, 4, 1, 0, 1, 4, 5, 8], [1, 4, 5, 2, 1, 0, 1, 2, 5], [2, 5, 8, 5, 4, 1, 0, 1, 4], [1, 2, 5, 4, 5, 2, 1, 0, 1], [2, 1, 4, 5, 8, 5, 4, 1, 0], [1, 0, 1, 2, 5, 4, 5, 2, 1], [2, 1, 0, 1, 4, 5, 8, 5, 4]]
def cT (s n j : Nat) : Nat := ((copTab.getD s []).getD (n - 1) []).getD j 0
def dT (s j : Nat) : Int := (apTab.getD s []).getD j 0

theorem cT_eq : ∀ s, s < 8 → ∀ n, n < 10 → 1 ≤ n → ∀ j, j < n → copC s n j = cT s n j := by decide +kernel
theorem dT_eq : ∀ s, s < 8 → ∀ j, j < 9 → apD s j = dT s j := by decide +kernel
theorem cop_tab {s n j : Nat} (hs : s < 8) (h1 : 1 ≤ n) (h9 : n ≤ 9) (hj : j < n) : copN s n j = cT s n j := by
  rw [copN_eq]; exact cT_eq s hs n (by omega) h1 j hj
theorem cop_lt : ∀ s, s < 8 → ∀ n, n < 10 → ∀ j, j < n → cT s n j < n := by decide +kernel
theorem cop_ne : ∀ s, s < 8 → ∀ n, n < 10 → ∀ j, j < n → ∀ i, i < j → cT s n i ≠ cT s n j := by decide +kernel
set_option synthInstance.maxSize 2000 in
set_option synthInstance.maxHeartbeats 800000 in
theorem cop_up : ∀ s, s < 8 → ∀ n, n < 10 → ∀ i, i < n → i + 1 < n → dT s (cT s n i) ≤ dT s (cT s n (i + 1)) ∧ (dT s (cT s n i) = dT s (cT s n (i + 1)) → cT s n i < cT s n (i + 1)) := by decide +kernel
set_option synthInstance.maxSize 2000 in
set_option synthInstance.maxHeartbeats 800000 in
theorem cop_rest : ∀ s, s < 8 → ∀ n, n < 10 → ∀ c, c < n → ∀ m, m < n → (∀ i, i < c + 1 → cT s n i ≠ m) → dT s (cT s n c) ≤ dT s m ∧ (dT s m = dT s (cT s n c) → cT s n c < m) := by decide +kernel
end Go.Proofs.Ytflppkmicgglfaa

/- The document's own answers for package plane: Copies. -/
namespace Go.Proofs.Ytflppkmicgglfaa
open Go.RowKit Go.Shelf Go.Sort
set_option maxRecDepth 100000
set_option maxRecDepth 100000

theorem boolInfo : (Try.prog.info? 4).map (fun i => (i.zero, i.size, i.bytes)) = some (some (.bool false), 1, 1) := by kernel_rfl

/-- Is a node among the first so many? -/
def inB (s n i m : Nat) : Bool := (List.range i).any fun j => cT s n j == m
theorem inB_succ (s n i m : Nat) : inB s n (i + 1) m = (inB s n i m || cT s n i == m) := by unfold inB; rw [List.range_succ, List.any_append]; simp

/-- The nearest of the first k nodes that are left; none: -1. -/
def selM (s n j : Nat) : Nat → Int
  | 0 => -1
  | k + 1 => if inB s n j k = false ∧ (selM s n j k < 0 ∨ dT s k < dT s (selM s n j k).toNat) then (k : Int) else selM s n j k
theorem sel_end : ∀ s, s < 8 → ∀ n, n < 10 → ∀ j, j < n → selM s n j n = (cT s n j : Int) := by decide +kernel
theorem sel_le (s n j : Nat) : ∀ k, -1 ≤ selM s n j k ∧ selM s n j k < k
  | 0 => by simp [selM]
  | k + 1 => by
    have := sel_le s n j k
    unfold selM
    split <;> omega

structure RC (w : World) (ab ub s n j : Nat) (lv : Value) (W : World) : Prop where
  pt : ∃ cur, W.heap[ab]? = some (.cells cur 98 (0, 0))
  below : RowKit.Below w.heap.size w W
  a0 : W.cell? ⟨ab, 0, none⟩ = some (.int .i64 (shardM s).1)
  a1 : W.cell? ⟨ab, 1, none⟩ = some (.int .i64 (shardM s).2)
  row : W.rowIs ub 4 n (fun m => .bool (inB s n j m))
  own : W.ownsRow w.heap.size 3 1 lv j ((List.range j).map fun i => .int .i64 (cT s n i : Nat))
theorem RC.on {w : World} {ab ub s n j : Nat} {lv : Value} {W W' : World} (h : RC w ab ub s n j lv W) (hb : RowKit.Below W.heap.size W W') : RC w ab ub s n j lv W' :=
  ⟨by obtain ⟨cur, hc⟩ := h.pt; exact ⟨cur, (hb.block _ (Array.getElem?_eq_some_iff.1 hc).1).trans hc⟩, h.below.trans (hb.mono h.below.size), below_cell hb h.a0, below_cell hb h.a1, h.row.of_block (hb.block _ h.row.lt), fown_block h.own (fun b e => hb.block b (h.own.lt b e).2)⟩

theorem refCopies_bad (s n c : Int) (hb : ¬ goodM s n c) (w : World) : Calls Try.prog 31 #[.int .i64 s, .int .i64 n, .int .i64 c] w fun e w' => e = .returned (.tuple #[.slice none 0 0, .int .i64 30]) ∧ w' = w := by
  by_cases h1 : n < 1
  · go_enter Try.func31, Try.ntmps31
    go_wp2
    go_ret2
    exact ⟨rfl, rfl⟩
  by_cases h2 : n > 9
  · go_enter Try.func31, Try.ntmps31
    go_wp2
    go_ret2
    exact ⟨rfl, rfl⟩
  by_cases h3 : c < 1
  · go_enter Try.func31, Try.ntmps31
    go_wp2
    go_ret2
    exact ⟨rfl, rfl⟩
  by_cases h4 : c > 7
  · go_enter Try.func31, Try.ntmps31
    go_wp2
    go_ret2
    exact ⟨rfl, rfl⟩
  have ht : c.tmod 2 = c % 2 := Int.tmod_eq_emod_of_nonneg (by omega)
  by_cases h5 : c % 2 = 0
  · have ht0 : (c.tmod 2 == 0) = true := by rw [ht, h5]; rfl
    have ht1 : (c % 2 == 0) = true := by rw [h5]; rfl
    clear ht h5
    go_enter Try.func31, Try.ntmps31
    go_wp2
    go_ret2
    exact ⟨rfl, rfl⟩
  have ht0 : (c.tmod 2 == 0) = false := by rw [ht]; exact beq_eq_false_iff_ne.2 h5
  have ht1 : (c % 2 == 0) = false := beq_eq_false_iff_ne.2 h5
  clear ht
  by_cases h6 : c > n
  · clear h5
    go_enter Try.func31, Try.ntmps31
    go_wp2
    go_ret2
    exact ⟨rfl, rfl⟩
  by_cases h7 : s < 0
  · clear h5
    go_enter Try.func31, Try.ntmps31
    go_wp2
    go_ret2
    exact ⟨rfl, rfl⟩
  have h8 : s ≥ 8 := by
    by_cases h8 : s < 8
    · exact absurd ⟨by omega, by omega, by omega, by omega, by omega, by omega, by omega, by omega⟩ hb
    · omega
  clear h5 hb
  go_enter Try.func31, Try.ntmps31
  go_wp2
  go_ret2
  exact ⟨rfl, rfl⟩

theorem wpList_app {P : Program} {w w' : World} {ops : Array Oper} {rest : List Oper} {o : Oper} {a : Act} {Q : Exit → Act → World → Prop} (hgd : o.guard = none) (s x : Operand) (t : TypeId)
    (ho : o.op = .call { callee := .builtin .append, args := #[s, x], argTypes := #[t, t] }) (v u v' : Value) (hs : a.eval s = v) (hx : a.eval x = u)
    (hrun : (Builtin.append_ #[t, t] o.type #[v, u]).run P w = .ok v' w') (h : wpList P ops Q rest (a.put o.dst v') w') : wpList P ops Q (o :: rest) a w := by
  refine wpList_plain hgd fun K hK => ?_
  unfold Oper.wp
  simp [execOp, ho, resolve, invoke, builtin, hs, hx, hrun, Result.andThen]
  exact hK _ _ h

set_option maxHeartbeats 8000000 in
theorem refCopies_any (s n c : Nat) (hg : goodM s n c) (w : World) : Calls Try.prog 31 #[.int .i64 s, .int .i64 n, .int .i64 c] w fun e w' =>
    ∃ v, e = .returned (.tuple #[v, .int .i64 0]) ∧ w'.ownsRow w.heap.size 3 1 v c ((List.range c).map fun j => .int .i64 (cT s n j : Nat)) ∧ RowKit.Below w.heap.size w w' := by
  obtain ⟨g1, g2, g3, g4, g5, g6, g7, g8⟩ := hg
  have k1 : ¬ (n : Int) < 1 := by omega
  have k2 : ¬ (n : Int) > 9 := by omega
  have k3 : ¬ (c : Int) < 1 := by omega
  have k4 : ¬ (c : Int) > 7 := by omega
  have k5 : ((c : Int).tmod 2 == 0) = false := by rw [Int.tmod_eq_emod_of_nonneg (by omega)]; exact beq_eq_false_iff_ne.2 (by omega)
  have k5' : ((c : Int) % 2 == 0) = false := beq_eq_false_iff_ne.2 (by omega)
  have k6 : ¬ (c : Int) > (n : Int) := by omega
  have k7 : ¬ (s : Int) < 0 := by omega
  have k8 : ¬ (s : Int) ≥ 8 := by omega
  have hs8 : s < 8 := by omega
  have hn9 : n ≤ 9 := by omega
  have hcn : c ≤ n := by omega
  have hn1 : 1 ≤ n := by omega
  clear g1 g2 g3 g4 g5 g6 g7 g8
  have mixed : Try.prog.follows .mixedOrders = true := by kernel_rfl
  obtain ⟨r1, r2⟩ := sp_near (s + 1) (by omega)
  have hsp := fun w => refSpiral_in (s + 1) (by omega) (by omega) w
  have e1 : ((s + 1 : Nat) : Int) = (s : Int) + 1 := by omega
  rw [e1] at hsp
  go_enter Try.func31, Try.ntmps31
  go_wp2_with fail
  refine (hsp _).mono ?_
  rintro e w1 ⟨rfl, os1, hw1⟩
  have b1 : RowKit.Below w.heap.size w w1 := hw1 ▸ below_grow _ w 0 os1 (Nat.le_refl _)
  clear hw1
  go_wp2_with fail
  refine (refTurn_any _ _ 1 (by omega) (by omega) _).mono ?_
  rintro e w2 ⟨rfl, b2⟩
  have hat : turnN (1 % 4 : Int).toNat ((spM (s + 1)).1, (spM (s + 1)).2) = shardM s := rfl
  rw [hat]
  have b12 := b1.trans (b2.mono b1.size)
  clear hsp b1 b2 hat e1
  obtain ⟨W2, hW2⟩ : ∃ W2, w2.alloc (.cells #[.int .i64 (shardM s).1, .int .i64 (shardM s).2] 98) = W2 := ⟨_, rfl⟩
  have hmk := run_make_row' (P := Try.prog) 42 4 (.bool false) 1 Try.underlying42 boolInfo rfl .i64 .i64 n (by omega) (by omega) W2
  obtain ⟨W3, hW3⟩ : ∃ W3, W2.alloc (.cells (madeCells #[.bool false] n) 4) = W3 := ⟨_, rfl⟩
  have a0 : W2.cell? ⟨w2.heap.size, 0, none⟩ = some (.int .i64 (shardM s).1) := by rw [← hW2]; exact World.cell?_alloc_at (w := w2) _ _ _ 0 rfl
  have a1 : W2.cell? ⟨w2.heap.size, 1, none⟩ = some (.int .i64 (shardM s).2) := by rw [← hW2]; exact World.cell?_alloc_at (w := w2) _ _ _ 1 rfl
  have bW2 : RowKit.Below w.heap.size w W2 := by rw [← hW2]; exact b12.alloc b12.size _
  have hpt0 : W2.heap[w2.heap.size]? = some (.cells #[.int .i64 (shardM s).1, .int .i64 (shardM s).2] 98 (0, 0)) := by rw [← hW2]; exact heap_alloc_new w2 _
  have hS : RC w w2.heap.size W2.heap.size s n 0 (.slice none 0 0) W3 := by
    rw [← hW3]
    exact ⟨⟨_, (Below.heap_alloc _ _ _ (World.block_lt_of_cell? _ _ a0)).trans hpt0⟩, bW2.alloc bW2.size _, by rw [alloc_keeps _ _ _ _ (World.block_lt_of_cell? _ _ a0)]; exact a0, by rw [alloc_keeps _ _ _ _ (World.block_lt_of_cell? _ _ a1)]; exact a1, World.rowIs_made W2 (.bool false) n 4, World.ownsRow_nil _ _ _ _⟩
  rw [hW3] at hmk
  have hub : w.heap.size ≤ W2.heap.size := bW2.size
  clear a0 a1 bW2 b12 hW3
  have hab : w2.heap.size ≠ W2.heap.size := by rw [← hW2]; simp
  have hcz : (c : Int) ≤ 7 := by omega
  have hnz : (n : Int) ≤ 9 := by omega
  go_wp2_with fail
  go_loopg [10, 11, 12] c (fun q s10 s11 s12 wr => ∃ (j : Nat) (lv : Value), lv = s10 ∧ j ≤ c ∧ q = c - j ∧ RC w w2.heap.size W2.heap.size s n j lv wr)
  case atStart => exact ⟨0, _, rfl, Nat.zero_le _, rfl, hS⟩
  case round =>
    obtain ⟨j, lv, rfl, hj, rfl, hC⟩ := hrel
    clear hS hmk
    obtain ⟨la, lc, rfl, hlc, _⟩ := fown_slice hC.own
    by_cases hlt : j < c
    · have hjz : (j : Int) < (c : Int) := by omega
      have HE := sel_end s hs8 n (by omega) j (by omega)
      have HE' : Hid (selM s n j n = (cT s n j : Int)) := HE
      have hLn := cop_lt s hs8 n (by omega) j (by omega)
      have HLn : Hid (cT s n j < n) := hLn
      clear HE hLn
      go_wp2_with fail
      go_loopg [11, 12] n (fun q s11 s12 wx => ∃ k : Nat, k ≤ n ∧ q = n - k ∧ s11 = .int .i64 (selM s n j k) ∧ s12 = .int .i64 k ∧ RC w w2.heap.size W2.heap.size s n j (.slice la j lc) wx)
      case atStart => exact ⟨0, Nat.zero_le _, rfl, rfl, rfl, hC⟩
      case round =>
        obtain ⟨k, hk, rfl, rfl, rfl, hK⟩ := hrel
        clear hC
        by_cases hkn : k < n
        · have hkz : (k : Int) < (n : Int) := by omega
          have hin := hK.row.cell hkn
          obtain ⟨sl1, sl2⟩ := sel_le s n j k
          have hsel : selM s n j (k + 1) = if inB s n j k = false ∧ (selM s n j k < 0 ∨ dT s k < dT s (selM s n j k).toNat) then (k : Int) else selM s n j k := rfl
          obtain ⟨b0, hb0⟩ : ∃ b0, selM s n j k = b0 := ⟨_, rfl⟩
          rw [hb0] at hsel sl1 sl2
          rw [hb0]
          have gi : ∀ q os, (grow (wr.drewN q) os).cell? ⟨W2.heap.size, k, none⟩ = _ := fun q os => cell_grown (World.block_lt_of_cell? _ _ hin) hin q os
          have ga0 : ∀ q os, (grow (wr.drewN q) os).cell? ⟨w2.heap.size, 0, none⟩ = _ := fun q os => cell_grown (World.block_lt_of_cell? _ _ hK.a0) hK.a0 q os
          have ga1 : ∀ q os, (grow (wr.drewN q) os).cell? ⟨w2.heap.size, 1, none⟩ = _ := fun q os => cell_grown (World.block_lt_of_cell? _ _ hK.a1) hK.a1 q os
          have HK : Hid (∀ q os, RC w w2.heap.size W2.heap.size s n j (.slice la j lc) (grow (wr.drewN q) os)) := fun q os => hK.on (below_grow _ wr q os (Nat.le_refl _))
          have HS : Hid (selM s n j (k + 1) = if inB s n j k = false ∧ (b0 < 0 ∨ dT s k < dT s b0.toNat) then (k : Int) else b0) := hsel
          clear hsel hK hin
          cases hb : inB s n j k with
          | true =>
            rw [hb] at gi HS
            have hs1 : selM s n j (k + 1) = b0 := by rw [HS.out, if_neg (by simp)]
            have HS1 : Hid (selM s n j (k + 1) = b0) := hs1
            clear hs1 HS hb
            go_wp2_with fail
            refine wp_region_quiet_grown mixed (by kernel_rfl) ?_
            repeat (go_big_quiet_step (fail))
            refine wpQuiet_nil ?_
            intro _ hw'
            obtain ⟨⟨nq, osq⟩, hw''⟩ := hw'
            subst hw''
            have hN := HK.out nq osq
            show Exit.then _ _ Exit.normal _ (grow (wr.drewN nq) osq)
            go_wp2_with fail
            go_roundg (n - (k + 1))
            case measure => omega
            case rel => exact ⟨k + 1, by omega, rfl, by rw [HS1.out], by go_num, hN⟩
          | false =>
            rw [hb] at gi HS
            by_cases hneg : b0 < 0
            · have hs1 : selM s n j (k + 1) = (k : Int) := by rw [HS.out, if_pos ⟨rfl, .inl hneg⟩]
              have HS1 : Hid (selM s n j (k + 1) = (k : Int)) := hs1
              clear hs1 HS hb
              go_wp2_with fail
              have t1 : ∀ w, (binOp .lss 3 (.int .i64 b0) (.int .i64 0)).run Try.prog w = .ok (.bool true) w := fun w => by go_simp
              refine wp_region_quiet_grown mixed (by kernel_rfl) ?_
              repeat (go_big_quiet_step (fail))
              refine wpQuiet_nil ?_
              intro _ hw'
              obtain ⟨⟨nq, osq⟩, hw''⟩ := hw'
              subst hw''
              have hN := HK.out nq osq
              show Exit.then _ _ Exit.normal _ (grow (wr.drewN nq) osq)
              go_wp2_with fail
              go_roundg (n - (k + 1))
              case measure => omega
              case rel => exact ⟨k + 1, by omega, rfl, by rw [HS1.out], by go_num, hN⟩
            · obtain ⟨b, rfl⟩ : ∃ b : Nat, b0 = b := ⟨b0.toNat, by omega⟩
              have hb9 : b < 9 := by omega
              have hk9 : k < 9 := by omega
              obtain ⟨z1, z2⟩ := sp_near k (by omega)
              obtain ⟨z3, z4⟩ := sp_near b (by omega)
              have hsh : (shardM s).1.natAbs ≤ 2097151 ∧ (shardM s).2.natAbs ≤ 2097151 := by
                show (-(spM (s + 1)).2).natAbs ≤ _ ∧ (spM (s + 1)).1.natAbs ≤ _
                omega
              have c1 : ∀ W, Calls Try.prog 35 #[.int .i64 (k : Int)] W fun e w' => e = .returned (.agg #[.int .i64 (spM k).1, .int .i64 (spM k).2]) ∧ ∃ q os, w' = grow (W.drewN q) os := fun W => (refSpiral_any k W).mono fun _ _ ⟨he, os, hw⟩ => ⟨by rw [he, spZ_nat k (by omega)], 0, os, hw⟩
              have c2 : ∀ W, Calls Try.prog 35 #[.int .i64 (b : Int)] W fun e w' => e = .returned (.agg #[.int .i64 (spM b).1, .int .i64 (spM b).2]) ∧ ∃ q os, w' = grow (W.drewN q) os := fun W => (refSpiral_any b W).mono fun _ _ ⟨he, os, hw⟩ => ⟨by rw [he, spZ_nat b (by omega)], 0, os, hw⟩
              have c3 : ∀ W, Calls Try.prog 36 #[.agg #[.int .i64 (spM k).1, .int .i64 (spM k).2], .agg #[.int .i64 (shardM s).1, .int .i64 (shardM s).2]] W fun e w' => e = .returned (.int .i64 (dT s k)) ∧ ∃ q os, w' = grow (W.drewN q) os := fun W => (refApart_any _ _ _ _ (by omega) (by omega) W).mono fun _ _ ⟨he, os, hw⟩ => ⟨by rw [he, ← dT_eq s hs8 k hk9]; rfl, 0, os, hw⟩
              have c4 : ∀ W, Calls Try.prog 36 #[.agg #[.int .i64 (spM b).1, .int .i64 (spM b).2], .agg #[.int .i64 (shardM s).1, .int .i64 (shardM s).2]] W fun e w' => e = .returned (.int .i64 (dT s b)) ∧ ∃ q os, w' = grow (W.drewN q) os := fun W => (refApart_any _ _ _ _ (by omega) (by omega) W).mono fun _ _ ⟨he, os, hw⟩ => ⟨by rw [he, ← dT_eq s hs8 b hb9]; rfl, 0, os, hw⟩
              have HS2 : Hid (selM s n j (k + 1) = if dT s k < dT s b then (k : Int) else (b : Int)) := by
                show _ = _
                rw [HS.out]
                simp only [hneg, false_or, Int.toNat_natCast, true_and]
              clear z1 z2 z3 z4 hsh HS hb
              by_cases hd : dT s k < dT s b
              · have hs1 : selM s n j (k + 1) = (k : Int) := by rw [HS2.out, if_pos hd]
                have HS1 : Hid (selM s n j (k + 1) = (k : Int)) := hs1
                clear hs1 HS2
                generalize dT s k = dk at *
                generalize dT s b = db at *
                go_wp2_with fail
                have y1 : decide ((b : Int) < 0) = false := decide_eq_false (by omega)
                have y2 : ¬ (b : Int) < 0 := by omega
                have t1 : ∀ w, (binOp .lss 3 (.int .i64 (b : Int)) (.int .i64 0)).run Try.prog w = .ok (.bool false) w := fun w => by go_simp
                have y3 : decide (dk < db) = true := decide_eq_true hd
                have t2 : ∀ w, (binOp .lss 3 (.int .i64 dk) (.int .i64 db)).run Try.prog w = .ok (.bool true) w := fun w => by go_simp
                refine wp_region_quiet_grown mixed (by kernel_rfl) ?_
                repeat (go_big_quiet_step (first | with_reducible exact Calls.grown_of (c1 _) | with_reducible exact Calls.grown_of (c2 _) | with_reducible exact Calls.grown_of (c3 _) | with_reducible exact Calls.grown_of (c4 _)))
                refine wpQuiet_nil ?_
                intro _ hw'
                obtain ⟨⟨nq, osq⟩, hw''⟩ := hw'
                subst hw''
                have hN := HK.out nq osq
                show Exit.then _ _ Exit.normal _ (grow (wr.drewN nq) osq)
                go_wp2_with fail
                go_roundg (n - (k + 1))
                case measure => omega
                case rel => exact ⟨k + 1, by omega, rfl, by rw [HS1.out], by go_num, hN⟩
              · have hs1 : selM s n j (k + 1) = (b : Int) := by rw [HS2.out, if_neg hd]
                have HS1 : Hid (selM s n j (k + 1) = (b : Int)) := hs1
                clear hs1 HS2
                generalize dT s k = dk at *
                generalize dT s b = db at *
                go_wp2_with fail
                have hd1 : ¬ dk < db := by omega
                have y1 : decide ((b : Int) < 0) = false := decide_eq_false (by omega)
                have y2 : ¬ (b : Int) < 0 := by omega
                have t1 : ∀ w, (binOp .lss 3 (.int .i64 (b : Int)) (.int .i64 0)).run Try.prog w = .ok (.bool false) w := fun w => by go_simp
                have y3 : decide (dk < db) = false := decide_eq_false hd1
                have t2 : ∀ w, (binOp .lss 3 (.int .i64 dk) (.int .i64 db)).run Try.prog w = .ok (.bool false) w := fun w => by go_simp
                refine wp_region_quiet_grown mixed (by kernel_rfl) ?_
                repeat (go_big_quiet_step (first | with_reducible exact Calls.grown_of (c1 _) | with_reducible exact Calls.grown_of (c2 _) | with_reducible exact Calls.grown_of (c3 _) | with_reducible exact Calls.grown_of (c4 _)))
                refine wpQuiet_nil ?_
                intro _ hw'
                obtain ⟨⟨nq, osq⟩, hw''⟩ := hw'
                subst hw''
                have hN := HK.out nq osq
                show Exit.then _ _ Exit.normal _ (grow (wr.drewN nq) osq)
                go_wp2_with fail
                go_roundg (n - (k + 1))
                case measure => omega
                case rel => exact ⟨k + 1, by omega, rfl, by rw [HS1.out], by go_num, hN⟩
        · have hkz : ¬ (k : Int) < (n : Int) := by omega
          obtain rfl : k = n := by omega
          rw [HE'.out]
          obtain ⟨L, hL⟩ : ∃ L, cT s k j = L := ⟨_, rfl⟩
          have hLk := HLn.out
          rw [hL] at hLk ⊢
          have hLz : (L : Int) < (k : Int) := by omega
          have hc0 := hK.row.cell hLk
          have hf0 := hK.row.frozen L
          have hne : ∀ b, (Value.slice la j lc).ownBlock = some b → b ≠ W2.heap.size := fun b hb e => by
            obtain ⟨cur, h1, _⟩ := hK.row
            rcases hK.own.2 with ⟨e0, _⟩ | ⟨q, cap, cur', e0, _, hq, _⟩
            · rw [e0] at hb; cases hb
            · rw [e0] at hb
              obtain rfl : q = b := by simpa [Value.ownBlock] using hb
              rw [← e, hq] at h1
              simp only [Option.some.injEq, Obj.cells.injEq] at h1
              exact absurd h1.2.1 (by decide)
          have hnp : ∀ b, (∃ cur, wr.heap[b]? = some (.cells cur 98 (0, 0))) → (Value.slice la j lc).ownBlock ≠ some b := fun b hb' hb => by
            obtain ⟨cur, h1⟩ := hb'
            rcases hK.own.2 with ⟨e0, _⟩ | ⟨q, cap, cur', e0, _, hq, _⟩
            · rw [e0] at hb; cases hb
            · rw [e0] at hb
              obtain rfl : q = b := by simpa [Value.ownBlock] using hb
              rw [hq] at h1
              simp only [Option.some.injEq, Obj.cells.injEq] at h1
              exact absurd h1.2.1 (by decide)
          have HPT : Hid (∃ cur, wr.heap[w2.heap.size]? = some (.cells cur 98 (0, 0))) := hK.pt
          obtain ⟨W5, hW5⟩ : ∃ W5, wr.setCell ⟨W2.heap.size, L, none⟩ (.bool true) = W5 := ⟨_, rfl⟩
          have hrow5 : W5.rowIs W2.heap.size 4 k (fun m => .bool (inB s k (j + 1) m)) := by
            rw [← hW5]
            refine (hK.row.set L (.bool true)).congr (fun m _ => ?_)
            rw [inB_succ, hL]
            by_cases e : m = L
            · rw [if_pos e, e]; simp
            · rw [if_neg e]
              have : (L == m) = false := beq_eq_false_iff_ne.2 (fun h => e h.symm)
              rw [this, Bool.or_false]
          have hown5 : W5.ownsRow w.heap.size 3 1 (.slice la j lc) j ((List.range j).map fun i => .int .i64 (cT s k i : Nat)) := by
            rw [← hW5]; exact fown_block hK.own (fun b hb => Below.heap_setCell _ _ _ _ (hne b hb))
          have hbel5 : RowKit.Below w.heap.size w W5 := by rw [← hW5]; exact hK.below.setCell hub _
          have ha05 : W5.cell? ⟨w2.heap.size, 0, none⟩ = some (.int .i64 (shardM s).1) := by
            rw [← hW5, World.cell?_of_block (w := wr) (a := ⟨w2.heap.size, 0, none⟩) (Below.heap_setCell _ _ _ _ hab)]; exact hK.a0
          have ha15 : W5.cell? ⟨w2.heap.size, 1, none⟩ = some (.int .i64 (shardM s).2) := by
            rw [← hW5, World.cell?_of_block (w := wr) (a := ⟨w2.heap.size, 1, none⟩) (Below.heap_setCell _ _ _ _ hab)]; exact hK.a1
          obtain ⟨v', W6, hrun, hown6, hg6, _⟩ := fapp_one (P := Try.prog) (y := .int .i64 (L : Int)) (t := 22) (ty := 22) Try.underlying22 intInfo rfl hown5 rfl (by omega) (by omega) hbel5.size
          have nn : ∀ b, (none : Option Nat) ≠ some b := fun _ e => by cases e
          have hC6 : RC w w2.heap.size W2.heap.size s k (j + 1) v' W6 := by
            refine ⟨by obtain ⟨cur, hc⟩ := HPT.out; exact ⟨cur, by rw [hg6.block _ (World.block_lt_of_cell? _ _ ha05) (hnp _ HPT.out) (nn _), ← hW5, Below.heap_setCell _ _ _ _ hab]; exact hc⟩, hbel5.trans (hg6.below w.heap.size hbel5.size (fun b e => (hown5.lt b e).1) (fun b e => absurd e (nn b))), ?_, ?_, ?_, ?_⟩
            · exact (World.cell?_of_block (w := W5) (a := ⟨w2.heap.size, 0, none⟩) (hg6.block _ (World.block_lt_of_cell? _ _ ha05) (hnp _ HPT.out) (nn _))).trans ha05
            · exact (World.cell?_of_block (w := W5) (a := ⟨w2.heap.size, 1, none⟩) (hg6.block _ (World.block_lt_of_cell? _ _ ha15) (hnp _ HPT.out) (nn _))).trans ha15
            · exact hrow5.of_block (hg6.block _ hrow5.lt (fun e => hne _ e rfl) (nn _))
            · rw [List.range_succ, List.map_append, List.map_cons, List.map_nil, hL]
              exact hown6
          have HR : Hid ((Builtin.append_ #[22, 22] 22 #[.slice la j lc, .slice (some ⟨W5.heap.size, 0, none⟩) 1 1]).run Try.prog (W5.alloc (.cells #[.int .i64 (L : Int)] 3)) = .ok v' W6) := hrun
          clear hrow5 hown5 hbel5 ha05 ha15 hown6 hg6 hrun hK hne nn
          go_wp2_with (at_builtin; refine wpList_app rfl _ _ 22 rfl _ _ _ (by rfl) (by rfl) HR.out ?_)
          go_roundg (c - (j + 1))
          case measure => omega
          case rel => exact ⟨j + 1, v', rfl, by omega, rfl, hC6⟩
    · have hjz : ¬ (j : Int) < (c : Int) := by omega
      obtain rfl : j = c := by omega
      go_wp2
      go_ret2
      exact ⟨_, rfl, hC.own, hC.below⟩
end Go.Proofs.Ytflppkmicgglfaa

/- Package settle: the law's helpers: placeOf. -/
namespace Go.Proofs.Ytflppkmicgglfaa
open Go.RowKit
set_option maxRecDepth 100000
set_option maxRecDepth 100000
/-- The place of k in a row of n numbers. -/
def placeM (f : Nat → Nat) (n : Nat) (k : Int) : Option Nat := (List.range n).find? (fun j => (f j : Int) == k)
theorem placeM_skip (f : Nat → Nat) (k : Int) (j : Nat) (h : placeM f j k = none) (hq : (f j : Int) ≠ k) : placeM f (j + 1) k = none := by
  unfold placeM at *
  rw [List.range_succ, List.find?_append, h]
  simp [hq]
theorem placeM_hit (f : Nat → Nat) (n : Nat) (k : Int) (j : Nat) (hj : j < n) (h : placeM f j k = none) (hq : (f j : Int) = k) : placeM f n k = some j := by
  unfold placeM at *
  obtain ⟨d, rfl⟩ : ∃ d, n = j + (d + 1) := ⟨n - j - 1, by omega⟩
  rw [List.range_add, List.find?_append, h, List.range_succ_eq_map]
  simp [hq]
def placeV (o : Option Nat) : Int := match o with | some j => (j : Int) | none => -1
set_option maxHeartbeats 2000000 in
theorem placeOf_any {w : World} {nodes n c m q : Nat} (hg : goodM q nodes c) (k : Int) :
    Calls Try.prog 11 #[.agg (cfgA nodes n c m), .int .i64 (q : Nat), .int .i64 k] w fun e w' => e = .returned (.int .i64 (placeV (placeM (cT q nodes) c k))) ∧ Hid (w.Since w.heap.size w') := by
  obtain ⟨W1, HW1, s1, d0, d1, d2, d5, _⟩ := cf_alloc w nodes n c m (.int .i64 1) (.int .i64 16) (.int .i64 64) (.int .i64 100) (.slice none 0 0)
  obtain ⟨fb, HFB⟩ : ∃ x, Hid (w.heap.size = x) := ⟨_, rfl⟩
  rw [HFB.out] at d0 d2
  obtain ⟨f, HF⟩ : ∃ f, cT q nodes = f := ⟨_, rfl⟩
  have HC : Hid (Calls Try.prog 31 #[.int .i64 (q : Nat), .int .i64 (nodes : Nat), .int .i64 (c : Nat)] W1 fun e w' => ∃ a cc, e = .returned (.tuple #[.slice a c cc, .int .i64 0]) ∧ Hid (IntsAt w' a c (fun j => (f j : Nat)) ∧ w.Since w.heap.size w')) := by
    refine (refCopies_any q nodes c hg W1).mono fun e w' ⟨v, he, ho, hb⟩ => ?_
    rw [HF] at ho
    obtain ⟨a, cc, rfl, hi⟩ := IntsAt.of_own (f := fun j => (f j : Nat)) ho
    exact ⟨a, cc, he, hi, s1.trans (since_mono (since_of hb) s1.size)⟩
  have HCB : Hid (c ≤ 7) := by obtain ⟨_, _, _, h, _⟩ := hg; show _ ≤ _; omega
  rw [HF]
  have HW1' : Hid (w.alloc (.cells (cfgA nodes n c m) 27) = W1) := HW1
  clear hg s1 d1 d5 HF HW1
  go_enter Try.func11, Try.ntmps11
  go_upto_region 1 with fail
  rw [HW1'.out, HFB.out]
  clear HW1'
  go_wp2_with (go_at_call 31; refine HC.out.mono ?_; rintro e w2 ⟨a, cc, rfl, HX⟩)
  go_loopg [9] c (fun g s9 wx => ∃ j : Nat, j ≤ c ∧ g = c - j ∧ s9 = .int .i64 (j : Nat) ∧ Hid (w2 = wx ∧ placeM f j k = none))
  case atStart => exact ⟨0, Nat.zero_le _, rfl, rfl, rfl, rfl⟩
  case round =>
    clear HC d0 d2
    obtain ⟨j, hj, rfl, rfl, HY⟩ := hrel
    obtain ⟨rfl, hnone⟩ := HY.out
    clear HY
    by_cases hlt : j < c
    · have z1 : (j : Int) < (c : Int) := by omega
      have z0 : (0 : Int) ≤ (j : Int) := by omega
      have hwi : IntKind.i64.wrap ((j : Int) + 1) = (j : Int) + 1 := by have := HCB.out; rw [IntKind.wrap_i64]; omega
      have hme : c - (j + 1) < c - j := by omega
      have HJ := hide hlt
      obtain ⟨b, o, rfl, c0⟩ := HX.out.1 j hlt
      by_cases hq : (f j : Int) = k
      · have q0 : ((f j : Int) == k) = true := by simp [hq]
        have HM := hide (placeM_hit f c k j hlt hnone hq)
        clear hnone hq hlt hj
        go_wp2_with fail
        go_ret
        exact ⟨by rw [HM.out]; rfl, HX.out.2⟩
      · have q0 : ((f j : Int) == k) = false := by simp [hq]
        have HZ := hide (placeM_skip f k j hnone hq)
        clear hnone hq hlt hj
        go_wp2_with fail
        go_roundg (c - (j + 1))
        case measure => go_light; exact hme
        case rel => go_light; exact ⟨j + 1, HJ.out, rfl, by simp, rfl, HZ.out⟩
    · obtain rfl : j = c := by omega
      have z1 : ¬ (j : Int) < (j : Int) := by omega
      have HM := hide hnone
      clear hnone hlt hj
      go_wp2_with fail
      go_ret
      exact ⟨by rw [HM.out]; rfl, HX.out.2⟩
end Go.Proofs.Ytflppkmicgglfaa

/- Package settle: the laws of what is sent and of what drains, as plain mathematics. -/
namespace Go.Proofs.Ytflppkmicgglfaa
open Go.RowKit
set_option maxRecDepth 100000
set_option maxRecDepth 100000
set_option linter.unusedVariables false

/-- Which peers are sent something by a tick. -/
def firesB (d : Sd) (f : Nat → Option Du) (i : Nat) : Bool := (f i).isSome && decide (d.l i ≤ 1)
def peersM (d : Sd) (f : Nat → Option Du) (n : Nat) : List Nat := (List.range n).filter (firesB d f)
def sendM (d : Sd) (f : Nat → Option Du) (i : Nat) : Mg := telG d.node d.shard ((f i).elim ent0 (·.e)) (d.cp i (d.t i))
/-- A Settle behind a tick of the first k peers. -/
def tkD (d : Sd) (f : Nat → Option Du) (k : Nat) : Sd := { d with l := fun j => if j < k ∧ (f j).isSome then tkL (d.l j) (d.g j) else d.l j, g := fun j => if j < k ∧ (f j).isSome then tkG (d.l j) (d.g j) d.m else d.g j, t := fun j => if j < k ∧ firesB d f j then (d.t j + 1) % d.c else d.t j }
theorem up_if {α : Type} (f h : Nat → α) (i : Nat) (P : Nat → Prop) [DecidablePred P] : up (fun j => if j < i ∧ P j then h j else f j) i (if P i then h i else f i) = fun j => if j < i + 1 ∧ P j then h j else f j := by
  funext j
  show (if j = i then (if P i then h i else f i) else if j < i ∧ P j then h j else f j) = if j < i + 1 ∧ P j then h j else f j
  by_cases hj : j = i
  · subst hj
    rw [if_pos rfl]
    by_cases hp : P j
    · rw [if_pos hp, if_pos ⟨Nat.lt_succ_self _, hp⟩]
    · rw [if_neg hp, if_neg (fun h => hp h.2)]
  · rw [if_neg hj]
    by_cases hp : P j
    · by_cases hl : j < i
      · rw [if_pos ⟨hl, hp⟩, if_pos ⟨by omega, hp⟩]
      · rw [if_neg (fun h => hl h.1), if_neg (fun h => by have := h.1; omega)]
    · rw [if_neg (fun h => hp h.2), if_neg (fun h => hp h.2)]
theorem up_id {α : Type} (f : Nat → α) (i : Nat) : up f i (f i) = f := by
  funext j
  unfold up
  by_cases hj : j = i
  · rw [if_pos hj, hj]
  · rw [if_neg hj]
theorem no_if {α : Type} (f h : Nat → α) (i : Nat) (P : Nat → Prop) [DecidablePred P] (hp : ¬ P i) : (fun j => if j < i ∧ P j then h j else f j) = fun j => if j < i + 1 ∧ P j then h j else f j := by
  have := up_if f h i P
  rw [if_neg hp] at this
  rw [← this]
  funext j
  show _ = (if j = i then f i else if j < i ∧ P j then h j else f j)
  by_cases hj : j = i
  · subst hj; rw [if_pos rfl]; exact if_neg (fun h => Nat.lt_irrefl _ h.1)
  · rw [if_neg hj]
theorem tkN_all (d : Sd) (f : Nat → Option Du) (k : Nat) : tkN d f k = (tkD d f k, (peersM d f k).map (sendM d f)) := by
  induction k with
  | zero =>
    show (d, []) = _
    unfold tkD peersM
    simp
  | succ k ih =>
    show ((tkS (tkN d f k).1 f k).1, (tkN d f k).2 ++ (tkS (tkN d f k).1 f k).2) = _
    rw [ih]
    have hp : peersM d f (k + 1) = peersM d f k ++ (if firesB d f k then [k] else []) := by
      unfold peersM
      rw [List.range_succ, List.filter_append]
      congr 1
      by_cases h : firesB d f k
      · simp [h]
      · simp [h]
    cases hk : f k with
    | none =>
      have hs : ¬ ((f k).isSome = true) := by rw [hk]; simp
      have hb : firesB d f k = false := by unfold firesB; rw [hk]; rfl
      have e1 : tkS (tkD d f k) f k = (tkD d f k, []) := by unfold tkS; rw [hk]
      have e2 : tkD d f (k + 1) = tkD d f k := by
        unfold tkD
        rw [← no_if d.l (fun j => tkL (d.l j) (d.g j)) k (fun j => (f j).isSome = true) hs, ← no_if d.g (fun j => tkG (d.l j) (d.g j) d.m) k (fun j => (f j).isSome = true) hs, ← no_if d.t (fun j => (d.t j + 1) % d.c) k (fun j => firesB d f j = true) (by rw [hb]; simp)]
      rw [e1, e2, hp, hb]
      simp
    | some u =>
      have hs : (f k).isSome = true := by rw [hk]; rfl
      have l0 : (tkD d f k).l k = d.l k := if_neg (fun h => Nat.lt_irrefl _ h.1)
      have g0 : (tkD d f k).g k = d.g k := if_neg (fun h => Nat.lt_irrefl _ h.1)
      have t0 : (tkD d f k).t k = d.t k := if_neg (fun h => Nat.lt_irrefl _ h.1)
      have eL : up (tkD d f k).l k (tkL (d.l k) (d.g k)) = (tkD d f (k + 1)).l := by
        have := up_if d.l (fun j => tkL (d.l j) (d.g j)) k (fun j => (f j).isSome = true)
        rw [if_pos hs] at this
        exact this
      have eG : up (tkD d f k).g k (tkG (d.l k) (d.g k) d.m) = (tkD d f (k + 1)).g := by
        have := up_if d.g (fun j => tkG (d.l j) (d.g j) d.m) k (fun j => (f j).isSome = true)
        rw [if_pos hs] at this
        exact this
      have ep : (tkD d f k).pace k = { tkD d f k with l := (tkD d f (k + 1)).l, g := (tkD d f (k + 1)).g } := by
        unfold Sd.pace
        rw [l0, g0, ← eL, ← eG]
        rfl
      by_cases hl : d.l k ≤ 1
      · have hb : firesB d f k = true := by unfold firesB; rw [hk]; simp [hl]
        have eT : up (tkD d f k).t k ((d.t k + 1) % d.c) = (tkD d f (k + 1)).t := by
          have := up_if d.t (fun j => (d.t j + 1) % d.c) k (fun j => firesB d f j = true)
          rw [if_pos hb] at this
          exact this
        have e1 : tkS (tkD d f k) f k = (((tkD d f k).pace k).turn k, [telG d.node d.shard u.e (d.cp k (d.t k))]) := by
          unfold tkS
          rw [hk]
          show (if (tkD d f k).l k ≤ 1 then _ else _) = _
          rw [l0, if_pos hl, t0]
          rfl
        rw [e1, hp, hb, ep]
        have e2 : Sd.turn { tkD d f k with l := (tkD d f (k + 1)).l, g := (tkD d f (k + 1)).g } k = tkD d f (k + 1) := by
          show ({ tkD d f k with l := (tkD d f (k + 1)).l, g := (tkD d f (k + 1)).g, t := up (tkD d f k).t k (((tkD d f k).t k + 1) % d.c) } : Sd) = _
          rw [t0, eT]
          rfl
        rw [e2]
        simp [sendM, hk]
      · have hb : firesB d f k = false := by unfold firesB; rw [hk]; simp [hl]
        have e1 : tkS (tkD d f k) f k = ((tkD d f k).pace k, []) := by
          unfold tkS
          rw [hk]
          show (if (tkD d f k).l k ≤ 1 then _ else _) = _
          rw [l0, if_neg hl]
        have eT : (tkD d f k).t = (tkD d f (k + 1)).t := no_if d.t (fun j => (d.t j + 1) % d.c) k (fun j => firesB d f j = true) (by rw [hb]; simp)
        rw [e1, hp, hb, ep]
        have e2 : ({ tkD d f k with l := (tkD d f (k + 1)).l, g := (tkD d f (k + 1)).g } : Sd) = tkD d f (k + 1) := by
          show ({ tkD d f k with l := (tkD d f (k + 1)).l, g := (tkD d f (k + 1)).g, t := (tkD d f k).t } : Sd) = _
          rw [eT]
          rfl
        rw [e2]
        simp
theorem peers_lt {d : Sd} {f : Nat → Option Du} {n j i : Nat} (h : (peersM d f n)[j]? = some i) : i < n ∧ firesB d f i = true := by
  have := List.mem_of_getElem? h
  unfold peersM at this
  simpa using this
theorem peers_up {d : Sd} {f : Nat → Option Du} {n : Nat} : (peersM d f n).Pairwise (· < ·) := List.Pairwise.filter _ List.pairwise_lt_range
theorem stD_keep (l : List Ent) (q : Int) (u : Du) : ∃ le, l.foldl (stD q) (some u) = some ⟨u.e, le⟩ := by
  induction l generalizing u with
  | nil => exact ⟨u.le, rfl⟩
  | cons a l ih =>
    rw [List.foldl_cons]
    by_cases h : a.p = q
    · obtain ⟨le, h2⟩ := ih ⟨u.e, min u.le a.nu⟩
      exact ⟨le, by rw [show stD q (some u) a = some ⟨u.e, min u.le a.nu⟩ from if_pos h]; exact h2⟩
    · obtain ⟨le, h2⟩ := ih u
      exact ⟨le, by rw [show stD q (some u) a = some u from if_neg h]; exact h2⟩
theorem due_first (l : List Ent) (q : Int) : (dueM l q).map (·.e) = firstM l q := by
  unfold dueM firstM
  induction l with
  | nil => rfl
  | cons a l ih =>
    rw [List.foldl_cons, List.find?_cons]
    by_cases h : a.p = q
    · rw [show stD q none a = some ⟨a, a.nu⟩ from if_pos h]
      obtain ⟨le, h2⟩ := stD_keep l q ⟨a, a.nu⟩
      rw [h2]; simp [h]
    · rw [show stD q none a = none from if_neg h]
      simp only [beq_eq_false_iff_ne.2 h]
      exact ih
theorem stD_least (l : List Ent) (q : Int) (u : Du) (h : ∀ a ∈ l, a.p = q → u.le ≤ a.nu) : l.foldl (stD q) (some u) = some u := by
  induction l generalizing u with
  | nil => rfl
  | cons a l ih =>
    rw [List.foldl_cons]
    by_cases hq : a.p = q
    · rw [show stD q (some u) a = some ⟨u.e, min u.le a.nu⟩ from if_pos hq, Nat.min_eq_left (h a (List.mem_cons_self ..) hq)]
      exact ih u fun b hb => h b (List.mem_cons_of_mem _ hb)
    · rw [show stD q (some u) a = some u from if_neg hq]
      exact ih u fun b hb => h b (List.mem_cons_of_mem _ hb)
theorem due_least (l : List Ent) (q : Int) (e : Ent) (h : ∀ a ∈ l, a.p = q → e.nu ≤ a.nu) (hf : firstM l q = some e) : dueM l q = some ⟨e, e.nu⟩ := by
  unfold dueM
  unfold firstM at hf
  induction l with
  | nil => cases hf
  | cons a l ih =>
    rw [List.foldl_cons]
    rw [List.find?_cons] at hf
    by_cases hq : a.p = q
    · rw [show stD q none a = some ⟨a, a.nu⟩ from if_pos hq]
      have : (a.p == q) = true := by simp [hq]
      rw [this] at hf
      obtain rfl := Option.some.inj hf
      exact stD_least l q ⟨a, a.nu⟩ fun b hb => h b (List.mem_cons_of_mem _ hb)
    · rw [show stD q none a = none from if_neg hq]
      have : (a.p == q) = false := by simp [hq]
      rw [this] at hf
      exact ih (fun b hb => h b (List.mem_cons_of_mem _ hb)) hf
theorem due_none (l : List Ent) (q : Int) (h : ∀ a ∈ l, a.p ≠ q) : dueM l q = none := by
  have := due_first l q
  have h2 : firstM l q = none := by unfold firstM; rw [List.find?_eq_none]; intro x hx; simp [h x hx]
  rw [h2] at this
  cases hd : dueM l q with
  | none => rfl
  | some u => rw [hd] at this; cases this
theorem shF_e (d : Sd) (l : List Ent) (i : Nat) (hi : i ≠ d.own) : (shF d l i).map (·.e) = firstM l (i : Nat) := by
  unfold shF
  rw [if_neg hi]
  exact due_first l _
/-- What Look leaves. -/
theorem lkN_st (d : Sd) (l : List Ent) (k : Nat) : lkN d l k = { d with du := some (shF d l), l := fun j => if j < k ∧ begM (shF d l j) (wasM d j) = true then 0 else d.l j, g := fun j => if j < k ∧ begM (shF d l j) (wasM d j) = true then 1 else d.g j } := by
  induction k with
  | zero =>
    show ({ d with du := some (shF d l) } : Sd) = _
    simp
  | succ k ih =>
    show (if begM (shF d l k) (wasM d k) then (lkN d l k).anew k else lkN d l k) = _
    rw [ih]
    by_cases hb : begM (shF d l k) (wasM d k) = true
    · have e1 := up_if d.l (fun _ => 0) k (fun j => begM (shF d l j) (wasM d j) = true)
      have e2 := up_if d.g (fun _ => 1) k (fun j => begM (shF d l j) (wasM d j) = true)
      rw [if_pos hb] at e1 e2
      rw [if_pos hb, ← e1, ← e2]
      rfl
    · rw [if_neg hb, ← no_if d.l (fun _ => 0) k (fun j => begM (shF d l j) (wasM d j) = true) hb, ← no_if d.g (fun _ => 1) k (fun j => begM (shF d l j) (wasM d j) = true) hb]
theorem begM_same (u : Option Du) : begM u u = false := by
  cases u with
  | none => rfl
  | some u => show decide (u.e.nu ≠ u.e.nu) = false; simp
theorem look_same (d : Sd) (l : List Ent) (h : d.du = some (shF d l)) : lookM d l = d := by
  unfold lookM
  rw [lkN_st]
  have : ∀ j, begM (shF d l j) (wasM d j) = false := fun j => by
    rw [show wasM d j = shF d l j by unfold wasM; rw [h]]
    exact begM_same _
  simp only [this, Bool.false_eq_true, and_false, if_false]
  rw [← h]
/-- How one peer stands in the law of what is sent, behind T ticks. -/
def Pv (m c T l g t la s : Nat) : Prop := 1 ≤ g ∧ g ≤ m ∧ t = s % c ∧ ((s = 0 ∧ T = 0 ∧ l ≤ 1 ∧ la = 0) ∨ (1 ≤ s ∧ 1 ≤ la ∧ la ≤ T ∧ la ≤ 1 + (s - 1) * m ∧ T + l ≤ la + m ∧ 1 ≤ l))
theorem Pv.yes {m c T l g t la s : Nat} (h : Pv m c T l g t la s) (hm : 1 ≤ m) (hc : 1 ≤ c) (hl : l ≤ 1) : Pv m c (T + 1) (tkL l g) (tkG l g m) ((t + 1) % c) (T + 1) (s + 1) := by
  obtain ⟨h1, h2, h3, h4⟩ := h
  have e1 : tkL l g = g := if_neg (by omega)
  have e2 : tkG l g m = min (2 * g) m := if_neg (by omega)
  rw [e1, e2]
  refine ⟨by omega, by omega, by rw [h3, Nat.add_mod, Nat.mod_mod, ← Nat.add_mod], .inr ⟨by omega, by omega, by omega, ?_, by omega, h1⟩⟩
  rcases h4 with ⟨rfl, rfl, _, _⟩ | ⟨k1, k2, k3, k4, k5, k6⟩
  · simp
  · obtain ⟨r, rfl⟩ : ∃ r, s = r + 1 := ⟨s - 1, by omega⟩
    simp only [Nat.add_sub_cancel] at *
    rw [Nat.succ_mul]
    omega
theorem Pv.no {m c T l g t la s : Nat} (h : Pv m c T l g t la s) (hl : ¬ l ≤ 1) : Pv m c (T + 1) (tkL l g) (tkG l g m) t la s := by
  obtain ⟨h1, h2, h3, h4⟩ := h
  have e1 : tkL l g = l - 1 := if_pos (by omega)
  have e2 : tkG l g m = g := if_pos (by omega)
  rw [e1, e2]
  refine ⟨h1, h2, h3, .inr ?_⟩
  rcases h4 with ⟨rfl, rfl, k, _⟩ | ⟨k1, k2, k3, k4, k5, k6⟩
  · omega
  · exact ⟨k1, k2, by omega, k4, by omega, by omega⟩
/-- Never too long. -/
theorem Pv.soon {m c T l g t la s : Nat} (h : Pv m c (T + 1) l g t la s) : 1 ≤ la ∧ la ≤ T + 1 ∧ T + 1 < la + m := by
  obtain ⟨h1, h2, h3, h4⟩ := h
  rcases h4 with ⟨_, h, _⟩ | ⟨k1, k2, k3, k4, k5, k6⟩
  · omega
  · omega
theorem Pv.all {m c l g t la s : Nat} (h : Pv m c (c * m) l g t la s) (hm : 1 ≤ m) (hc : 1 ≤ c) : c ≤ s := by
  obtain ⟨h1, h2, h3, h4⟩ := h
  rcases h4 with ⟨_, h, _⟩ | ⟨k1, k2, k3, k4, k5, k6⟩
  · have := Nat.mul_pos hc hm; omega
  · refine Nat.le_of_not_lt fun hlt => ?_
    have : (s - 1) * m + m + m ≤ c * m := by
      have e : (s - 1) * m + m + m = (s - 1 + 2) * m := by rw [Nat.add_mul]; omega
      rw [e]
      exact Nat.mul_le_mul_right m (by omega)
    omega
/-- The law of what is sent: the Settle, when a peer was sent something, which copies were. -/
structure SV (n own m c : Nat) (f : Nat → Option Du) (d : Sd) (T : Nat) (la : Nat → Nat) (se : Nat → Nat → Bool) : Prop where
  there : ∀ i u, i < n → f i = some u → ∃ s, Pv m c T (d.l i) (d.g i) (d.t i) (la i) s ∧ ∀ k, k < c → se i k = decide (k < s)
  none : ∀ i, i < n → f i = none → ∀ k, k < c → se i k = false
/-- What a tick's messages leave, the first j of them heard. -/
def laJ (pe : List Nat) (T : Nat) (la : Nat → Nat) (j : Nat) (i : Nat) : Nat := if i ∈ pe.take j then T else la i
def seJ (pe : List Nat) (t : Nat → Nat) (se : Nat → Nat → Bool) (j : Nat) (i k : Nat) : Bool := if i ∈ pe.take j ∧ k = t i then true else se i k
theorem mem_take_succ {pe : List Nat} {j i p : Nat} (h : pe[j]? = some p) : i ∈ pe.take (j + 1) ↔ i ∈ pe.take j ∨ i = p := by
  rw [List.take_add_one, h]
  simp
theorem laJ_zero (pe T la) : laJ pe T la 0 = la := by funext i; unfold laJ; simp
theorem seJ_zero (pe t se) : seJ pe t se 0 = se := by funext i k; unfold seJ; simp
theorem laJ_succ {pe : List Nat} {T : Nat} {la : Nat → Nat} {j p : Nat} (h : pe[j]? = some p) : laJ pe T la (j + 1) = up (laJ pe T la j) p T := by
  funext i
  show (if i ∈ pe.take (j + 1) then T else la i) = if i = p then T else if i ∈ pe.take j then T else la i
  by_cases h1 : i = p
  · rw [if_pos h1, if_pos ((mem_take_succ h).2 (.inr h1))]
  · rw [if_neg h1]
    by_cases h2 : i ∈ pe.take j
    · rw [if_pos h2, if_pos ((mem_take_succ h).2 (.inl h2))]
    · rw [if_neg h2, if_neg (fun k => ((mem_take_succ h).1 k).elim h2 h1)]
theorem seJ_succ {pe : List Nat} {t : Nat → Nat} {se : Nat → Nat → Bool} {j p : Nat} (h : pe[j]? = some p) : seJ pe t se (j + 1) = up (seJ pe t se j) p (up (seJ pe t se j p) (t p) true) := by
  funext i k
  show (if i ∈ pe.take (j + 1) ∧ k = t i then true else se i k) = (if i = p then up (seJ pe t se j p) (t p) true else seJ pe t se j i) k
  by_cases h1 : i = p
  · subst h1
    rw [if_pos rfl]
    show _ = if k = t i then true else if i ∈ pe.take j ∧ k = t i then true else se i k
    by_cases h2 : k = t i
    · rw [if_pos h2, if_pos ⟨(mem_take_succ h).2 (.inr rfl), h2⟩]
    · rw [if_neg h2, if_neg (fun k => h2 k.2), if_neg (fun k => h2 k.2)]
  · rw [if_neg h1]
    show _ = if i ∈ pe.take j ∧ k = t i then true else se i k
    by_cases h2 : i ∈ pe.take j ∧ k = t i
    · rw [if_pos h2, if_pos ⟨(mem_take_succ h).2 (.inl h2.1), h2.2⟩]
    · rw [if_neg h2, if_neg (fun k => h2 ⟨((mem_take_succ h).1 k.1).resolve_right h1, k.2⟩)]
theorem laJ_all {pe : List Nat} {T : Nat} {la : Nat → Nat} {i : Nat} : laJ pe T la pe.length i = if i ∈ pe then T else la i := by unfold laJ; rw [List.take_length]
theorem seJ_all {pe : List Nat} {t : Nat → Nat} {se : Nat → Nat → Bool} {i k : Nat} : seJ pe t se pe.length i k = if i ∈ pe ∧ k = t i then true else se i k := by unfold seJ; rw [List.take_length]
/-- The next tick. -/
theorem SV.next {n own m c : Nat} {f : Nat → Option Du} {d : Sd} {T : Nat} {la : Nat → Nat} {se : Nat → Nat → Bool} (h : SV n own m c f d T la se) (hm : 1 ≤ m) (hc : 1 ≤ c) (hdm : d.m = m) (hdc : d.c = c) :
    SV n own m c f (tkD d f n) (T + 1) (laJ (peersM d f n) (T + 1) la (peersM d f n).length) (seJ (peersM d f n) d.t se (peersM d f n).length) := by
  have hmem : ∀ i, i ∈ peersM d f n ↔ i < n ∧ firesB d f i = true := fun i => by unfold peersM; simp
  refine ⟨fun i u hi hu => ?_, fun i hi hn k hk => ?_⟩
  · obtain ⟨s, hp, hs⟩ := h.there i u hi hu
    have hsome : (f i).isSome = true := by rw [hu]; rfl
    have eL : (tkD d f n).l i = tkL (d.l i) (d.g i) := if_pos ⟨hi, hsome⟩
    have eG : (tkD d f n).g i = tkG (d.l i) (d.g i) m := by rw [← hdm]; exact if_pos ⟨hi, hsome⟩
    rw [eL, eG, laJ_all]
    by_cases hl : d.l i ≤ 1
    · have hb : firesB d f i = true := by unfold firesB; rw [hu]; simp [hl]
      have eT : (tkD d f n).t i = (d.t i + 1) % c := by rw [← hdc]; exact if_pos ⟨hi, hb⟩
      rw [eT, if_pos ((hmem i).2 ⟨hi, hb⟩)]
      refine ⟨s + 1, hp.yes hm hc hl, fun k hk => ?_⟩
      rw [seJ_all, hs k hk]
      have ht : d.t i = s % c := hp.2.2.1
      by_cases e : k = d.t i
      · rw [if_pos ⟨(hmem i).2 ⟨hi, hb⟩, e⟩]
        have : s % c ≤ s := Nat.mod_le _ _
        exact (decide_eq_true (by omega)).symm
      · rw [if_neg (fun h => e h.2)]
        by_cases hsc : s < c
        · rw [Nat.mod_eq_of_lt hsc] at ht
          by_cases hks : k < s
          · rw [decide_eq_true hks, decide_eq_true (by omega)]
          · rw [decide_eq_false hks, decide_eq_false (by omega)]
        · rw [decide_eq_true (by omega), decide_eq_true (by omega)]
    · have hb : firesB d f i = false := by unfold firesB; rw [hu]; simp [hl]
      have eT : (tkD d f n).t i = d.t i := if_neg (fun h => by rw [hb] at h; exact absurd h.2 (by simp))
      have hnm : i ∉ peersM d f n := fun h => by have := ((hmem i).1 h).2; rw [hb] at this; cases this
      rw [eT, if_neg hnm]
      exact ⟨s, hp.no hl, fun k hk => by rw [seJ_all, if_neg (fun h => hnm h.1)]; exact hs k hk⟩
  · have hb : firesB d f i = false := by unfold firesB; rw [hn]; rfl
    have hnm : i ∉ peersM d f n := fun h => by have := ((hmem i).1 h).2; rw [hb] at this; cases this
    rw [seJ_all, if_neg (fun h => hnm h.1)]
    exact h.none i hi hn k hk
/-- What of a queue goes to a peer. -/
def ofP (q : List Ent) (i : Nat) : List Ent := q.filter (fun e => e.p == (i : Int))
theorem ofP_head (q : List Ent) (i : Nat) : (ofP q i).head? = firstM q (i : Int) := by unfold ofP firstM; rw [List.head?_filter]
/-- Numbers one behind the other from k + 1 on. -/
def Row1 : List Ent → Nat → Prop
  | [], _ => True
  | e :: l, k => e.nu = k + 1 ∧ Row1 l (k + 1)
theorem Row1.least {l : List Ent} {k : Nat} (h : Row1 l k) : ∀ a ∈ l, k + 1 ≤ a.nu := by
  induction l generalizing k with
  | nil => intro a ha; cases ha
  | cons e l ih =>
    intro a ha
    rcases List.mem_cons.1 ha with rfl | ha
    · exact Nat.le_of_eq h.1.symm
    · have := ih h.2 a ha; omega
theorem Row1.snoc {l : List Ent} {k : Nat} {e : Ent} (h : Row1 l k) (he : e.nu = k + l.length + 1) : Row1 (l ++ [e]) k := by
  induction l generalizing k with
  | nil => exact ⟨by simpa using he, trivial⟩
  | cons a l ih => exact ⟨h.1, ih h.2 (by rw [he, List.length_cons]; omega)⟩
/-- The queue without what a peer has been credited. -/
def woM (q : List Ent) (i : Int) (k : Nat) : List Ent := q.filter (fun e => !(e.p == i) || decide (k < e.nu))
theorem ofP_wo_ne (q : List Ent) (i j k : Nat) (h : j ≠ i) : ofP (woM q (i : Int) k) j = ofP q j := by
  unfold ofP woM
  rw [List.filter_filter]
  refine List.filter_congr fun e _ => ?_
  by_cases hj : e.p = (j : Int)
  · have : ¬ (e.p = (i : Int)) := by omega
    simp [hj]; omega
  · simp [hj]
theorem ofP_wo_same (q : List Ent) (i k : Nat) (h : Row1 (ofP q i) k) : ofP (woM q (i : Int) (k + 1)) i = (ofP q i).tail := by
  have e : ofP (woM q (i : Int) (k + 1)) i = (ofP q i).filter (fun e => decide (k + 1 < e.nu)) := by
    unfold ofP woM
    rw [List.filter_filter, List.filter_filter]
    refine List.filter_congr fun e _ => ?_
    by_cases hj : e.p = (i : Int)
    · have h1 : (e.p == (i : Int)) = true := by simp [hj]
      rw [h1]; cases decide (k + 1 < e.nu) <;> rfl
    · have h1 : (e.p == (i : Int)) = false := by simp [hj]
      rw [h1]; cases decide (k + 1 < e.nu) <;> rfl
  rw [e]
  cases hl : ofP q i with
  | nil => rfl
  | cons a l =>
    rw [hl] at h
    have h1 : ¬ (k + 1 < a.nu) := by have := h.1; omega
    rw [List.filter_cons_of_neg (by simpa using h1), List.tail_cons, List.filter_eq_self]
    intro b hb
    have := h.2.least b hb
    simp; omega
theorem due_ofP (q : List Ent) (i : Nat) : dueM q (i : Int) = dueM (ofP q i) (i : Int) := by
  unfold dueM ofP
  generalize (none : Option Du) = o
  induction q generalizing o with
  | nil => rfl
  | cons a q ih =>
    rw [List.foldl_cons]
    by_cases h : a.p = (i : Int)
    · rw [List.filter_cons_of_pos (by simpa using h), List.foldl_cons]
      exact ih _
    · rw [List.filter_cons_of_neg (by simpa using h), show stD (i : Int) o a = o from if_neg h]
      exact ih _
theorem due_row (q : List Ent) (i k : Nat) (h : Row1 (ofP q i) k) : dueM q (i : Int) = (ofP q i).head?.map fun e => ⟨e, k + 1⟩ := by
  rw [due_ofP]
  cases hl : ofP q i with
  | nil => rfl
  | cons a l =>
    rw [hl] at h
    have hp : a.p = (i : Int) := by
      have : a ∈ ofP q i := by rw [hl]; exact List.mem_cons_self ..
      unfold ofP at this
      simpa using (List.mem_filter.1 this).2
    have := due_least (a :: l) (i : Int) a (fun b hb _ => by have := Row1.least (l := a :: l) h b hb; have := h.1; omega) (by unfold firstM; simp [hp])
    rw [this, h.1]
    rfl
/-- Sends from the turn t to the holder's place h. -/
def distM (c t h : Nat) : Nat := if t ≤ h then h - t else h + c - t
theorem dist_le {c t h : Nat} (ht : t < c) (hh : h < c) : distM c t h + 1 ≤ c := by unfold distM; split <;> omega
theorem dist_next {c t h : Nat} (ht : t < c) (hh : h < c) (hne : t ≠ h) : distM c ((t + 1) % c) h + 1 = distM c t h := by
  unfold distM
  by_cases e : t + 1 = c
  · rw [e, Nat.mod_self]
    rw [if_pos (Nat.zero_le _), if_neg (by omega)]
    omega
  · rw [Nat.mod_eq_of_lt (by omega)]
    by_cases h1 : t ≤ h
    · rw [if_pos (by omega), if_pos h1]; omega
    · rw [if_neg (by omega), if_neg h1]; omega
/-- How many ticks there are at most till a peer's last entry is credited: r entries, the turn t, l ticks left. -/
def potM (m c h r t l : Nat) : Nat := if r = 0 then 0 else (r - 1) * (c * m) + distM c t h * m + max 1 l
theorem pot_le {m c h r t l : Nat} (hm : 1 ≤ m) (ht : t < c) (hh : h < c) (hl : l ≤ m) : potM m c h r t l ≤ r * (c * m) := by
  unfold potM
  by_cases h0 : r = 0
  · rw [if_pos h0]; exact Nat.zero_le _
  · rw [if_neg h0]
    obtain ⟨s, rfl⟩ : ∃ s, r = s + 1 := ⟨r - 1, by omega⟩
    have h1 := Nat.mul_le_mul_right m (dist_le ht hh)
    rw [Nat.succ_mul] at h1
    rw [Nat.add_sub_cancel, Nat.succ_mul]
    have : max 1 l ≤ m := by omega
    omega
theorem pot_wait {m c h r t l g : Nat} (hl : ¬ l ≤ 1) : r ≠ 0 → potM m c h r t (tkL l g) + 1 = potM m c h r t l := fun h0 => by
  unfold potM
  rw [if_neg h0, if_neg h0, show tkL l g = l - 1 from if_pos (by omega)]
  omega
/-- What was sent went to another one. -/
theorem pot_miss {m c h r t l : Nat} (hl : l ≤ m) (hm : 1 ≤ m) (ht : t < c) (hh : h < c) (hne : t ≠ h) (hr : r ≠ 0) : potM m c h r ((t + 1) % c) l + 1 ≤ potM m c h r t 1 := by
  unfold potM
  rw [if_neg hr, if_neg hr]
  have h1 : (distM c ((t + 1) % c) h + 1) * m = distM c t h * m := by rw [dist_next ht hh hne]
  rw [Nat.succ_mul] at h1
  have : max 1 l ≤ m := by omega
  omega
/-- What was sent was credited. -/
theorem pot_hit {m c h r t t' l : Nat} (hl : l ≤ m) (hm : 1 ≤ m) (ht' : t' < c) (hh : h < c) (hr : r ≠ 0) : potM m c h (r - 1) t' l + 1 ≤ potM m c h r t 1 := by
  have h1 := pot_le (h := h) (r := r - 1) hm ht' hh hl
  have : potM m c h r t 1 = (r - 1) * (c * m) + distM c t h * m + 1 := by unfold potM; rw [if_neg hr]; rfl
  omega
theorem pot_zero {m c h r t l : Nat} (h0 : potM m c h r t l = 0) : r = 0 := by
  unfold potM at h0
  by_cases e : r = 0
  · exact e
  · rw [if_neg e] at h0; omega
/-- The law of what drains: what stands ever. -/
structure DB (n own m c lim : Nat) (hold : Nat → Nat) (q : List Ent) (d : Sd) (mk : Nat → Nat) : Prop where
  dn : d.n = n
  dm : d.m = m
  dc : d.c = c
  down : d.own = own
  du : d.du = some (shF d q)
  ok : ∀ e ∈ q, ∃ i : Nat, i < n ∧ i ≠ own ∧ e.p = (i : Int)
  row : ∀ i, i < n → Row1 (ofP q i) (mk i)
  lo : ∀ i, i < n → d.l i ≤ m ∧ 1 ≤ d.g i ∧ d.g i ≤ m ∧ d.t i < c
  hl : ∀ i, i < n → hold i < c
  m1 : 1 ≤ m
  lim : ∀ i, i < n → (ofP q i).length * (c * m) ≤ lim
structure DH (n own m c lim : Nat) (hold : Nat → Nat) (q : List Ent) (d : Sd) (mk : Nat → Nat) (T : Nat) : Prop where
  b : DB n own m c lim hold q d mk
  pot : ∀ i, i < n → potM m c (hold i) (ofP q i).length (d.t i) (d.l i) + T ≤ lim + 1
structure DM2 (n own m c lim : Nat) (hold : Nat → Nat) (q : List Ent) (d : Sd) (mk : Nat → Nat) (pe : List Nat) (t0 : Nat → Nat) (e0 : Nat → Ent) (j T : Nat) : Prop where
  b : DB n own m c lim hold q d mk
  pend : ∀ j', j ≤ j' → ∀ i, pe[j']? = some i → i < n ∧ i ≠ own ∧ firstM q (i : Int) = some (e0 i) ∧ t0 i < c ∧ d.t i = (t0 i + 1) % c ∧ potM m c (hold i) (ofP q i).length (t0 i) 1 + T ≤ lim + 1
  past : ∀ i, i < n → i ∉ pe.drop j → potM m c (hold i) (ofP q i).length (d.t i) (d.l i) + T ≤ lim
section
variable {n own m c lim : Nat} {hold : Nat → Nat} {q : List Ent} {d : Sd} {mk : Nat → Nat} {T : Nat} {pe : List Nat} {t0 : Nat → Nat} {e0 : Nat → Ent} {j : Nat}
theorem DB.own_none (h : DB n own m c lim hold q d mk) : ofP q own = [] := by
  unfold ofP
  rw [List.filter_eq_nil_iff]
  intro e he
  obtain ⟨i, _, h2, h3⟩ := h.ok e he
  simp [h3]; omega
theorem DB.first (h : DB n own m c lim hold q d mk) (i : Nat) (hi : i < n) : shF d q i = (firstM q (i : Int)).map fun e => ⟨e, mk i + 1⟩ := by
  unfold shF
  by_cases e : i = d.own
  · rw [if_pos e, ← ofP_head]
    have : ofP q i = [] := by rw [e, h.down]; exact h.own_none
    rw [this]; rfl
  · rw [if_neg e, due_row q i (mk i) (h.row i hi), ofP_head]
theorem ofP_ne {q : List Ent} {i : Nat} {e : Ent} (h : firstM q (i : Int) = some e) : (ofP q i).length ≠ 0 := by
  rw [← ofP_head] at h
  intro h0
  rw [List.length_eq_zero_iff.1 h0] at h
  cases h
theorem first_ne {q : List Ent} {i : Nat} (h : (ofP q i).length ≠ 0) : ∃ e, firstM q (i : Int) = some e := by
  rw [← ofP_head]
  cases hl : ofP q i with
  | nil => rw [hl] at h; exact absurd rfl h
  | cons a l => exact ⟨a, rfl⟩
/-- A tick. -/
theorem tkL_le {l g m : Nat} (h1 : l ≤ m) (h2 : g ≤ m) : tkL l g ≤ m := by unfold tkL; split <;> omega
theorem tkG_bd {l g m : Nat} (hm : 1 ≤ m) (h1 : 1 ≤ g) (h2 : g ≤ m) : 1 ≤ tkG l g m ∧ tkG l g m ≤ m := by unfold tkG; split <;> omega
theorem DH.tick (h : DH n own m c lim hold q d mk T) (hT : T ≤ lim) : DM2 n own m c lim hold q (tkD d (shF d q) n) mk (peersM d (shF d q) n) d.t (fun i => ((shF d q i).elim ent0 (·.e))) 0 T := by
  obtain ⟨b, hp⟩ := h
  have hmem : ∀ i, i ∈ peersM d (shF d q) n ↔ i < n ∧ firesB d (shF d q) i = true := fun i => by unfold peersM; simp
  have hb : DB n own m c lim hold q (tkD d (shF d q) n) mk := by
    refine ⟨b.dn, b.dm, b.dc, b.down, b.du, b.ok, b.row, fun i hi => ?_, b.hl, b.m1, b.lim⟩
    obtain ⟨h1, h2, h3, h4⟩ := b.lo i hi
    by_cases hs : (shF d q i).isSome = true
    · have eL : (tkD d (shF d q) n).l i = tkL (d.l i) (d.g i) := if_pos ⟨hi, hs⟩
      have eG : (tkD d (shF d q) n).g i = tkG (d.l i) (d.g i) m := by rw [← b.dm]; exact if_pos ⟨hi, hs⟩
      rw [eL, eG]
      refine ⟨tkL_le h1 h3, (tkG_bd b.m1 h2 h3).1, (tkG_bd b.m1 h2 h3).2, ?_⟩
      by_cases hf : firesB d (shF d q) i = true
      · rw [show (tkD d (shF d q) n).t i = (d.t i + 1) % c by rw [← b.dc]; exact if_pos ⟨hi, hf⟩]
        exact Nat.mod_lt _ (by omega)
      · rw [show (tkD d (shF d q) n).t i = d.t i from if_neg fun h => hf h.2]
        exact h4
    · have eL : (tkD d (shF d q) n).l i = d.l i := if_neg fun h => hs h.2
      have eG : (tkD d (shF d q) n).g i = d.g i := if_neg fun h => hs h.2
      have hf : ¬ firesB d (shF d q) i = true := fun hf => hs (by unfold firesB at hf; exact (Bool.and_eq_true_iff.1 hf).1)
      rw [eL, eG, show (tkD d (shF d q) n).t i = d.t i from if_neg fun h => hf h.2]
      exact ⟨h1, h2, h3, h4⟩
  refine ⟨hb, fun j' _ i hj => ?_, fun i hi hni => ?_⟩
  · obtain ⟨hi, hf⟩ := peers_lt hj
    have hf2 := hf
    unfold firesB at hf2
    simp only [Bool.and_eq_true, decide_eq_true_eq] at hf2
    obtain ⟨hs, hl⟩ := hf2
    rw [b.first i hi] at hs
    obtain ⟨e, he⟩ : ∃ e, firstM q (i : Int) = some e := by
      cases hq : firstM q (i : Int) with
      | none => rw [hq] at hs; cases hs
      | some e => exact ⟨e, rfl⟩
    have hne := ofP_ne he
    refine ⟨hi, fun e => hne (by rw [e, b.own_none]; rfl), ?_, (b.lo i hi).2.2.2, ?_, ?_⟩
    · show firstM q (i : Int) = some ((shF d q i).elim ent0 (·.e))
      rw [b.first i hi, he]; rfl
    · rw [← b.dc]; exact if_pos ⟨hi, hf⟩
    · have := hp i hi
      have e2 : potM m c (hold i) (ofP q i).length (d.t i) (d.l i) = potM m c (hold i) (ofP q i).length (d.t i) 1 := by
        unfold potM
        rw [if_neg hne, if_neg hne, show max 1 (d.l i) = max 1 1 by omega]
      omega
  · rw [List.drop_zero] at hni
    have hnf : firesB d (shF d q) i = false := by
      cases hf : firesB d (shF d q) i with
      | false => rfl
      | true => exact absurd ((hmem i).2 ⟨hi, hf⟩) hni
    have eT : (tkD d (shF d q) n).t i = d.t i := if_neg (fun h => by rw [hnf] at h; exact absurd h.2 (by simp))
    rw [eT]
    by_cases h0 : (ofP q i).length = 0
    · have : potM m c (hold i) (ofP q i).length (d.t i) ((tkD d (shF d q) n).l i) = 0 := if_pos h0
      have h2 := hp i hi
      rw [this]
      omega
    · obtain ⟨e, he⟩ := first_ne h0
      have hs : (shF d q i).isSome = true := by rw [b.first i hi, he]; rfl
      have hl : ¬ d.l i ≤ 1 := fun hl => by unfold firesB at hnf; rw [hs] at hnf; simp [hl] at hnf
      have eL : (tkD d (shF d q) n).l i = tkL (d.l i) (d.g i) := if_pos ⟨hi, hs⟩
      rw [eL]
      have := pot_wait (m := m) (c := c) (h := hold i) (r := (ofP q i).length) (t := d.t i) (g := d.g i) hl h0
      have h2 := hp i hi
      omega
end
section
variable {n own m c lim : Nat} {hold : Nat → Nat} {q : List Ent} {d : Sd} {mk : Nat → Nat} {T : Nat} {pe : List Nat} {t0 : Nat → Nat} {e0 : Nat → Ent} {j : Nat}
theorem DM2.weak (h : DM2 n own m c lim hold q d mk pe t0 e0 j T) {T' : Nat} (hT : T' ≤ T) : DM2 n own m c lim hold q d mk pe t0 e0 j T' :=
  ⟨h.b, fun j' hj i hi => by obtain ⟨a1, a2, a3, a4, a5, a6⟩ := h.pend j' hj i hi; exact ⟨a1, a2, a3, a4, a5, by omega⟩, fun i hi hn => by have := h.past i hi hn; omega⟩
theorem mem_drop {pe : List Nat} {j i p : Nat} (h : pe[j]? = some p) (hn : i ∉ pe.drop (j + 1)) : i = p ∨ i ∉ pe.drop j := by
  obtain ⟨hj, he⟩ := List.getElem?_eq_some_iff.1 h
  rw [List.drop_eq_getElem_cons hj, he]
  by_cases e : i = p
  · exact .inl e
  · refine .inr fun hm => ?_
    rcases List.mem_cons.1 hm with h1 | h1
    · exact e h1
    · exact hn h1
theorem up_drop {pe : List Nat} (hp : pe.Pairwise (· < ·)) {j j' i p : Nat} (h : pe[j]? = some p) (hj : j + 1 ≤ j') (h' : pe[j']? = some i) : p < i := by
  obtain ⟨h1, e1⟩ := List.getElem?_eq_some_iff.1 h
  obtain ⟨h2, e2⟩ := List.getElem?_eq_some_iff.1 h'
  have := List.pairwise_iff_getElem.1 hp j j' h1 h2 (by omega)
  rw [e1, e2] at this
  exact this
/-- A message that is lost: the count begins anew. -/
theorem DM2.lost (h : DM2 n own m c lim hold q d mk pe t0 e0 j T) {p : Nat} (hp : pe[j]? = some p) : DM2 n own m c lim hold q d mk pe t0 e0 (j + 1) 0 := by
  refine ⟨h.b, fun j' hj i hi => by obtain ⟨a1, a2, a3, a4, a5, a6⟩ := h.pend j' (by omega) i hi; exact ⟨a1, a2, a3, a4, a5, by omega⟩, fun i hi _ => ?_⟩
  obtain ⟨b1, b2, b3, b4⟩ := h.b.lo i hi
  have := pot_le (r := (ofP q i).length) h.b.m1 b4 (h.b.hl i hi) b1
  have := h.b.lim i hi
  omega
/-- One that another one gets. -/
theorem DM2.miss (h : DM2 n own m c lim hold q d mk pe t0 e0 j T) {p : Nat} (hp : pe[j]? = some p) (hne : t0 p ≠ hold p) : DM2 n own m c lim hold q d mk pe t0 e0 (j + 1) T := by
  refine ⟨h.b, fun j' hj i hi => h.pend j' (by omega) i hi, fun i hi hn => ?_⟩
  rcases mem_drop hp hn with rfl | h1
  · obtain ⟨a1, a2, a3, a4, a5, a6⟩ := h.pend j (Nat.le_refl _) i hp
    obtain ⟨b1, b2, b3, b4⟩ := h.b.lo i hi
    have := pot_miss (r := (ofP q i).length) b1 h.b.m1 a4 (h.b.hl i hi) hne (ofP_ne a3)
    rw [a5]
    omega
  · exact h.past i hi h1
/-- One that the holder credits. -/
theorem DM2.hit (h : DM2 n own m c lim hold q d mk pe t0 e0 j T) (hu : pe.Pairwise (· < ·)) {p : Nat} (hp : pe[j]? = some p) : DM2 n own m c lim hold (woM q (p : Int) (mk p + 1)) (lookM d (woM q (p : Int) (mk p + 1))) (up mk p (mk p + 1)) pe t0 e0 (j + 1) T := by
  obtain ⟨q', hq'⟩ : ∃ q', woM q (p : Int) (mk p + 1) = q' := ⟨_, rfl⟩
  have b := h.b
  obtain ⟨a1, a2, a3, a4, a5, a6⟩ := h.pend j (Nat.le_refl _) p hp
  have ene : ∀ i, i ≠ p → ofP q' i = ofP q i := fun i hi => by rw [← hq']; exact ofP_wo_ne q p i _ hi
  have esame : ofP q' p = (ofP q p).tail := by rw [← hq']; exact ofP_wo_same q p (mk p) (b.row p a1)
  rw [hq']
  have hl : lookM d q' = _ := lkN_st d q' d.n
  have hsh : ∀ i, i ≠ p → shF d q' i = shF d q i := fun i hi => by
    unfold shF
    by_cases e : i = d.own
    · rw [if_pos e, if_pos e]
    · rw [if_neg e, if_neg e, due_ofP, ene i hi, ← due_ofP]
  have hbeg : ∀ i, i ≠ p → begM (shF d q' i) (wasM d i) = false := fun i hi => by
    rw [hsh i hi, show wasM d i = shF d q i by unfold wasM; rw [b.du]]
    exact begM_same _
  have eL : ∀ i, i ≠ p → (lookM d q').l i = d.l i := fun i hi => by rw [hl]; exact if_neg fun h => by rw [hbeg i hi] at h; exact absurd h.2 (by simp)
  have eG : ∀ i, i ≠ p → (lookM d q').g i = d.g i := fun i hi => by rw [hl]; exact if_neg fun h => by rw [hbeg i hi] at h; exact absurd h.2 (by simp)
  have eT : (lookM d q').t = d.t := by rw [hl]
  have hb : DB n own m c lim hold q' (lookM d q') (up mk p (mk p + 1)) := by
    refine ⟨by rw [hl]; exact b.dn, by rw [hl]; exact b.dm, by rw [hl]; exact b.dc, by rw [hl]; exact b.down, by rw [hl]; rfl, fun e he => ?_, fun i hi => ?_, fun i hi => ?_, b.hl, b.m1, fun i hi => ?_⟩
    · rw [← hq'] at he
      exact b.ok e (List.mem_filter.1 he).1
    · by_cases e : i = p
      · subst e
        rw [esame, up_same]
        have := b.row i hi
        cases hx : ofP q i with
        | nil => exact trivial
        | cons a l => rw [hx] at this; exact this.2
      · rw [ene i e, up_ne _ _ _ e]; exact b.row i hi
    · obtain ⟨b1, b2, b3, b4⟩ := b.lo i hi
      have hm := b.m1
      rw [hl]
      refine ⟨?_, ?_, ?_, b4⟩
      · show (if _ then 0 else d.l i) ≤ m
        split
        · exact Nat.zero_le _
        · exact b1
      · show 1 ≤ (if _ then 1 else d.g i)
        split
        · exact Nat.le_refl _
        · exact b2
      · show (if _ then 1 else d.g i) ≤ m
        split
        · exact hm
        · exact b3
    · by_cases e : i = p
      · subst e
        have := b.lim i hi
        have h2 : (ofP q' i).length ≤ (ofP q i).length := by rw [esame, List.length_tail]; omega
        exact Nat.le_trans (Nat.mul_le_mul_right _ h2) this
      · rw [ene i e]; exact b.lim i hi
  refine ⟨hb, fun j' hj i hi => ?_, fun i hi hn => ?_⟩
  · have hlt := up_drop hu hp hj hi
    have hne : i ≠ p := by omega
    obtain ⟨c1, c2, c3, c4, c5, c6⟩ := h.pend j' (by omega) i hi
    rw [eT, ene i hne]
    exact ⟨c1, c2, by rw [← ofP_head, ene i hne, ofP_head]; exact c3, c4, c5, c6⟩
  · by_cases e : i = p
    · subst e
      have hlo := hb.lo i hi
      rw [eT] at hlo ⊢
      have := pot_hit (t := t0 i) (l := (lookM d q').l i) (r := (ofP q i).length) (t' := d.t i) hlo.1 b.m1 hlo.2.2.2 (b.hl i hi) (ofP_ne a3)
      have h2 : (ofP q' i).length = (ofP q i).length - 1 := by rw [esame, List.length_tail]
      rw [h2]
      omega
    · rw [eT, ene i e, eL i e]
      rcases mem_drop hp hn with h1 | h1
      · exact absurd h1 e
      · exact h.past i hi h1
theorem DM2.head (h : DM2 n own m c lim hold q d mk pe t0 e0 pe.length T) : DH n own m c lim hold q d mk (T + 1) := ⟨h.b, fun i hi => by
  have := h.past i hi (by rw [List.drop_length]; exact List.not_mem_nil)
  omega⟩
theorem DH.over (h : DH n own m c lim hold q d mk T) (hT : lim < T) : q = [] := by
  cases hq : q with
  | nil => rfl
  | cons e l =>
    obtain ⟨i, hi, _, he⟩ := h.b.ok e (by rw [hq]; exact List.mem_cons_self ..)
    have h0 := pot_zero (m := m) (c := c) (h := hold i) (r := (ofP q i).length) (t := d.t i) (l := d.l i) (by have := h.pot i hi; omega)
    have : firstM q (i : Int) = some e := by rw [hq]; unfold firstM; simp [he]
    exact absurd h0 (ofP_ne this)
theorem DB.silent (h : DB n own m c lim hold [] d mk) : (peersM d (shF d []) n) = [] := by
  unfold peersM
  rw [List.filter_eq_nil_iff]
  intro i _
  have : shF d [] i = none := by unfold shF; split <;> rfl
  unfold firesB
  rw [this]; simp
end
end Go.Proofs.Ytflppkmicgglfaa
