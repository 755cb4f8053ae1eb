/- Stage 3's laws: turning, mathematics; a spot's point. -/
import Derived.Test.YtbebnjeamlmclaaGreatPlaneIs
import Derived.Laws.ResultCell
namespace Go.Proofs.YtbebnjeamlmclaaGreat
open Go.RowKit Go.Shelf Go.Sort
set_option maxRecDepth 100000
set_option maxRecDepth 100000

theorem below_cell {W W' : World} {b i : Nat} {v : Value} (h : RowKit.Below W.heap.size W W') (hc : W.cell? ⟨b, i, none⟩ = some v) : W'.cell? ⟨b, i, none⟩ = some v := by
  rw [World.cell?_of_block (a := ⟨b, i, none⟩) (h.block _ (World.block_lt_of_cell? _ _ hc))]; exact hc

theorem spZ_nat (k : Nat) (hk : k ≤ 1099511627776) : spZ (k : Int) = spM k := by
  unfold spZ
  rw [if_neg (by omega), Int.toNat_natCast]

theorem turnN_add (p : Int × Int) : ∀ (n : Nat) (m : Nat), turnN m (turnN n p) = turnN (n + m) p := by
  intro n
  induction n generalizing p with
  | zero => intro m; rw [Nat.zero_add]; rfl
  | succ n ih => intro m; rw [show n + 1 + m = (n + m) + 1 by omega]; exact ih _ m

theorem turnN_four (n : Nat) (p : Int × Int) : turnN (n + 4) p = turnN n p := by
  show turnN n _ = _
  congr 1
  refine Prod.ext ?_ ?_ <;> simp

theorem turnN_mod (n : Nat) : ∀ p, turnN n p = turnN (n % 4) p := by
  induction n using Nat.strongRecOn with
  | ind n ih =>
    intro p
    by_cases h : n < 4
    · rw [Nat.mod_eq_of_lt h]
    · have := ih (n - 4) (by omega) p
      rw [show n = (n - 4) + 4 by omega, turnN_four, this]
      congr 1
      omega

theorem turnN_both (A B : Int) (p : Int × Int) : turnN (B % 4).toNat (turnN (A % 4).toNat p) = turnN ((A.tmod 4 + B.tmod 4) % 4).toNat p := by
  rw [turnN_add, turnN_mod]
  congr 1
  have h1 := Int.tmod_def A 4
  have h2 := Int.tmod_def B 4
  omega

theorem apM_turn (n : Nat) : ∀ p q, apM (turnN n p) (turnN n q) = apM p q := by
  induction n with
  | zero => intro p q; rfl
  | succ n ih =>
    intro p q
    show apM (turnN n _) (turnN n _) = _
    rw [ih]
    unfold apM
    grind

theorem turnN_bound (B : Nat) (n : Nat) : ∀ p : Int × Int, p.1.natAbs ≤ B → p.2.natAbs ≤ B → (turnN n p).1.natAbs ≤ B ∧ (turnN n p).2.natAbs ≤ B := by
  induction n with
  | zero => intro p h1 h2; exact ⟨h1, h2⟩
  | succ n ih => intro p h1 h2; exact ih (-p.2, p.1) (by simpa using h2) h1

theorem apM_comm (p q : Int × Int) : apM p q = apM q p := by unfold apM; grind
theorem sq_nonneg' (x : Int) : 0 ≤ x * x := by
  rcases Int.le_total 0 x with h | h
  · exact Int.mul_nonneg h h
  · have := Int.mul_nonneg (a := -x) (b := -x) (by omega) (by omega)
    rwa [Int.neg_mul_neg] at this
theorem sq_pos (x : Int) (h : x ≠ 0) : 0 < x * x := by
  rcases Int.lt_or_lt_of_ne h with h | h
  · exact Int.mul_pos_of_neg_of_neg h h
  · exact Int.mul_pos h h
theorem apM_nonneg (p q : Int × Int) : 0 ≤ apM p q := by
  unfold apM
  have := sq_nonneg' (p.1 - q.1)
  have := sq_nonneg' (p.2 - q.2)
  omega
theorem apM_zero (p q : Int × Int) : apM p q = 0 ↔ (p.1 = q.1 ∧ p.2 = q.2) := by
  constructor
  · intro h
    unfold apM at h
    have h1 := sq_nonneg' (p.1 - q.1)
    have h2 := sq_nonneg' (p.2 - q.2)
    by_cases e1 : p.1 - q.1 = 0
    · by_cases e2 : p.2 - q.2 = 0
      · exact ⟨by omega, by omega⟩
      · have := sq_pos _ e2; omega
    · have := sq_pos _ e1; omega
  · intro ⟨h1, h2⟩
    unfold apM
    rw [h1, h2]; simp

def nearZ (n : Int) : Int := n.tmod 33554433
theorem nearZ_bound (n : Int) : (nearZ n).natAbs ≤ 33554432 := by
  unfold nearZ
  rw [Int.natAbs_tmod]
  have := Nat.mod_lt n.natAbs (show 0 < (33554433 : Int).natAbs by decide)
  have e : (33554433 : Int).natAbs = 33554433 := rfl
  omega

theorem near_num (n : Int) (w : World) : Calls Tryz.prog 46 #[.int .i64 n] w fun e w' => e = .returned (.int .i64 (nearZ n)) ∧ w' = w := by
  have h : n.tmod 33554433 = nearZ n := rfl
  generalize nearZ n = r at *
  go_enter Tryz.func46, Tryz.ntmps46
  go_wp2
  go_ret
  exact ⟨rfl, rfl⟩

theorem set2_keeps (W : World) (b i c : Nat) (u v : Value) (h : b ≠ c) : ((W.setCell ⟨c, 0, none⟩ u).setCell ⟨c, 1, none⟩ v).cell? ⟨b, i, none⟩ = W.cell? ⟨b, i, none⟩ := by
  rw [World.cell?_of_block (w := W.setCell ⟨c, 0, none⟩ u) (a := ⟨b, i, none⟩) (Below.heap_setCell _ _ _ _ h), World.cell?_of_block (w := W) (a := ⟨b, i, none⟩) (Below.heap_setCell _ _ _ _ h)]

set_option maxHeartbeats 2000000 in
theorem point_any (X Y : Int) (w : World) : Calls Tryz.prog 20 #[.agg #[.int .i64 X, .int .i64 Y]] w fun e w' =>
    ∃ a b, e = .returned (.tuple #[.agg #[.int .i64 (nearZ X), .int .i64 (nearZ Y)], .complex .f64 a b]) ∧ Fl a (nearZ X) ∧ Fl b (nearZ Y) ∧ RowKit.Below w.heap.size w w' := by
  have h1 := nearZ_bound X
  have h2 := nearZ_bound Y
  have f1 := fl_conv (nearZ X) (by omega)
  have f2 := fl_conv (nearZ Y) (by omega)
  have n1 := fun w => near_num X w
  have n2 := fun w => near_num Y w
  generalize nearZ X = x at *
  generalize nearZ Y = y at *
  clear h1 h2
  go_enter Tryz.func20, Tryz.ntmps20
  go_wp2_with fail
  go_region_held3 (fun W => W.cell? ⟨w.heap.size, 0, none⟩ = some (.int .i64 X) ∧ W.cell? ⟨w.heap.size, 1, none⟩ = some (.int .i64 Y))
    (first | go_keep)
    (first | (go_at_call 46; first | (refine (n1 _).mono ?_; rintro e w' ⟨rfl, rfl⟩) | (refine (n2 _).mono ?_; rintro e w' ⟨rfl, rfl⟩)))
  all_goals
    obtain ⟨W3, hW3⟩ : ∃ W3, (((w.alloc (.cells #[.int .i64 X, .int .i64 Y] 36)).alloc (.cells #[.int .i64 0, .int .i64 0] 80)).alloc (.cells #[.int .i64 x, .int .i64 y] 80)).drew = W3 := ⟨_, rfl⟩
    have a0 : W3.cell? ⟨w.heap.size + 1 + 1, 0, none⟩ = some (.int .i64 x) := by rw [← hW3]; exact World.cell?_alloc_at (w := (w.alloc _).alloc _) _ _ _ 0 (by simp)
    have a1 : W3.cell? ⟨w.heap.size + 1 + 1, 1, none⟩ = some (.int .i64 y) := by rw [← hW3]; exact World.cell?_alloc_at (w := (w.alloc _).alloc _) _ _ _ 1 (by simp)
    have r0 : W3.cell? ⟨w.heap.size + 1, 0, none⟩ = some (.int .i64 0) := by
      rw [← hW3]; exact (alloc_keeps ((w.alloc _).alloc _) _ _ _ (by simp)).trans (World.cell?_alloc_at (w := w.alloc _) _ _ _ 0 (by simp))
    have r1 : W3.cell? ⟨w.heap.size + 1, 1, none⟩ = some (.int .i64 0) := by
      rw [← hW3]; exact (alloc_keeps ((w.alloc _).alloc _) _ _ _ (by simp)).trans (World.cell?_alloc_at (w := w.alloc _) _ _ _ 1 (by simp))
    have e1 : (w.alloc (.cells #[.int .i64 X, .int .i64 Y] 36)).heap.size = w.heap.size + 1 := by simp
    have hrow := (World.rowIs_alloc (w.alloc (.cells #[.int .i64 X, .int .i64 Y] 36)) #[.int .i64 0, .int .i64 0] 80 (fun i => (#[Value.int .i64 0, .int .i64 0])[i]!) (fun i hi => by rw [getElem!_pos _ i hi, Array.getElem?_eq_getElem hi])).alloc (.cells #[.int .i64 x, .int .i64 y] 80)
    rw [e1] at hrow
    have z0 : W3.frozen? ⟨w.heap.size + 1, 0, none⟩ = false := by rw [← hW3]; exact hrow.frozen 0
    have z1 : W3.frozen? ⟨w.heap.size + 1, 1, none⟩ = false := by rw [← hW3]; exact hrow.frozen 1
    have bW : RowKit.Below w.heap.size w W3 := by
      rw [← hW3]
      exact ((((RowKit.Below.refl _ _).alloc (Nat.le_refl _) _).alloc (by simp) _).alloc (by simp; omega) _).drew
    have HR3 : Hid (W3.rowIs (w.heap.size + 1) 80 2 (fun i => (#[Value.int .i64 0, .int .i64 0])[i]!)) := by rw [← hW3]; exact hrow
    rw [hW3]
    clear hW3 hrow e1
    go_wp2_with fail
    go_region_held3 (fun W => W.cell? ⟨w.heap.size + 1 + 1, 0, none⟩ = some (.int .i64 x) ∧ W.cell? ⟨w.heap.size + 1 + 1, 1, none⟩ = some (.int .i64 y))
      (first | exact ⟨a0, a1⟩ | exact ⟨(set2_keeps _ _ _ _ _ _ (by omega)).trans a0, (set2_keeps _ _ _ _ _ _ (by omega)).trans a1⟩)
      (fail)
  all_goals
    go_wp2
    have hR4 := ((HR3.out.set 0 (.int .i64 x)).set 1 (.int .i64 y)).drew
    have c0 := hR4.cell (i := 0) (by omega)
    have c1 := hR4.cell (i := 1) (by omega)
    simp only [if_true, if_false, Nat.zero_ne_one] at c0 c1
    have b4 : RowKit.Below w.heap.size w (((W3.setCell ⟨w.heap.size + 1, 0, none⟩ (.int .i64 x)).setCell ⟨w.heap.size + 1, 1, none⟩ (.int .i64 y)).drew) := ((bW.setCell (by simp) _).setCell (by simp) _).drew
    clear hR4 HR3 a0 a1 r0 r1 z0 z1 bW
    generalize ((W3.setCell ⟨w.heap.size + 1, 0, none⟩ (.int .i64 x)).setCell ⟨w.heap.size + 1, 1, none⟩ (.int .i64 y)).drew = W4 at *
    refine bodyPost_ret_by (v := .tuple #[.agg #[.int .i64 x, .int .i64 y], .complex .f64 (floatOfInt .f64 x) (floatOfInt .f64 y)]) ?_ rfl ⟨_, _, rfl, f1, f2, b4⟩
    rw [results_cell_tmp rfl]
    go_simp
end Go.Proofs.YtbebnjeamlmclaaGreat
