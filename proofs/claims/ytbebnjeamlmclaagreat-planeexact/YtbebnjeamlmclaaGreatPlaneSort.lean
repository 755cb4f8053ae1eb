/- Package plane: the nodes by nearness: what the sort asks. -/
import Derived.Test.YtbebnjeamlmclaaGreatPlaneSpiral3
import Derived.Deep.RegionHeld3
import Derived.Deep.Light
namespace Go.Proofs.YtbebnjeamlmclaaGreat
open Go.RowKit Go.Shelf Go.Sort
set_option maxRecDepth 100000
set_option maxRecDepth 100000

theorem compare_any (x y : Int) (w : World) : Calls Tryz.prog 37 #[.int .i64 x, .int .i64 y] w fun e w' => e = .returned (.int .i64 (Lib.compareInt x y)) ∧ w' = w :=
  Any.cmp_Compare_int compareL x y w

/-- The first that is not zero. -/
def orM (x y : Int) : Int := if x = 0 then y else x

theorem or_any (x y : Int) (b : Nat) (w : World) (h0 : w.cell? ⟨b, 0, none⟩ = some (.int .i64 x)) (h1 : w.cell? ⟨b, 1, none⟩ = some (.int .i64 y)) :
    Calls Tryz.prog 36 #[.slice (some ⟨b, 0, none⟩) 2 2] w fun e w' => e = .returned (.int .i64 (orM x y)) ∧ w' = w := by
  by_cases hx : x = 0
  · have e : orM x y = y := if_pos hx
    rw [e]
    have ex : (x == 0) = true := by rw [hx]; rfl
    go_enter Tryz.func36, Tryz.ntmps36
    go_wp2
    go_loopg [5, 8] 2 (fun q v s8 wr => ∃ i : Nat, i ≤ 2 ∧ q = 2 - i ∧ s8 = .int .i64 i ∧ wr = w ∧ Hid (i = 2 → y = 0))
    case atStart => exact ⟨0, by omega, rfl, rfl, rfl, hide (by omega)⟩
    case round =>
      obtain ⟨i, hi, rfl, rfl, rfl, HY⟩ := hrel
      rcases (show i = 0 ∨ i = 1 ∨ i = 2 by omega) with rfl | rfl | rfl
      · go_wp2
        go_roundg 1
        case measure => omega
        case rel => exact ⟨1, by omega, rfl, rfl, rfl, hide (by omega)⟩
      · by_cases hy : y = 0
        · have ey : (y == 0) = true := by rw [hy]; rfl
          go_wp2
          go_roundg 0
          case measure => omega
          case rel => exact ⟨2, by omega, rfl, rfl, rfl, hide (fun _ => hy)⟩
        · have ey : (y == 0) = false := beq_eq_false_iff_ne.2 hy
          go_wp2
          go_ret
          exact ⟨rfl, rfl⟩
      · have H0 : Hid (y = 0) := HY.out rfl
        clear HY
        go_wp2
        go_ret
        exact ⟨by rw [H0.out]; rfl, rfl⟩
  · have e : orM x y = x := if_neg hx
    rw [e]
    have ex : (x == 0) = false := beq_eq_false_iff_ne.2 hx
    go_enter Tryz.func36, Tryz.ntmps36
    go_wp2
    go_loopg [5, 8] 2 (fun q v s8 wr => q = 2 ∧ s8 = .int .i64 0 ∧ wr = w)
    case atStart => exact ⟨rfl, rfl, rfl⟩
    case round =>
      obtain ⟨rfl, rfl, rfl⟩ := hrel
      go_wp2
      go_ret
      exact ⟨rfl, rfl⟩

theorem alloc_keeps (w : World) (o : Obj) (b i : Nat) (h : b < w.heap.size) : (w.alloc o).cell? ⟨b, i, none⟩ = w.cell? ⟨b, i, none⟩ := World.cell?_alloc_past (w := w) o b i h

/-- How two nodes stand to each other. -/
def nearM (D : Nat → Int) (x y : Nat) : Int := orM (Lib.compareInt (D x) (D y)) (Lib.compareInt x y)

set_option maxHeartbeats 1000000 in
theorem near_any (D : Nat → Int) (n x y : Nat) (hx : x < n) (hy : y < n) (bx ab ao ac : Nat) (W : World) (hbb : bx < W.heap.size) (hab : ab < W.heap.size) (hbox : W.cell? ⟨bx, 0, none⟩ = some (.slice (some ⟨ab, ao, none⟩) n ac))
    (hcx : W.cell? ⟨ab, ao + x, none⟩ = some (.int .i64 (D x))) (hcy : W.cell? ⟨ab, ao + y, none⟩ = some (.int .i64 (D y))) :
    Calls Tryz.prog 35 #[.int .i64 x, .int .i64 y, .pointer (some ⟨bx, 0, none⟩)] W fun e w' => e = .returned (.int .i64 (nearM D x y)) ∧ ∃ q os, w' = grow (W.drewN q) os := by
  have hxz : (x : Int) < (n : Int) := by omega
  have hyz : (y : Int) < (n : Int) := by omega
  have hc : ∀ (u v : Int) (w : World), _ := fun u v w => compare_any u v w
  unfold nearM
  have hor : ∀ (b : Nat) (w : World), _ := fun b w => or_any (Lib.compareInt (D x) (D y)) (Lib.compareInt x y) b w
  generalize D x = dx at *
  generalize D y = dy at *
  clear hx hy
  go_enter Tryz.func35, Tryz.ntmps35
  go_wp2_with fail
  go_region_held3 (fun W' => W'.cell? ⟨bx, 0, none⟩ = some (.slice (some ⟨ab, ao, none⟩) n ac) ∧ W'.cell? ⟨ab, ao + x, none⟩ = some (.int .i64 dx) ∧ W'.cell? ⟨ab, ao + y, none⟩ = some (.int .i64 dy))
    (first | exact ⟨hbox, hcx, hcy⟩ | exact ⟨(alloc_keeps _ _ bx 0 hbb).trans hbox, (alloc_keeps _ _ ab (ao + x) hab).trans hcx, (alloc_keeps _ _ ab (ao + y) hab).trans hcy⟩)
    (first | (go_at_call 37; refine (hc _ _ _).mono ?_; rintro e w' ⟨rfl, rfl⟩) | (go_at_call 36; refine (hor _ _ ?_ ?_).mono ?_; (go_simp); (go_simp); rintro e w' ⟨rfl, rfl⟩))
  all_goals
    go_wp2_with fail
    go_ret
    exact ⟨rfl, 1, #[.cells #[.int .i64 (Lib.compareInt dx dy), .int .i64 (Lib.compareInt x y)] 3], by rw [alloc_eq_grow]; rfl⟩
end Go.Proofs.YtbebnjeamlmclaaGreat
