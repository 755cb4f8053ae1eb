/- Which code points Fold moves. -/
import Derived.Test.YthoeehgnkolgpaaDoorCheck1
namespace Go.Proofs.YthoeehgnkolgpaaDoor
open Go.RowKit

def movesR (r : Nat) : Bool := decide ((65 ≤ r ∧ r ≤ 90) ∨ (192 ≤ r ∧ r ≤ 214) ∨ (216 ≤ r ∧ r ≤ 222))
/-- The table of package text. -/
structure FoldTab (w : World) : Prop where
  c0 : w.cell? ⟨0, 0, none⟩ = some (.int .i32 65)
  c1 : w.cell? ⟨0, 1, none⟩ = some (.int .i32 90)
  c2 : w.cell? ⟨0, 2, none⟩ = some (.int .i32 192)
  c3 : w.cell? ⟨0, 3, none⟩ = some (.int .i32 214)
  c4 : w.cell? ⟨0, 4, none⟩ = some (.int .i32 216)
  c5 : w.cell? ⟨0, 5, none⟩ = some (.int .i32 222)
theorem FoldTab.below {w w' : World} (h : FoldTab w) (hb : Below w.heap.size w w') : FoldTab w' := by
  have k : ∀ {a : Addr} {v : Value}, w.cell? a = some v → w'.cell? a = some v := fun {a v} hc => (hb.cell (World.block_lt_of_cell? _ _ hc)).trans hc
  exact ⟨k h.c0, k h.c1, k h.c2, k h.c3, k h.c4, k h.c5⟩

theorem idx0 (W : World) : (Instr.index 86 (.agg #[.int .i32 65, .int .i32 90, .int .i32 192, .int .i32 214, .int .i32 216, .int .i32 222]) (.int .i64 0)).run Tryd.prog W = .ok (.agg #[.int .i32 65, .int .i32 90]) W := by kernel_rfl
theorem idx1 (W : World) : (Instr.index 86 (.agg #[.int .i32 65, .int .i32 90, .int .i32 192, .int .i32 214, .int .i32 216, .int .i32 222]) (.int .i64 1)).run Tryd.prog W = .ok (.agg #[.int .i32 192, .int .i32 214]) W := by kernel_rfl
theorem idx2 (W : World) : (Instr.index 86 (.agg #[.int .i32 65, .int .i32 90, .int .i32 192, .int .i32 214, .int .i32 216, .int .i32 222]) (.int .i64 2)).run Tryd.prog W = .ok (.agg #[.int .i32 216, .int .i32 222]) W := by kernel_rfl

set_option maxHeartbeats 3200000 in
set_option maxRecDepth 100000 in
theorem moves_a (r : Nat) (w : World) (h : FoldTab w) (h0 : 0 ≤ r) (h1 : r ≤ 64) :
    Calls Tryd.prog 36 #[.int .i32 r] w fun e w' => e = .returned (.bool (movesR r)) ∧ Below w.heap.size w w' := by
  obtain ⟨c0, c1, c2, c3, c4, c5⟩ := h
  rw [show movesR r = false by simp [movesR]; omega]
  have i0 := fun W => idx0 W
  have i1 := fun W => idx1 W
  have i2 := fun W => idx2 W
  have a0 : ¬ (65 : Int) ≤ (r : Int) := by omega
  have a1 : ¬ (192 : Int) ≤ (r : Int) := by omega
  have a2 : ¬ (216 : Int) ≤ (r : Int) := by omega
  have b0 : (r : Int) ≤ 90 := by omega
  have b1 : (r : Int) ≤ 214 := by omega
  have b2 : (r : Int) ≤ 222 := by omega
  go_enter Tryd.func36, Tryd.ntmps36
  go_wp2
  refine wp_loop_rounds 4 ?_
  rw [rounds_succ]
  go_wp2
  rw [rounds_succ]
  go_wp2
  rw [rounds_succ]
  go_wp2
  rw [rounds_succ]
  go_wp2
  go_ret
  exact ⟨rfl, (((Below.refl _ w).alloc (Nat.le_refl _) _).alloc (by simp) _).alloc (by simp; omega) _⟩

set_option maxHeartbeats 3200000 in
set_option maxRecDepth 100000 in
theorem moves_b (r : Nat) (w : World) (h : FoldTab w) (h0 : 65 ≤ r) (h1 : r ≤ 90) :
    Calls Tryd.prog 36 #[.int .i32 r] w fun e w' => e = .returned (.bool (movesR r)) ∧ Below w.heap.size w w' := by
  obtain ⟨c0, c1, c2, c3, c4, c5⟩ := h
  rw [show movesR r = true by simp [movesR]; omega]
  have i0 := fun W => idx0 W
  have i1 := fun W => idx1 W
  have i2 := fun W => idx2 W
  have a0 : (65 : Int) ≤ (r : Int) := by omega
  have a1 : ¬ (192 : Int) ≤ (r : Int) := by omega
  have a2 : ¬ (216 : Int) ≤ (r : Int) := by omega
  have b0 : (r : Int) ≤ 90 := by omega
  have b1 : (r : Int) ≤ 214 := by omega
  have b2 : (r : Int) ≤ 222 := by omega
  go_enter Tryd.func36, Tryd.ntmps36
  go_wp2
  refine wp_loop_rounds 4 ?_
  rw [rounds_succ]
  go_wp2
  go_ret
  exact ⟨rfl, (Below.refl _ w).alloc (Nat.le_refl _) _⟩

set_option maxHeartbeats 3200000 in
set_option maxRecDepth 100000 in
theorem moves_c (r : Nat) (w : World) (h : FoldTab w) (h0 : 91 ≤ r) (h1 : r ≤ 191) :
    Calls Tryd.prog 36 #[.int .i32 r] w fun e w' => e = .returned (.bool (movesR r)) ∧ Below w.heap.size w w' := by
  obtain ⟨c0, c1, c2, c3, c4, c5⟩ := h
  rw [show movesR r = false by simp [movesR]; omega]
  have i0 := fun W => idx0 W
  have i1 := fun W => idx1 W
  have i2 := fun W => idx2 W
  have a0 : (65 : Int) ≤ (r : Int) := by omega
  have a1 : ¬ (192 : Int) ≤ (r : Int) := by omega
  have a2 : ¬ (216 : Int) ≤ (r : Int) := by omega
  have b0 : ¬ (r : Int) ≤ 90 := by omega
  have b1 : (r : Int) ≤ 214 := by omega
  have b2 : (r : Int) ≤ 222 := by omega
  go_enter Tryd.func36, Tryd.ntmps36
  go_wp2
  refine wp_loop_rounds 4 ?_
  rw [rounds_succ]
  go_wp2
  rw [rounds_succ]
  go_wp2
  rw [rounds_succ]
  go_wp2
  rw [rounds_succ]
  go_wp2
  go_ret
  exact ⟨rfl, (((Below.refl _ w).alloc (Nat.le_refl _) _).alloc (by simp) _).alloc (by simp; omega) _⟩

set_option maxHeartbeats 3200000 in
set_option maxRecDepth 100000 in
theorem moves_d (r : Nat) (w : World) (h : FoldTab w) (h0 : 192 ≤ r) (h1 : r ≤ 214) :
    Calls Tryd.prog 36 #[.int .i32 r] w fun e w' => e = .returned (.bool (movesR r)) ∧ Below w.heap.size w w' := by
  obtain ⟨c0, c1, c2, c3, c4, c5⟩ := h
  rw [show movesR r = true by simp [movesR]; omega]
  have i0 := fun W => idx0 W
  have i1 := fun W => idx1 W
  have i2 := fun W => idx2 W
  have a0 : (65 : Int) ≤ (r : Int) := by omega
  have a1 : (192 : Int) ≤ (r : Int) := by omega
  have a2 : ¬ (216 : Int) ≤ (r : Int) := by omega
  have b0 : ¬ (r : Int) ≤ 90 := by omega
  have b1 : (r : Int) ≤ 214 := by omega
  have b2 : (r : Int) ≤ 222 := by omega
  go_enter Tryd.func36, Tryd.ntmps36
  go_wp2
  refine wp_loop_rounds 4 ?_
  rw [rounds_succ]
  go_wp2
  rw [rounds_succ]
  go_wp2
  go_ret
  exact ⟨rfl, ((Below.refl _ w).alloc (Nat.le_refl _) _).alloc (by simp) _⟩

set_option maxHeartbeats 3200000 in
set_option maxRecDepth 100000 in
theorem moves_e (r : Nat) (w : World) (h : FoldTab w) (h0 : 215 ≤ r) (h1 : r ≤ 215) :
    Calls Tryd.prog 36 #[.int .i32 r] w fun e w' => e = .returned (.bool (movesR r)) ∧ Below w.heap.size w w' := by
  obtain ⟨c0, c1, c2, c3, c4, c5⟩ := h
  rw [show movesR r = false by simp [movesR]; omega]
  have i0 := fun W => idx0 W
  have i1 := fun W => idx1 W
  have i2 := fun W => idx2 W
  have a0 : (65 : Int) ≤ (r : Int) := by omega
  have a1 : (192 : Int) ≤ (r : Int) := by omega
  have a2 : ¬ (216 : Int) ≤ (r : Int) := by omega
  have b0 : ¬ (r : Int) ≤ 90 := by omega
  have b1 : ¬ (r : Int) ≤ 214 := by omega
  have b2 : (r : Int) ≤ 222 := by omega
  go_enter Tryd.func36, Tryd.ntmps36
  go_wp2
  refine wp_loop_rounds 4 ?_
  rw [rounds_succ]
  go_wp2
  rw [rounds_succ]
  go_wp2
  rw [rounds_succ]
  go_wp2
  rw [rounds_succ]
  go_wp2
  go_ret
  exact ⟨rfl, (((Below.refl _ w).alloc (Nat.le_refl _) _).alloc (by simp) _).alloc (by simp; omega) _⟩

set_option maxHeartbeats 3200000 in
set_option maxRecDepth 100000 in
theorem moves_f (r : Nat) (w : World) (h : FoldTab w) (h0 : 216 ≤ r) (h1 : r ≤ 222) :
    Calls Tryd.prog 36 #[.int .i32 r] w fun e w' => e = .returned (.bool (movesR r)) ∧ Below w.heap.size w w' := by
  obtain ⟨c0, c1, c2, c3, c4, c5⟩ := h
  rw [show movesR r = true by simp [movesR]; omega]
  have i0 := fun W => idx0 W
  have i1 := fun W => idx1 W
  have i2 := fun W => idx2 W
  have a0 : (65 : Int) ≤ (r : Int) := by omega
  have a1 : (192 : Int) ≤ (r : Int) := by omega
  have a2 : (216 : Int) ≤ (r : Int) := by omega
  have b0 : ¬ (r : Int) ≤ 90 := by omega
  have b1 : ¬ (r : Int) ≤ 214 := by omega
  have b2 : (r : Int) ≤ 222 := by omega
  go_enter Tryd.func36, Tryd.ntmps36
  go_wp2
  refine wp_loop_rounds 4 ?_
  rw [rounds_succ]
  go_wp2
  rw [rounds_succ]
  go_wp2
  rw [rounds_succ]
  go_wp2
  go_ret
  exact ⟨rfl, (((Below.refl _ w).alloc (Nat.le_refl _) _).alloc (by simp) _).alloc (by simp; omega) _⟩

set_option maxHeartbeats 3200000 in
set_option maxRecDepth 100000 in
theorem moves_g (r : Nat) (w : World) (h : FoldTab w) (h0 : 223 ≤ r) :
    Calls Tryd.prog 36 #[.int .i32 r] w fun e w' => e = .returned (.bool (movesR r)) ∧ Below w.heap.size w w' := by
  obtain ⟨c0, c1, c2, c3, c4, c5⟩ := h
  rw [show movesR r = false by simp [movesR]; omega]
  have i0 := fun W => idx0 W
  have i1 := fun W => idx1 W
  have i2 := fun W => idx2 W
  have a0 : (65 : Int) ≤ (r : Int) := by omega
  have a1 : (192 : Int) ≤ (r : Int) := by omega
  have a2 : (216 : Int) ≤ (r : Int) := by omega
  have b0 : ¬ (r : Int) ≤ 90 := by omega
  have b1 : ¬ (r : Int) ≤ 214 := by omega
  have b2 : ¬ (r : Int) ≤ 222 := by omega
  go_enter Tryd.func36, Tryd.ntmps36
  go_wp2
  refine wp_loop_rounds 4 ?_
  rw [rounds_succ]
  go_wp2
  rw [rounds_succ]
  go_wp2
  rw [rounds_succ]
  go_wp2
  rw [rounds_succ]
  go_wp2
  go_ret
  exact ⟨rfl, (((Below.refl _ w).alloc (Nat.le_refl _) _).alloc (by simp) _).alloc (by simp; omega) _⟩

theorem moves_any (r : Nat) (w : World) (h : FoldTab w) :
    Calls Tryd.prog 36 #[.int .i32 r] w fun e w' => e = .returned (.bool (movesR r)) ∧ Below w.heap.size w w' := by
  by_cases h1 : r ≤ 64
  · exact moves_a r w h (Nat.zero_le _) h1
  by_cases h2 : r ≤ 90
  · exact moves_b r w h (by omega) h2
  by_cases h3 : r ≤ 191
  · exact moves_c r w h (by omega) h3
  by_cases h4 : r ≤ 214
  · exact moves_d r w h (by omega) h4
  by_cases h5 : r ≤ 215
  · exact moves_e r w h (by omega) h5
  by_cases h6 : r ≤ 222
  · exact moves_f r w h (by omega) h6
  · exact moves_g r w h (by omega)
end Go.Proofs.YthoeehgnkolgpaaDoor
