/- held: the state at its begin. -/
import Derived.Test.YtgpmoakfbhcidaaYB4
namespace Go.Proofs.Ytgpmoakfbhcidaa
open Go.RowKit
set_option maxRecDepth 100000
set_option maxRecDepth 100000

/-- The state at the loop's begin. -/
theorem PlS.hdx {W0 w : World} {sb bk L : Nat} (h : PlS W0 w sb bk L) {W : World} (e : W = (w.alloc (.cells #[.int .i64 0, .slice none 0 0, .slice none 0 0, .slice none 0 0, .slice none 0 0, .slice none 0 0, .slice none 0 0, .slice none 0 0, .slice none 0 0, .slice none 0 0, .slice none 0 0] 61)).alloc (.cells #[.slice none 0 0] 64)) :
    HdX W0 W sb bk w.heap.size (w.heap.size + 1) L 0 0 0 (.slice none 0 0) := by
  obtain ⟨P, nv, vv, F, hs, hl⟩ := h.st
  have hz : (w.alloc (.cells #[.int .i64 0, .slice none 0 0, .slice none 0 0, .slice none 0 0, .slice none 0 0, .slice none 0 0, .slice none 0 0, .slice none 0 0, .slice none 0 0, .slice none 0 0, .slice none 0 0] 61)).heap.size = w.heap.size + 1 := by simp
  have hb1 : Below w.heap.size w (w.alloc (.cells #[.int .i64 0, .slice none 0 0, .slice none 0 0, .slice none 0 0, .slice none 0 0, .slice none 0 0, .slice none 0 0, .slice none 0 0, .slice none 0 0, .slice none 0 0, .slice none 0 0] 61)) := (Below.refl _ _).alloc (Nat.le_refl _) _
  have hr1 : (w.alloc (.cells #[.int .i64 0, .slice none 0 0, .slice none 0 0, .slice none 0 0, .slice none 0 0, .slice none 0 0, .slice none 0 0, .slice none 0 0, .slice none 0 0, .slice none 0 0, .slice none 0 0] 61)).rowIs w.heap.size 61 11 (shB 0 (.slice none 0 0) (.slice none 0 0)) := World.rowIs_alloc w _ _ _ (fun i hi => by
    have hi' : i < 11 := hi
    match i, hi' with
    | 0, _ | 1, _ | 2, _ | 3, _ | 4, _ | 5, _ | 6, _ | 7, _ | 8, _ | 9, _ | 10, _ => rfl)
  generalize w.alloc (.cells #[.int .i64 0, .slice none 0 0, .slice none 0 0, .slice none 0 0, .slice none 0 0, .slice none 0 0, .slice none 0 0, .slice none 0 0, .slice none 0 0, .slice none 0 0, .slice none 0 0] 61) = w1 at *
  have hb2 : Below w1.heap.size w1 W := by rw [e]; exact (Below.refl _ _).alloc (Nat.le_refl _) _
  have hr2 : W.rowIs w1.heap.size 64 1 (fun _ => .slice none 0 0) := by
    rw [e]
    exact World.rowIs_alloc w1 _ _ _ (fun i hi => by
      have hi' : i < 1 := hi
      match i, hi' with
      | 0, _ => rfl)
  have hb : Below w.heap.size w W := hb1.trans (hb2.mono (by omega))
  rw [hz] at hr2
  have hB := h.below.size
  have hsh : ShB W W0.heap.size w.heap.size 0 0 (.slice none 0 0) (.slice none 0 0) (fun _ => none) (fun _ => none) (fun _ => 0) (fun _ => 0) (fun _ => 0) (fun _ _ => 0) :=
    ⟨hr1.of_block (hb2.block _ hr1.lt), World.ownsRow_nil _ _ _ _, World.ownsRow_nil _ _ _ _, ⟨fun i hi => by omega, fun i j a a' hi => by omega⟩, fun i hi => by omega, fun q e => by simp [Value.ownBlock] at e, hB, fun i hi => by omega, by decide, by decide⟩
  refine ⟨P, nv, vv, F, fun i q => if i = 0 then SFt sb F q else if i = 1 then q = w.heap.size else if i = 2 then q = w.heap.size + 1 else False, hs.on hb, hl, ⟨0, 0, .slice none 0 0, .slice none 0 0, _, _, _, _, _, _, hsh, by decide, fun q => ?_⟩, ⟨.slice none 0 0, 0, fun _ => 0, hr2, own_nil _ _ _, by omega, fun q => ?_⟩, ?_, fun q => by simp, fun i j q hi hj hne hq hq' => ?_, h.below.trans (hb.mono hB)⟩
  · constructor
    · intro e
      exact .inl (by simpa using e)
    · intro e
      rcases e with e | e | e | ⟨i, a, hi, _⟩ | ⟨i, a, hi, _⟩
      · simpa using e
      · simp [Value.ownBlock] at e
      · simp [Value.ownBlock] at e
      · omega
      · omega
  · constructor
    · intro e
      exact .inl (by simpa using e)
    · intro e
      rcases e with e | e
      · simpa using e
      · simp [Value.ownBlock] at e
  · exact OtIs.nil W W0.heap.size
  · have g : ∀ q, SFt sb F q → q < w.heap.size := fun q hq => (hs.ge q hq).2
    have hi4 : i = 0 ∨ i = 1 ∨ i = 2 ∨ i = 3 := by omega
    have hj4 : j = 0 ∨ j = 1 ∨ j = 2 ∨ j = 3 := by omega
    rcases hi4 with rfl | rfl | rfl | rfl <;> rcases hj4 with rfl | rfl | rfl | rfl <;> first
      | exact hne rfl
      | (simp at hq; done)
      | (simp at hq'; done)
      | (simp at hq hq'; have := g q hq; omega)
      | (simp at hq hq'; have := g q hq'; omega)
      | (simp at hq hq'; omega)
theorem HdX.on {W0 w w' : World} {sb bk xb pb L T lo m : Nat} {ov : Value} (h : HdX W0 w sb bk xb pb L T lo m ov) (hb : Below w.heap.size w w') : HdX W0 w' sb bk xb pb L T lo m ov := by
  obtain ⟨P, nv, vv, F, fam, h⟩ := h
  exact (h.on hb).x
theorem HdX.below {W0 w : World} {sb bk xb pb L T lo m : Nat} {ov : Value} (h : HdX W0 w sb bk xb pb L T lo m ov) : Below W0.heap.size W0 w := by
  obtain ⟨P, nv, vv, F, fam, h⟩ := h
  exact h.below
end Go.Proofs.Ytgpmoakfbhcidaa
