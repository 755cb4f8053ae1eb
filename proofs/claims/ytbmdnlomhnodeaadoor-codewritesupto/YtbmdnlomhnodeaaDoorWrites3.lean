/- Two Writers in turns: what of memory is theirs, and what one call leaves. -/
import Derived.Test.YtbmdnlomhnodeaaDoorWrites2
namespace Go.Proofs.YtbmdnlomhnodeaaDoor
open Go.RowKit

def upd {α : Type} (f : Nat → α) (k : Nat) (x : α) : Nat → α := fun i => if i = k then x else f i
structure Duo (w0 w : World) (P : Nat → Nat) (V H : Nat → Value) (L : Nat → List Nat) (aw ah sb top : Nat) : Prop where
  since : w0.Since w0.heap.size w
  pair : ∀ k, k < 2 → Pair w (P k) w0.heap.size (V k) (H k) (L k) (L k)
  apart : ∀ i j k, i < 2 → j < 2 → i ≠ j → Foot (P i) (V i) (H i) k → ¬ Foot (P j) (V j) (H j) k
  arr : w.rowIs aw 66 2 (fun i => .pointer (some ⟨P i, 0, none⟩))
  hel : w.rowIs ah 38 2 H
  far : ∀ i k, i < 2 → Foot (P i) (V i) (H i) k → k ≠ aw ∧ k ≠ ah ∧ k ≠ sb
  ne1 : aw ≠ ah
  ne2 : sb ≠ ah
  low : w0.heap.size ≤ ah
  sbl : sb < w.heap.size
  len : ∀ k, k < 2 → (L k).length ≤ top
theorem Duo.later {w0 w w' : World} {P : Nat → Nat} {V H : Nat → Value} {L : Nat → List Nat} {aw ah sb top : Nat} (h : Duo w0 w P V H L aw ah sb top) (hs : w.Since w.heap.size w') : Duo w0 w' P V H L aw ah sb top :=
  ⟨h.since.trans (since_mono hs h.since.size), fun k hk => ((h.pair k hk).since hs).1, h.apart, h.arr.of_block (hs.block aw h.arr.lt), h.hel.of_block (hs.block ah h.hel.lt), h.far, h.ne1, h.ne2, h.low, Nat.lt_of_lt_of_le h.sbl hs.size, h.len⟩
/-- ONE CALL OF THE WRITER k, its list laid back. -/
theorem Duo.step {w0 w w' : World} {P : Nat → Nat} {V H : Nat → Value} {L : Nat → List Nat} {aw ah sb top : Nat} (h : Duo w0 w P V H L aw ah sb top) {k : Nat} (hk : k < 2) {v' h' : Value} {l' : List Nat} {top' : Nat} (hd : Did w0 w w' (P k) (V k) (H k) v' h' l' top') (ht : top ≤ top') :
    w'.cell? ⟨ah, k, none⟩ = some (H k) ∧ w'.frozen? ⟨ah, k, none⟩ = false ∧ Duo w0 (w'.setCell ⟨ah, k, none⟩ h') P (upd V k v') (upd H k h') (upd L k l') aw ah sb top' := by
  have hah : ah < w.heap.size := h.hel.lt
  have haw : aw < w.heap.size := h.arr.lt
  have hn : ∀ b, b = aw ∨ b = ah → ¬ Foot (P k) (V k) (H k) b := fun b hb hf => by
    have := h.far k b hk hf
    rcases hb with e | e
    · exact this.1 e
    · exact this.2.1 e
  have hrow : w'.rowIs ah 38 2 H := h.hel.of_block (hd.move.block ah hah (hn ah (Or.inr rfl)))
  have harr : w'.rowIs aw 66 2 (fun i => .pointer (some ⟨P i, 0, none⟩)) := h.arr.of_block (hd.move.block aw haw (hn aw (Or.inl rfl)))
  have hset : ∀ b, b ≠ ah → (w'.setCell ⟨ah, k, none⟩ h').heap[b]? = w'.heap[b]? := fun b hb => Below.heap_setCell _ _ _ _ hb
  have hsz : (w'.setCell ⟨ah, k, none⟩ h').heap.size = w'.heap.size := by simp [World.setCell]
  have hfk : ∀ b, Foot (P k) v' h' b → b ≠ aw ∧ b ≠ ah ∧ b ≠ sb := fun b hf => by
    rcases hd.move.foot b hf with e | e
    · exact h.far k b hk e
    · have := h.sbl; exact ⟨by omega, by omega, by omega⟩
  have hup : ∀ {α : Type} (f : Nat → α) (x : α), upd f k x k = x := fun f x => if_pos rfl
  have hup2 : ∀ {α : Type} (f : Nat → α) (x : α) (i : Nat), i ≠ k → upd f k x i = f i := fun f x i hi => if_neg hi
  have hfar : ∀ i b, i < 2 → Foot (P i) (upd V k v' i) (upd H k h' i) b → b ≠ aw ∧ b ≠ ah ∧ b ≠ sb := fun i b hi hf => by
    by_cases e : i = k
    · subst e; rw [hup, hup] at hf; exact hfk b hf
    · rw [hup2 _ _ _ e, hup2 _ _ _ e] at hf; exact h.far i b hi hf
  refine ⟨hrow.cell hk, hrow.frozen k, hd.since.setCell (a := ⟨ah, k, none⟩) h.low _, fun i hi => ?_, fun i j b hi hj hij hf hf2 => ?_, harr.of_block (hset aw h.ne1), (hrow.set k h').congr (fun i _ => rfl), hfar, h.ne1, h.ne2, h.low, ?_, fun i hi => ?_⟩
  · by_cases e : i = k
    · subst e
      rw [hup, hup, hup]
      exact hd.pair.keep (by omega) (fun b hf => hset b (hfk b hf).2.1)
    · rw [hup2 _ _ _ e, hup2 _ _ _ e, hup2 _ _ _ e]
      exact (h.pair i hi).keep (by rw [hsz]; exact hd.move.size) (fun b hf => (hset b (h.far i b hi hf).2.1).trans (hd.move.block b ((h.pair i hi).lt b hf) (h.apart i k b hi hk e hf)))
  · by_cases e : i = k
    · subst e
      have e2 : j ≠ i := fun x => hij x.symm
      rw [hup, hup] at hf
      rw [hup2 _ _ _ e2, hup2 _ _ _ e2] at hf2
      rcases hd.move.foot b hf with e3 | e3
      · exact h.apart i j b hi hj hij e3 hf2
      · have := (h.pair j hj).lt b hf2; omega
    · rw [hup2 _ _ _ e, hup2 _ _ _ e] at hf
      by_cases e4 : j = k
      · subst e4
        rw [hup, hup] at hf2
        rcases hd.move.foot b hf2 with e3 | e3
        · exact h.apart i j b hi hj hij hf e3
        · have := (h.pair i hi).lt b hf; omega
      · rw [hup2 _ _ _ e4, hup2 _ _ _ e4] at hf2
        exact h.apart i j b hi hj hij hf hf2
  · rw [hsz]; exact Nat.lt_of_lt_of_le h.sbl hd.move.size
  · by_cases e : i = k
    · subst e; rw [hup]; exact hd.len
    · rw [hup2 _ _ _ e]; exact Nat.le_trans (h.len i hi) ht
end Go.Proofs.YtbmdnlomhnodeaaDoor
