/- A Writer beside the list that holds what the document says: what of memory is theirs, and what a step leaves. -/
import Derived.Test.YtbmdnlomhnodeabDoorRefEq
namespace Go.Proofs.YtbmdnlomhnodeabDoor
open Go.RowKit
set_option maxRecDepth 100000

theorem own_keep {w w' : World} {B : Nat} {v : Value} {n : Nat} {x : Nat → Nat} (h : Own w B v n x) (hk : ∀ k, v.ownBlock = some k → w'.heap[k]? = w.heap[k]?) : Own w' B v n x := by
  refine ⟨h.1, ?_⟩
  rcases h.2 with h1 | ⟨g, cap, cur, e, hb, hh, r⟩
  · exact Or.inl h1
  · exact Or.inr ⟨g, cap, cur, e, hb, by rw [hk g (by rw [e]; rfl)]; exact hh, r⟩
theorem own_lt {w : World} {B : Nat} {v : Value} {n : Nat} {x : Nat → Nat} (h : Own w B v n x) : ∀ k, v.ownBlock = some k → k < w.heap.size := fun k hk => by
  rcases h.2 with ⟨rfl, _⟩ | ⟨g, cap, cur, rfl, hb, hh, _⟩
  · simp [Value.ownBlock] at hk
  · obtain rfl : g = k := by simpa [Value.ownBlock] using hk
    rcases Nat.lt_or_ge g w.heap.size with h | h
    · exact h
    · rw [Array.getElem?_eq_none h] at hh; cases hh

def Foot (wb : Nat) (v hv : Value) (k : Nat) : Prop := k = wb ∨ v.ownBlock = some k ∨ hv.ownBlock = some k
/-- The Writer holds lw, the list beside it lh. -/
structure Pair (w : World) (wb B : Nat) (v hv : Value) (lw lh : List Nat) : Prop where
  isl : IsL w wb B v lw
  own : OwnL w B hv lh
  ne1 : hv.ownBlock ≠ some wb
  ne2 : ∀ k, v.ownBlock = some k → hv.ownBlock ≠ some k
  low : B ≤ wb
structure Move (wb : Nat) (v hv v' hv' : Value) (w w' : World) : Prop where
  os : w'.os = w.os
  tape : w'.tape = w.tape
  output : w'.output = w.output
  size : w.heap.size ≤ w'.heap.size
  block : ∀ k, k < w.heap.size → ¬ Foot wb v hv k → w'.heap[k]? = w.heap[k]?
  foot : ∀ k, Foot wb v' hv' k → Foot wb v hv k ∨ w.heap.size ≤ k
theorem Pair.lt {w : World} {wb B : Nat} {v hv : Value} {lw lh : List Nat} (h : Pair w wb B v hv lw lh) : ∀ k, Foot wb v hv k → k < w.heap.size := fun k hk => by
  rcases hk with rfl | e | e
  · exact h.isl.cell.lt
  · exact own_lt h.isl.own k e
  · exact own_lt h.own k e
theorem Pair.ge {w : World} {wb B : Nat} {v hv : Value} {lw lh : List Nat} (h : Pair w wb B v hv lw lh) : ∀ k, Foot wb v hv k → B ≤ k := fun k hk => by
  rcases hk with rfl | e | e
  · exact h.low
  · exact own_block h.isl.own k e
  · exact own_block h.own k e
theorem Pair.keep {w w' : World} {wb B : Nat} {v hv : Value} {lw lh : List Nat} (h : Pair w wb B v hv lw lh) (hz : w.heap.size ≤ w'.heap.size) (hk : ∀ k, Foot wb v hv k → w'.heap[k]? = w.heap[k]?) : Pair w' wb B v hv lw lh :=
  ⟨⟨h.isl.cell.of_block (hk wb (Or.inl rfl)), own_keep h.isl.own (fun k e => hk k (Or.inr (Or.inl e))), h.isl.ne, Nat.le_trans h.isl.lo hz⟩, own_keep h.own (fun k e => hk k (Or.inr (Or.inr e))), h.ne1, h.ne2, h.low⟩
theorem Pair.since {w w' : World} {wb B : Nat} {v hv : Value} {lw lh : List Nat} (h : Pair w wb B v hv lw lh) (hs : w.Since w.heap.size w') : Pair w' wb B v hv lw lh ∧ Move wb v hv v hv w w' :=
  ⟨h.keep hs.size (fun k hk => hs.block k (h.lt k hk)), hs.os, hs.tape, hs.output, hs.size, fun k hk _ => hs.block k hk, fun _ hk => Or.inl hk⟩
theorem Pair.wrote {w w' : World} {wb B : Nat} {v v' hv : Value} {lw lh l' : List Nat} (h : Pair w wb B v hv lw lh) (hI : IsL w' wb B v' l') (hE : Ext wb v v' w w') : Pair w' wb B v' hv l' lh ∧ Move wb v hv v' hv w w' := by
  have hlt := own_lt h.own
  refine ⟨⟨hI, own_keep h.own (fun k e => hE.block k (hlt k e) (fun e2 => h.ne1 (by rw [e, e2])) (fun e2 => h.ne2 k e2.symm e)), h.ne1, fun k e e2 => ?_, h.low⟩, hE.os, hE.tape, hE.output, hE.size, fun k hk hn => hE.block k hk (fun e => hn (Or.inl e)) (fun e => hn (Or.inr (Or.inl e.symm))), fun k hk => ?_⟩
  · rcases hE.lies with e3 | ⟨g, e3, hg⟩
    · rw [e3] at e; exact h.ne2 k e e2
    · rw [e3] at e; cases e; have := hlt _ e2; omega
  · rcases hk with e | e | e
    · exact Or.inl (Or.inl e)
    · rcases hE.lies with e3 | ⟨g, e3, hg⟩
      · rw [e3] at e; exact Or.inl (Or.inr (Or.inl e))
      · rw [e3] at e; cases e; exact Or.inr hg
    · exact Or.inl (Or.inr (Or.inr e))
theorem Pair.held {w w' : World} {wb B : Nat} {v hv hv' : Value} {lw lh l' : List Nat} (h : Pair w wb B v hv lw lh) (ho : OwnL w' B hv' l') (hg : w.grownBy w' hv.ownBlock) (hl : hv'.ownBlock = hv.ownBlock ∨ hv'.ownBlock = some w.heap.size) : Pair w' wb B v hv' lw l' ∧ Move wb v hv v hv' w w' := by
  have hlt := own_lt h.isl.own
  have hwb : wb < w.heap.size := h.isl.cell.lt
  refine ⟨⟨⟨h.isl.cell.of_block (hg.block wb hwb (fun e => h.ne1 e.symm)), own_keep h.isl.own (fun k e => hg.block k (hlt k e) (fun e2 => h.ne2 k e e2.symm)), h.isl.ne, Nat.le_trans h.isl.lo hg.size⟩, ho, ?_, fun k e e2 => ?_, h.low⟩, hg.os, hg.tape, hg.output, hg.size, fun k hk hn => hg.block k hk (fun e => hn (Or.inr (Or.inr e.symm))), fun k hk => ?_⟩
  · rcases hl with e | e
    · rw [e]; exact h.ne1
    · rw [e]; intro e2; cases e2; omega
  · rcases hl with e3 | e3
    · rw [e3] at e2; exact h.ne2 k e e2
    · rw [e3] at e2; cases e2; have := hlt _ e; omega
  · rcases hk with e | e | e
    · exact Or.inl (Or.inl e)
    · exact Or.inl (Or.inr (Or.inl e))
    · rcases hl with e3 | e3
      · rw [e3] at e; exact Or.inl (Or.inr (Or.inr e))
      · rw [e3] at e; cases e; exact Or.inr (Nat.le_refl _)
theorem Move.refl (wb : Nat) (v hv : Value) (w : World) : Move wb v hv v hv w w := ⟨rfl, rfl, rfl, Nat.le_refl _, fun _ _ _ => rfl, fun _ h => Or.inl h⟩
theorem Move.trans {wb : Nat} {v hv v' hv' v'' hv'' : Value} {a b c : World} (h : Move wb v hv v' hv' a b) (k : Move wb v' hv' v'' hv'' b c) : Move wb v hv v'' hv'' a c :=
  ⟨k.os.trans h.os, k.tape.trans h.tape, k.output.trans h.output, Nat.le_trans h.size k.size, fun i hi hn => (k.block i (Nat.lt_of_lt_of_le hi h.size) (fun hf => by
      rcases h.foot i hf with e | e
      · exact hn e
      · omega)).trans (h.block i hi hn), fun i hi => by
    rcases k.foot i hi with e | e
    · exact h.foot i e
    · exact Or.inr (Nat.le_trans h.size e)⟩
theorem Move.since {w0 w w' : World} {wb B : Nat} {v hv v' hv' : Value} {lw lh : List Nat} (hm : Move wb v hv v' hv' w w') (h : Pair w wb B v hv lw lh) (hs : w0.Since B w) (hB : B ≤ w.heap.size) : w0.Since B w' :=
  ⟨hm.os.trans hs.os, hm.tape.trans hs.tape, hm.output.trans hs.output, Nat.le_trans hs.size hm.size, fun k hk => (hm.block k (by omega) (fun hf => by have := h.ge k hf; omega)).trans (hs.block k hk)⟩
/-- A block that is not theirs. -/
theorem Move.cell {wb : Nat} {v hv v' hv' : Value} {w w' : World} (hm : Move wb v hv v' hv' w w') {b o : Nat} {u : Value} (hc : w.cell? ⟨b, o, none⟩ = some u) (hn : ¬ Foot wb v hv b) : w'.cell? ⟨b, o, none⟩ = some u := by
  rw [World.cell?_of_block (w := w) (hm.block b (World.block_lt_of_cell? _ _ hc) hn)]; exact hc
/-- THE TWO STEPS OF ONE CALL: the Writer's, then the list's. -/
theorem Pair.two {w w1 w2 w3 : World} {wb B : Nat} {v v' hv hv' : Value} {l l' : List Nat} (h : Pair w wb B v hv l l) (hI : IsL w1 wb B v' l') (hE : Ext wb v v' w w1) (hs : w1.Since w1.heap.size w2) (ho : OwnL w3 B hv' l') (hg : w2.grownBy w3 hv.ownBlock) (hl : hv'.ownBlock = hv.ownBlock ∨ hv'.ownBlock = some w2.heap.size) : Pair w3 wb B v' hv' l' l' ∧ Move wb v hv v' hv' w w3 := by
  obtain ⟨p1, m1⟩ := h.wrote hI hE
  obtain ⟨p2, m2⟩ := p1.since hs
  obtain ⟨p3, m3⟩ := p2.held ho hg hl
  exact ⟨p3, m1.trans (m2.trans m3)⟩
end Go.Proofs.YtbmdnlomhnodeabDoor
