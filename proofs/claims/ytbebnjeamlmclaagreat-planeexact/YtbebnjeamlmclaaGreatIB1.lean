/- What a Book is in memory, where it keeps lists of ints alone; what a step leaves. -/
import Derived.Test.YtbebnjeamlmclaaGreatIntFam
import Derived.Deep.LoopGhost
import Derived.Laws.OwnMore
import Derived.BigQuiet
namespace Go.Proofs.YtbebnjeamlmclaaGreat
open Go.RowKit
set_option maxRecDepth 100000

theorem unhide {p : Prop} (h : Hid p) : p := h
theorem since_drewN' {B : Nat} {w w' : World} (h : w.Since B w') (n : Nat) : w.Since B (w'.drewN n) := ⟨h.os, h.tape, h.output, h.size, h.block⟩
theorem range_map_succ {α : Type} (f : Nat → α) (n : Nat) : (List.range (n + 1)).map f = (List.range n).map f ++ [f n] := by
  rw [List.range_succ, List.map_append]; rfl
def put {α : Type} (f : Nat → α) (k : Nat) (x : α) : Nat → α := fun i => if i = k then x else f i
theorem put_at {α : Type} (f : Nat → α) (k : Nat) (x : α) : put f k x k = x := if_pos rfl
theorem put_ne {α : Type} (f : Nat → α) (k : Nat) (x : α) {j : Nat} (h : j ≠ k) : put f k x j = f j := if_neg h

/-- What a list of that number holds. -/
def mkI (m : Nat) : Value := .int .i64 ((1000 + m : Nat) : Int)
/-- The cells of a Book: its lists of ints, their marks, so many grown; all other lists nil; turn, done, used. -/
def ibCell (bv ov : Value) (at' turn done used : Nat) (i : Nat) : Value :=
  if i = 9 then bv else if i = 10 then ov else if i = 11 then .int .i64 (at' : Nat) else if i = 36 then .int .i64 (turn : Nat) else if i = 37 then .int .i64 (done : Nat) else if i = 38 then .int .i64 (used : Nat) else if i % 3 = 2 then .int .i64 0 else .slice none 0 0
structure IBook (w : World) (B bk n lo hi : Nat) (A : Nat → Option Addr) (ln C M : Nat → Nat) (bv ov : Value) (at' turn done used : Nat) : Prop where
  row : w.rowIs bk 52 39 (ibCell bv ov at' turn done used)
  ob : w.ownsRow B 31 1 bv n ((List.range n).map fun i => .slice (A i) (ln i) (C i))
  oo : w.ownsRow B 3 1 ov n ((List.range n).map fun i => .int .i64 (M i : Nat))
  cel : ∀ i, i < n → ∀ j, j < ln i → ∃ b, A i = some ⟨b, 0, none⟩ ∧ w.cell? ⟨b, j, none⟩ = some (mkI (M i))
  own : ∀ i, lo ≤ i → i < hi → w.ownsRow B 3 1 (.slice (A i) (ln i) (C i)) (ln i) (List.replicate (ln i) (mkI (M i)))
  blk : ∀ i a, i < n → A i = some a → B ≤ a.block ∧ a.block < w.heap.size ∧ a.block ≠ bk ∧ bv.ownBlock ≠ some a.block ∧ ov.ownBlock ≠ some a.block
  dis : ∀ i j a a', lo ≤ i → i < hi → j < n → i ≠ j → A i = some a → A j = some a' → a.block ≠ a'.block
  nb : bv.ownBlock ≠ some bk ∧ ov.ownBlock ≠ some bk
  no : ∀ k, bv.ownBlock = some k → ov.ownBlock ≠ some k
  hn : hi ≤ n
  lb : B ≤ bk
  mt : ∀ i, i < n → M i ≤ turn
/-- What of memory is the Book's. -/
def BF (bk n : Nat) (A : Nat → Option Addr) (bv ov : Value) (k : Nat) : Prop := k = bk ∨ bv.ownBlock = some k ∨ ov.ownBlock = some k ∨ ∃ i a, i < n ∧ A i = some a ∧ a.block = k
structure Mv (F F' : Nat → Prop) (w w' : World) : Prop where
  os : w'.os = w.os
  tape : w'.tape = w.tape
  output : w'.output = w.output
  size : w.heap.size ≤ w'.heap.size
  block : ∀ k, k < w.heap.size → ¬ F k → w'.heap[k]? = w.heap[k]?
  foot : ∀ k, F' k → F k ∨ w.heap.size ≤ k
theorem Mv.trans {F F' F'' : Nat → Prop} {a b c : World} (h : Mv F F' a b) (k : Mv F' F'' b c) : Mv F F'' a c :=
  ⟨k.os.trans h.os, k.tape.trans h.tape, k.output.trans h.output, Nat.le_trans h.size k.size, fun q hq hn => (k.block q (Nat.lt_of_lt_of_le hq h.size) (fun hf => by
    rcases h.foot q hf with e | e
    · exact hn e
    · omega)).trans (h.block q hq hn), fun q hf => by
    rcases k.foot q hf with e | e
    · exact h.foot q e
    · exact Or.inr (Nat.le_trans h.size e)⟩
theorem Mv.refl (F : Nat → Prop) (w : World) : Mv F F w w := ⟨rfl, rfl, rfl, Nat.le_refl _, fun _ _ _ => rfl, fun _ h => Or.inl h⟩
theorem Mv.of_since {F : Nat → Prop} {w w' : World} (h : w.Since w.heap.size w') : Mv F F w w' := ⟨h.os, h.tape, h.output, h.size, fun k hk _ => h.block k hk, fun _ hf => Or.inl hf⟩
theorem Mv.below {F F' : Nat → Prop} {w0 w w' : World} {B : Nat} (h0 : Below B w0 w) (hB : B ≤ w.heap.size) (hF : ∀ k, F k → B ≤ k) (h : Mv F F' w w') : Below B w0 w' :=
  h0.trans ⟨h.os, h.tape, h.output, h.size, fun k hk => h.block k (Nat.lt_of_lt_of_le hk hB) (fun hf => by have := hF k hf; omega)⟩
theorem since_below {w w' : World} {B : Nat} (h : Below B w w') : w.Since B w' := ⟨h.os, h.tape, h.output, h.size, h.block⟩
theorem below_since {w w' : World} {B : Nat} (h : w.Since B w') : Below B w w' := ⟨h.os, h.tape, h.output, h.size, h.block⟩
theorem IBook.later {w w' : World} {B bk n lo hi : Nat} {A : Nat → Option Addr} {ln C M : Nat → Nat} {bv ov : Value} {at' turn done used : Nat} (h : IBook w B bk n lo hi A ln C M bv ov at' turn done used) (hz : w.heap.size ≤ w'.heap.size) (hk : ∀ k, BF bk n A bv ov k → w'.heap[k]? = w.heap[k]?) : IBook w' B bk n lo hi A ln C M bv ov at' turn done used :=
  ⟨h.row.of_block (hk _ (Or.inl rfl)), own_block h.ob (fun k e => hk k (Or.inr (Or.inl e))), own_block h.oo (fun k e => hk k (Or.inr (Or.inr (Or.inl e)))), fun i hi j hj => by
    obtain ⟨b, e, hc⟩ := h.cel i hi j hj
    exact ⟨b, e, by rw [World.cell?_of_block (w := w) (hk b (Or.inr (Or.inr (Or.inr ⟨i, _, hi, e, rfl⟩))))]; exact hc⟩, fun i h1 h2 => own_block (h.own i h1 h2) (fun k e => hk k (Or.inr (Or.inr (Or.inr (by
      match hA : A i, e with
      | some a, e => exact ⟨i, a, Nat.lt_of_lt_of_le h2 h.hn, hA, by simpa [Value.ownBlock] using e⟩
      | none, e => simp [Value.ownBlock] at e))))), fun i a h1 h2 => by have := h.blk i a h1 h2; exact ⟨this.1, by omega, this.2.2⟩, h.dis, h.nb, h.no, h.hn, h.lb, h.mt⟩
theorem IBook.since {w w' : World} {B bk n lo hi : Nat} {A : Nat → Option Addr} {ln C M : Nat → Nat} {bv ov : Value} {at' turn done used : Nat} (h : IBook w B bk n lo hi A ln C M bv ov at' turn done used) (hs : w.Since w.heap.size w') : IBook w' B bk n lo hi A ln C M bv ov at' turn done used :=
  h.later hs.size (fun k hf => hs.block k (by
    rcases hf with e | e | e | ⟨i, a, h1, h2, e⟩
    · rw [e]; exact h.row.lt
    · exact (h.ob.lt k e).2
    · exact (h.oo.lt k e).2
    · rw [← e]; exact (h.blk i a h1 h2).2.1))
theorem IBook.ge {w : World} {B bk n lo hi : Nat} {A : Nat → Option Addr} {ln C M : Nat → Nat} {bv ov : Value} {at' turn done used : Nat} (h : IBook w B bk n lo hi A ln C M bv ov at' turn done used) : ∀ k, BF bk n A bv ov k → B ≤ k ∧ k < w.heap.size := fun k hf => by
  rcases hf with e | e | e | ⟨i, a, h1, h2, e⟩
  · rw [e]; exact ⟨h.lb, h.row.lt⟩
  · exact h.ob.lt k e
  · exact h.oo.lt k e
  · rw [← e]; exact ⟨(h.blk i a h1 h2).1, (h.blk i a h1 h2).2.1⟩
/-- A number of the Book's is another one. -/
theorem IBook.setNum {w : World} {B bk n lo hi : Nat} {A : Nat → Option Addr} {ln C M : Nat → Nat} {bv ov : Value} {at' turn done used at2 turn2 done2 used2 : Nat} (h : IBook w B bk n lo hi A ln C M bv ov at' turn done used) (c : Nat) (u : Value) (ht : turn ≤ turn2) (hc : ∀ i, i < 39 → ibCell bv ov at2 turn2 done2 used2 i = if i = c then u else ibCell bv ov at' turn done used i) :
    IBook (w.setCell ⟨bk, c, none⟩ u) B bk n lo hi A ln C M bv ov at2 turn2 done2 used2 ∧ Mv (BF bk n A bv ov) (BF bk n A bv ov) w (w.setCell ⟨bk, c, none⟩ u) := by
  have hset : ∀ b, b ≠ bk → (w.setCell ⟨bk, c, none⟩ u).heap[b]? = w.heap[b]? := fun b hb => Below.heap_setCell _ _ _ _ hb
  have hsz : (w.setCell ⟨bk, c, none⟩ u).heap.size = w.heap.size := by simp [World.setCell]
  refine ⟨⟨(h.row.set c u).congr (fun i hi => (hc i hi).symm), own_block h.ob (fun k e => hset k (fun e2 => h.nb.1 (e2 ▸ e))), own_block h.oo (fun k e => hset k (fun e2 => h.nb.2 (e2 ▸ e))), fun i hi j hj => ?_, fun i h1 h2 => own_block (h.own i h1 h2) (fun k e => hset k ?_), fun i a h1 h2 => by rw [hsz]; exact h.blk i a h1 h2, h.dis, h.nb, h.no, h.hn, h.lb, fun i hi => Nat.le_trans (h.mt i hi) ht⟩, rfl, rfl, rfl, by omega, fun k hk hn => hset k (fun e => hn (Or.inl e)), fun k hf => Or.inl hf⟩
  · obtain ⟨b, e, hcc⟩ := h.cel i hi j hj
    exact ⟨b, e, by rw [World.cell?_of_block (w := w) (hset b (h.blk i _ hi e).2.2.1)]; exact hcc⟩
  · match hA : A i, e with
    | some a, e =>
      have e' : a.block = k := by simpa [Value.ownBlock] using e
      rw [← e']
      exact (h.blk i a (Nat.lt_of_lt_of_le h2 h.hn) hA).2.2.1
    | none, e => simp [Value.ownBlock] at e
end Go.Proofs.YtbebnjeamlmclaaGreat
