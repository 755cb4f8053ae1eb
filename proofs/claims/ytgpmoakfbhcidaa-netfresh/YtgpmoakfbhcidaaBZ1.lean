/- What a Book is in memory, where it keeps lists of bytes alone; what a step leaves. -/
import Derived.Test.YtgpmoakfbhcidaaBZ0
namespace Go.Proofs.Ytgpmoakfbhcidaa
open Go.RowKit
set_option maxRecDepth 100000

theorem Try.infoI : (Try.prog.info? 3).map (fun i => (i.zero, i.size, i.bytes)) = some (some (.int .i64 0), 1, 8) := by kernel_rfl

/-- The cells of a Book: its lists of bytes, their marks, so many grown; all other lists nil; turn, done, used. -/
def bookCell (bv ov : Value) (at' turn done used : Nat) (i : Nat) : Value :=
  if i = 0 then bv else if i = 1 then ov else if i = 2 then .int .i64 (at' : Nat) else if i = 36 then .int .i64 (turn : Nat) else if i = 37 then .int .i64 (done : Nat) else if i = 38 then .int .i64 (used : Nat) else if i % 3 = 2 then .int .i64 0 else .slice none 0 0
structure BookIs (w : World) (B bk n lo hi : Nat) (A : Nat → Option Addr) (ln C M : Nat → Nat) (bv ov : Value) (at' turn done used : Nat) : Prop where
  row : w.rowIs bk 44 39 (bookCell bv ov at' turn done used)
  ob : w.ownsRow B 53 1 bv n ((List.range n).map fun i => .slice (A i) (ln i) (C i))
  oo : w.ownsRow B 3 1 ov n ((List.range n).map fun i => .int .i64 (M i : Nat))
  byt : ∀ i, i < n → Byt w (A i) (ln i) (mrk (M i))
  own : ∀ i, lo ≤ i → i < hi → OwnZ w B (.slice (A i) (ln i) (C i)) (ln i) (mrk (M i))
  blk : ∀ i a, i < n → A i = some a → B ≤ a.block ∧ a.block < w.heap.size ∧ a.block ≠ bk ∧ bv.ownBlock ≠ some a.block ∧ ov.ownBlock ≠ some a.block
  dis : ∀ i j a a', lo ≤ i → i < hi → j < n → i ≠ j → A i = some a → A j = some a' → a.block ≠ a'.block
  nb : bv.ownBlock ≠ some bk ∧ ov.ownBlock ≠ some bk
  no : ∀ k, bv.ownBlock = some k → ov.ownBlock ≠ some k
  hn : hi ≤ n
  lb : B ≤ bk
  mt : ∀ i, i < n → M i ≤ turn
/-- What of memory is the Book's. -/
def BF (bk n : Nat) (A : Nat → Option Addr) (bv ov : Value) (k : Nat) : Prop := k = bk ∨ bv.ownBlock = some k ∨ ov.ownBlock = some k ∨ ∃ i a, i < n ∧ A i = some a ∧ a.block = k
theorem BookIs.later {w w' : World} {B bk n lo hi : Nat} {A : Nat → Option Addr} {ln C M : Nat → Nat} {bv ov : Value} {at' turn done used : Nat} (h : BookIs w B bk n lo hi A ln C M bv ov at' turn done used) (hz : w.heap.size ≤ w'.heap.size) (hk : ∀ k, BF bk n A bv ov k → w'.heap[k]? = w.heap[k]?) : BookIs w' B bk n lo hi A ln C M bv ov at' turn done used :=
  ⟨h.row.of_block (hk _ (Or.inl rfl)), owns_keep h.ob (fun k e => hk k (Or.inr (Or.inl e))), owns_keep h.oo (fun k e => hk k (Or.inr (Or.inr (Or.inl e)))), fun i hi j hj => by
    obtain ⟨b, off, e, hc⟩ := h.byt i hi j hj
    exact ⟨b, off, e, by rw [World.cell?_of_block (w := w) (hk b (Or.inr (Or.inr (Or.inr ⟨i, _, hi, e, rfl⟩))))]; exact hc⟩, fun i h1 h2 => ownZ_keep (h.own i h1 h2) (fun k e => hk k (Or.inr (Or.inr (Or.inr (by
      match hA : A i, e with
      | some a, e => exact ⟨i, a, Nat.lt_of_lt_of_le h2 h.hn, hA, by simpa [Value.ownBlock] using e⟩
      | none, e => simp [Value.ownBlock] at e))))), fun i a h1 h2 => by have := h.blk i a h1 h2; exact ⟨this.1, by omega, this.2.2⟩, h.dis, h.nb, h.no, h.hn, h.lb, h.mt⟩
theorem BookIs.since {w w' : World} {B bk n lo hi : Nat} {A : Nat → Option Addr} {ln C M : Nat → Nat} {bv ov : Value} {at' turn done used : Nat} (h : BookIs w B bk n lo hi A ln C M bv ov at' turn done used) (hs : w.Since w.heap.size w') : BookIs w' B bk n lo hi A ln C M bv ov at' turn done used :=
  h.later hs.size (fun k hf => hs.block k (by
    rcases hf with e | e | e | ⟨i, a, h1, h2, e⟩
    · rw [e]; exact h.row.lt
    · exact (h.ob.lt k e).2
    · exact (h.oo.lt k e).2
    · rw [← e]; exact (h.blk i a h1 h2).2.1))
theorem BookIs.ge {w : World} {B bk n lo hi : Nat} {A : Nat → Option Addr} {ln C M : Nat → Nat} {bv ov : Value} {at' turn done used : Nat} (h : BookIs w B bk n lo hi A ln C M bv ov at' turn done used) : ∀ k, BF bk n A bv ov k → B ≤ k ∧ k < w.heap.size := fun k hf => by
  rcases hf with e | e | e | ⟨i, a, h1, h2, e⟩
  · rw [e]; exact ⟨h.lb, h.row.lt⟩
  · exact h.ob.lt k e
  · exact h.oo.lt k e
  · rw [← e]; exact ⟨(h.blk i a h1 h2).1, (h.blk i a h1 h2).2.1⟩
/-- A number of the Book's is another one. -/
theorem BookIs.setNum {w : World} {B bk n lo hi : Nat} {A : Nat → Option Addr} {ln C M : Nat → Nat} {bv ov : Value} {at' turn done used at2 turn2 done2 used2 : Nat} (h : BookIs w B bk n lo hi A ln C M bv ov at' turn done used) (c : Nat) (u : Value) (ht : turn ≤ turn2) (hc : ∀ i, i < 39 → bookCell bv ov at2 turn2 done2 used2 i = if i = c then u else bookCell bv ov at' turn done used i) :
    BookIs (w.setCell ⟨bk, c, none⟩ u) B bk n lo hi A ln C M bv ov at2 turn2 done2 used2 ∧ Mv (BF bk n A bv ov) (BF bk n A bv ov) w (w.setCell ⟨bk, c, none⟩ u) := by
  have hset : ∀ b, b ≠ bk → (w.setCell ⟨bk, c, none⟩ u).heap[b]? = w.heap[b]? := fun b hb => Below.heap_setCell _ _ _ _ hb
  have hsz : (w.setCell ⟨bk, c, none⟩ u).heap.size = w.heap.size := by simp [World.setCell]
  refine ⟨⟨(h.row.set c u).congr (fun i hi => (hc i hi).symm), owns_keep h.ob (fun k e => hset k (fun e2 => h.nb.1 (e2 ▸ e))), owns_keep h.oo (fun k e => hset k (fun e2 => h.nb.2 (e2 ▸ e))), fun i hi j hj => ?_, fun i h1 h2 => ownZ_keep (h.own i h1 h2) (fun k e => hset k ?_), fun i a h1 h2 => by rw [hsz]; exact h.blk i a h1 h2, h.dis, h.nb, h.no, h.hn, h.lb, fun i hi => Nat.le_trans (h.mt i hi) ht⟩, rfl, rfl, rfl, by omega, fun k hk hn => hset k (fun e => hn (Or.inl e)), fun k hf => Or.inl hf⟩
  · obtain ⟨b, off, e, hcc⟩ := h.byt i hi j hj
    exact ⟨b, off, e, by rw [World.cell?_of_block (w := w) (hset b (h.blk i _ hi e).2.2.1)]; exact hcc⟩
  · match hA : A i, e with
    | some a, e =>
      have e' : a.block = k := by simpa [Value.ownBlock] using e
      rw [← e']
      exact (h.blk i a (Nat.lt_of_lt_of_le h2 h.hn) hA).2.2.1
    | none, e => simp [Value.ownBlock] at e
end Go.Proofs.Ytgpmoakfbhcidaa
