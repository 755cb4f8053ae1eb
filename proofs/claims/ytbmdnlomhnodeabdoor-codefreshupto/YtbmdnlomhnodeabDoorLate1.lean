/- What Late is in memory; a list more. -/
import Derived.Test.YtbmdnlomhnodeabDoorBook9
import Derived.Lib.ConvBytes
namespace Go.Proofs.YtbmdnlomhnodeabDoor
open Go.RowKit
set_option maxRecDepth 100000

def lateCell (gv wv : Value) (i : Nat) : Value := if i = 0 then gv else wv
/-- What of memory is Late's: its own, the lists that wait, what they must hold. -/
def LF (lk n : Nat) (GA WA : Nat → Option Addr) (gv wv : Value) (k : Nat) : Prop := k = lk ∨ gv.ownBlock = some k ∨ wv.ownBlock = some k ∨ (∃ i a, i < n ∧ GA i = some a ∧ a.block = k) ∨ ∃ i a, i < n ∧ WA i = some a ∧ a.block = k
structure LateIs (w : World) (B lk n : Nat) (GA WA : Nat → Option Addr) (gl GC WC : Nat → Nat) (X : Nat → Nat → Nat) (gv wv : Value) : Prop where
  row : w.rowIs lk 76 2 (lateCell gv wv)
  og : w.ownsRow B 22 1 gv n ((List.range n).map fun i => .slice (GA i) (gl i) (GC i))
  ow : w.ownsRow B 22 1 wv n ((List.range n).map fun i => .slice (WA i) (gl i) (WC i))
  own : ∀ i, i < n → Own w B (.slice (GA i) (gl i) (GC i)) (gl i) (X i)
  byt : ∀ i, i < n → Byt w (WA i) (gl i) (fun j => X i j % 256)
  wn : ∀ i, i < n → WA i = none → gl i = 0
  gb : ∀ i a, i < n → GA i = some a → B ≤ a.block ∧ a.block < w.heap.size ∧ a.block ≠ lk ∧ gv.ownBlock ≠ some a.block ∧ wv.ownBlock ≠ some a.block
  wb : ∀ i a, i < n → WA i = some a → B ≤ a.block ∧ a.block < w.heap.size ∧ a.block ≠ lk ∧ gv.ownBlock ≠ some a.block ∧ wv.ownBlock ≠ some a.block
  dg : ∀ i j a a', i < n → j < n → i ≠ j → GA i = some a → GA j = some a' → a.block ≠ a'.block
  dw : ∀ i j a a', i < n → j < n → GA i = some a → WA j = some a' → a.block ≠ a'.block
  nb : gv.ownBlock ≠ some lk ∧ wv.ownBlock ≠ some lk
  no : ∀ k, gv.ownBlock = some k → wv.ownBlock ≠ some k
  lb : B ≤ lk
theorem own_slice {a : Option Addr} {l c k : Nat} (e : (Value.slice a l c).ownBlock = some k) : ∃ ad, a = some ad ∧ ad.block = k := by
  match a, e with
  | some ad, e => exact ⟨ad, rfl, by simpa [Value.ownBlock] using e⟩
  | none, e => simp [Value.ownBlock] at e
theorem LateIs.later {w w' : World} {B lk n : Nat} {GA WA : Nat → Option Addr} {gl GC WC : Nat → Nat} {X : Nat → Nat → Nat} {gv wv : Value} (h : LateIs w B lk n GA WA gl GC WC X gv wv) (hz : w.heap.size ≤ w'.heap.size) (hk : ∀ k, LF lk n GA WA gv wv k → w'.heap[k]? = w.heap[k]?) : LateIs w' B lk n GA WA gl GC WC X gv wv :=
  ⟨h.row.of_block (hk _ (Or.inl rfl)), owns_keep h.og (fun k e => hk k (Or.inr (Or.inl e))), owns_keep h.ow (fun k e => hk k (Or.inr (Or.inr (Or.inl e)))), fun i hi => own_keep (h.own i hi) (fun k e => by
    obtain ⟨ad, he, eb⟩ := own_slice e
    exact hk k (Or.inr (Or.inr (Or.inr (Or.inl ⟨i, ad, hi, he, eb⟩))))), fun i hi j hj => by
    obtain ⟨b, off, e, hc⟩ := h.byt i hi j hj
    exact ⟨b, off, e, by rw [World.cell?_of_block (w := w) (hk b (Or.inr (Or.inr (Or.inr (Or.inr ⟨i, _, hi, e, rfl⟩)))))]; exact hc⟩, h.wn, fun i a h1 h2 => by have := h.gb i a h1 h2; exact ⟨this.1, by omega, this.2.2⟩, fun i a h1 h2 => by have := h.wb i a h1 h2; exact ⟨this.1, by omega, this.2.2⟩, h.dg, h.dw, h.nb, h.no, h.lb⟩
theorem LateIs.ge {w : World} {B lk n : Nat} {GA WA : Nat → Option Addr} {gl GC WC : Nat → Nat} {X : Nat → Nat → Nat} {gv wv : Value} (h : LateIs w B lk n GA WA gl GC WC X gv wv) : ∀ k, LF lk n GA WA gv wv k → B ≤ k ∧ k < w.heap.size := fun k hf => by
  rcases hf with e | e | e | ⟨i, a, h1, h2, e⟩ | ⟨i, a, h1, h2, e⟩
  · rw [e]; exact ⟨h.lb, h.row.lt⟩
  · exact h.og.lt k e
  · exact h.ow.lt k e
  · rw [← e]; exact ⟨(h.gb i a h1 h2).1, (h.gb i a h1 h2).2.1⟩
  · rw [← e]; exact ⟨(h.wb i a h1 h2).1, (h.wb i a h1 h2).2.1⟩
theorem LateIs.since {w w' : World} {B lk n : Nat} {GA WA : Nat → Option Addr} {gl GC WC : Nat → Nat} {X : Nat → Nat → Nat} {gv wv : Value} (h : LateIs w B lk n GA WA gl GC WC X gv wv) (hs : w.Since w.heap.size w') : LateIs w' B lk n GA WA gl GC WC X gv wv := h.later hs.size (fun k hf => hs.block k (h.ge k hf).2)

/-- A string's bytes in new memory. -/
theorem strOf_mod (n : Nat) (x : Nat → Nat) : strOf n (fun j => x j % 256) = strOf n x := by
  unfold strOf strOfNums
  congr 1
  simp
  intro a _
  have e : ((x a : Int) % 256).toNat = x a % 256 := by omega
  rw [e]
  exact UInt8.toNat_inj.1 (by simp)
theorem bytes_conv (w : World) (n : Nat) (x : Nat → Nat) : ∃ c w', (convert 9 22 (.string (strOf n x))).run Tryd.prog w = .ok (.slice (some ⟨w.heap.size, 0, none⟩) n c) w' ∧ w.Since w.heap.size w' ∧ w.heap.size < w'.heap.size ∧ Byt w' (some ⟨w.heap.size, 0, none⟩) n (fun j => x j % 256) := by
  have hr := Lib.run_convert_string_bytes (P := Tryd.prog) w 9 22 5 (strOf n x) Tryd.underlying9 Tryd.underlying22 Tryd.underlying5
  have hsz : (strOf n x).size = n := by unfold strOf; rw [strOfNums_size]; simp
  rw [hsz] at hr
  have hnew := Lib.bytesWorld_at_new w 5 (strOf n x)
  have hz : (Lib.bytesWorld w 5 (strOf n x)).heap.size = w.heap.size + 1 := by
    simp [Lib.bytesWorld, World.freeze, World.alloc, World.drew, -World.alloc_eq, -World.drew_eq]
  refine ⟨_, _, hr, ⟨rfl, rfl, rfl, by omega, fun k hk => Lib.bytesWorld_at_old w 5 _ k hk⟩, by omega, fun j hj => ⟨w.heap.size, 0, rfl, ?_⟩⟩
  rw [Nat.zero_add, cell_of_row _ _ _ _ _ _ hnew]
  unfold Lib.bytesCells
  have hl : j < (strOf n x).data.size := by
    have : (strOf n x).data.size = n := hsz
    omega
  rw [Array.getElem?_append_left (by simpa using hl), Array.getElem?_map, Array.getElem?_eq_getElem hl]
  have hg : (strOf n x).data[j] = UInt8.ofNat (x j) := by
    unfold strOf strOfNums
    simp
  rw [hg]
  simp
end Go.Proofs.YtbmdnlomhnodeabDoor
