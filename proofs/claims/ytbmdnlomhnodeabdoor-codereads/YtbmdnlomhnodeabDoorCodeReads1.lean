/- The walk of CodeReads. -/
import Derived.Test.YtbmdnlomhnodeabDoorReadsTwo
namespace Go.Proofs.YtbmdnlomhnodeabDoor
open Go.RowKit
set_option maxRecDepth 100000

theorem But2.setL {r e : Nat} {w w' : World} (h : But2 r e w w') (i : Nat) (v : Value) : But2 r e w (w'.setCell ⟨r, i, none⟩ v) :=
  ⟨h.os, h.tape, h.output, by have := h.size; simpa [World.setCell] using this, fun k hk h1 h2 => by rw [Below.heap_setCell _ _ _ _ h1]; exact h.block k hk h1 h2⟩
theorem But2.setR {r e : Nat} {w w' : World} (h : But2 r e w w') (i : Nat) (v : Value) : But2 r e w (w'.setCell ⟨e, i, none⟩ v) :=
  ⟨h.os, h.tape, h.output, by have := h.size; simpa [World.setCell] using this, fun k hk h1 h2 => by rw [Below.heap_setCell _ _ _ _ h2]; exact h.block k hk h1 h2⟩
theorem size_setCell (w : World) (a : Addr) (v : Value) : (w.setCell a v).heap.size = w.heap.size := by simp [World.setCell]
theorem lent_keep {w w' : World} {g len cap : Nat} {x : Nat → Nat} {f : Nat → Value} (h : Lent w g len cap x f) (e : w'.heap[g]? = w.heap[g]?) : Lent w' g len cap x f := ⟨h.row.of_block e, h.room, h.cap, h.byte, h.k0, h.k1, h.k2⟩

/-- THE PAIR k IS MADE: the world behind its stores. -/
structure Made (wr w : World) (k aR aE : Nat) (R E : Nat → Nat) (rb hb eb he n : Nat) (z : Nat → Nat) (g cap : Nat) (f : Nat → Value) : Prop where
  but : But2 aR aE wr w
  rowR : w.rowIs aR 46 2 (fun j => if j = k then .pointer (some ⟨rb, 0, none⟩) else if j < k then .pointer (some ⟨R j, 0, none⟩) else .pointer none)
  rowE : w.rowIs aE 48 2 (fun j => if j = k then .pointer (some ⟨eb, 0, none⟩) else if j < k then .pointer (some ⟨E j, 0, none⟩) else .pointer none)
  re : RE w rb hb eb he n z 0 0
  sp : Span wr.heap.size w.heap.size rb hb eb he
  len : Lent w g n cap z f
  g1 : wr.heap.size ≤ g
  g2 : g ≠ rb ∧ g ≠ hb ∧ g ≠ eb ∧ g ≠ he
theorem made {w1 wr w2 w3 w4 : World} {k aR aE : Nat} {R HB E HE n at' bad Lo Hi : Nat → Nat} {zz : Nat → Nat → Nat} (hD : Duo2 w1 wr k aR aE R HB E HE n at' bad Lo Hi zz) {g cap rb : Nat} {f : Nat → Value}
    (hs2 : wr.Since wr.heap.size w2) (hL : Lent w2 g (n k) cap (zz k) f) (hg : wr.heap.size ≤ g) (hs3 : w2.Since w2.heap.size w3) (hR : IsR w3 rb w2.heap.size (n k) (zz k) 0 0) (hrb : w2.heap.size < rb)
    (hs4 : (w3.setCell ⟨aR, k, none⟩ (.pointer (some ⟨rb, 0, none⟩))).Since (w3.setCell ⟨aR, k, none⟩ (.pointer (some ⟨rb, 0, none⟩))).heap.size w4) (e4 : w4.heap.size = w3.heap.size + 1) (hrow : w4.rowIs w3.heap.size 5 (n k) (fun j => .int .u8 (zz k j : Nat))) :
    Made wr ((w4.alloc (.cells #[.slice (some ⟨w3.heap.size, 0, none⟩) (n k) (n k), .int .i64 0, .int .i64 0] 51)).setCell ⟨aE, k, none⟩ (.pointer (some ⟨w4.heap.size, 0, none⟩))) k aR aE R E rb w2.heap.size w4.heap.size w3.heap.size (n k) (zz k) g cap f := by
  have haE := hD.arrE.lt
  have haR := hD.arrR.lt
  have ar := hD.ar
  have z2 := hs2.size
  have z3 := hs3.size
  have lR := hR.rd.lt
  have lH := hR.row.lt
  have lg := hL.row.lt
  have e3 : (w3.setCell ⟨aR, k, none⟩ (.pointer (some ⟨rb, 0, none⟩))).heap.size = w3.heap.size := size_setCell _ _ _
  have b3 : But2 aR aE wr (w3.setCell ⟨aR, k, none⟩ (.pointer (some ⟨rb, 0, none⟩))) := (But2.of_since (hs2.trans (since_mono hs3 z2))).setL k _
  have b4 := b3.trans (But2.of_since (r := aR) (e := aE) hs4)
  have sA : w4.Since w4.heap.size (w4.alloc (.cells #[.slice (some ⟨w3.heap.size, 0, none⟩) (n k) (n k), .int .i64 0, .int .i64 0] 51)) := (World.Since.refl _ _).alloc (Nat.le_refl _) _
  have b5 := b4.trans (But2.of_since (r := aR) (e := aE) sA)
  have s45 := hs4.trans (since_mono sA (by rw [e3, e4]; omega))
  have hs13 := hs2.trans (since_mono hs3 z2)
  have aR3 : (w3.setCell ⟨aR, k, none⟩ (.pointer (some ⟨rb, 0, none⟩))).rowIs aR 46 2 _ := (row_since hD.arrR hs13).set k _
  have aE3 : (w3.setCell ⟨aR, k, none⟩ (.pointer (some ⟨rb, 0, none⟩))).rowIs aE 48 2 _ := (row_since hD.arrE hs13).setOther (by show aE ≠ aR; omega) _
  have aR5 := row_since aR3 s45
  have aE5 := row_since aE3 s45
  have R5 := (hR.setOther (a := ⟨aR, k, none⟩) (by show rb ≠ aR; omega) (by show w2.heap.size ≠ aR; omega) (.pointer (some ⟨rb, 0, none⟩))).since s45
  have L5 := lent_keep (lent_keep hL (hs3.block g lg)) (w' := w3.setCell ⟨aR, k, none⟩ (.pointer (some ⟨rb, 0, none⟩))) (Below.heap_setCell _ _ _ _ (by show g ≠ aR; omega))
  have L6 := lent_keep L5 (s45.block g (by rw [e3]; omega))
  have E5 : (w4.alloc (.cells #[.slice (some ⟨w3.heap.size, 0, none⟩) (n k) (n k), .int .i64 0, .int .i64 0] 51)).rowIs w4.heap.size 51 3 (rdCell w3.heap.size (n k) 0 0) := World.rowIs_alloc w4 #[.slice (some ⟨w3.heap.size, 0, none⟩) (n k) (n k), .int .i64 0, .int .i64 0] 51 _ (fun i hi => by
    match i, hi with
    | 0, _ => rfl
    | 1, _ => rfl
    | 2, _ => rfl)
  have H5 := row_since hrow sA
  have e5 : (w4.alloc (.cells #[.slice (some ⟨w3.heap.size, 0, none⟩) (n k) (n k), .int .i64 0, .int .i64 0] 51)).heap.size = w4.heap.size + 1 := by simp
  generalize w4.alloc (.cells #[.slice (some ⟨w3.heap.size, 0, none⟩) (n k) (n k), .int .i64 0, .int .i64 0] 51) = w5 at *
  have q : ∀ b, b ≠ aE → b ≠ (⟨aE, k, none⟩ : Addr).block := fun b h => h
  refine ⟨b5.setR k _, (aR5.setOther (q _ (by omega)) _), (aE5.set k _), ⟨R5.setOther (q _ (by omega)) (q _ (by omega)) _, ⟨E5.setOther (q _ (by omega)) _, H5.setOther (q _ (by omega)) _, by omega, R5.byte, Nat.zero_le _, R5.room⟩, by omega, by omega, by omega⟩, ?_, lent_keep L6 (Below.heap_setCell _ _ _ _ (by show g ≠ aE; omega)), hg, by omega, by omega, by omega, by omega⟩
  rw [size_setCell]
  exact ⟨by omega, by omega, by omega, by omega, by omega, by omega, by omega, by omega⟩
theorem Made.go {wr w w' : World} {k aR aE : Nat} {R E : Nat → Nat} {rb hb eb he n : Nat} {z : Nat → Nat} {g cap : Nat} {f : Nat → Value} (h : Made wr w k aR aE R E rb hb eb he n z g cap f) (hE : aE < wr.heap.size) (hR : aR < wr.heap.size) (hb' : But g w w') :
    But2 aR aE wr w' ∧ w'.rowIs aR 46 2 (fun j => if j = k then .pointer (some ⟨rb, 0, none⟩) else if j < k then .pointer (some ⟨R j, 0, none⟩) else .pointer none) ∧ w'.rowIs aE 48 2 (fun j => if j = k then .pointer (some ⟨eb, 0, none⟩) else if j < k then .pointer (some ⟨E j, 0, none⟩) else .pointer none) ∧ RE w' rb hb eb he n z 0 0 ∧ Span wr.heap.size w'.heap.size rb hb eb he := by
  have g1 := h.g1
  obtain ⟨q1, q2, q3, q4⟩ := h.g2
  have s := h.sp
  refine ⟨⟨hb'.os.trans h.but.os, hb'.tape.trans h.but.tape, hb'.output.trans h.but.output, Nat.le_trans h.but.size hb'.size, fun i hi h1 h2 => (hb'.block i (Nat.lt_of_lt_of_le hi h.but.size) (by omega)).trans (h.but.block i hi h1 h2)⟩, hb'.row h.rowR (by omega), hb'.row h.rowE (by omega), re_keep h.re (fun q hq => hb'.block q ?_ ?_), ⟨s.r1, Nat.lt_of_lt_of_le s.r2 hb'.size, s.h1, Nat.lt_of_lt_of_le s.h2 hb'.size, s.e1, Nat.lt_of_lt_of_le s.e2 hb'.size, s.f1, Nat.lt_of_lt_of_le s.f2 hb'.size⟩⟩
  · have := s.r2
    have := s.h2
    have := s.e2
    have := s.f2
    rcases hq with e | e | e | e <;> omega
  · rcases hq with e | e | e | e <;> omega
end Go.Proofs.YtbmdnlomhnodeabDoor
