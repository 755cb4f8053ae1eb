/- A line on its way into words: what each step of package text's parting does. -/
import Derived.Test.YthoeehgnkolgpaaDoorTxt3
import Derived.OwnWalk
import Derived.Deep.RegionHeld3
import Derived.Lib.SmallJoins
import Derived.Lib.Walk
namespace Go.Proofs.YthoeehgnkolgpaaDoor
open Go.RowKit

/-- What a step leaves of all that lies below K, but for block B. -/
structure Kp (B K : Nat) (w w' : World) : Prop where
  os : w'.os = w.os
  tape : w'.tape = w.tape
  output : w'.output = w.output
  size : w.heap.size ≤ w'.heap.size
  block : ∀ k, k < K → k ≠ B → w'.heap[k]? = w.heap[k]?
theorem Kp.refl (B K : Nat) (w : World) : Kp B K w w := ⟨rfl, rfl, rfl, Nat.le_refl _, fun _ _ _ => rfl⟩
theorem Kp.trans {B K : Nat} {a b c : World} (h : Kp B K a b) (k : Kp B K b c) : Kp B K a c :=
  ⟨k.os.trans h.os, k.tape.trans h.tape, k.output.trans h.output, Nat.le_trans h.size k.size, fun i hi hn => (k.block i hi hn).trans (h.block i hi hn)⟩
theorem Kp.setCell {B K : Nat} {w w' : World} (h : Kp B K w w') (o : Nat) (v : Value) : Kp B K w (w'.setCell ⟨B, o, none⟩ v) :=
  h.trans ⟨rfl, rfl, rfl, by simp [World.setCell], fun k _ hn => Below.heap_setCell _ _ _ _ hn⟩
theorem Kp.drew {B K : Nat} {w w' : World} (h : Kp B K w w') : Kp B K w w'.drew := ⟨h.os, h.tape, h.output, h.size, h.block⟩

def strs (ws : List (List UInt8)) : List Value := ws.map fun l => .string ⟨l.toArray⟩
/-- A parting in block B: what it is in, the word under way, the words; its rows lie from K on. -/
structure Part (B K a : Nat) (wd : List UInt8) (ws : List (List UInt8)) (vw vs : Value) (w : World) : Prop where
  box : w.heap[B]? = some (.cells #[.int .i64 a, vw, vs] 79)
  low : B < K
  top : K ≤ w.heap.size
  ow : w.ownsRow K 5 1 vw wd.length (Lib.byteCells wd)
  os : w.ownsRow K 9 1 vs ws.length (strs ws)
theorem box_cell {w : World} {B : Nat} {cs : Array Value} {t : TypeId} (h : w.heap[B]? = some (.cells cs t)) (i : Nat) (hi : i < cs.size) : w.cell? ⟨B, i, none⟩ = some cs[i] := by
  simp [World.cell?, h, hi]
theorem box_frozen {w : World} {B : Nat} {cs : Array Value} {t : TypeId} (h : w.heap[B]? = some (.cells cs t)) (i : Nat) : w.frozen? ⟨B, i, none⟩ = false := by
  simp [World.frozen?, h]
theorem box_set {w : World} {B : Nat} {cs : Array Value} {t : TypeId} (h : w.heap[B]? = some (.cells cs t)) (i : Nat) (v : Value) : (w.setCell ⟨B, i, none⟩ v).heap[B]? = some (.cells (cs.setIfInBounds i v) t) := by
  simp [World.setCell, Array.getElem?_modify, h]
theorem Part.setAt {B K a : Nat} {wd : List UInt8} {ws : List (List UInt8)} {vw vs : Value} {w : World} (h : Part B K a wd ws vw vs w) (b : Nat) : Part B K b wd ws vw vs (w.setCell ⟨B, 0, none⟩ (.int .i64 b)) :=
  ⟨by rw [box_set h.box]; rfl, h.low, by simpa [World.setCell] using h.top, ownsRow_setCell_below h.ow h.low _, ownsRow_setCell_below h.os h.low _⟩
theorem own_form {w : World} {B n : Nat} {e : TypeId} {v : Value} {xs : List Value} (h : w.ownsRow B e 1 v n xs) : ∃ (a : Option Addr) (c : Nat), v = .slice a n c := by
  rcases h.2 with ⟨rfl, rfl⟩ | ⟨g, cap, cur, rfl, _⟩
  · exact ⟨none, 0, rfl⟩
  · exact ⟨_, cap, rfl⟩
/-- Rows of two kinds lie apart. -/
theorem kinds_apart {w : World} {K n m : Nat} {v u : Value} {xs ys : List Value} (h : w.ownsRow K 5 1 v n xs) (k : w.ownsRow K 9 1 u m ys) : v.ownBlock = none ∨ v.ownBlock ≠ u.ownBlock := by
  rcases h.2 with ⟨rfl, rfl⟩ | ⟨g, cap, cur, rfl, _, hg, _⟩
  · exact Or.inl rfl
  · right
    rcases k.2 with ⟨rfl, rfl⟩ | ⟨g', cap', cur', rfl, _, hg', _⟩
    · simp [Value.ownBlock]
    · intro e
      simp [Value.ownBlock] at e
      subst e
      rw [hg] at hg'
      cases hg'

set_option maxHeartbeats 1600000 in
set_option maxRecDepth 100000 in
theorem add_any (B K a : Nat) (wd : List UInt8) (ws : List (List UInt8)) (vw vs : Value) (r : Nat) (w : World) (hr : r ≤ 1114111) (h : Part B K a wd ws vw vs w) (hlen : wd.length + 4 ≤ 140737488355328) :
    Calls Tryd.prog 74 #[.pointer (some ⟨B, 0, none⟩), .int .i32 r] w fun e w' => e = .returned (.tuple #[]) ∧ (∃ vw', Part B K a (wd ++ Lib.encodeRune r) ws vw' vs w') ∧ Kp B K w w' := by
  have hap := Tryd.utf8_AppendRune_plain K vw wd.length (Lib.byteCells wd) r (by omega) (by omega) w h.ow hlen h.top
  rw [← Lib.byteCells_encodeRune, ← Lib.byteCells_append] at hap
  simp only [Lib.byteCells_length] at hap
  obtain ⟨va, vc, rfl⟩ := own_form h.ow
  have c1 := box_cell h.box 1 (by simp)
  have H := hide h
  simp only [List.getElem_toArray, List.getElem_cons_succ, List.getElem_cons_zero] at c1
  have Hap := hide hap
  clear hap
  go_enter Tryd.func74, Tryd.ntmps74
  go_wp2_with fail
  refine Hap.out.mono ?_
  rintro e w1 ⟨v', rfl, hown, o, hg⟩
  obtain ⟨va', vc', rfl⟩ := own_form hown
  have hBw : B < w.heap.size := Nat.lt_of_lt_of_le h.low h.top
  have hrow : ∀ k, (Value.slice va wd.length vc).ownBlock = some k → K ≤ k := fun k hk => (World.ownsRow.lt h.ow k hk).1
  have hkeep : ∀ k, k < K → w1.heap[k]? = w.heap[k]? := fun k hk => by
    rw [hg.block k (by simp; have := h.top; omega) (fun e => by have := hrow k e.symm; omega)]
    exact Below.heap_alloc _ _ _ (Nat.lt_of_lt_of_le hk h.top)
  have hbox1 := (hkeep B h.low).trans h.box
  have c2 := box_cell hbox1 1 (by simp)
  have f2 := box_frozen hbox1 1
  simp only [List.getElem_toArray, List.getElem_cons_succ, List.getElem_cons_zero] at c2
  have hs1 : w1.ownsRow K 9 1 vs ws.length (strs ws) := (h.os.alloc o).kept hg (by
    have := kinds_apart (h.ow.alloc o) (h.os.alloc o)
    rcases this with e | e
    · rw [e]
      cases hv : vs.ownBlock with
      | none => exact Or.inl rfl
      | some q => right; simp
    · right; exact fun e2 => e e2.symm)
  have hz1 : w.heap.size ≤ w1.heap.size := Nat.le_trans (by simp) hg.size
  have hP : Part B K a (wd ++ Lib.encodeRune r) ws (.slice va' (wd.length + (Lib.encodeRune r).length) vc') vs (w1.setCell ⟨B, 1, none⟩ (.slice va' (wd.length + (Lib.encodeRune r).length) vc')) := by
    refine ⟨by rw [box_set hbox1]; rfl, h.low, by simp [World.setCell]; exact Nat.le_trans h.top hz1, ?_, ownsRow_setCell_below hs1 h.low _⟩
    have := ownsRow_setCell_below hown h.low (a := ⟨B, 1, none⟩) (.slice va' (wd.length + (Lib.encodeRune r).length) vc')
    rw [List.length_append]
    exact this
  have hK : Kp B K w w1 := ⟨hg.os, hg.tape, hg.output, hz1, fun k hk _ => hkeep k hk⟩
  have HP := hide hP
  have HK := hide hK
  clear hP hK hs1 hkeep hrow hg hown
  go_wp2_with fail
  go_end0
  exact ⟨rfl, ⟨_, HP.out⟩, HK.out.setCell 1 _⟩
end Go.Proofs.YthoeehgnkolgpaaDoor
