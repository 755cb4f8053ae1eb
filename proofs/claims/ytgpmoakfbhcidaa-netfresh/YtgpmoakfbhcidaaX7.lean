/- A net beside the document's; the stage of two such pairs. -/
import Derived.Test.YtgpmoakfbhcidaaX6
namespace Go.Proofs.Ytgpmoakfbhcidaa
open Go.RowKit
set_option maxRecDepth 100000
set_option maxRecDepth 100000

theorem Mv.both {A A' C C' : Nat → Prop} {w w1 w2 : World} (h : Mv A A' w w1) (k : Mv C C' w1 w2) : Mv (fun q => A q ∨ C q) (fun q => A' q ∨ C' q) w w2 :=
  ⟨k.os.trans h.os, k.tape.trans h.tape, k.output.trans h.output, Nat.le_trans h.size k.size, fun q hq hn => (k.block q (Nat.lt_of_lt_of_le hq h.size) (fun e => hn (.inr e))).trans (h.block q hq (fun e => hn (.inl e))), fun q hf => by
    rcases hf with e | e
    · exact (h.foot q e).imp_left .inl
    · exact (k.foot q e).imp .inr (Nat.le_trans h.size)⟩
theorem Mv.below2 {F F' : Nat → Prop} {w w1 w2 : World} (h : Mv F F' w w1) (hb : Below w1.heap.size w1 w2) : Mv F F' w w2 :=
  ⟨hb.os.trans h.os, hb.tape.trans h.tape, hb.output.trans h.output, Nat.le_trans h.size hb.size, fun q hq hn => (hb.block q (Nat.lt_of_lt_of_le hq h.size)).trans (h.block q hq hn), h.foot⟩
theorem Mv.after {F F' : Nat → Prop} {w w1 w2 : World} (hb : Below w.heap.size w w1) (h : Mv F F' w1 w2) : Mv F F' w w2 :=
  ⟨h.os.trans hb.os, h.tape.trans hb.tape, h.output.trans hb.output, Nat.le_trans hb.size h.size, fun q hq hn => (h.block q (Nat.lt_of_lt_of_le hq hb.size) hn).trans (hb.block q hq), fun q hf => (h.foot q hf).imp_right (fun e => Nat.le_trans hb.size e)⟩

structure PM where
  room : Nat
  ms : List Ms
  lost : Nat
/-- A net and the document's net beside it, both or neither; F: what of memory is theirs. -/
def PairIs (w : World) (B : Nat) (p : Option PM) (nv vv : Value) (F : Nat → Prop) : Prop :=
  match p with
  | none => nv = .pointer none ∧ vv = .pointer none ∧ ∀ k, ¬ F k
  | some m => ∃ nb mv rb fv xs, nv = .pointer (some ⟨nb, 0, none⟩) ∧ vv = .pointer (some ⟨rb, 0, none⟩) ∧ NetIs w B nb mv m.room m.ms m.lost ∧ RefIs w B rb fv xs m.room m.lost ∧ xs.map Prod.fst = m.ms ∧ ∀ k, F k ↔ (NFt nb mv k ∨ RFt rb fv xs k)
section
variable {w w' : World} {B : Nat} {p : Option PM} {nv vv : Value} {F : Nat → Prop}
theorem PairIs.later (h : PairIs w B p nv vv F) (hb : ∀ k, F k → w'.heap[k]? = w.heap[k]?) : PairIs w' B p nv vv F := by
  cases p with
  | none => exact h
  | some m =>
    obtain ⟨nb, mv, rb, fv, xs, e1, e2, hN, hR, hx, hF⟩ := h
    exact ⟨nb, mv, rb, fv, xs, e1, e2, hN.later (fun k hk => hb k ((hF k).2 (.inl hk))), hR.later (fun k hk => hb k ((hF k).2 (.inr hk))), hx, hF⟩
theorem PairIs.ge (h : PairIs w B p nv vv F) : ∀ k, F k → B ≤ k ∧ k < w.heap.size := fun k hk => by
  cases p with
  | none => exact absurd hk (h.2.2 k)
  | some m =>
    obtain ⟨nb, mv, rb, fv, xs, e1, e2, hN, hR, hx, hF⟩ := h
    rcases (hF k).1 hk with q | q
    · exact hN.ge k q
    · exact hR.ge k q
/-- A row of another type is none of theirs. -/
theorem NetIs.not {nb room lost b n t : Nat} {mv : Value} {ms : List Ms} {f : Nat → Value} (h : NetIs w B nb mv room ms lost) (hr : w.rowIs b t n f) (h1 : t ≠ 78) (h2 : t ≠ 93) : ¬ NFt nb mv b := fun hf => by
  rcases hf with e | e
  · exact rowIs_apart hr h.row h1 e
  · exact rows_apart h.own hr h2 e
theorem RefIs.not {rb room lost b n t : Nat} {fv : Value} {xs : List (Ms × Value)} {f : Nat → Value} (h : RefIs w B rb fv xs room lost) (hr : w.rowIs b t n f) (h1 : t ≠ 96) (h2 : t ≠ 70) (h3 : t ≠ 5) : ¬ RFt rb fv xs b := fun hf => by
  rcases hf with e | e | ⟨x, hx, e⟩
  · exact rowIs_apart hr h.row h1 e
  · exact rows_apart h.own hr h2 e
  · obtain ⟨g, ev, _, hg, _⟩ := h.byt x hx
    have : g = b := by rw [ev] at e; simpa [Value.ownBlock] using e
    subst this
    exact rowIs_apart hr hg h3 rfl
theorem net_ref {nb rb room lost room' lost' : Nat} {mv fv : Value} {ms : List Ms} {xs : List (Ms × Value)} (h : NetIs w B nb mv room ms lost) (hR : RefIs w B rb fv xs room' lost') : ∀ k, NFt nb mv k → ¬ RFt rb fv xs k := fun k hk hr => by
  rcases hr with e | e | ⟨x, hx, e⟩
  · subst e
    exact h.not hR.row (by decide) (by decide) hk
  · rcases hk with e2 | e2
    · exact rows_apart hR.own h.row (by decide) (e2 ▸ e)
    · exact rows_apart2 hR.own h.own (by decide) k e e2
  · obtain ⟨g, ev, _, hg, _⟩ := hR.byt x hx
    have : g = k := by rw [ev] at e; simpa [Value.ownBlock] using e
    subst this
    exact h.not hg (by decide) (by decide) hk
theorem PairIs.not {b n t : Nat} {f : Nat → Value} (h : PairIs w B p nv vv F) (hr : w.rowIs b t n f) (h1 : t ≠ 78) (h2 : t ≠ 93) (h3 : t ≠ 96) (h4 : t ≠ 70) (h5 : t ≠ 5) : ¬ F b := fun hf => by
  cases p with
  | none => exact h.2.2 b hf
  | some m =>
    obtain ⟨nb, mv, rb, fv, xs, e1, e2, hN, hR, hx, hF⟩ := h
    rcases (hF b).1 hf with q | q
    · exact hN.not hr h1 h2 q
    · exact hR.not hr h3 h4 h5 q
end

/-- The cells of the stage. -/
def stCell (nv vv : Nat → Value) (bk : Nat) (mark : Bool) (i : Nat) : Value := if i < 2 then nv i else if i < 4 then vv (i - 2) else if i = 4 then .pointer (some ⟨bk, 0, none⟩) else .bool mark
structure StIs (w : World) (B sb bk : Nat) (mark : Bool) (P : Nat → Option PM) (nv vv : Nat → Value) (F : Nat → Nat → Prop) : Prop where
  row : w.rowIs sb 50 6 (stCell nv vv bk mark)
  pair : ∀ k, k < 2 → PairIs w B (P k) (nv k) (vv k) (F k)
  dis : ∀ k j q, k < 2 → j < 2 → k ≠ j → F k q → ¬ F j q
  lb : B ≤ sb
/-- What of memory is the stage's. -/
def SFt (sb : Nat) (F : Nat → Nat → Prop) (q : Nat) : Prop := q = sb ∨ ∃ k, k < 2 ∧ F k q
def upd {α : Type} (f : Nat → α) (k : Nat) (x : α) (i : Nat) : α := if i = k then x else f i
theorem upd_at {α : Type} (f : Nat → α) (k : Nat) (x : α) : upd f k x k = x := if_pos rfl
theorem upd_ne {α : Type} (f : Nat → α) (k : Nat) (x : α) {i : Nat} (h : i ≠ k) : upd f k x i = f i := if_neg h
section
variable {w w' : World} {B sb bk : Nat} {mark : Bool} {P : Nat → Option PM} {nv vv : Nat → Value} {F : Nat → Nat → Prop}
theorem StIs.later (h : StIs w B sb bk mark P nv vv F) (hb : ∀ q, SFt sb F q → w'.heap[q]? = w.heap[q]?) : StIs w' B sb bk mark P nv vv F :=
  ⟨h.row.of_block (hb sb (.inl rfl)), fun k hk => (h.pair k hk).later (fun q hq => hb q (.inr ⟨k, hk, hq⟩)), h.dis, h.lb⟩
theorem StIs.ge (h : StIs w B sb bk mark P nv vv F) : ∀ q, SFt sb F q → B ≤ q ∧ q < w.heap.size := fun q hq => by
  rcases hq with e | ⟨k, hk, e⟩
  · rw [e]; exact ⟨h.lb, h.row.lt⟩
  · exact (h.pair k hk).ge q e
theorem StIs.on (h : StIs w B sb bk mark P nv vv F) (hb : Below w.heap.size w w') : StIs w' B sb bk mark P nv vv F := h.later (fun q hq => hb.block q (h.ge q hq).2)
theorem StIs.ns (h : StIs w B sb bk mark P nv vv F) {k : Nat} (hk : k < 2) : ¬ F k sb := (h.pair k hk).not h.row (by decide) (by decide) (by decide) (by decide) (by decide)
theorem StIs.cn (h : StIs w B sb bk mark P nv vv F) {k : Nat} (hk : k < 2) : w.cell? ⟨sb, k, none⟩ = some (nv k) := by
  have := h.row.cell (i := k) (by omega)
  rw [this]
  unfold stCell
  rw [if_pos hk]
theorem StIs.cv (h : StIs w B sb bk mark P nv vv F) {k : Nat} (hk : k < 2) : w.cell? ⟨sb, 2 + k, none⟩ = some (vv k) := by
  have := h.row.cell (i := 2 + k) (by omega)
  rw [this]
  unfold stCell
  rw [if_neg (by omega), if_pos (by omega), Nat.add_sub_cancel_left]
/-- One pair has turned. -/
theorem StIs.turn (h : StIs w B sb bk mark P nv vv F) {k : Nat} (hk : k < 2) {m : Option PM} {F' : Nat → Prop} (hp : PairIs w' B m (nv k) (vv k) F') (hM : Mv (F k) F' w w') :
    StIs w' B sb bk mark (upd P k m) nv vv (upd F k F') ∧ Mv (SFt sb F) (SFt sb (upd F k F')) w w' := by
  refine ⟨⟨h.row.of_block (hM.block sb h.row.lt (h.ns hk)), fun j hj => ?_, fun i j q hi hj hij hq => ?_, h.lb⟩, hM.os, hM.tape, hM.output, hM.size, fun q hq hn => hM.block q hq (fun e => hn (.inr ⟨k, hk, e⟩)), fun q hq => ?_⟩
  · by_cases e : j = k
    · subst e
      rw [upd_at, upd_at]
      exact hp
    · rw [upd_ne _ _ _ e, upd_ne _ _ _ e]
      exact (h.pair j hj).later (fun q hq => hM.block q ((h.pair j hj).ge q hq).2 (fun e2 => h.dis j k q hj hk e hq e2))
  · by_cases e : i = k
    · subst e
      rw [upd_at] at hq
      rw [upd_ne _ _ _ (fun e => hij e.symm)]
      intro hj2
      rcases hM.foot q hq with e2 | e2
      · exact h.dis i j q hi hj hij e2 hj2
      · have := ((h.pair j hj).ge q hj2).2; omega
    · rw [upd_ne _ _ _ e] at hq
      by_cases e2 : j = k
      · subst e2
        rw [upd_at]
        intro hj2
        rcases hM.foot q hj2 with e3 | e3
        · exact h.dis i j q hi hj hij hq e3
        · have := ((h.pair i hi).ge q hq).2; omega
      · rw [upd_ne _ _ _ e2]
        exact h.dis i j q hi hj hij hq
  · rcases hq with e | ⟨j, hj, e⟩
    · exact .inl (.inl e)
    · by_cases e2 : j = k
      · subst e2
        rw [upd_at] at e
        exact (hM.foot q e).imp_left (fun e3 => .inr ⟨j, hj, e3⟩)
      · rw [upd_ne _ _ _ e2] at e
        exact .inl (.inr ⟨j, hj, e⟩)
end
end Go.Proofs.Ytgpmoakfbhcidaa
