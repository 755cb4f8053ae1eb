/- Own texts, joined: X7, X8, X9, X10, X11, X12, X13. -/
import Derived.Test.YtdfhdneimoimmaaM2
import Derived.Deep.CutBlock
import Derived.Deep.CutRange
import Derived.Test.YtdfhdneimoimmaaRows
import Derived.ProofKit
import Derived.OpenShut
import Derived.SizedLaws
import Derived.Lib.SmallJoins
import Derived.Deep.Slices
import Derived.HandedShaped

/- A net beside the document's; the stage of two such pairs. -/
namespace Go.Proofs.Ytdfhdneimoimmaa
open Go.RowKit
set_option maxRecDepth 100000
set_option maxRecDepth 100000

theorem Mv.both {A A' C C' : Nat → Prop} {w w1 w2 : World} (h : Mv A A' w w1) (k : Mv C C' w1 w2) : Mv (fun q => A q ∨ C q) (fun q => A' q ∨ C' q) w w2 :=
  ⟨k.os.trans h.os, k.tape.trans h.tape, k.output.trans h.output, Nat.le_trans h.size k.size, fun q hq hn => (k.block q (Nat.lt_of_lt_of_le hq h.size) (fun e => hn (.inr e))).trans (h.block q hq (fun e => hn (.inl e))), fun q hf => by
    rcases hf with e | e
    · exact (h.foot q e).imp_left .inl
    · exact (k.foot q e).imp .inr (Nat.le_trans h.size)⟩
theorem Mv.below2 {F F' : Nat → Prop} {w w1 w2 : World} (h : Mv F F' w w1) (hb : Below w1.heap.size w1 w2) : Mv F F' w w2 :=
  ⟨hb.os.trans h.os, hb.tape.trans h.tape, hb.output.trans h.output, Nat.le_trans h.size hb.size, fun q hq hn => (hb.block q (Nat.lt_of_lt_of_le hq h.size)).trans (h.block q hq hn), h.foot⟩
theorem Mv.after {F F' : Nat → Prop} {w w1 w2 : World} (hb : Below w.heap.size w w1) (h : Mv F F' w1 w2) : Mv F F' w w2 :=
  ⟨h.os.trans hb.os, h.tape.trans hb.tape, h.output.trans hb.output, Nat.le_trans hb.size h.size, fun q hq hn => (h.block q (Nat.lt_of_lt_of_le hq hb.size) hn).trans (hb.block q hq), fun q hf => (h.foot q hf).imp_right (fun e => Nat.le_trans hb.size e)⟩

structure PM where
  room : Nat
  ms : List Ms
  lost : Nat
/-- A net and the document's net beside it, both or neither; F: what of memory is theirs. -/
def PairIs (w : World) (B : Nat) (p : Option PM) (nv vv : Value) (F : Nat → Prop) : Prop :=
  match p with
  | none => nv = .pointer none ∧ vv = .pointer none ∧ ∀ k, ¬ F k
  | some m => ∃ nb mv rb fv xs, nv = .pointer (some ⟨nb, 0, none⟩) ∧ vv = .pointer (some ⟨rb, 0, none⟩) ∧ NetIs w B nb mv m.room m.ms m.lost ∧ RefIs w B rb fv xs m.room m.lost ∧ xs.map Prod.fst = m.ms ∧ ∀ k, F k ↔ (NFt nb mv k ∨ RFt rb fv xs k)
section
variable {w w' : World} {B : Nat} {p : Option PM} {nv vv : Value} {F : Nat → Prop}
theorem PairIs.later (h : PairIs w B p nv vv F) (hb : ∀ k, F k → w'.heap[k]? = w.heap[k]?) : PairIs w' B p nv vv F := by
  cases p with
  | none => exact h
  | some m =>
    obtain ⟨nb, mv, rb, fv, xs, e1, e2, hN, hR, hx, hF⟩ := h
    exact ⟨nb, mv, rb, fv, xs, e1, e2, hN.later (fun k hk => hb k ((hF k).2 (.inl hk))), hR.later (fun k hk => hb k ((hF k).2 (.inr hk))), hx, hF⟩
theorem PairIs.ge (h : PairIs w B p nv vv F) : ∀ k, F k → B ≤ k ∧ k < w.heap.size := fun k hk => by
  cases p with
  | none => exact absurd hk (h.2.2 k)
  | some m =>
    obtain ⟨nb, mv, rb, fv, xs, e1, e2, hN, hR, hx, hF⟩ := h
    rcases (hF k).1 hk with q | q
    · exact hN.ge k q
    · exact hR.ge k q
/-- A row of another type is none of theirs. -/
theorem NetIs.not {nb room lost b n t : Nat} {mv : Value} {ms : List Ms} {f : Nat → Value} (h : NetIs w B nb mv room ms lost) (hr : w.rowIs b t n f) (h1 : t ≠ 44) (h2 : t ≠ 63) : ¬ NFt nb mv b := fun hf => by
  rcases hf with e | e
  · exact rowIs_apart hr h.row h1 e
  · exact rows_apart h.own hr h2 e
theorem RefIs.not {rb room lost b n t : Nat} {fv : Value} {xs : List (Ms × Value)} {f : Nat → Value} (h : RefIs w B rb fv xs room lost) (hr : w.rowIs b t n f) (h1 : t ≠ 109) (h2 : t ≠ 46) (h3 : t ≠ 5) : ¬ RFt rb fv xs b := fun hf => by
  rcases hf with e | e | ⟨x, hx, e⟩
  · exact rowIs_apart hr h.row h1 e
  · exact rows_apart h.own hr h2 e
  · obtain ⟨g, ev, _, hg, _⟩ := h.byt x hx
    have : g = b := by rw [ev] at e; simpa [Value.ownBlock] using e
    subst this
    exact rowIs_apart hr hg h3 rfl
theorem net_ref {nb rb room lost room' lost' : Nat} {mv fv : Value} {ms : List Ms} {xs : List (Ms × Value)} (h : NetIs w B nb mv room ms lost) (hR : RefIs w B rb fv xs room' lost') : ∀ k, NFt nb mv k → ¬ RFt rb fv xs k := fun k hk hr => by
  rcases hr with e | e | ⟨x, hx, e⟩
  · subst e
    exact h.not hR.row (by decide) (by decide) hk
  · rcases hk with e2 | e2
    · exact rows_apart hR.own h.row (by decide) (e2 ▸ e)
    · exact rows_apart2 hR.own h.own (by decide) k e e2
  · obtain ⟨g, ev, _, hg, _⟩ := hR.byt x hx
    have : g = k := by rw [ev] at e; simpa [Value.ownBlock] using e
    subst this
    exact h.not hg (by decide) (by decide) hk
theorem PairIs.not {b n t : Nat} {f : Nat → Value} (h : PairIs w B p nv vv F) (hr : w.rowIs b t n f) (h1 : t ≠ 44) (h2 : t ≠ 63) (h3 : t ≠ 109) (h4 : t ≠ 46) (h5 : t ≠ 5) : ¬ F b := fun hf => by
  cases p with
  | none => exact h.2.2 b hf
  | some m =>
    obtain ⟨nb, mv, rb, fv, xs, e1, e2, hN, hR, hx, hF⟩ := h
    rcases (hF b).1 hf with q | q
    · exact hN.not hr h1 h2 q
    · exact hR.not hr h3 h4 h5 q
end

/-- The cells of the stage. -/
def stCell (nv vv : Nat → Value) (bk : Nat) (mark : Bool) (i : Nat) : Value := if i < 2 then nv i else if i < 4 then vv (i - 2) else if i = 4 then .pointer (some ⟨bk, 0, none⟩) else .bool mark
structure StIs (w : World) (B sb bk : Nat) (mark : Bool) (P : Nat → Option PM) (nv vv : Nat → Value) (F : Nat → Nat → Prop) : Prop where
  row : w.rowIs sb 87 6 (stCell nv vv bk mark)
  pair : ∀ k, k < 2 → PairIs w B (P k) (nv k) (vv k) (F k)
  dis : ∀ k j q, k < 2 → j < 2 → k ≠ j → F k q → ¬ F j q
  lb : B ≤ sb
/-- What of memory is the stage's. -/
def SFt (sb : Nat) (F : Nat → Nat → Prop) (q : Nat) : Prop := q = sb ∨ ∃ k, k < 2 ∧ F k q
def upd {α : Type} (f : Nat → α) (k : Nat) (x : α) (i : Nat) : α := if i = k then x else f i
theorem upd_at {α : Type} (f : Nat → α) (k : Nat) (x : α) : upd f k x k = x := if_pos rfl
theorem upd_ne {α : Type} (f : Nat → α) (k : Nat) (x : α) {i : Nat} (h : i ≠ k) : upd f k x i = f i := if_neg h
section
variable {w w' : World} {B sb bk : Nat} {mark : Bool} {P : Nat → Option PM} {nv vv : Nat → Value} {F : Nat → Nat → Prop}
theorem StIs.later (h : StIs w B sb bk mark P nv vv F) (hb : ∀ q, SFt sb F q → w'.heap[q]? = w.heap[q]?) : StIs w' B sb bk mark P nv vv F :=
  ⟨h.row.of_block (hb sb (.inl rfl)), fun k hk => (h.pair k hk).later (fun q hq => hb q (.inr ⟨k, hk, hq⟩)), h.dis, h.lb⟩
theorem StIs.ge (h : StIs w B sb bk mark P nv vv F) : ∀ q, SFt sb F q → B ≤ q ∧ q < w.heap.size := fun q hq => by
  rcases hq with e | ⟨k, hk, e⟩
  · rw [e]; exact ⟨h.lb, h.row.lt⟩
  · exact (h.pair k hk).ge q e
theorem StIs.on (h : StIs w B sb bk mark P nv vv F) (hb : Below w.heap.size w w') : StIs w' B sb bk mark P nv vv F := h.later (fun q hq => hb.block q (h.ge q hq).2)
theorem StIs.ns (h : StIs w B sb bk mark P nv vv F) {k : Nat} (hk : k < 2) : ¬ F k sb := (h.pair k hk).not h.row (by decide) (by decide) (by decide) (by decide) (by decide)
theorem StIs.cn (h : StIs w B sb bk mark P nv vv F) {k : Nat} (hk : k < 2) : w.cell? ⟨sb, k, none⟩ = some (nv k) := by
  have := h.row.cell (i := k) (by omega)
  rw [this]
  unfold stCell
  rw [if_pos hk]
theorem StIs.cv (h : StIs w B sb bk mark P nv vv F) {k : Nat} (hk : k < 2) : w.cell? ⟨sb, 2 + k, none⟩ = some (vv k) := by
  have := h.row.cell (i := 2 + k) (by omega)
  rw [this]
  unfold stCell
  rw [if_neg (by omega), if_pos (by omega), Nat.add_sub_cancel_left]
/-- One pair has turned. -/
theorem StIs.turn (h : StIs w B sb bk mark P nv vv F) {k : Nat} (hk : k < 2) {m : Option PM} {F' : Nat → Prop} (hp : PairIs w' B m (nv k) (vv k) F') (hM : Mv (F k) F' w w') :
    StIs w' B sb bk mark (upd P k m) nv vv (upd F k F') ∧ Mv (SFt sb F) (SFt sb (upd F k F')) w w' := by
  refine ⟨⟨h.row.of_block (hM.block sb h.row.lt (h.ns hk)), fun j hj => ?_, fun i j q hi hj hij hq => ?_, h.lb⟩, hM.os, hM.tape, hM.output, hM.size, fun q hq hn => hM.block q hq (fun e => hn (.inr ⟨k, hk, e⟩)), fun q hq => ?_⟩
  · by_cases e : j = k
    · subst e
      rw [upd_at, upd_at]
      exact hp
    · rw [upd_ne _ _ _ e, upd_ne _ _ _ e]
      exact (h.pair j hj).later (fun q hq => hM.block q ((h.pair j hj).ge q hq).2 (fun e2 => h.dis j k q hj hk e hq e2))
  · by_cases e : i = k
    · subst e
      rw [upd_at] at hq
      rw [upd_ne _ _ _ (fun e => hij e.symm)]
      intro hj2
      rcases hM.foot q hq with e2 | e2
      · exact h.dis i j q hi hj hij e2 hj2
      · have := ((h.pair j hj).ge q hj2).2; omega
    · rw [upd_ne _ _ _ e] at hq
      by_cases e2 : j = k
      · subst e2
        rw [upd_at]
        intro hj2
        rcases hM.foot q hj2 with e3 | e3
        · exact h.dis i j q hi hj hij hq e3
        · have := ((h.pair i hi).ge q hq).2; omega
      · rw [upd_ne _ _ _ e2]
        exact h.dis i j q hi hj hij hq
  · rcases hq with e | ⟨j, hj, e⟩
    · exact .inl (.inl e)
    · by_cases e2 : j = k
      · subst e2
        rw [upd_at] at e
        exact (hM.foot q e).imp_left (fun e3 => .inr ⟨j, hj, e3⟩)
      · rw [upd_ne _ _ _ e2] at e
        exact .inl (.inr ⟨j, hj, e⟩)
end
end Go.Proofs.Ytdfhdneimoimmaa

/- The stage: fresh, told. -/
namespace Go.Proofs.Ytdfhdneimoimmaa
open Go.RowKit
set_option maxRecDepth 100000
set_option maxRecDepth 100000
section
variable {w w' : World} {B sb bk : Nat} {mark : Bool} {P : Nat → Option PM} {nv vv : Nat → Value} {F : Nat → Nat → Prop}
/-- What fresh leaves at its place. -/
def newP (r : Int) : Option PM := if 1 ≤ r ∧ r ≤ 8192 then some ⟨r.toNat, [], 0⟩ else none
/-- Two new pointers at the place k. -/
theorem StIs.put {w2 : World} (h : StIs w B sb bk mark P nv vv F) {k : Nat} (hk : k < 2) {m : Option PM} {x y : Value} {F' : Nat → Prop} (hb : Below w.heap.size w w2) (hp : PairIs w2 B m x y F') (hF : ∀ q, F' q → w.heap.size ≤ q) :
    (w2.cell? ⟨sb, k, none⟩).isSome = true ∧ w2.frozen? ⟨sb, k, none⟩ = false ∧ ((w2.setCell ⟨sb, k, none⟩ x).cell? ⟨sb, 2 + k, none⟩).isSome = true ∧ (w2.setCell ⟨sb, k, none⟩ x).frozen? ⟨sb, 2 + k, none⟩ = false ∧
    StIs ((w2.setCell ⟨sb, k, none⟩ x).setCell ⟨sb, 2 + k, none⟩ y) B sb bk mark (upd P k m) (upd nv k x) (upd vv k y) (upd F k F') ∧ Mv (SFt sb F) (SFt sb (upd F k F')) w ((w2.setCell ⟨sb, k, none⟩ x).setCell ⟨sb, 2 + k, none⟩ y) := by
  have h2 := h.on hb
  have hr1 := h2.row.set k x
  have hr2 := hr1.set (2 + k) y
  have hset : ∀ b, b ≠ sb → ((w2.setCell ⟨sb, k, none⟩ x).setCell ⟨sb, 2 + k, none⟩ y).heap[b]? = w2.heap[b]? := fun b hb => (Below.heap_setCell _ _ _ _ hb).trans (Below.heap_setCell _ _ _ _ hb)
  have hsl := h.row.lt
  refine ⟨by rw [h2.row.cell (i := k) (by omega)]; rfl, h2.row.frozen k, by rw [hr1.cell (i := 2 + k) (by omega)]; rfl, hr1.frozen (2 + k), ⟨?_, fun j hj => ?_, fun i j q hi hj hij hq => ?_, h.lb⟩, hb.os, hb.tape, hb.output, ?_, fun q hq hn => ?_, fun q hq => ?_⟩
  · refine hr2.congr (fun i hi => ?_)
    unfold stCell upd
    by_cases e1 : i = k
    · subst e1
      rw [if_neg (by omega), if_pos rfl, if_pos hk, if_pos rfl]
    · by_cases e2 : i = 2 + k
      · subst e2
        rw [if_pos rfl, if_neg (by omega), if_pos (by omega), if_pos (by omega)]
      · rw [if_neg e2, if_neg e1]
        by_cases e3 : i < 2
        · rw [if_pos e3, if_pos e3, if_neg e1]
        · rw [if_neg e3, if_neg e3]
          by_cases e4 : i < 4
          · rw [if_pos e4, if_pos e4, if_neg (by omega)]
          · rw [if_neg e4, if_neg e4]
  · by_cases e : j = k
    · subst e
      rw [upd_at, upd_at, upd_at, upd_at]
      exact hp.later (fun q hq => hset q (fun e => by have := hF q hq; omega))
    · rw [upd_ne _ _ _ e, upd_ne _ _ _ e, upd_ne _ _ _ e, upd_ne _ _ _ e]
      exact (h2.pair j hj).later (fun q hq => hset q (fun e2 => h2.ns hj (e2 ▸ hq)))
  · by_cases e : i = k
    · subst e
      rw [upd_at] at hq
      rw [upd_ne _ _ _ (fun e => hij e.symm)]
      intro hj2
      have := ((h.pair j hj).ge q hj2).2
      have := hF q hq
      omega
    · rw [upd_ne _ _ _ e] at hq
      by_cases e2 : j = k
      · subst e2
        rw [upd_at]
        intro hj2
        have := ((h.pair i hi).ge q hq).2
        have := hF q hj2
        omega
      · rw [upd_ne _ _ _ e2]
        exact h.dis i j q hi hj hij hq
  · have := hb.size
    simp [World.setCell]; omega
  · exact (hset q (fun e => hn (.inl e))).trans (hb.block q hq)
  · rcases hq with e | ⟨j, hj, e⟩
    · exact .inl (.inl e)
    · by_cases e2 : j = k
      · subst e2
        rw [upd_at] at e
        exact .inr (hF q e)
      · rw [upd_ne _ _ _ e2] at e
        exact .inl (.inr ⟨j, hj, e⟩)
set_option maxHeartbeats 1600000 in
theorem fresh_any (h : StIs w B sb bk mark P nv vv F) (hB : B ≤ w.heap.size) (k : Nat) (hk : k < 2) (r : Int) :
    Calls Try.prog 28 #[.pointer (some ⟨sb, 0, none⟩), .int .i64 (k : Nat), .int .i64 r] w fun e w' => e = .returned (.bool true) ∧ ∃ nv' vv' F', StIs w' B sb bk mark (upd P k (newP r)) nv' vv' F' ∧ Mv (SFt sb F) (SFt sb F') w w' := by
  have hz : (k : Int) < 2 := by omega
  have HNUM : Hid (∀ (n : Int) (W : World), Calls Try.prog 8 #[.int .i64 n] W fun e w' => e = .returned (.int .i64 n) ∧ w' = W) := fun n W => num_any n W
  by_cases hr : 1 ≤ r ∧ r ≤ 8192
  · obtain ⟨n, rfl⟩ : ∃ n : Nat, r = (n : Int) := ⟨r.toNat, by omega⟩
    have e : newP (n : Int) = some ⟨n, [], 0⟩ := by unfold newP; rw [if_pos hr, Int.toNat_natCast]
    rw [e]
    have hnew := new_any n (by omega) (by omega) w
    have HP : Hid (∀ w1, NetIs w1 w.heap.size w.heap.size (.slice none 0 0) n [] 0 → Below w.heap.size w w1 → w1.heap.size = w.heap.size + 1 → Calls Try.prog 39 #[.int .i64 (n : Nat)] w1 fun e w2 => e = .returned (.tuple #[.pointer (some ⟨w1.heap.size, 0, none⟩), .int .i64 0]) ∧
        ∃ c1 c2, w2.cell? ⟨sb, k, none⟩ = some c1 ∧ w2.frozen? ⟨sb, k, none⟩ = false ∧ (w2.setCell ⟨sb, k, none⟩ (.pointer (some ⟨w.heap.size, 0, none⟩))).cell? ⟨sb, 2 + k, none⟩ = some c2 ∧ (w2.setCell ⟨sb, k, none⟩ (.pointer (some ⟨w.heap.size, 0, none⟩))).frozen? ⟨sb, 2 + k, none⟩ = false ∧
        Hid (∃ nv' vv' F', StIs ((w2.setCell ⟨sb, k, none⟩ (.pointer (some ⟨w.heap.size, 0, none⟩))).setCell ⟨sb, 2 + k, none⟩ (.pointer (some ⟨w1.heap.size, 0, none⟩))) B sb bk mark (upd P k (some ⟨n, [], 0⟩)) nv' vv' F' ∧ Mv (SFt sb F) (SFt sb F') w ((w2.setCell ⟨sb, k, none⟩ (.pointer (some ⟨w.heap.size, 0, none⟩))).setCell ⟨sb, 2 + k, none⟩ (.pointer (some ⟨w1.heap.size, 0, none⟩))))) := by
      intro w1 hN hb1 hz1
      refine (rnew_any n (by omega) (by omega) w1).mono fun e w2 ⟨he, hR, hb2, hz2⟩ => ⟨he, ?_⟩
      have hN2 := hN.on hb2
      obtain ⟨q1, q2, q3, q4, q5, q6⟩ := h.put (w2 := w2) hk (m := some ⟨n, [], 0⟩) (x := .pointer (some ⟨w.heap.size, 0, none⟩)) (y := .pointer (some ⟨w1.heap.size, 0, none⟩)) (F' := fun q => NFt w.heap.size (.slice none 0 0) q ∨ RFt w1.heap.size (.slice none 0 0) [] q) (hb1.trans (hb2.mono (by omega)))
        ⟨w.heap.size, .slice none 0 0, w1.heap.size, .slice none 0 0, [], rfl, rfl, ⟨hN2.row, ⟨rfl, .inl ⟨rfl, rfl⟩⟩, hB, hN2.le, hN2.rm⟩, ⟨hR.row, ⟨rfl, .inl ⟨rfl, rfl⟩⟩, (fun x hx => by cases hx), by omega, hR.le, hR.rm⟩, rfl, fun q => Iff.rfl⟩ (fun q hq => by
          rcases hq with e | e
          · exact (hN2.ge q e).1
          · have := (hR.ge q e).1; omega)
      obtain ⟨c1, hc1⟩ := Option.isSome_iff_exists.1 q1
      obtain ⟨c2, hc2⟩ := Option.isSome_iff_exists.1 q3
      exact ⟨c1, c2, hc1, q2, hc2, q4, _, _, _, q5, q6⟩
    clear h hr e hB
    go_enter Try.func28, Try.ntmps28
    go_wp2_with fail
    refine hnew.mono ?_
    rintro e w1 ⟨rfl, hN, hb1, hz1⟩
    have hrn := HP.out w1 hN hb1 hz1
    clear HP hnew hN hb1 hz1
    go_wp2_with fail
    refine hrn.mono ?_
    rintro e w2 ⟨rfl, c1, c2, k1, f1, k2, f2, HE⟩
    clear hrn
    go_wp2_with fail
    refine (HNUM.out _ _).mono ?_
    rintro e w3 ⟨rfl, e3⟩
    rw [← e3] at HE
    clear k1 k2 f1 f2 e3
    go_wp2_with fail
    go_ret
    exact ⟨rfl, HE.out⟩
  · have e : newP r = none := by unfold newP; rw [if_neg hr]
    rw [e]
    have hnew := new_not r (by omega) w
    have hrn := rnew_not r (by omega) w
    obtain ⟨q1, q2, q3, q4, q5, q6⟩ := h.put (w2 := w) hk (m := none) (x := .pointer none) (y := .pointer none) (F' := fun _ => False) (Below.refl _ _) ⟨rfl, rfl, fun _ hf => hf⟩ (fun q hq => hq.elim)
    obtain ⟨c1, k1⟩ := Option.isSome_iff_exists.1 q1
    obtain ⟨c2, k2⟩ := Option.isSome_iff_exists.1 q3
    have HE : Hid (∃ nv' vv' F', StIs ((w.setCell ⟨sb, k, none⟩ (.pointer none)).setCell ⟨sb, 2 + k, none⟩ (.pointer none)) B sb bk mark (upd P k none) nv' vv' F' ∧ Mv (SFt sb F) (SFt sb F') w ((w.setCell ⟨sb, k, none⟩ (.pointer none)).setCell ⟨sb, 2 + k, none⟩ (.pointer none))) := ⟨_, _, _, q5, q6⟩
    clear h hr e hB q1 q3 q5 q6
    go_enter Try.func28, Try.ntmps28
    go_wp2_with fail
    refine hnew.mono ?_
    rintro e w1 ⟨rfl, e1⟩
    subst e1
    clear hnew
    go_wp2_with fail
    refine hrn.mono ?_
    rintro e w2 ⟨rfl, e2⟩
    subst e2
    clear hrn
    go_wp2_with fail
    refine (HNUM.out _ _).mono ?_
    rintro e w3 ⟨rfl, e3⟩
    rw [← e3] at HE
    clear k1 k2 q2 q4 e3
    go_wp2_with fail
    go_ret
    exact ⟨rfl, HE.out⟩

set_option maxHeartbeats 1600000 in
/-- told, where nothing is marked. -/
theorem told_any (h : StIs w B sb bk false P nv vv F) (x : Int) (ok : Bool) (a b : Option Addr) (n c d : Nat) (y : Nat → Nat) (ha : Byt w a n y) (hb : Byt w b n y) (hmax : n ≤ 281474976710656) :
    Calls Try.prog 44 #[.pointer (some ⟨sb, 0, none⟩), .agg #[.int .i64 x, .slice a n c], .bool ok, .agg #[.int .i64 x, .slice b n d], .bool ok] w fun e w' => e = .returned (.bool true) ∧ Below w.heap.size w w' := by
  obtain ⟨W, HW⟩ : ∃ W, Hid ((w.alloc (.cells #[.int .i64 x, .slice a n c] 46)).alloc (.cells #[.int .i64 x, .slice b n d] 46) = W) := ⟨_, rfl⟩
  have h1 := row2_alloc w (.int .i64 x) (.slice a n c) 46
  have hz1 : (w.alloc (.cells #[.int .i64 x, .slice a n c] 46)).heap.size = w.heap.size + 1 := by simp
  have h2 := row2_alloc (w.alloc (.cells #[.int .i64 x, .slice a n c] 46)) (.int .i64 x) (.slice b n d) 46
  rw [HW.out, hz1] at h2
  have h1' : W.rowIs w.heap.size 46 2 (fun i => if i = 0 then .int .i64 x else .slice a n c) := h1.of_block (by rw [← HW.out]; exact Below.heap_alloc _ _ _ (by omega))
  have hB : Below w.heap.size w W := by rw [← HW.out]; exact ((Below.refl _ _).alloc (Nat.le_refl _) _).alloc (by simp) _
  have p0 : W.cell? ⟨w.heap.size, 0, none⟩ = some (.int .i64 x) := h1'.cell (i := 0) (by decide)
  have p1 : W.cell? ⟨w.heap.size, 1, none⟩ = some (.slice a n c) := h1'.cell (i := 1) (by decide)
  have q0 : W.cell? ⟨w.heap.size + 1, 0, none⟩ = some (.int .i64 x) := h2.cell (i := 0) (by decide)
  have q1 : W.cell? ⟨w.heap.size + 1, 1, none⟩ = some (.slice b n d) := h2.cell (i := 1) (by decide)
  have HS : Hid (Calls Try.prog 21 #[.agg #[.int .i64 x, .slice a n c], .agg #[.int .i64 x, .slice b n d]] W fun e w' => e = .returned (.bool true) ∧ w'.cell? ⟨sb, 5, none⟩ = some (.bool false) ∧ Below w.heap.size w w') :=
    (same_any x a b n c d y W (ha.on hB) (hb.on hB) hmax).mono fun e w' ⟨he, hb'⟩ => by
      have hb2 := hB.trans (hb'.mono hB.size)
      exact ⟨he, (h.on hb2).row.cell (i := 5) (by decide), hb2⟩
  have hoo : (ok == ok) = true := by simp
  clear h h1 h2 h1' hB ha hb hz1
  go_enter Try.func44, Try.ntmps44
  go_upto_region 1 with fail
  rw [HW.out]
  go_wp2_with fail
  refine HS.out.mono ?_
  rintro e w1 ⟨rfl, c5, hb1⟩
  go_wp2_with fail
  go_ret
  exact ⟨rfl, hb1⟩
end
end Go.Proofs.Ytdfhdneimoimmaa

/- The stage: each call on a pair. -/
namespace Go.Proofs.Ytdfhdneimoimmaa
open Go.RowKit
set_option maxRecDepth 100000
set_option maxRecDepth 100000

/-- How many were lost, at most. -/
def LostLe (P : Nat → Option PM) (L : Nat) : Prop := ∀ j m, j < 2 → P j = some m → m.lost ≤ L
theorem LostLe.upd {P : Nat → Option PM} {L L' : Nat} (h : LostLe P L) (hl : L ≤ L') (k : Nat) (m : PM) (hm : m.lost ≤ L') : LostLe (upd P k (some m)) L' := fun j q hj e => by
  by_cases e2 : j = k
  · rw [e2, upd_at] at e
    rw [← Option.some.inj e]
    exact hm
  · rw [upd_ne _ _ _ e2] at e
    exact Nat.le_trans (h j q hj e) hl
theorem bx_bytes {a : Option Addr} {n : Nat} {y : Nat → Nat} {w : World} (h : Byt w a n y) (hy : ∀ j, j < n → y j < 256) : Byt w a (strOf n y).size (bx (strOf n y)) := fun j hj => by
  rw [strOf_size] at hj
  rw [bx_strOf hy hj]
  exact h j hj
section
variable {w w' : World} {B sb bk : Nat} {mark : Bool} {P : Nat → Option PM} {nv vv : Nat → Value} {F : Nat → Nat → Prop}
/-- What a call on the pair k leaves. -/
structure Went (B sb bk : Nat) (mark : Bool) (k L : Nat) (nv vv : Nat → Value) (F : Nat → Nat → Prop) (w w' : World) : Prop where
  is : ∃ P' F', StIs w' B sb bk mark P' nv vv F' ∧ Mv (SFt sb F) (SFt sb F') w w' ∧ LostLe P' L ∧ ∃ m, P' k = some m
theorem Went.mv {L k : Nat} (h : Went B sb bk mark k L nv vv F w w') : ∃ G, Mv (SFt sb F) G w w' := by
  obtain ⟨P', F', _, h2, _⟩ := h.is
  exact ⟨_, h2⟩
theorem PairIs.go {m : PM} {x y : Value} {F : Nat → Prop} (h : PairIs w B (some m) x y F) : ∃ nb mv rb fv xs, x = .pointer (some ⟨nb, 0, none⟩) ∧ y = .pointer (some ⟨rb, 0, none⟩) ∧ NetIs w B nb mv m.room m.ms m.lost ∧ RefIs w B rb fv xs m.room m.lost ∧ xs.map Prod.fst = m.ms ∧ ∀ k, F k ↔ (NFt nb mv k ∨ RFt rb fv xs k) := h
/-- Both have turned. -/
theorem StIs.went (h : StIs w B sb bk mark P nv vv F) {k L L' : Nat} (hk : k < 2) (hL : LostLe P L) (hll : L ≤ L') {nb rb room lost lost' : Nat} {mv mv' fv fv' : Value} {ms ms' : List Ms} {xs xs' : List (Ms × Value)} {w1 w2 w3 : World}
    (en : nv k = .pointer (some ⟨nb, 0, none⟩)) (ev : vv k = .pointer (some ⟨rb, 0, none⟩)) (hN : NetIs w B nb mv room ms lost) (hF : ∀ q, F k q ↔ (NFt nb mv q ∨ RFt rb fv xs q)) (hR : RefIs w B rb fv xs room lost)
    (hN1 : NetIs w1 B nb mv' room ms' lost') (hM1 : Mv (NFt nb mv) (NFt nb mv') w w1) (hb : Below w1.heap.size w1 w2) (hR3 : RefIs w3 B rb fv' xs' room lost') (hM3 : Mv (RFt rb fv xs) (RFt rb fv' xs') w2 w3) (hx : xs'.map Prod.fst = ms') (hlo : lost' ≤ L') : Went B sb bk mark k L' nv vv F w w3 := by
  have hN2 := hN1.on hb
  have hR2 : RefIs w2 B rb fv xs room lost := (hR.later (fun q hq => hM1.block q (hR.ge q hq).2 (fun e => net_ref hN hR q e hq))).on hb
  have hN3 : NetIs w3 B nb mv' room ms' lost' := hN2.later (fun q hq => hM3.block q (hN2.ge q hq).2 (fun e => net_ref hN2 hR2 q hq e))
  have hM : Mv (F k) (fun q => NFt nb mv' q ∨ RFt rb fv' xs' q) w w3 := by
    have q := (hM1.below2 hb).both hM3
    exact ⟨q.os, q.tape, q.output, q.size, fun i hi hn => q.block i hi (fun e => hn ((hF i).2 e)), fun i hi => (q.foot i hi).imp_left (fun e => (hF i).2 e)⟩
  obtain ⟨h1, h2⟩ := h.turn hk (m := some ⟨room, ms', lost'⟩) (F' := fun q => NFt nb mv' q ∨ RFt rb fv' xs' q) (w' := w3) ⟨nb, mv', rb, fv', xs', en, ev, hN3, hR3, hx, fun _ => Iff.rfl⟩ hM
  exact ⟨_, _, h1, h2, hL.upd hll k _ hlo, _, upd_at _ _ _⟩
theorem StIs.stay (h : StIs w B sb bk mark P nv vv F) {k L L' : Nat} (hL : LostLe P L) (hll : L ≤ L') {m : PM} (hP : P k = some m) (hb : Below w.heap.size w w') : Went B sb bk mark k L' nv vv F w w' :=
  ⟨P, F, h.on hb, Mv.of_below hb, fun j q hj e => Nat.le_trans (hL j q hj e) hll, m, hP⟩
theorem mem_fst {xs : List (Ms × Value)} {ms : List Ms} (h : xs.map Prod.fst = ms) (i : Nat) {x : Int} {s : ByteArray} (hm : ms[i]? = some ⟨x, s⟩) : ∃ v, xs[i]? = some (⟨x, s⟩, v) := by
  rw [← h, List.getElem?_map] at hm
  cases hx : xs[i]? with
  | none => rw [hx] at hm; cases hm
  | some q =>
    rw [hx] at hm
    obtain ⟨a, b⟩ := q
    have : a = ⟨x, s⟩ := Option.some.inj hm
    rw [this]
    exact ⟨b, rfl⟩
theorem fst_len {xs : List (Ms × Value)} {ms : List Ms} (h : xs.map Prod.fst = ms) : xs.length = ms.length := by rw [← h, List.length_map]
theorem fst_erase : ∀ (xs : List (Ms × Value)) (i : Nat), (xs.eraseIdx i).map Prod.fst = (xs.map Prod.fst).eraseIdx i
  | [], i => by simp
  | x :: l, 0 => rfl
  | x :: l, i + 1 => by
    show x.1 :: (l.eraseIdx i).map Prod.fst = x.1 :: (l.map Prod.fst).eraseIdx i
    rw [fst_erase l i]
variable {k L : Nat} {m : PM}
/-- Send, on both. -/
theorem StIs.send (h : StIs w B sb bk mark P nv vv F) (hB : B ≤ w.heap.size) (hk : k < 2) (hL : LostLe P L) (hl1 : L ≤ 1000) (hP : P k = some m) :
    ∃ nb rb, nv k = .pointer (some ⟨nb, 0, none⟩) ∧ vv k = .pointer (some ⟨rb, 0, none⟩) ∧ ∀ (x : Int) (a b : Option Addr) (n c d : Nat) (y : Nat → Nat), n ≤ 140737488351232 → Byt w a n y → (a = none → n = 0) → Byt w b n y → (∀ q, b = some q → 0 < n → ¬ SFt sb F q.block) → (∀ j, j < n → y j < 256) →
      Calls Try.prog 10 #[.pointer (some ⟨nb, 0, none⟩), .int .i64 x, .slice a n c] w fun e w1 => ∃ ok : Bool, e = .returned (.bool ok) ∧ (∃ G, Mv (SFt sb F) G w w1) ∧
        Hid (Calls Try.prog 33 #[.pointer (some ⟨rb, 0, none⟩), .int .i64 x, .slice b n d] w1 fun e w2 => e = .returned (.bool ok) ∧ Went B sb bk mark k (L + 1) nv vv F w w2) := by
  have hp := h.pair k hk
  rw [hP] at hp
  obtain ⟨nb, mv, rb, fv, xs, en, ev, hN, hR, hx, hF⟩ := hp.go
  refine ⟨nb, rb, en, ev, fun x a b n c d y hn ha hna hb hbs hy => ?_⟩
  have hlo := hL k m hk hP
  have hxl := fst_len hx
  have hmv : ∀ {mv' : Value} {w1 : World}, Mv (NFt nb mv) (NFt nb mv') w w1 → Mv (SFt sb F) (NFt nb mv') w w1 := fun q => ⟨q.os, q.tape, q.output, q.size, fun i hi hnn => q.block i hi (fun e => hnn (.inr ⟨k, hk, (hF i).2 (.inl e)⟩)), fun i hi => (q.foot i hi).imp_left (fun e => .inr ⟨k, hk, (hF i).2 (.inl e)⟩)⟩
  have hRn : ∀ {mv' : Value} {w1 : World}, Mv (NFt nb mv) (NFt nb mv') w w1 → RefIs w1 B rb fv xs m.room m.lost := fun hM => hR.later (fun q hq => hM.block q (hR.ge q hq).2 (fun e => net_ref hN hR q e hq))
  by_cases hl : m.ms.length < m.room
  · refine (send_some hN hB hl x a n c y ha hna).mono fun e w1 ⟨he, mv', hN1, hM1⟩ => ⟨true, he, ⟨_, hmv hM1⟩, ?_⟩
    have hb1 : Byt w1 b n y := fun j hj => by
      obtain ⟨q, off, e, hc⟩ := hb j hj
      exact ⟨q, off, e, by rw [World.cell?_of_block (w := w) (a := ⟨q, off + j, none⟩) ((hmv hM1).block q (World.block_lt_of_cell? _ _ hc) (hbs _ e (by omega)))]; exact hc⟩
    have hs := rsend_some (hRn hM1) (Nat.le_trans hB hM1.size) (by omega) x b d (strOf n y) (by rw [strOf_size]; exact hn) (bx_bytes hb1 hy)
    rw [strOf_size] at hs
    refine hs.mono fun e w2 ⟨he2, fv', v, hR2, hM2⟩ => ⟨he2, ?_⟩
    exact h.went hk hL (Nat.le_succ L) en ev hN hF hR hN1 hM1 (Below.refl _ _) hR2 hM2 (by rw [List.map_append, hx]; rfl) (by omega)
  · refine (send_full hN hl (by omega) x (.slice a n c)).mono fun e w1 ⟨he, hN1, hM1⟩ => ⟨false, he, ⟨_, hmv hM1⟩, ?_⟩
    refine (rsend_full (hRn hM1) (by omega) (by omega) x (.slice b n d)).mono fun e w2 ⟨he2, hR2, hM2⟩ => ⟨he2, ?_⟩
    exact h.went hk hL (Nat.le_succ L) en ev hN hF hR hN1 hM1 (Below.refl _ _) hR2 hM2 hx (by omega)
/-- From w to w' nothing but the block fb has turned of what was there. -/
structure Fr (fb : Nat) (w w' : World) : Prop where
  os : w'.os = w.os
  tape : w'.tape = w.tape
  output : w'.output = w.output
  size : w.heap.size ≤ w'.heap.size
  block : ∀ q, q < w.heap.size → q ≠ fb → w'.heap[q]? = w.heap[q]?
theorem Fr.of_below {fb : Nat} {w w' : World} (h : Below w.heap.size w w') : Fr fb w w' := ⟨h.os, h.tape, h.output, h.size, fun q hq _ => h.block q hq⟩
theorem Byt.fr {fb n : Nat} {w w' : World} {a : Option Addr} {y : Nat → Nat} (h : Byt w a n y) (hf : Fr fb w w') (hn : ∀ q, a = some q → q.block ≠ fb) : Byt w' a n y := fun j hj => by
  obtain ⟨b, off, e, hc⟩ := h j hj
  exact ⟨b, off, e, by rw [World.cell?_of_block (w := w) (a := ⟨b, off + j, none⟩) (hf.block b (World.block_lt_of_cell? _ _ hc) (hn _ e))]; exact hc⟩
/-- Look, on both. -/
theorem StIs.look (h : StIs w B sb bk mark P nv vv F) (hk : k < 2) (hP : P k = some m) :
    ∃ nb rb, nv k = .pointer (some ⟨nb, 0, none⟩) ∧ vv k = .pointer (some ⟨rb, 0, none⟩) ∧ ∀ (i : Int) (Wc : World), Below w.heap.size w Wc →
      Calls Try.prog 27 #[.pointer (some ⟨nb, 0, none⟩), .int .i64 i] Wc fun e w1 => ∃ (x : Int) (a : Option Addr) (n c : Nat) (ok : Bool) (y : Nat → Nat), e = .returned (.tuple #[.agg #[.int .i64 x, .slice a n c], .bool ok]) ∧ Byt w1 a n y ∧ n ≤ 140737488351232 ∧ (∀ q, a = some q → Wc.heap.size ≤ q.block ∧ q.block < w1.heap.size) ∧ Below Wc.heap.size Wc w1 ∧
        Hid (∀ W fb, Fr fb w1 W → w.heap.size ≤ fb → Calls Try.prog 43 #[.pointer (some ⟨rb, 0, none⟩), .int .i64 i] W fun e w2 => ∃ (b : Option Addr) (d : Nat), e = .returned (.tuple #[.agg #[.int .i64 x, .slice b n d], .bool ok]) ∧ Byt w2 b n y ∧ Below W.heap.size W w2) := by
  have hp := h.pair k hk
  rw [hP] at hp
  obtain ⟨nb, mv, rb, fv, xs, en, ev, hN, hR, hx, hF⟩ := hp.go
  refine ⟨nb, rb, en, ev, fun i Wc hWc => ?_⟩
  have hxl := fst_len hx
  have hR1 : ∀ {w1 W : World} {fb : Nat}, Below Wc.heap.size Wc w1 → Fr fb w1 W → w.heap.size ≤ fb → RefIs W B rb fv xs m.room m.lost := fun hb hf hfb =>
    ((hR.on hWc).on hb).later (fun q hq => hf.block q (by have := (hR.ge q hq).2; have := hWc.size; have := hb.size; omega) (by have := (hR.ge q hq).2; omega))
  by_cases hi : 0 ≤ i ∧ i < m.ms.length
  · obtain ⟨q, rfl⟩ : ∃ q : Nat, i = (q : Int) := ⟨i.toNat, by omega⟩
    obtain ⟨⟨x, s⟩, hm⟩ : ∃ z, m.ms[q]? = some z := ⟨_, List.getElem?_eq_getElem (by omega)⟩
    obtain ⟨v, hv⟩ := mem_fst hx q hm
    have hss : s.size ≤ 140737488351232 := by obtain ⟨_, _, _, _, h4⟩ := hR.byt _ (List.mem_of_getElem? hv); exact h4
    refine (look_some (hN.on hWc) q x s hm).mono fun e w1 ⟨g, c, he, hFl, hg, hb⟩ => ⟨x, some ⟨g, 0, none⟩, s.size, c, true, bx s, he, hFl.byt, hss, (fun z hz => by rw [← Option.some.inj hz]; exact ⟨hg, hFl.lt⟩), hb, fun W fb hf hfb => ?_⟩
    exact (rlook_some (hR1 hb hf hfb) q x s v hv).mono fun e w2 ⟨g2, he2, _, hr2, hb2⟩ => ⟨some ⟨g2, 0, none⟩, s.size, he2, Byt.of_row hr2, hb2⟩
  · refine (look_none (hN.on hWc) i hi).mono fun e w1 ⟨he, hb⟩ => ⟨0, none, 0, 0, false, fun _ => 0, he, (fun j hj => absurd hj (Nat.not_lt_zero _)), by omega, (fun z hz => by cases hz), hb, fun W fb hf hfb => ?_⟩
    exact (rlook_none (hR1 hb hf hfb) i (by rw [hxl]; exact hi)).mono fun e w2 ⟨he2, hb2⟩ => ⟨none, 0, he2, (fun j hj => absurd hj (Nat.not_lt_zero _)), hb2⟩
/-- Take, on both. -/
theorem StIs.take (h : StIs w B sb bk mark P nv vv F) (hB : B ≤ w.heap.size) (hk : k < 2) (hL : LostLe P L) (hP : P k = some m) :
    ∃ nb rb, nv k = .pointer (some ⟨nb, 0, none⟩) ∧ vv k = .pointer (some ⟨rb, 0, none⟩) ∧ ∀ (i : Int) (Wc : World), Below w.heap.size w Wc →
      Calls Try.prog 13 #[.pointer (some ⟨nb, 0, none⟩), .int .i64 i] Wc fun e w1 => ∃ (x : Int) (a : Option Addr) (n c : Nat) (ok : Bool) (y : Nat → Nat), e = .returned (.tuple #[.agg #[.int .i64 x, .slice a n c], .bool ok]) ∧ Byt w1 a n y ∧ n ≤ 140737488351232 ∧ (∀ q, a = some q → Wc.heap.size ≤ q.block ∧ q.block < w1.heap.size) ∧ (∃ G, Mv (SFt sb F) G Wc w1) ∧
        Hid (∀ W fb, Fr fb w1 W → w.heap.size ≤ fb → (fb < Wc.heap.size ∨ w1.heap.size ≤ fb) → Calls Try.prog 45 #[.pointer (some ⟨rb, 0, none⟩), .int .i64 i] W fun e w2 => ∃ (b : Option Addr) (d : Nat), e = .returned (.tuple #[.agg #[.int .i64 x, .slice b n d], .bool ok]) ∧ Byt w2 b n y ∧ Went B sb bk mark k (L + 1) nv vv F w w2 ∧ ∀ q, w.heap.size ≤ q → q < W.heap.size → w2.heap[q]? = W.heap[q]?) := by
  have hp := h.pair k hk
  rw [hP] at hp
  obtain ⟨nb, mv, rb, fv, xs, en, ev, hN, hR, hx, hF⟩ := hp.go
  refine ⟨nb, rb, en, ev, fun i Wc hWc => ?_⟩
  have hlo := hL k m hk hP
  have hxl := fst_len hx
  have hmv : ∀ {mv' : Value} {w1 : World}, Mv (NFt nb mv) (NFt nb mv') Wc w1 → Mv (SFt sb F) (NFt nb mv') Wc w1 := fun q => ⟨q.os, q.tape, q.output, q.size, fun i hi hnn => q.block i hi (fun e => hnn (.inr ⟨k, hk, (hF i).2 (.inl e)⟩)), fun i hi => (q.foot i hi).imp_left (fun e => .inr ⟨k, hk, (hF i).2 (.inl e)⟩)⟩
  have hNc := hN.on hWc
  have hRc := hR.on hWc
  have hR1 : ∀ {w1 W : World} {fb : Nat} {G : Nat → Prop}, Mv (NFt nb mv) G Wc w1 → Fr fb w1 W → w.heap.size ≤ fb → RefIs W B rb fv xs m.room m.lost := fun hb hf hfb =>
    (hRc.later (fun q hq => hb.block q (hRc.ge q hq).2 (fun e => net_ref hNc hRc q e hq))).later (fun q hq => hf.block q (by have := (hR.ge q hq).2; have := hWc.size; have := hb.size; omega) (by have := (hR.ge q hq).2; omega))
  by_cases hi : 0 ≤ i ∧ i < m.ms.length
  · obtain ⟨q, rfl⟩ : ∃ q : Nat, i = (q : Int) := ⟨i.toNat, by omega⟩
    obtain ⟨⟨x, s⟩, hm⟩ : ∃ z, m.ms[q]? = some z := ⟨_, List.getElem?_eq_getElem (by omega)⟩
    obtain ⟨v, hv⟩ := mem_fst hx q hm
    have hss : s.size ≤ 140737488351232 := by obtain ⟨_, _, _, _, h4⟩ := hR.byt _ (List.mem_of_getElem? hv); exact h4
    refine (take_some hNc q x s hm).mono fun e w1 ⟨g, c, he, hFl, hg, mv', hN1, hM1⟩ => ⟨x, some ⟨g, 0, none⟩, s.size, c, true, bx s, he, hFl.byt, hss, (fun z hz => by rw [← Option.some.inj hz]; exact ⟨hg, hFl.lt⟩), ⟨_, hmv hM1⟩, fun W fb hf hfb hfb2 => ?_⟩
    have hRW := hR1 hM1 hf hfb
    have hNW : NetIs W B nb mv' m.room (m.ms.eraseIdx q) m.lost := hN1.later (fun z hz => hf.block z (hN1.ge z hz).2 (fun e => by
      have h1 := (hN1.ge z hz).2
      rcases hM1.foot z hz with e2 | e2
      · have := (hN.ge z e2).2; omega
      · omega))
    have hBW : B ≤ W.heap.size := by have := hM1.size; have := hf.size; have := hWc.size; omega
    refine (rtake_some hRW hBW q x s v hv).mono fun e w2 ⟨g2, he2, _, hr2, fv', hR2, hM2⟩ => ⟨some ⟨g2, 0, none⟩, s.size, he2, Byt.of_row hr2, ?_, fun z hz hz2 => hM2.block z hz2 (fun hf => by have := (hR.ge z hf).2; omega)⟩
    have hN2 : NetIs w2 B nb mv' m.room (m.ms.eraseIdx q) m.lost := hNW.later (fun z hz => hM2.block z (hNW.ge z hz).2 (fun e => net_ref hNW hRW z hz e))
    have hM : Mv (F k) (fun z => NFt nb mv' z ∨ RFt rb fv' (xs.eraseIdx q) z) w w2 := by
      have z1 := hWc.size
      have z2 := hM1.size
      have z3 := hf.size
      have z4 := hM2.size
      refine ⟨hM2.os.trans (hf.os.trans (hM1.os.trans hWc.os)), hM2.tape.trans (hf.tape.trans (hM1.tape.trans hWc.tape)), hM2.output.trans (hf.output.trans (hM1.output.trans hWc.output)), by omega, fun z hz hn => ?_, fun z hz => ?_⟩
      · exact (hM2.block z (by omega) (fun e => hn ((hF z).2 (.inr e)))).trans ((hf.block z (by omega) (by omega)).trans ((hM1.block z (by omega) (fun e => hn ((hF z).2 (.inl e)))).trans (hWc.block z hz)))
      · rcases hz with e | e
        · rcases hM1.foot z e with e2 | e2
          · exact .inl ((hF z).2 (.inl e2))
          · exact .inr (by omega)
        · rcases hM2.foot z e with e2 | e2
          · exact .inl ((hF z).2 (.inr e2))
          · exact .inr (by omega)
    obtain ⟨h1, h2⟩ := h.turn hk (m := some ⟨m.room, m.ms.eraseIdx q, m.lost⟩) (F' := fun z => NFt nb mv' z ∨ RFt rb fv' (xs.eraseIdx q) z) (w' := w2) ⟨nb, mv', rb, fv', xs.eraseIdx q, en, ev, hN2, hR2, by rw [fst_erase, hx], fun _ => Iff.rfl⟩ hM
    exact ⟨_, _, h1, h2, hL.upd (Nat.le_succ L) k _ (by show m.lost ≤ L + 1; omega), _, upd_at _ _ _⟩
  · refine (take_none hNc i hi).mono fun e w1 ⟨he, hb⟩ => ⟨0, none, 0, 0, false, fun _ => 0, he, (fun j hj => absurd hj (Nat.not_lt_zero _)), by omega, (fun z hz => by cases hz), ⟨_, Mv.of_below hb⟩, fun W fb hf hfb _ => ?_⟩
    refine (rtake_none (hR1 (G := NFt nb mv) (Mv.of_below hb) hf hfb) i (by rw [hxl]; exact hi)).mono fun e w2 ⟨he2, hb2⟩ => ⟨none, 0, he2, (fun j hj => absurd hj (Nat.not_lt_zero _)), ?_, fun z _ hz2 => hb2.block z hz2⟩
    have z1 := hWc.size
    have z2 := hb.size
    have z3 := hf.size
    have z4 := hb2.size
    have : Below w.heap.size w w2 := ⟨hb2.os.trans (hf.os.trans (hb.os.trans hWc.os)), hb2.tape.trans (hf.tape.trans (hb.tape.trans hWc.tape)), hb2.output.trans (hf.output.trans (hb.output.trans hWc.output)), by omega, fun z hz => (hb2.block z (by omega)).trans ((hf.block z (by omega) (by omega)).trans ((hb.block z (by omega)).trans (hWc.block z hz)))⟩
    exact h.stay hL (Nat.le_succ L) hP this
/-- Drop, on both. -/
theorem StIs.drop (h : StIs w B sb bk mark P nv vv F) (hB : B ≤ w.heap.size) (hk : k < 2) (hL : LostLe P L) (hP : P k = some m) :
    ∃ nb rb, nv k = .pointer (some ⟨nb, 0, none⟩) ∧ vv k = .pointer (some ⟨rb, 0, none⟩) ∧ ∀ (i : Int),
      Calls Try.prog 12 #[.pointer (some ⟨nb, 0, none⟩), .int .i64 i] w fun e w1 => ∃ ok : Bool, e = .returned (.bool ok) ∧ (∃ G, Mv (SFt sb F) G w w1) ∧
        Hid (Calls Try.prog 46 #[.pointer (some ⟨rb, 0, none⟩), .int .i64 i] w1 fun e w2 => e = .returned (.bool ok) ∧ Went B sb bk mark k (L + 1) nv vv F w w2) := by
  have hp := h.pair k hk
  rw [hP] at hp
  obtain ⟨nb, mv, rb, fv, xs, en, ev, hN, hR, hx, hF⟩ := hp.go
  refine ⟨nb, rb, en, ev, fun i => ?_⟩
  have hlo := hL k m hk hP
  have hxl := fst_len hx
  have hmv : ∀ {mv' : Value} {w1 : World}, Mv (NFt nb mv) (NFt nb mv') w w1 → Mv (SFt sb F) (NFt nb mv') w w1 := fun q => ⟨q.os, q.tape, q.output, q.size, fun i hi hnn => q.block i hi (fun e => hnn (.inr ⟨k, hk, (hF i).2 (.inl e)⟩)), fun i hi => (q.foot i hi).imp_left (fun e => .inr ⟨k, hk, (hF i).2 (.inl e)⟩)⟩
  by_cases hi : 0 ≤ i ∧ i < m.ms.length
  · obtain ⟨q, rfl⟩ : ∃ q : Nat, i = (q : Int) := ⟨i.toNat, by omega⟩
    refine (drop_some hN q (by omega)).mono fun e w1 ⟨he, mv', hN1, hM1⟩ => ⟨true, he, ⟨_, hmv hM1⟩, ?_⟩
    have hR1 := hR.later (fun q hq => hM1.block q (hR.ge q hq).2 (fun e => net_ref hN hR q e hq))
    refine (rdrop_some hR1 (Nat.le_trans hB hM1.size) q (by omega)).mono fun e w2 ⟨he2, fv', hR2, hM2⟩ => ⟨he2, ?_⟩
    exact h.went hk hL (Nat.le_succ L) en ev hN hF hR hN1 hM1 (Below.refl _ _) hR2 hM2 (by rw [fst_erase, hx]) (by omega)
  · refine (drop_none hN i hi).mono fun e w1 ⟨he, e1⟩ => ⟨false, he, ⟨SFt sb F, by rw [e1]; exact Mv.refl _ _⟩, ?_⟩
    rw [e1]
    refine (rdrop_none hR i (by rw [hxl]; exact hi)).mono fun e w2 ⟨he2, e2⟩ => ⟨he2, ?_⟩
    rw [e2]
    exact h.stay hL (Nat.le_succ L) hP (Below.refl _ _)
/-- Double, on both. -/
theorem StIs.doub (h : StIs w B sb bk mark P nv vv F) (hB : B ≤ w.heap.size) (hk : k < 2) (hL : LostLe P L) (hP : P k = some m) :
    ∃ nb rb, nv k = .pointer (some ⟨nb, 0, none⟩) ∧ vv k = .pointer (some ⟨rb, 0, none⟩) ∧ ∀ (i : Int),
      Calls Try.prog 15 #[.pointer (some ⟨nb, 0, none⟩), .int .i64 i] w fun e w1 => ∃ ok : Bool, e = .returned (.bool ok) ∧ (∃ G, Mv (SFt sb F) G w w1) ∧
        Hid (Calls Try.prog 47 #[.pointer (some ⟨rb, 0, none⟩), .int .i64 i] w1 fun e w2 => e = .returned (.bool ok) ∧ Went B sb bk mark k (L + 1) nv vv F w w2) := by
  have hp := h.pair k hk
  rw [hP] at hp
  obtain ⟨nb, mv, rb, fv, xs, en, ev, hN, hR, hx, hF⟩ := hp.go
  refine ⟨nb, rb, en, ev, fun i => ?_⟩
  have hlo := hL k m hk hP
  have hxl := fst_len hx
  have hmv : ∀ {mv' : Value} {w1 : World}, Mv (NFt nb mv) (NFt nb mv') w w1 → Mv (SFt sb F) (NFt nb mv') w w1 := fun q => ⟨q.os, q.tape, q.output, q.size, fun i hi hnn => q.block i hi (fun e => hnn (.inr ⟨k, hk, (hF i).2 (.inl e)⟩)), fun i hi => (q.foot i hi).imp_left (fun e => .inr ⟨k, hk, (hF i).2 (.inl e)⟩)⟩
  have hnot : ∀ w1, Below w.heap.size w w1 → ¬ (0 ≤ i ∧ i < m.ms.length ∧ m.ms.length < m.room) → Calls Try.prog 47 #[.pointer (some ⟨rb, 0, none⟩), .int .i64 i] w1 fun e w2 => e = .returned (.bool false) ∧ Went B sb bk mark k (L + 1) nv vv F w w2 := fun w1 hb hn =>
    (rdouble_not (hR.on hb) i (by rw [hxl]; exact hn)).mono fun e w2 ⟨he2, q, e2⟩ => ⟨he2, h.stay hL (Nat.le_succ L) hP (by rw [e2]; exact below_dN hb q)⟩
  by_cases hi : 0 ≤ i ∧ i < m.ms.length
  · obtain ⟨q, rfl⟩ : ∃ q : Nat, i = (q : Int) := ⟨i.toNat, by omega⟩
    by_cases hl : m.ms.length < m.room
    · obtain ⟨⟨x, s⟩, hm⟩ : ∃ z, m.ms[q]? = some z := ⟨_, List.getElem?_eq_getElem (by omega)⟩
      obtain ⟨v, hv⟩ := mem_fst hx q hm
      refine (double_some hN hB q x s hm hl).mono fun e w1 ⟨he, mv', hN1, hM1⟩ => ⟨true, he, ⟨_, hmv hM1⟩, ?_⟩
      have hR1 := hR.later (fun q hq => hM1.block q (hR.ge q hq).2 (fun e => net_ref hN hR q e hq))
      refine (rdouble_some hR1 (Nat.le_trans hB hM1.size) q x s v hv (by omega)).mono fun e w2 ⟨he2, fv', v', hR2, hM2⟩ => ⟨he2, ?_⟩
      exact h.went hk hL (Nat.le_succ L) en ev hN hF hR hN1 hM1 (Below.refl _ _) hR2 hM2 (by rw [List.map_append, hx]; rfl) (by omega)
    · refine (double_full hN q (by omega) hl).mono fun e w1 ⟨he, z, e1⟩ => ⟨false, he, ⟨_, Mv.of_below (by rw [e1]; exact below_dN (Below.refl _ _) z)⟩, ?_⟩
      exact hnot w1 (by rw [e1]; exact below_dN (Below.refl _ _) z) (fun hh => hl hh.2.2)
  · refine (double_none hN i hi).mono fun e w1 ⟨he, e1⟩ => ⟨false, he, ⟨SFt sb F, by rw [e1]; exact Mv.refl _ _⟩, ?_⟩
    exact hnot w1 (by rw [e1]; exact Below.refl _ _) (fun hh => hi ⟨hh.1, hh.2.1⟩)
/-- Len and Lost, on both. -/
theorem StIs.count (h : StIs w B sb bk mark P nv vv F) (hk : k < 2) (hP : P k = some m) :
    ∃ nb rb, nv k = .pointer (some ⟨nb, 0, none⟩) ∧ vv k = .pointer (some ⟨rb, 0, none⟩) ∧ Hid (Calls Try.prog 16 #[.pointer (some ⟨nb, 0, none⟩)] w fun e w' => e = .returned (.int .i64 (m.ms.length : Nat)) ∧ w' = w) ∧ Hid (Calls Try.prog 34 #[.pointer (some ⟨rb, 0, none⟩)] w fun e w' => e = .returned (.int .i64 (m.ms.length : Nat)) ∧ w' = w) ∧ Hid (Calls Try.prog 17 #[.pointer (some ⟨nb, 0, none⟩)] w fun e w' => e = .returned (.int .u64 (m.lost : Nat)) ∧ w' = w) ∧ Hid (Calls Try.prog 48 #[.pointer (some ⟨rb, 0, none⟩)] w fun e w' => e = .returned (.int .u64 (m.lost : Nat)) ∧ w' = w) := by
  have hp := h.pair k hk
  rw [hP] at hp
  obtain ⟨nb, mv, rb, fv, xs, en, ev, hN, hR, hx, hF⟩ := hp.go
  have hxl := fst_len hx
  have hrl := rlen_any hR
  rw [hxl] at hrl
  exact ⟨nb, rb, en, ev, len_any hN, hrl, lost_any hN, rlost_any hR⟩
end
end Go.Proofs.Ytdfhdneimoimmaa

/- The stage: plays, where nothing is marked. -/
namespace Go.Proofs.Ytdfhdneimoimmaa
open Go.RowKit
set_option maxRecDepth 100000
set_option maxRecDepth 100000

/-- What plays leaves. -/
def Played (B sb bk : Nat) (mark : Bool) (L : Nat) (F : Nat → Nat → Prop) (w w' : World) : Prop := ∃ P' nv' vv' F', StIs w' B sb bk mark P' nv' vv' F' ∧ Mv (SFt sb F) (SFt sb F') w w' ∧ LostLe P' L
theorem Went.played {B sb bk : Nat} {mark : Bool} {k L : Nat} {nv vv : Nat → Value} {F : Nat → Nat → Prop} {w w1 w' : World} (h : Went B sb bk mark k L nv vv F w1 w') (hb : Below w.heap.size w w1) : Played B sb bk mark L F w w' := by
  obtain ⟨P', F', h1, h2, h3, _⟩ := h.is
  exact ⟨P', nv, vv, F', h1, Mv.after hb h2, h3⟩
theorem row5_alloc (w : World) (a b c d e : Value) (t : TypeId) : (w.alloc (.cells #[a, b, c, d, e] t)).rowIs w.heap.size t 5 (fun i => (#[a, b, c, d, e])[i]!) :=
  World.rowIs_alloc w _ _ _ (fun i hi => by rw [getElem!_pos _ i hi, Array.getElem?_eq_getElem hi])
set_option maxHeartbeats 12800000 in
theorem plays_any {W00 w : World} {sb bk : Nat} {P : Nat → Option PM} {nv vv : Nat → Value} {F : Nat → Nat → Prop} {L : Nat} (h : StIs w W00.heap.size sb bk false P nv vv F) (hW : Below W00.heap.size W00 w) (hL : LostLe P L) (hl1 : L ≤ 1000) (dd wh at' to' : Int) (ba : Option Addr) (bl bc : Nat) (y : Nat → Nat) (hby : Byt W00 ba bl y) (hba : ba = none → bl = 0 ∧ bc = 0) (hbl : bl ≤ 140737488351232) (hy : ∀ j, j < bl → y j < 256) :
    Calls Try.prog 29 #[.pointer (some ⟨sb, 0, none⟩), .agg #[.int .i64 dd, .int .i64 wh, .int .i64 at', .int .i64 to', .slice ba bl bc]] w fun e w' => e = .returned (.bool true) ∧ Played W00.heap.size sb bk false (L + 1) F w w' := by
  obtain ⟨W1, HW1⟩ : ∃ W, Hid (w.alloc (.cells #[.int .i64 dd, .int .i64 wh, .int .i64 at', .int .i64 to', .slice ba bl bc] 91) = W) := ⟨_, rfl⟩
  have hb1 : Below w.heap.size w W1 := by rw [← HW1.out]; exact (Below.refl _ _).alloc (Nat.le_refl _) _
  have hr1 := row5_alloc w (.int .i64 dd) (.int .i64 wh) (.int .i64 at') (.int .i64 to') (.slice ba bl bc) 91
  rw [HW1.out] at hr1
  have hz1 : W1.heap.size = w.heap.size + 1 := by rw [← HW1.out]; simp
  have b0 : W1.cell? ⟨w.heap.size, 0, none⟩ = some (.int .i64 dd) := hr1.cell (i := 0) (by decide)
  have b1 : W1.cell? ⟨w.heap.size, 1, none⟩ = some (.int .i64 wh) := hr1.cell (i := 1) (by decide)
  have b2 : W1.cell? ⟨w.heap.size, 2, none⟩ = some (.int .i64 at') := hr1.cell (i := 2) (by decide)
  have b3 : W1.cell? ⟨w.heap.size, 3, none⟩ = some (.int .i64 to') := hr1.cell (i := 3) (by decide)
  have b4 : W1.cell? ⟨w.heap.size, 4, none⟩ = some (.slice ba bl bc) := hr1.cell (i := 4) (by decide)
  have h1 := h.on hb1
  have hW1 : Below W00.heap.size W00 W1 := hW.trans (hb1.mono hW.size)
  have hin := into_any wh 2 (by decide) (by decide) W1
  have HB1 : Hid (Below w.heap.size w W1) := hb1
  have HWW : Hid (Below W00.heap.size W00 W1) := hW1
  have HL : Hid (LostLe P L) := hL
  have HNB : Hid (¬ SFt sb F w.heap.size) := fun e => by have := (h.ge _ e).2; omega
  have HBY : Hid (Byt W00 ba bl y ∧ (ba = none → bl = 0 ∧ bc = 0) ∧ ∀ j, j < bl → y j < 256) := ⟨hby, hba, hy⟩
  have HC : Hid (∀ (W : World) (G : Nat → Prop), Mv (SFt sb F) G W1 W → W.cell? ⟨w.heap.size, 2, none⟩ = some (.int .i64 at') ∧ W.cell? ⟨w.heap.size, 3, none⟩ = some (.int .i64 to') ∧ W.cell? ⟨w.heap.size, 4, none⟩ = some (.slice ba bl bc)) := fun W G hM => by
    have hr := hr1.of_block (hM.block w.heap.size (by omega) HNB.out)
    exact ⟨hr.cell (i := 2) (by decide), hr.cell (i := 3) (by decide), hr.cell (i := 4) (by decide)⟩
  have HH : Hid (StIs W1 W00.heap.size sb bk false P nv vv F) := h1
  clear h hW hL hb1 hr1 hW1 hby hba hy hz1
  go_enter Try.func29, Try.ntmps29
  go_upto_region 1 with fail
  rw [HW1.out]
  go_wp2_with fail
  refine hin.mono ?_
  rintro e w2 ⟨e1, k, hk, rfl⟩
  subst e1
  have hkz : (k : Int) < 2 := by omega
  have cn := HH.out.cn hk
  have cv := HH.out.cv hk
  clear hin h1
  by_cases h6 : dd = 6
  · subst h6
    have hfr := fresh_any HH.out HWW.out.size k hk at'
    have HF : Hid (∀ w', (∃ nv' vv' F', StIs w' W00.heap.size sb bk false (upd P k (newP at')) nv' vv' F' ∧ Mv (SFt sb F) (SFt sb F') w2 w') → Played W00.heap.size sb bk false (L + 1) F w w') := fun w' ⟨nv', vv', F', q1, q2⟩ => ⟨_, nv', vv', F', q1, Mv.after HB1.out q2, fun j m hj e => by
      by_cases e2 : j = k
      · rw [e2, upd_at] at e
        unfold newP at e
        split at e
        · rw [← Option.some.inj e]; exact Nat.zero_le _
        · cases e
      · rw [upd_ne _ _ _ e2] at e
        have := HL.out j m hj e
        omega⟩
    clear cn cv
    go_wp2_with fail
    refine hfr.mono ?_
    rintro e w3 ⟨rfl, hq⟩
    have HE := HF.out w3 hq
    clear HF hq hfr
    go_wp2_with fail
    go_ret
    exact ⟨rfl, HE⟩
  · have h6b : (dd == 6) = false := by simpa using h6
    cases hP : P k with
    | none =>
      have hp := HH.out.pair k hk
      rw [hP] at hp
      obtain ⟨e1, e2, _⟩ := hp
      rw [e1] at cn
      rw [e2] at cv
      have HE : Hid (Played W00.heap.size sb bk false (L + 1) F w w2) := ⟨P, nv, vv, F, HH.out, Mv.of_below HB1.out, fun j m hj e => by have := HL.out j m hj e; omega⟩
      clear hP e1 e2
      go_wp2_with fail
      go_ret
      exact ⟨rfl, HE.out⟩
    | some m =>
      obtain ⟨nb, rb, en, ev, hSD⟩ := HH.out.count hk hP
      rw [en] at cn
      rw [ev] at cv
      have HEN : Hid (nv k = .pointer (some ⟨nb, 0, none⟩) ∧ vv k = .pointer (some ⟨rb, 0, none⟩)) := ⟨en, ev⟩
      have HP : Hid (P k = some m) := hP
      clear hSD en ev hP
      go_upto_block 0 with fail
      go_cut [8, 9, 10, 11, 12, 13, 14, 15, 16, 17] from 18 (fun s8 _ _ _ _ _ _ _ _ _ wx => s8 = .bool true ∧ Hid (Went W00.heap.size sb bk false k (L + 1) nv vv F w2 wx))
      case first =>
        by_cases d1 : dd = 1
        · obtain rfl : dd = 1 := d1
          have HS : Hid (∀ (w3 : World) (g cap : Nat) (f : Nat → Value), Lent w3 g bl cap y f → w2.heap.size ≤ g → Below w2.heap.size w2 w3 → Calls Try.prog 10 #[.pointer (some ⟨nb, 0, none⟩), .int .i64 to', .slice (some ⟨g, 0, none⟩) bl cap] w3.drew fun e w4 => ∃ ok : Bool, e = .returned (.bool ok) ∧ (w4.cell? ⟨w.heap.size, 3, none⟩ = some (.int .i64 to') ∧ w4.cell? ⟨w.heap.size, 4, none⟩ = some (.slice ba bl bc)) ∧
              Hid (Calls Try.prog 33 #[.pointer (some ⟨rb, 0, none⟩), .int .i64 to', .slice ba bl bc] w4 fun e w5 => e = .returned (.bool ok) ∧ (w5.cell? ⟨w.heap.size, 3, none⟩ = some (.int .i64 to') ∧ w5.cell? ⟨w.heap.size, 4, none⟩ = some (.slice ba bl bc)) ∧ Hid (Calls Try.prog 41 #[.slice (some ⟨g, 0, none⟩) bl cap, .slice ba bl bc] w5 fun e w6 => e = .returned (.bool true) ∧ w6 = w5) ∧
                Hid (Calls Try.prog 42 #[.slice (some ⟨g, 0, none⟩) bl cap] w5 fun e w6 => e = .returned (.tuple #[]) ∧ Went W00.heap.size sb bk false k (L + 1) nv vv F w2 w6))) := by
            intro w3 g cap f hLt hg hb3
            have h3 := HH.out.on hb3
            have h3d : StIs w3.drew W00.heap.size sb bk false P nv vv F := h3.later (fun _ _ => rfl)
            have hW3 : Below W00.heap.size W00 w3.drew := (HWW.out.trans (hb3.mono HWW.out.size)).drew
            have hby3 := HBY.out.1.on hW3
            have hgl := hLt.row.lt
            have hgF : ¬ SFt sb F g := fun e => by have := (HH.out.ge _ e).2; omega
            obtain ⟨nb', rb', en', ev', hc⟩ := h3d.send hW3.size hk HL.out hl1 HP.out
            obtain ⟨en, ev⟩ := HEN.out
            obtain rfl : nb = nb' := by rw [en] at en'; simpa using en'
            obtain rfl : rb = rb' := by rw [ev] at ev'; simpa using ev'
            refine (hc to' (some ⟨g, 0, none⟩) ba bl cap bc y hbl (hLt.drewN 1).byt (fun e => by cases e) hby3 (fun q e h0 => fun hf => ?_) HBY.out.2.2).mono fun e w4 ⟨ok, he, ⟨G, hM4⟩, hr⟩ => ⟨ok, he, ?_, hr.out.mono fun e w5 ⟨he5, hWt⟩ => ?_⟩
            · obtain ⟨q', off, e', hcc⟩ := HBY.out.1 0 h0
              rw [e] at e'
              have : q = ⟨q', off, none⟩ := Option.some.inj e'
              have h1 := World.block_lt_of_cell? _ _ hcc
              have h2 := (h3d.ge _ hf).1
              rw [this] at h2
              have h2 : W00.heap.size ≤ q' := h2
              have h1 : q' < W00.heap.size := h1
              omega
            · have hM : Mv (SFt sb F) G w2 w4 := Mv.after (w1 := w3.drew) ⟨hb3.os, hb3.tape, hb3.output, hb3.size, hb3.block⟩ hM4
              exact (HC.out w4 G hM).2
            · obtain ⟨P', F', s1, s2, s3, s4⟩ := hWt.is
              have hM : Mv (SFt sb F) (SFt sb F') w2 w5 := Mv.after (w1 := w3.drew) ⟨hb3.os, hb3.tape, hb3.output, hb3.size, hb3.block⟩ s2
              have hg5 : w5.heap[g]? = w3.heap[g]? := s2.block g hgl hgF
              have hL5 : Lent w5 g bl cap y f := ⟨hLt.row.of_block hg5, hLt.room, hLt.cap, hLt.byte, hLt.k0, hLt.k1, hLt.k2⟩
              have hW5 : Below W00.heap.size W00 w5 := s2.below hW3 hW3.size (fun q hq => (h3d.ge q hq).1)
              refine ⟨he5, (HC.out w5 _ hM).2, intact_any g bl cap y f ba bc w5 hL5 (HBY.out.1.on hW5) (fun e => (HBY.out.2.1 e).1) hbl, (over_any g bl cap cap f w5 hL5.row (by have := hLt.room; omega) (by omega)).mono fun e w6 ⟨he6, _, hz6, hk6⟩ => ⟨he6, P', F', s1.later (fun q hq => hk6 q (fun e => ?_)), ⟨hz6.1.trans hM.os, hz6.2.1.trans hM.tape, hz6.2.2.1.trans hM.output, by rw [hz6.2.2.2]; exact hM.size, fun q hq hn => (hk6 q (by omega)).trans (hM.block q hq hn), hM.foot⟩, s3, s4⟩⟩
              rcases s2.foot q hq with e2 | e2
              · exact hgF (e ▸ e2)
              · have : w3.heap.size ≤ q := e2
                omega
          have hln := lend_any ba bl bc y w2 hbl (HBY.out.1.on HWW.out) (HBY.out.2.1)
          clear b1 b2 cn cv
          go_wp2_with fail
          refine hln.mono ?_
          rintro e w3 ⟨g, cap, f, rfl, hg, hs3, hLt⟩
          have hb3 := since_below hs3
          have hsd := HS.out w3 g cap f hLt hg hb3
          have v3 : w3.cell? ⟨w.heap.size, 3, none⟩ = some (.int .i64 to') := cel_on hb3 b3
          have v4 : w3.cell? ⟨w.heap.size, 4, none⟩ = some (.slice ba bl bc) := cel_on hb3 b4
          have HSD : Hid (Calls Try.prog 10 #[.pointer (some ⟨nb, 0, none⟩), .int .i64 to', .slice (some ⟨g, 0, none⟩) bl cap] w3.drew fun e w4 => ∃ ok : Bool, e = .returned (.bool ok) ∧ (w4.cell? ⟨w.heap.size, 3, none⟩ = some (.int .i64 to') ∧ w4.cell? ⟨w.heap.size, 4, none⟩ = some (.slice ba bl bc)) ∧
              Hid (Calls Try.prog 33 #[.pointer (some ⟨rb, 0, none⟩), .int .i64 to', .slice ba bl bc] w4 fun e w5 => e = .returned (.bool ok) ∧ (w5.cell? ⟨w.heap.size, 3, none⟩ = some (.int .i64 to') ∧ w5.cell? ⟨w.heap.size, 4, none⟩ = some (.slice ba bl bc)) ∧ Hid (Calls Try.prog 41 #[.slice (some ⟨g, 0, none⟩) bl cap, .slice ba bl bc] w5 fun e w6 => e = .returned (.bool true) ∧ w6 = w5) ∧
                Hid (Calls Try.prog 42 #[.slice (some ⟨g, 0, none⟩) bl cap] w5 fun e w6 => e = .returned (.tuple #[]) ∧ Went W00.heap.size sb bk false k (L + 1) nv vv F w2 w6))) := hsd
          clear hsd hs3 hLt hb3 hln HS b3 b4 b0
          go_upto_region 12 with fail
          go_region_held3 (fun W => W.cell? ⟨w.heap.size, 3, none⟩ = some (.int .i64 to') ∧ W.cell? ⟨w.heap.size, 4, none⟩ = some (.slice ba bl bc))
            (first | exact ⟨v3, v4⟩ | exact hv4 | exact hv5)
            (first
              | (go_at_call 10; with_reducible refine HSD.out.mono ?_; rintro e w4 ⟨ok, rfl, hv4, HRS⟩)
              | (go_at_call 33; with_reducible refine HRS.out.mono ?_; rintro e w5 ⟨rfl, hv5, HIN, HOV⟩)
              | (go_at_call 41; with_reducible refine HIN.out.mono ?_; rintro e w6 ⟨rfl, rfl⟩))
          all_goals
            go_wp2_with fail
            refine HOV.out.mono ?_
            rintro e w7 ⟨rfl, hG7⟩
            have HG7 : Hid (Went W00.heap.size sb bk false k (L + 1) nv vv F w2 w7) := hG7
            clear HSD HRS HIN HOV hv4 hv5 hG7
            go_wp2_with fail
            go_meet
            case rel => go_light; exact ⟨rfl, HG7⟩
        by_cases d2 : dd = 2
        · obtain rfl : dd = 2 := d2
          have HS : Hid (∀ Wc, Below w2.heap.size w2 Wc → Calls Try.prog 27 #[.pointer (some ⟨nb, 0, none⟩), .int .i64 at'] Wc fun e w4 => ∃ (x : Int) (fa : Option Addr) (n fc : Nat) (ok : Bool), e = .returned (.tuple #[.agg #[.int .i64 x, .slice fa n fc], .bool ok]) ∧ (∀ q, w2.heap.size ≤ q → q < Wc.heap.size → w4.heap[q]? = Wc.heap[q]?) ∧ Wc.heap.size ≤ w4.heap.size ∧
              Hid (∀ W fb, Fr fb w4 W → w2.heap.size ≤ fb → (fb < Wc.heap.size ∨ w4.heap.size ≤ fb) → W.rowIs fb 46 2 (fun i => if i = 0 then .int .i64 x else .slice fa n fc) → W.cell? ⟨w.heap.size, 2, none⟩ = some (.int .i64 at') ∧ Hid (Calls Try.prog 43 #[.pointer (some ⟨rb, 0, none⟩), .int .i64 at'] W fun e w5 => ∃ (b : Option Addr) (d : Nat), e = .returned (.tuple #[.agg #[.int .i64 x, .slice b n d], .bool ok]) ∧ Hid (∀ W', Below w5.heap.size w5 W' → W'.cell? ⟨fb, 0, none⟩ = some (.int .i64 x) ∧ W'.cell? ⟨fb, 1, none⟩ = some (.slice fa n fc) ∧ Hid (Calls Try.prog 44 #[.pointer (some ⟨sb, 0, none⟩), .agg #[.int .i64 x, .slice fa n fc], .bool ok, .agg #[.int .i64 x, .slice b n d], .bool ok] W' fun e w6 => e = .returned (.bool true) ∧ Went W00.heap.size sb bk false k (L + 1) nv vv F w2 w6))))) := by
            intro Wc hWc
            obtain ⟨nb', rb', en', ev', hc⟩ := HH.out.look hk HP.out
            obtain ⟨en, ev⟩ := HEN.out
            obtain rfl : nb = nb' := by rw [en] at en'; simpa using en'
            obtain rfl : rb = rb' := by rw [ev] at ev'; simpa using ev'
            refine (hc at' Wc hWc).mono fun e w4 ⟨x, fa, n, fc, ok, yy, he, hB4, hn, hfa, hb4, hr⟩ => ⟨x, fa, n, fc, ok, he, fun q _ hq => hb4.block q hq, hb4.size, fun W fb hf hfb hfb2 hrow => ?_⟩
            have z1 := hWc.size
            have z2 := hb4.size
            have z3 := hf.size
            have hb2W : Below w2.heap.size w2 W := ⟨hf.os.trans (hb4.os.trans hWc.os), hf.tape.trans (hb4.tape.trans hWc.tape), hf.output.trans (hb4.output.trans hWc.output), by omega, fun q hq => (hf.block q (by omega) (by omega)).trans ((hb4.block q (by omega)).trans (hWc.block q hq))⟩
            have hBW : Byt W fa n yy := hB4.fr hf (fun q e => by have := hfa q e; omega)
            refine ⟨(HC.out W _ (Mv.of_below hb2W)).1, (hr.out W fb hf hfb).mono fun e w5 ⟨b, d, he5, hB5, hb5⟩ => ⟨b, d, he5, fun W' hW' => ?_⟩⟩
            have hbW' : Below W.heap.size W W' := hb5.trans (hW'.mono hb5.size)
            have hr' := hrow.of_block (hbW'.block fb hrow.lt)
            have hb2' : Below w2.heap.size w2 W' := hb2W.trans (hbW'.mono hb2W.size)
            exact ⟨hr'.cell (i := 0) (by decide), hr'.cell (i := 1) (by decide), (told_any (HH.out.on hb2') x ok fa b n fc d yy (hBW.on hbW') (hB5.on hW') (by omega)).mono fun e w6 ⟨he6, hb6⟩ => ⟨he6, HH.out.stay HL.out (Nat.le_succ L) HP.out (hb2'.trans (hb6.mono hb2'.size))⟩⟩
          have hbd : Below w2.heap.size w2 w2.drew := (Below.refl _ _).drew
          have hba : Below w2.heap.size w2 (w2.alloc (.cells #[.int .i64 0, .slice none 0 0] 46)).drew := ((Below.refl _ _).alloc (Nat.le_refl _) _).drew
          have hraw : (w2.alloc (.cells #[.int .i64 0, .slice none 0 0] 46)).drew.rowIs w2.heap.size 46 2 (fun i => (#[Value.int .i64 0, .slice none 0 0])[i]!) := flZ_row w2
          have hza : (w2.alloc (.cells #[.int .i64 0, .slice none 0 0] 46)).drew.heap.size = w2.heap.size + 1 := by simp
          have HA : Hid (Calls Try.prog 27 #[.pointer (some ⟨nb, 0, none⟩), .int .i64 at'] (w2.alloc (.cells #[.int .i64 0, .slice none 0 0] 46)).drew fun e w4 => ∃ (x : Int) (fa : Option Addr) (n fc : Nat) (ok : Bool), e = .returned (.tuple #[.agg #[.int .i64 x, .slice fa n fc], .bool ok]) ∧ w4.cell? ⟨w2.heap.size, 0, none⟩ = some (.int .i64 0) ∧ w4.cell? ⟨w2.heap.size, 1, none⟩ = some (.slice none 0 0) ∧ w4.frozen? ⟨w2.heap.size, 0, none⟩ = false ∧ w4.frozen? ⟨w2.heap.size, 1, none⟩ = false ∧
              Hid (((w4.setCell ⟨w2.heap.size, 0, none⟩ (.int .i64 x)).setCell ⟨w2.heap.size, 1, none⟩ (.slice fa n fc)).cell? ⟨w.heap.size, 2, none⟩ = some (.int .i64 at') ∧ Hid (Calls Try.prog 43 #[.pointer (some ⟨rb, 0, none⟩), .int .i64 at'] ((w4.setCell ⟨w2.heap.size, 0, none⟩ (.int .i64 x)).setCell ⟨w2.heap.size, 1, none⟩ (.slice fa n fc)) fun e w5 => ∃ (b : Option Addr) (d : Nat), e = .returned (.tuple #[.agg #[.int .i64 x, .slice b n d], .bool ok]) ∧ Hid (∀ W', Below w5.heap.size w5 W' → W'.cell? ⟨w2.heap.size, 0, none⟩ = some (.int .i64 x) ∧ W'.cell? ⟨w2.heap.size, 1, none⟩ = some (.slice fa n fc) ∧ Hid (Calls Try.prog 44 #[.pointer (some ⟨sb, 0, none⟩), .agg #[.int .i64 x, .slice fa n fc], .bool ok, .agg #[.int .i64 x, .slice b n d], .bool ok] W' fun e w6 => e = .returned (.bool true) ∧ Went W00.heap.size sb bk false k (L + 1) nv vv F w2 w6))))) := (HS.out _ hba).mono fun e w4 ⟨x, fa, n, fc, ok, he, hk4, hz4, hr⟩ => by
            have hr4 := hraw.of_block (hk4 _ (Nat.le_refl _) (by omega))
            refine ⟨x, fa, n, fc, ok, he, hr4.cell (i := 0) (by decide), hr4.cell (i := 1) (by decide), hr4.frozen 0, hr4.frozen 1, hr.out _ w2.heap.size ⟨rfl, rfl, rfl, by simp [World.setCell], fun q hq hne => (Below.heap_setCell _ _ _ _ hne).trans (Below.heap_setCell _ _ _ _ hne)⟩ (Nat.le_refl _) (.inl (by omega)) ?_⟩
            refine ((hr4.set 0 (.int .i64 x)).set 1 (.slice fa n fc)).congr (fun i hi => ?_)
            match i, hi with
            | 0, _ => rfl
            | 1, _ => rfl
          have HBD : Hid (Calls Try.prog 27 #[.pointer (some ⟨nb, 0, none⟩), .int .i64 at'] w2.drew fun e w4 => ∃ (x : Int) (fa : Option Addr) (n fc : Nat) (ok : Bool), e = .returned (.tuple #[.agg #[.int .i64 x, .slice fa n fc], .bool ok]) ∧
              Hid ((w4.alloc (.cells #[.int .i64 x, .slice fa n fc] 46)).cell? ⟨w.heap.size, 2, none⟩ = some (.int .i64 at') ∧ Hid (Calls Try.prog 43 #[.pointer (some ⟨rb, 0, none⟩), .int .i64 at'] (w4.alloc (.cells #[.int .i64 x, .slice fa n fc] 46)) fun e w5 => ∃ (b : Option Addr) (d : Nat), e = .returned (.tuple #[.agg #[.int .i64 x, .slice b n d], .bool ok]) ∧ Hid (∀ W', Below w5.heap.size w5 W' → W'.cell? ⟨w4.heap.size, 0, none⟩ = some (.int .i64 x) ∧ W'.cell? ⟨w4.heap.size, 1, none⟩ = some (.slice fa n fc) ∧ Hid (Calls Try.prog 44 #[.pointer (some ⟨sb, 0, none⟩), .agg #[.int .i64 x, .slice fa n fc], .bool ok, .agg #[.int .i64 x, .slice b n d], .bool ok] W' fun e w6 => e = .returned (.bool true) ∧ Went W00.heap.size sb bk false k (L + 1) nv vv F w2 w6))))) := (HS.out _ hbd).mono fun e w4 ⟨x, fa, n, fc, ok, he, hk4, hz4, hr⟩ =>
            ⟨x, fa, n, fc, ok, he, hr.out _ w4.heap.size (Fr.of_below ((Below.refl _ _).alloc (Nat.le_refl _) _)) hz4 (.inr (Nat.le_refl _)) (row2_alloc w4 _ _ _)⟩
          have b2d : w2.drew.cell? ⟨w.heap.size, 2, none⟩ = some (.int .i64 at') := b2
          have b2e : (w2.alloc (.cells #[.int .i64 0, .slice none 0 0] 46)).drew.cell? ⟨w.heap.size, 2, none⟩ = some (.int .i64 at') := cel_on hba b2
          have b2f : (w2.alloc (.cells #[.int .i64 0, .slice none 0 0] 46)).cell? ⟨w.heap.size, 2, none⟩ = some (.int .i64 at') := b2e
          clear b0 b1 b3 b4 cn cv HS hbd hba hraw hza
          go_upto_region 15 with fail
          go_cut [10, 11] from 18 (fun s10 s11 wx => ∃ (x : Int) (fa : Option Addr) (n fc : Nat) (ok : Bool) (fb : Nat), s10 = .pointer (some ⟨fb, 0, none⟩) ∧ s11 = .bool ok ∧ Hid (wx.cell? ⟨w.heap.size, 2, none⟩ = some (.int .i64 at') ∧ Hid (Calls Try.prog 43 #[.pointer (some ⟨rb, 0, none⟩), .int .i64 at'] wx fun e w5 => ∃ (b : Option Addr) (d : Nat), e = .returned (.tuple #[.agg #[.int .i64 x, .slice b n d], .bool ok]) ∧ Hid (∀ W', Below w5.heap.size w5 W' → W'.cell? ⟨fb, 0, none⟩ = some (.int .i64 x) ∧ W'.cell? ⟨fb, 1, none⟩ = some (.slice fa n fc) ∧ Hid (Calls Try.prog 44 #[.pointer (some ⟨sb, 0, none⟩), .agg #[.int .i64 x, .slice fa n fc], .bool ok, .agg #[.int .i64 x, .slice b n d], .bool ok] W' fun e w6 => e = .returned (.bool true) ∧ Went W00.heap.size sb bk false k (L + 1) nv vv F w2 w6)))))
          case first =>
            go_region_law (first
              | (go_simp; go_at_call 27; with_reducible refine HA.out.mono ?_; rintro e w4 ⟨x, fa, n, fc, ok, rfl, x0, x1, z0, z1, HRS⟩)
              | (go_simp; go_at_call 27; with_reducible refine HBD.out.mono ?_; rintro e w4 ⟨x, fa, n, fc, ok, rfl, HRS⟩))
            all_goals
              go_wp2_with fail
              go_meet
              case rel => go_light; exact ⟨x, fa, n, fc, ok, _, rfl, rfl, HRS⟩
          case rest =>
            obtain ⟨x, fa, n, fc, ok, fb, rfl, rfl, HX⟩ := hcut
            obtain ⟨b2, HRF⟩ := HX.out
            clear HX b2d b2e b2f HA HBD
            go_wp2_with fail
            refine HRF.out.mono ?_
            rintro e w5 ⟨gb, gd, rfl, HTD⟩
            obtain ⟨W6, HW6⟩ : ∃ W, Hid (w5.alloc (.cells #[.int .i64 x, .slice gb n gd] 46) = W) := ⟨_, rfl⟩
            have hb6 : Below w5.heap.size w5 W6 := by rw [← HW6.out]; exact (Below.refl _ _).alloc (Nat.le_refl _) _
            have hr6 := row2_alloc w5 (.int .i64 x) (.slice gb n gd) 46
            rw [HW6.out] at hr6
            have v0 : W6.cell? ⟨w5.heap.size, 0, none⟩ = some (.int .i64 x) := hr6.cell (i := 0) (by decide)
            have v1 : W6.cell? ⟨w5.heap.size, 1, none⟩ = some (.slice gb n gd) := hr6.cell (i := 1) (by decide)
            obtain ⟨u0, u1, HT⟩ := HTD.out W6 hb6
            clear HTD hb6 hr6 HRF
            go_upto_region 17 with fail
            rw [HW6.out]
            go_wp2_with fail
            refine HT.out.mono ?_
            rintro e w7 ⟨rfl, hG⟩
            have HG7 : Hid (Went W00.heap.size sb bk false k (L + 1) nv vv F w2 w7) := hG
            clear hG HT u0 u1 v0 v1
            go_wp2_with fail
            go_meet
            case rel => go_light; exact ⟨rfl, HG7⟩
        by_cases d3 : dd = 3
        · obtain rfl : dd = 3 := d3
          have HS : Hid (∀ Wc, Below w2.heap.size w2 Wc → Calls Try.prog 13 #[.pointer (some ⟨nb, 0, none⟩), .int .i64 at'] Wc fun e w4 => ∃ (x : Int) (fa : Option Addr) (n fc : Nat) (ok : Bool), e = .returned (.tuple #[.agg #[.int .i64 x, .slice fa n fc], .bool ok]) ∧ (∀ q, w2.heap.size ≤ q → q < Wc.heap.size → w4.heap[q]? = Wc.heap[q]?) ∧ Wc.heap.size ≤ w4.heap.size ∧
              Hid (∀ W fb, Fr fb w4 W → w2.heap.size ≤ fb → (fb < Wc.heap.size ∨ w4.heap.size ≤ fb) → W.rowIs fb 46 2 (fun i => if i = 0 then .int .i64 x else .slice fa n fc) → W.cell? ⟨w.heap.size, 2, none⟩ = some (.int .i64 at') ∧ Hid (Calls Try.prog 45 #[.pointer (some ⟨rb, 0, none⟩), .int .i64 at'] W fun e w5 => ∃ (b : Option Addr) (d : Nat), e = .returned (.tuple #[.agg #[.int .i64 x, .slice b n d], .bool ok]) ∧ Hid (∀ W', Below w5.heap.size w5 W' → W'.cell? ⟨fb, 0, none⟩ = some (.int .i64 x) ∧ W'.cell? ⟨fb, 1, none⟩ = some (.slice fa n fc) ∧ Hid (Calls Try.prog 44 #[.pointer (some ⟨sb, 0, none⟩), .agg #[.int .i64 x, .slice fa n fc], .bool ok, .agg #[.int .i64 x, .slice b n d], .bool ok] W' fun e w6 => e = .returned (.bool true) ∧ Went W00.heap.size sb bk false k (L + 1) nv vv F w2 w6))))) := by
            intro Wc hWc
            obtain ⟨nb', rb', en', ev', hc⟩ := HH.out.take HWW.out.size hk HL.out HP.out
            obtain ⟨en, ev⟩ := HEN.out
            obtain rfl : nb = nb' := by rw [en] at en'; simpa using en'
            obtain rfl : rb = rb' := by rw [ev] at ev'; simpa using ev'
            refine (hc at' Wc hWc).mono fun e w4 ⟨x, fa, n, fc, ok, yy, he, hB4, hn, hfa, ⟨G, hM4⟩, hr⟩ => ⟨x, fa, n, fc, ok, he, fun q hq hq2 => hM4.block q hq2 (fun e => by have := (HH.out.ge q e).2; omega), hM4.size, fun W fb hf hfb hfb2 hrow => ?_⟩
            have z1 := hWc.size
            have z2 := hM4.size
            have z3 := hf.size
            have hM2W : Mv (SFt sb F) (fun _ => False) w2 W := ⟨hf.os.trans (hM4.os.trans hWc.os), hf.tape.trans (hM4.tape.trans hWc.tape), hf.output.trans (hM4.output.trans hWc.output), by omega, fun q hq hn => (hf.block q (by omega) (by omega)).trans ((hM4.block q (by omega) hn).trans (hWc.block q hq)), fun q hq => hq.elim⟩
            have hBW : Byt W fa n yy := hB4.fr hf (fun q e => by have := hfa q e; omega)
            refine ⟨(HC.out W _ hM2W).1, (hr.out W fb hf hfb hfb2).mono fun e w5 ⟨b, d, he5, hB5, hWt, hk5⟩ => ⟨b, d, he5, fun W' hW' => ?_⟩⟩
            obtain ⟨P', F', s1, s2, s3, s4⟩ := hWt.is
            have hr' := (hrow.of_block (hk5 fb hfb hrow.lt)).of_block (hW'.block fb (by have := (hrow.of_block (hk5 fb hfb hrow.lt)).lt; omega))
            have hB4' : Byt W' fa n yy := fun j hj => by
              obtain ⟨q, off, e, hcc⟩ := hBW j hj
              have hlt := World.block_lt_of_cell? _ _ hcc
              have hge : Wc.heap.size ≤ q := (hfa _ e).1
              have h5 : w5.cell? ⟨q, off + j, none⟩ = some (.int .u8 (yy j : Nat)) := by rw [World.cell?_of_block (w := W) (a := ⟨q, off + j, none⟩) (hk5 q (Nat.le_trans z1 hge) hlt)]; exact hcc
              exact ⟨q, off, e, cel_on hW' h5⟩
            exact ⟨hr'.cell (i := 0) (by decide), hr'.cell (i := 1) (by decide), (told_any (s1.on hW') x ok fa b n fc d yy hB4' (hB5.on hW') (by omega)).mono fun e w6 ⟨he6, hb6⟩ => ⟨he6, P', F', s1.on (hW'.trans (hb6.mono hW'.size)), s2.below2 (hW'.trans (hb6.mono hW'.size)), s3, s4⟩⟩
          have hbd : Below w2.heap.size w2 w2.drew := (Below.refl _ _).drew
          have hba : Below w2.heap.size w2 (w2.alloc (.cells #[.int .i64 0, .slice none 0 0] 46)).drew := ((Below.refl _ _).alloc (Nat.le_refl _) _).drew
          have hraw : (w2.alloc (.cells #[.int .i64 0, .slice none 0 0] 46)).drew.rowIs w2.heap.size 46 2 (fun i => (#[Value.int .i64 0, .slice none 0 0])[i]!) := flZ_row w2
          have hza : (w2.alloc (.cells #[.int .i64 0, .slice none 0 0] 46)).drew.heap.size = w2.heap.size + 1 := by simp
          have HA : Hid (Calls Try.prog 13 #[.pointer (some ⟨nb, 0, none⟩), .int .i64 at'] (w2.alloc (.cells #[.int .i64 0, .slice none 0 0] 46)).drew fun e w4 => ∃ (x : Int) (fa : Option Addr) (n fc : Nat) (ok : Bool), e = .returned (.tuple #[.agg #[.int .i64 x, .slice fa n fc], .bool ok]) ∧ w4.cell? ⟨w2.heap.size, 0, none⟩ = some (.int .i64 0) ∧ w4.cell? ⟨w2.heap.size, 1, none⟩ = some (.slice none 0 0) ∧ w4.frozen? ⟨w2.heap.size, 0, none⟩ = false ∧ w4.frozen? ⟨w2.heap.size, 1, none⟩ = false ∧
              Hid (((w4.setCell ⟨w2.heap.size, 0, none⟩ (.int .i64 x)).setCell ⟨w2.heap.size, 1, none⟩ (.slice fa n fc)).cell? ⟨w.heap.size, 2, none⟩ = some (.int .i64 at') ∧ Hid (Calls Try.prog 45 #[.pointer (some ⟨rb, 0, none⟩), .int .i64 at'] ((w4.setCell ⟨w2.heap.size, 0, none⟩ (.int .i64 x)).setCell ⟨w2.heap.size, 1, none⟩ (.slice fa n fc)) fun e w5 => ∃ (b : Option Addr) (d : Nat), e = .returned (.tuple #[.agg #[.int .i64 x, .slice b n d], .bool ok]) ∧ Hid (∀ W', Below w5.heap.size w5 W' → W'.cell? ⟨w2.heap.size, 0, none⟩ = some (.int .i64 x) ∧ W'.cell? ⟨w2.heap.size, 1, none⟩ = some (.slice fa n fc) ∧ Hid (Calls Try.prog 44 #[.pointer (some ⟨sb, 0, none⟩), .agg #[.int .i64 x, .slice fa n fc], .bool ok, .agg #[.int .i64 x, .slice b n d], .bool ok] W' fun e w6 => e = .returned (.bool true) ∧ Went W00.heap.size sb bk false k (L + 1) nv vv F w2 w6))))) := (HS.out _ hba).mono fun e w4 ⟨x, fa, n, fc, ok, he, hk4, hz4, hr⟩ => by
            have hr4 := hraw.of_block (hk4 _ (Nat.le_refl _) (by omega))
            refine ⟨x, fa, n, fc, ok, he, hr4.cell (i := 0) (by decide), hr4.cell (i := 1) (by decide), hr4.frozen 0, hr4.frozen 1, hr.out _ w2.heap.size ⟨rfl, rfl, rfl, by simp [World.setCell], fun q hq hne => (Below.heap_setCell _ _ _ _ hne).trans (Below.heap_setCell _ _ _ _ hne)⟩ (Nat.le_refl _) (.inl (by omega)) ?_⟩
            refine ((hr4.set 0 (.int .i64 x)).set 1 (.slice fa n fc)).congr (fun i hi => ?_)
            match i, hi with
            | 0, _ => rfl
            | 1, _ => rfl
          have HBD : Hid (Calls Try.prog 13 #[.pointer (some ⟨nb, 0, none⟩), .int .i64 at'] w2.drew fun e w4 => ∃ (x : Int) (fa : Option Addr) (n fc : Nat) (ok : Bool), e = .returned (.tuple #[.agg #[.int .i64 x, .slice fa n fc], .bool ok]) ∧
              Hid ((w4.alloc (.cells #[.int .i64 x, .slice fa n fc] 46)).cell? ⟨w.heap.size, 2, none⟩ = some (.int .i64 at') ∧ Hid (Calls Try.prog 45 #[.pointer (some ⟨rb, 0, none⟩), .int .i64 at'] (w4.alloc (.cells #[.int .i64 x, .slice fa n fc] 46)) fun e w5 => ∃ (b : Option Addr) (d : Nat), e = .returned (.tuple #[.agg #[.int .i64 x, .slice b n d], .bool ok]) ∧ Hid (∀ W', Below w5.heap.size w5 W' → W'.cell? ⟨w4.heap.size, 0, none⟩ = some (.int .i64 x) ∧ W'.cell? ⟨w4.heap.size, 1, none⟩ = some (.slice fa n fc) ∧ Hid (Calls Try.prog 44 #[.pointer (some ⟨sb, 0, none⟩), .agg #[.int .i64 x, .slice fa n fc], .bool ok, .agg #[.int .i64 x, .slice b n d], .bool ok] W' fun e w6 => e = .returned (.bool true) ∧ Went W00.heap.size sb bk false k (L + 1) nv vv F w2 w6))))) := (HS.out _ hbd).mono fun e w4 ⟨x, fa, n, fc, ok, he, hk4, hz4, hr⟩ =>
            ⟨x, fa, n, fc, ok, he, hr.out _ w4.heap.size (Fr.of_below ((Below.refl _ _).alloc (Nat.le_refl _) _)) hz4 (.inr (Nat.le_refl _)) (row2_alloc w4 _ _ _)⟩
          have b2d : w2.drew.cell? ⟨w.heap.size, 2, none⟩ = some (.int .i64 at') := b2
          have b2e : (w2.alloc (.cells #[.int .i64 0, .slice none 0 0] 46)).drew.cell? ⟨w.heap.size, 2, none⟩ = some (.int .i64 at') := cel_on hba b2
          have b2f : (w2.alloc (.cells #[.int .i64 0, .slice none 0 0] 46)).cell? ⟨w.heap.size, 2, none⟩ = some (.int .i64 at') := b2e
          clear b0 b1 b3 b4 cn cv HS hbd hba hraw hza
          go_upto_region 19 with fail
          go_cut [14, 15] from 18 (fun s10 s11 wx => ∃ (x : Int) (fa : Option Addr) (n fc : Nat) (ok : Bool) (fb : Nat), s10 = .pointer (some ⟨fb, 0, none⟩) ∧ s11 = .bool ok ∧ Hid (wx.cell? ⟨w.heap.size, 2, none⟩ = some (.int .i64 at') ∧ Hid (Calls Try.prog 45 #[.pointer (some ⟨rb, 0, none⟩), .int .i64 at'] wx fun e w5 => ∃ (b : Option Addr) (d : Nat), e = .returned (.tuple #[.agg #[.int .i64 x, .slice b n d], .bool ok]) ∧ Hid (∀ W', Below w5.heap.size w5 W' → W'.cell? ⟨fb, 0, none⟩ = some (.int .i64 x) ∧ W'.cell? ⟨fb, 1, none⟩ = some (.slice fa n fc) ∧ Hid (Calls Try.prog 44 #[.pointer (some ⟨sb, 0, none⟩), .agg #[.int .i64 x, .slice fa n fc], .bool ok, .agg #[.int .i64 x, .slice b n d], .bool ok] W' fun e w6 => e = .returned (.bool true) ∧ Went W00.heap.size sb bk false k (L + 1) nv vv F w2 w6)))))
          case first =>
            go_region_law (first
              | (go_simp; go_at_call 13; with_reducible refine HA.out.mono ?_; rintro e w4 ⟨x, fa, n, fc, ok, rfl, x0, x1, z0, z1, HRS⟩)
              | (go_simp; go_at_call 13; with_reducible refine HBD.out.mono ?_; rintro e w4 ⟨x, fa, n, fc, ok, rfl, HRS⟩))
            all_goals
              go_wp2_with fail
              go_meet
              case rel => go_light; exact ⟨x, fa, n, fc, ok, _, rfl, rfl, HRS⟩
          case rest =>
            obtain ⟨x, fa, n, fc, ok, fb, rfl, rfl, HX⟩ := hcut
            obtain ⟨b2, HRF⟩ := HX.out
            clear HX b2d b2e b2f HA HBD
            go_wp2_with fail
            refine HRF.out.mono ?_
            rintro e w5 ⟨gb, gd, rfl, HTD⟩
            obtain ⟨W6, HW6⟩ : ∃ W, Hid (w5.alloc (.cells #[.int .i64 x, .slice gb n gd] 46) = W) := ⟨_, rfl⟩
            have hb6 : Below w5.heap.size w5 W6 := by rw [← HW6.out]; exact (Below.refl _ _).alloc (Nat.le_refl _) _
            have hr6 := row2_alloc w5 (.int .i64 x) (.slice gb n gd) 46
            rw [HW6.out] at hr6
            have v0 : W6.cell? ⟨w5.heap.size, 0, none⟩ = some (.int .i64 x) := hr6.cell (i := 0) (by decide)
            have v1 : W6.cell? ⟨w5.heap.size, 1, none⟩ = some (.slice gb n gd) := hr6.cell (i := 1) (by decide)
            obtain ⟨u0, u1, HT⟩ := HTD.out W6 hb6
            clear HTD hb6 hr6 HRF
            go_upto_region 21 with fail
            rw [HW6.out]
            go_wp2_with fail
            refine HT.out.mono ?_
            rintro e w7 ⟨rfl, hG⟩
            have HG7 : Hid (Went W00.heap.size sb bk false k (L + 1) nv vv F w2 w7) := hG
            clear hG HT u0 u1 v0 v1
            go_wp2_with fail
            go_meet
            case rel => go_light; exact ⟨rfl, HG7⟩
        by_cases d4 : dd = 4
        · obtain rfl : dd = 4 := d4
          have HS : Hid (Calls Try.prog 12 #[.pointer (some ⟨nb, 0, none⟩), .int .i64 at'] w2.drew fun e w4 => ∃ ok : Bool, e = .returned (.bool ok) ∧ w4.cell? ⟨w.heap.size, 2, none⟩ = some (.int .i64 at') ∧
              Hid (Calls Try.prog 46 #[.pointer (some ⟨rb, 0, none⟩), .int .i64 at'] w4 fun e w5 => e = .returned (.bool ok) ∧ w5.cell? ⟨w.heap.size, 2, none⟩ = some (.int .i64 at') ∧ Hid (Went W00.heap.size sb bk false k (L + 1) nv vv F w2 w5))) := by
            have h3d : StIs w2.drew W00.heap.size sb bk false P nv vv F := HH.out.later (fun _ _ => rfl)
            obtain ⟨nb', rb', en', ev', hc⟩ := h3d.drop HWW.out.size hk HL.out HP.out
            obtain ⟨en, ev⟩ := HEN.out
            obtain rfl : nb = nb' := by rw [en] at en'; simpa using en'
            obtain rfl : rb = rb' := by rw [ev] at ev'; simpa using ev'
            have hbd : Below w2.heap.size w2 w2.drew := (Below.refl _ _).drew
            refine (hc at').mono fun e w4 ⟨ok, he, ⟨G, hM4⟩, hr⟩ => ⟨ok, he, (HC.out w4 G (Mv.after hbd hM4)).1, hr.out.mono fun e w5 ⟨he5, hWt⟩ => ?_⟩
            obtain ⟨P', F', s1, s2, s3, s4⟩ := hWt.is
            have hM : Mv (SFt sb F) (SFt sb F') w2 w5 := Mv.after hbd s2
            exact ⟨he5, (HC.out w5 _ hM).1, P', F', s1, hM, s3, s4⟩
          clear b0 b1 b3 b4 cn cv
          go_upto_region 23 with fail
          go_region_held3 (fun W => W.cell? ⟨w.heap.size, 2, none⟩ = some (.int .i64 at'))
            (first | exact b2 | exact hv4 | exact hv5)
            (first
              | (go_at_call 12; with_reducible refine HS.out.mono ?_; rintro e w4 ⟨ok, rfl, hv4, HRS⟩)
              | (go_at_call 46; with_reducible refine HRS.out.mono ?_; rintro e w5 ⟨rfl, hv5, HG5⟩))
          all_goals
            clear HS HRS hv4 hv5
            go_wp2_with fail
            go_meet
            case rel => go_light; exact ⟨rfl, HG5⟩
        by_cases d5 : dd = 5
        · obtain rfl : dd = 5 := d5
          have HS : Hid (Calls Try.prog 15 #[.pointer (some ⟨nb, 0, none⟩), .int .i64 at'] w2.drew fun e w4 => ∃ ok : Bool, e = .returned (.bool ok) ∧ w4.cell? ⟨w.heap.size, 2, none⟩ = some (.int .i64 at') ∧
              Hid (Calls Try.prog 47 #[.pointer (some ⟨rb, 0, none⟩), .int .i64 at'] w4 fun e w5 => e = .returned (.bool ok) ∧ w5.cell? ⟨w.heap.size, 2, none⟩ = some (.int .i64 at') ∧ Hid (Went W00.heap.size sb bk false k (L + 1) nv vv F w2 w5))) := by
            have h3d : StIs w2.drew W00.heap.size sb bk false P nv vv F := HH.out.later (fun _ _ => rfl)
            obtain ⟨nb', rb', en', ev', hc⟩ := h3d.doub HWW.out.size hk HL.out HP.out
            obtain ⟨en, ev⟩ := HEN.out
            obtain rfl : nb = nb' := by rw [en] at en'; simpa using en'
            obtain rfl : rb = rb' := by rw [ev] at ev'; simpa using ev'
            have hbd : Below w2.heap.size w2 w2.drew := (Below.refl _ _).drew
            refine (hc at').mono fun e w4 ⟨ok, he, ⟨G, hM4⟩, hr⟩ => ⟨ok, he, (HC.out w4 G (Mv.after hbd hM4)).1, hr.out.mono fun e w5 ⟨he5, hWt⟩ => ?_⟩
            obtain ⟨P', F', s1, s2, s3, s4⟩ := hWt.is
            have hM : Mv (SFt sb F) (SFt sb F') w2 w5 := Mv.after hbd s2
            exact ⟨he5, (HC.out w5 _ hM).1, P', F', s1, hM, s3, s4⟩
          clear b0 b1 b3 b4 cn cv
          go_upto_region 25 with fail
          go_region_held3 (fun W => W.cell? ⟨w.heap.size, 2, none⟩ = some (.int .i64 at'))
            (first | exact b2 | exact hv4 | exact hv5)
            (first
              | (go_at_call 15; with_reducible refine HS.out.mono ?_; rintro e w4 ⟨ok, rfl, hv4, HRS⟩)
              | (go_at_call 47; with_reducible refine HRS.out.mono ?_; rintro e w5 ⟨rfl, hv5, HG5⟩))
          all_goals
            clear HS HRS hv4 hv5
            go_wp2_with fail
            go_meet
            case rel => go_light; exact ⟨rfl, HG5⟩
        have o1 : (dd == 1) = false := by simpa using d1
        have o2 : (dd == 2) = false := by simpa using d2
        have o3 : (dd == 3) = false := by simpa using d3
        have o4 : (dd == 4) = false := by simpa using d4
        have o5 : (dd == 5) = false := by simpa using d5
        have HG : Hid (Went W00.heap.size sb bk false k (L + 1) nv vv F w2 w2) := HH.out.stay HL.out (Nat.le_succ L) HP.out (Below.refl _ _)
        go_wp2_with fail
        go_meet
        case rel => go_light; exact ⟨rfl, HG⟩
      case rest =>
        obtain ⟨rfl, HG⟩ := hcut
        obtain ⟨P', F', q1, q2, q3, m', hm'⟩ := HG.out.is
        obtain ⟨nb', rb', en', ev', L1, L2, L3, L4⟩ := q1.count hk hm'
        obtain ⟨en, ev⟩ := HEN.out
        obtain rfl : nb = nb' := by rw [en] at en'; simpa using en'
        obtain rfl : rb = rb' := by rw [ev] at ev'; simpa using ev'
        have HE : Hid (Played W00.heap.size sb bk false (L + 1) F w wc) := HG.out.played HB1.out
        clear q1 q2 q3 hm' en ev en' ev' HG cn cv b0 b1 b2 b3 b4
        go_wp2_with fail
        refine L1.out.mono ?_
        rintro e w3 ⟨rfl, e3⟩
        subst e3
        go_wp2_with fail
        refine L2.out.mono ?_
        rintro e w4 ⟨rfl, e4⟩
        subst e4
        go_wp2_with fail
        refine L3.out.mono ?_
        rintro e w5 ⟨rfl, e5⟩
        subst e5
        go_wp2_with fail
        refine L4.out.mono ?_
        rintro e w6 ⟨rfl, e6⟩
        subst e6
        go_wp2_with fail
        go_ret
        exact ⟨rfl, HE.out⟩
end Go.Proofs.Ytdfhdneimoimmaa

/- The stage: all. -/
namespace Go.Proofs.Ytdfhdneimoimmaa
open Go.RowKit
set_option maxRecDepth 100000
set_option maxRecDepth 100000
set_option maxHeartbeats 3200000 in
theorem all_any {w : World} {B sb bk : Nat} {mark : Bool} {P : Nat → Option PM} {nv vv : Nat → Value} {F : Nat → Nat → Prop} (h : StIs w B sb bk mark P nv vv F) (k : Nat) (hk : k < 2) :
    Calls Try.prog 31 #[.pointer (some ⟨sb, 0, none⟩), .int .i64 (k : Nat)] w fun e w' => e = .returned (.bool true) ∧ Below w.heap.size w w' := by
  have hkz : (k : Int) < 2 := by omega
  have cv := h.cv hk
  cases hP : P k with
  | none =>
    have hp := h.pair k hk
    rw [hP] at hp
    obtain ⟨e1, e2, _⟩ := hp
    rw [e2] at cv
    clear h hP e1 e2
    go_enter Try.func31, Try.ntmps31
    go_wp2_with fail
    go_ret
    exact ⟨rfl, Below.refl _ _⟩
  | some m =>
    obtain ⟨nb, rb, en, ev, _⟩ := h.count hk hP
    have cn := h.cn hk
    rw [ev] at cv
    rw [en] at cn
    have HLEN : Hid (m.ms.length ≤ 8192) := by
      have hp := h.pair k hk
      rw [hP] at hp
      obtain ⟨nb, mv, rb, fv, xs, _, _, hN, _⟩ := hp.go
      have := hN.le
      have := hN.rm
      show m.ms.length ≤ 8192
      omega
    have HCN : Hid (∀ W, Below w.heap.size w W → W.cell? ⟨sb, k, none⟩ = some (.pointer (some ⟨nb, 0, none⟩)) ∧ Hid (Calls Try.prog 16 #[.pointer (some ⟨nb, 0, none⟩)] W fun e w' => e = .returned (.int .i64 (m.ms.length : Nat)) ∧ w' = W) ∧ Hid (Calls Try.prog 34 #[.pointer (some ⟨rb, 0, none⟩)] W fun e w' => e = .returned (.int .i64 (m.ms.length : Nat)) ∧ w' = W) ∧ Hid (Calls Try.prog 17 #[.pointer (some ⟨nb, 0, none⟩)] W fun e w' => e = .returned (.int .u64 (m.lost : Nat)) ∧ w' = W) ∧ Hid (Calls Try.prog 48 #[.pointer (some ⟨rb, 0, none⟩)] W fun e w' => e = .returned (.int .u64 (m.lost : Nat)) ∧ w' = W)) := fun W hb => by
      obtain ⟨nb', rb', en', ev', q⟩ := (h.on hb).count hk hP
      obtain rfl : nb = nb' := by rw [en] at en'; simpa using en'
      obtain rfl : rb = rb' := by rw [ev] at ev'; simpa using ev'
      exact ⟨cel_on hb cn, q⟩
    have HLK : Hid (∀ W (i : Int), Below w.heap.size w W → Calls Try.prog 27 #[.pointer (some ⟨nb, 0, none⟩), .int .i64 i] W fun e w1 => ∃ (x : Int) (a : Option Addr) (n c : Nat) (ok : Bool), e = .returned (.tuple #[.agg #[.int .i64 x, .slice a n c], .bool ok]) ∧ Below w.heap.size w w1 ∧
        Hid (∀ W', Below w1.heap.size w1 W' → Calls Try.prog 43 #[.pointer (some ⟨rb, 0, none⟩), .int .i64 i] W' fun e w2 => ∃ (b : Option Addr) (d : Nat), e = .returned (.tuple #[.agg #[.int .i64 x, .slice b n d], .bool ok]) ∧ Below W'.heap.size W' w2 ∧ Hid (∀ W'', Below w2.heap.size w2 W'' → Calls Try.prog 21 #[.agg #[.int .i64 x, .slice a n c], .agg #[.int .i64 x, .slice b n d]] W'' fun e w3 => e = .returned (.bool true) ∧ Below w.heap.size w w3))) := fun W i hb => by
      obtain ⟨nb', rb', en', ev', q⟩ := (h.on hb).look hk hP
      obtain rfl : nb = nb' := by rw [en] at en'; simpa using en'
      obtain rfl : rb = rb' := by rw [ev] at ev'; simpa using ev'
      refine (q i W (Below.refl _ _)).mono fun e w1 ⟨x, a, n, c, ok, y, he, hB1, hn, _, hb1, hr⟩ => ⟨x, a, n, c, ok, he, hb.trans (hb1.mono hb.size), fun W' hW' => (hr.out W' W.heap.size (Fr.of_below hW') (Nat.le_refl _)).mono fun e w2 ⟨b, d, he2, hB2, hb2⟩ => ⟨b, d, he2, hb2, fun W'' hW'' => ?_⟩⟩
      have h12 : Below w1.heap.size w1 W'' := (hW'.trans (hb2.mono hW'.size)).trans (hW''.mono (Nat.le_trans hW'.size hb2.size))
      refine (same_any x a b n c d y W'' (hB1.on h12) (hB2.on hW'') (by omega)).mono fun e w3 ⟨he3, hb3⟩ => ⟨he3, ?_⟩
      have h03 : Below w.heap.size w w1 := hb.trans (hb1.mono hb.size)
      have h04 := h03.trans (h12.mono h03.size)
      exact h04.trans (hb3.mono h04.size)
    obtain ⟨n, Hn⟩ : ∃ n, Hid (m.ms.length = n) := ⟨_, rfl⟩
    rw [Hn.out] at HCN HLEN
    have hn8 := HLEN.out
    clear h hP en ev
    go_enter Try.func31, Try.ntmps31
    go_wp2_with fail
    go_loopg [6] (n + 2) (fun q s6 wx => ∃ (c : Nat) (z : Int), c ≤ n + 2 ∧ q = n + 2 - c ∧ z + 1 = (c : Int) ∧ s6 = .int .i64 z ∧ Below w.heap.size w wx)
    case atStart => exact ⟨0, -1, Nat.zero_le _, rfl, rfl, rfl, Below.refl _ _⟩
    case round =>
      clear cn cv
      obtain ⟨c, z, hc, rfl, hzc, rfl, hb⟩ := hrel
      obtain ⟨cn, L1, L2, L3, L4⟩ := HCN.out wr hb
      by_cases hlt : c ≤ n + 1
      · have hzn : z ≤ (n : Int) := by omega
        have hwz : IntKind.i64.wrap (z + 1) = z + 1 := by rw [IntKind.wrap_i64]; omega
        have hlk := HLK.out wr z hb
        have HC : Hid (z + 1 = (c : Int)) := hzc
        clear HCN HLK L1 L3 L4 hzc
        go_wp2_with fail
        refine L2.out.mono ?_
        rintro e w1 ⟨rfl, e1⟩
        subst e1
        go_wp2_with fail
        refine hlk.mono ?_
        rintro e w2 ⟨x, fa, fn, fc, ok, rfl, hb2, HR⟩
        obtain ⟨W3, HW3⟩ : ∃ W, Hid (w2.alloc (.cells #[.int .i64 x, .slice fa fn fc] 46) = W) := ⟨_, rfl⟩
        have hb3 : Below w2.heap.size w2 W3 := by rw [← HW3.out]; exact (Below.refl _ _).alloc (Nat.le_refl _) _
        have hr3 := row2_alloc w2 (.int .i64 x) (.slice fa fn fc) 46
        rw [HW3.out] at hr3
        have hrl := HR.out W3 hb3
        have HR3 : Hid (∀ W, Below W3.heap.size W3 W → W.cell? ⟨w2.heap.size, 0, none⟩ = some (.int .i64 x) ∧ W.cell? ⟨w2.heap.size, 1, none⟩ = some (.slice fa fn fc)) := fun W hb => by
          have := hr3.of_block (hb.block w2.heap.size hr3.lt)
          exact ⟨this.cell (i := 0) (by decide), this.cell (i := 1) (by decide)⟩
        clear HR hlk hb3 hr3 L2 hb2
        go_upto_region 8 with fail
        rw [HW3.out]
        go_wp2_with fail
        refine hrl.mono ?_
        rintro e w4 ⟨fb, fd, rfl, hb4, HSM⟩
        obtain ⟨W5, HW5⟩ : ∃ W, Hid (w4.alloc (.cells #[.int .i64 x, .slice fb fn fd] 46) = W) := ⟨_, rfl⟩
        have hb5 : Below w4.heap.size w4 W5 := by rw [← HW5.out]; exact (Below.refl _ _).alloc (Nat.le_refl _) _
        have hr5 := row2_alloc w4 (.int .i64 x) (.slice fb fn fd) 46
        rw [HW5.out] at hr5
        have v0 : W5.cell? ⟨w4.heap.size, 0, none⟩ = some (.int .i64 x) := hr5.cell (i := 0) (by decide)
        have v1 : W5.cell? ⟨w4.heap.size, 1, none⟩ = some (.slice fb fn fd) := hr5.cell (i := 1) (by decide)
        obtain ⟨u0, u1⟩ := HR3.out W5 (hb4.trans (hb5.mono hb4.size))
        have hsm := HSM.out W5 hb5
        have hoo : (ok != ok) = false := by simp
        clear hrl HSM hb5 hr5 HR3 hb4
        go_upto_region 9 with fail
        rw [HW5.out]
        go_wp2_with fail
        refine hsm.mono ?_
        rintro e w6 ⟨rfl, hb6⟩
        clear hsm u0 u1 v0 v1
        go_wp2_with fail
        go_roundg (n + 2 - (c + 1))
        case measure => go_light; omega
        case rel => go_light; exact ⟨c + 1, z + 1, by omega, rfl, by have := HC.out; omega, by simp, hb6⟩
      · have hzn : ¬ z ≤ (n : Int) := by omega
        clear HCN HLK hzc
        go_wp2_with fail
        refine L2.out.mono ?_
        rintro e w1 ⟨rfl, e1⟩
        subst e1
        go_wp2_with fail
        refine L1.out.mono ?_
        rintro e w2 ⟨rfl, e2⟩
        subst e2
        go_wp2_with fail
        refine L2.out.mono ?_
        rintro e w3 ⟨rfl, e3⟩
        subst e3
        go_wp2_with fail
        refine L3.out.mono ?_
        rintro e w4 ⟨rfl, e4⟩
        subst e4
        go_wp2_with fail
        refine L4.out.mono ?_
        rintro e w5 ⟨rfl, e5⟩
        subst e5
        go_wp2_with fail
        go_ret
        exact ⟨rfl, hb⟩
end Go.Proofs.Ytdfhdneimoimmaa

/- NetExact: the calls one behind the other; the law. -/
namespace Go.Proofs.Ytdfhdneimoimmaa
open Go.RowKit
set_option maxRecDepth 100000
set_option maxRecDepth 100000

/-- One call, as it is handed in. -/
structure NOp where
  dd : Int
  wh : Int
  at' : Int
  to' : Int
  ba : Option Addr
  bl : Nat
  bc : Nat
  y : Nat → Nat
def NOp.cells (o : NOp) : List Value := [.int .i64 o.dd, .int .i64 o.wh, .int .i64 o.at', .int .i64 o.to', .slice o.ba o.bl o.bc]
def NOp.ok (W : World) (o : NOp) : Prop := Byt W o.ba o.bl o.y ∧ (o.ba = none → o.bl = 0 ∧ o.bc = 0) ∧ o.bl ≤ 140737488351232 ∧ ∀ j, j < o.bl → o.y j < 256
def NOpsIn (W : World) (a : Option Addr) (L : List NOp) : Prop := ∀ i o, L[i]? = some o → ∃ b off, a = some ⟨b, off, none⟩ ∧ ∀ (j : Nat) (v : Value), o.cells[j]? = some v → W.cell? ⟨b, off + i * 5 + j, none⟩ = some v
theorem NOpsIn.on {W W' : World} {a : Option Addr} {L : List NOp} (h : NOpsIn W a L) (hb : Below W.heap.size W W') : NOpsIn W' a L := fun i o ho => by
  obtain ⟨b, off, e, hc⟩ := h i o ho
  exact ⟨b, off, e, fun j v hj => cel_on hb (hc j v hj)⟩
theorem NOp.ok.on {W W' : World} {o : NOp} (h : o.ok W) (hb : Below W.heap.size W W') : o.ok W' := ⟨h.1.on hb, h.2⟩
theorem row3_alloc (w : World) (a b c : Value) (t : TypeId) : (w.alloc (.cells #[a, b, c] t)).rowIs w.heap.size t 3 (fun i => (#[a, b, c])[i]!) :=
  World.rowIs_alloc w _ _ _ (fun i hi => by rw [getElem!_pos _ i hi, Array.getElem?_eq_getElem hi])
/-- The Book's object, as it is built. -/
def bookZ : Array Value := #[.slice none 0 0, .slice none 0 0, .int .i64 0, .slice none 0 0, .slice none 0 0, .int .i64 0, .slice none 0 0, .slice none 0 0, .int .i64 0, .slice none 0 0, .slice none 0 0, .int .i64 0, .slice none 0 0, .slice none 0 0, .int .i64 0, .slice none 0 0, .slice none 0 0, .int .i64 0, .slice none 0 0, .slice none 0 0, .int .i64 0, .slice none 0 0, .slice none 0 0, .int .i64 0, .slice none 0 0, .slice none 0 0, .int .i64 0, .slice none 0 0, .slice none 0 0, .int .i64 0, .slice none 0 0, .slice none 0 0, .int .i64 0, .slice none 0 0, .slice none 0 0, .int .i64 0, .int .i64 0, .int .i64 0, .int .i64 0]
theorem bookZ_at : ∀ i, i < 39 → bookZ[i]? = some (book0 i)
  | 0, _ => rfl
  | 1, _ => rfl
  | 2, _ => rfl
  | 3, _ => rfl
  | 4, _ => rfl
  | 5, _ => rfl
  | 6, _ => rfl
  | 7, _ => rfl
  | 8, _ => rfl
  | 9, _ => rfl
  | 10, _ => rfl
  | 11, _ => rfl
  | 12, _ => rfl
  | 13, _ => rfl
  | 14, _ => rfl
  | 15, _ => rfl
  | 16, _ => rfl
  | 17, _ => rfl
  | 18, _ => rfl
  | 19, _ => rfl
  | 20, _ => rfl
  | 21, _ => rfl
  | 22, _ => rfl
  | 23, _ => rfl
  | 24, _ => rfl
  | 25, _ => rfl
  | 26, _ => rfl
  | 27, _ => rfl
  | 28, _ => rfl
  | 29, _ => rfl
  | 30, _ => rfl
  | 31, _ => rfl
  | 32, _ => rfl
  | 33, _ => rfl
  | 34, _ => rfl
  | 35, _ => rfl
  | 36, _ => rfl
  | 37, _ => rfl
  | 38, _ => rfl
  | n + 39, h => by omega
theorem book_row (w : World) : (w.alloc (.cells #[.slice none 0 0, .slice none 0 0, .int .i64 0, .slice none 0 0, .slice none 0 0, .int .i64 0, .slice none 0 0, .slice none 0 0, .int .i64 0, .slice none 0 0, .slice none 0 0, .int .i64 0, .slice none 0 0, .slice none 0 0, .int .i64 0, .slice none 0 0, .slice none 0 0, .int .i64 0, .slice none 0 0, .slice none 0 0, .int .i64 0, .slice none 0 0, .slice none 0 0, .int .i64 0, .slice none 0 0, .slice none 0 0, .int .i64 0, .slice none 0 0, .slice none 0 0, .int .i64 0, .slice none 0 0, .slice none 0 0, .int .i64 0, .slice none 0 0, .slice none 0 0, .int .i64 0, .int .i64 0, .int .i64 0, .int .i64 0] 82)).rowIs w.heap.size 82 39 book0 :=
  World.rowIs_alloc w bookZ _ _ (fun i hi => by
    have hi : i < 39 := hi
    exact bookZ_at i hi)
/-- An operation that yields a value in whatever world, by its run. -/
theorem oper_run {P : Program} {o : Oper} {a : Act} {w : World} {K : Act → World → Prop} {Q : Exit → Act → World → Prop} (v : Value) (hrun : (execOp a.eval o).run P w = .ok (.value v) w) (h : K (a.put o.dst v) w) : Oper.wp P o a w K Q := by
  unfold Oper.wp
  rw [hrun]
  exact h
/-- The state of play's loop. -/
structure PlS (W0 w : World) (sb bk L : Nat) : Prop where
  st : ∃ P nv vv F, StIs w W0.heap.size sb bk false P nv vv F ∧ LostLe P L
  bk : w.rowIs bk 82 39 book0
  below : Below W0.heap.size W0 w
theorem PlS.on {W0 w w' : World} {sb bk L : Nat} (h : PlS W0 w sb bk L) (hb : Below w.heap.size w w') : PlS W0 w' sb bk L := by
  obtain ⟨P, nv, vv, F, h1, h2⟩ := h.st
  exact ⟨⟨P, nv, vv, F, h1.on hb, h2⟩, h.bk.of_block (hb.block bk h.bk.lt), h.below.trans (hb.mono h.below.size)⟩
theorem StIs.nbk {w : World} {B sb bk : Nat} {mark : Bool} {P : Nat → Option PM} {nv vv : Nat → Value} {F : Nat → Nat → Prop} (h : StIs w B sb bk mark P nv vv F) {f : Nat → Value} {n : Nat} (hr : w.rowIs bk 82 n f) : ¬ SFt sb F bk := fun e => by
  rcases e with e | ⟨k, hk, e⟩
  · exact rowIs_apart hr h.row (by decide) e
  · exact (h.pair k hk).not hr (by decide) (by decide) (by decide) (by decide) (by decide) e
theorem PlS.turn {W0 w w' : World} {sb bk L : Nat} {P P' : Nat → Option PM} {nv nv' vv vv' : Nat → Value} {F F' : Nat → Nat → Prop} (h : PlS W0 w sb bk L) (hs : StIs w W0.heap.size sb bk false P nv vv F) {L' : Nat} (hs' : StIs w' W0.heap.size sb bk false P' nv' vv' F') (hM : Mv (SFt sb F) (SFt sb F') w w') (hl : LostLe P' L') : PlS W0 w' sb bk L' :=
  ⟨⟨P', nv', vv', F', hs', hl⟩, h.bk.of_block (hM.block bk h.bk.lt (hs.nbk h.bk)), hM.below h.below h.below.size (fun q hq => (hs.ge q hq).1)⟩
theorem PlS.fresh {W0 w : World} {sb bk L : Nat} (h : PlS W0 w sb bk L) (k : Nat) (hk : k < 2) (r : Int) :
    Calls Try.prog 28 #[.pointer (some ⟨sb, 0, none⟩), .int .i64 (k : Nat), .int .i64 r] w fun e w' => e = .returned (.bool true) ∧ PlS W0 w' sb bk L := by
  obtain ⟨P, nv, vv, F, hs, hl⟩ := h.st
  refine (fresh_any hs h.below.size k hk r).mono fun e w' ⟨he, nv', vv', F', h1, h2⟩ => ⟨he, h.turn hs h1 h2 (fun j m hj e => ?_)⟩
  by_cases e2 : j = k
  · rw [e2, upd_at] at e
    unfold newP at e
    split at e
    · rw [← Option.some.inj e]; exact Nat.zero_le _
    · cases e
  · rw [upd_ne _ _ _ e2] at e
    exact hl j m hj e
theorem PlS.plays {W0 w : World} {sb bk L : Nat} (h : PlS W0 w sb bk L) (hl1 : L ≤ 1000) (o : NOp) (ho : o.ok W0) :
    Calls Try.prog 29 #[.pointer (some ⟨sb, 0, none⟩), .agg #[.int .i64 o.dd, .int .i64 o.wh, .int .i64 o.at', .int .i64 o.to', .slice o.ba o.bl o.bc]] w fun e w' => e = .returned (.bool true) ∧ PlS W0 w' sb bk (L + 1) := by
  obtain ⟨P, nv, vv, F, hs, hl⟩ := h.st
  exact (plays_any hs h.below hl hl1 o.dd o.wh o.at' o.to' o.ba o.bl o.bc o.y ho.1 ho.2.1 ho.2.2.1 ho.2.2.2).mono fun e w' ⟨he, P', nv', vv', F', h1, h2, h3⟩ => ⟨he, h.turn hs h1 h2 h3⟩
theorem PlS.look {W0 w : World} {sb bk L : Nat} (h : PlS W0 w sb bk L) :
    Calls Try.prog 30 #[.pointer (some ⟨bk, 0, none⟩)] w fun e w' => e = .returned (.bool true) ∧ PlS W0 w' sb bk L :=
  (book_look0 bk w h.bk).mono fun e w' ⟨he, q, e2⟩ => ⟨he, by rw [e2]; exact h.on (below_dN (Below.refl _ _) q)⟩
theorem PlS.all {W0 w : World} {sb bk L : Nat} (h : PlS W0 w sb bk L) (k : Nat) (hk : k < 2) :
    Calls Try.prog 31 #[.pointer (some ⟨sb, 0, none⟩), .int .i64 (k : Nat)] w fun e w' => e = .returned (.bool true) ∧ PlS W0 w' sb bk L := by
  obtain ⟨P, nv, vv, F, hs, hl⟩ := h.st
  exact (all_any hs k hk).mono fun e w' ⟨he, hb⟩ => ⟨he, h.on hb⟩
theorem PlS.c4 {W0 w : World} {sb bk L : Nat} (h : PlS W0 w sb bk L) : w.cell? ⟨sb, 4, none⟩ = some (.pointer (some ⟨bk, 0, none⟩)) := by
  obtain ⟨P, nv, vv, F, hs, hl⟩ := h.st
  exact hs.row.cell (i := 4) (by decide)
theorem row6_alloc (w : World) (a b c d e f : Value) (t : TypeId) : (w.alloc (.cells #[a, b, c, d, e, f] t)).rowIs w.heap.size t 6 (fun i => (#[a, b, c, d, e, f])[i]!) :=
  World.rowIs_alloc w _ _ _ (fun i hi => by rw [getElem!_pos _ i hi, Array.getElem?_eq_getElem hi])
/-- The stage at its begin. -/
theorem stage_new (W0 W1 : World) (hb : Below W0.heap.size W0 W1) (bk : Nat) (mark : Bool) : StIs (W1.alloc (.cells #[.pointer none, .pointer none, .pointer none, .pointer none, .pointer (some ⟨bk, 0, none⟩), .bool mark] 87)) W0.heap.size W1.heap.size bk mark (fun _ => none) (fun _ => .pointer none) (fun _ => .pointer none) (fun _ _ => False) := by
  refine ⟨(row6_alloc W1 _ _ _ _ _ _ _).congr (fun i hi => ?_), fun k _ => ⟨rfl, rfl, fun _ hf => hf⟩, fun _ _ _ _ _ _ hf => hf.elim, hb.size⟩
  match i, hi with
  | 0, _ => rfl
  | 1, _ => rfl
  | 2, _ => rfl
  | 3, _ => rfl
  | 4, _ => rfl
  | 5, _ => rfl

set_option maxHeartbeats 6400000 in
theorem play_false (r0 r1 : Int) (oa : Option Addr) (oc : Nat) (L : List NOp) (w : World) (hO : NOpsIn w oa L) (hK : ∀ o ∈ L, o.ok w) :
    Calls Try.prog 19 #[.agg #[.int .i64 r0, .int .i64 r1, .slice oa L.length oc], .bool false] w fun e w' => e = .returned (.bool true) ∧ Below w.heap.size w w' := by
  obtain ⟨W0, HW0⟩ : ∃ W, Hid (w.alloc (.cells #[.int .i64 r0, .int .i64 r1, .slice oa L.length oc] 57) = W) := ⟨_, rfl⟩
  have hb0 : Below w.heap.size w W0 := by rw [← HW0.out]; exact (Below.refl _ _).alloc (Nat.le_refl _) _
  have hr0 := row3_alloc w (.int .i64 r0) (.int .i64 r1) (.slice oa L.length oc) 57
  rw [HW0.out] at hr0
  have HB0 : Hid (Below w.heap.size w W0) := hb0
  have HO : Hid (NOpsIn W0 oa L ∧ ∀ o ∈ L, o.ok W0) := ⟨hO.on hb0, fun o ho => (hK o ho).on hb0⟩
  obtain ⟨N, HN⟩ : ∃ N, Hid (L.length = N) := ⟨_, rfl⟩
  rw [HN.out] at hr0 HW0 ⊢
  have HC : Hid (∀ W, Below W0.heap.size W0 W → W.cell? ⟨w.heap.size, 0, none⟩ = some (.int .i64 r0) ∧ W.cell? ⟨w.heap.size, 1, none⟩ = some (.int .i64 r1) ∧ W.cell? ⟨w.heap.size, 2, none⟩ = some (.slice oa N oc)) := fun W hb => by
    have := hr0.of_block (hb.block w.heap.size hr0.lt)
    exact ⟨this.cell (i := 0) (by decide), this.cell (i := 1) (by decide), this.cell (i := 2) (by decide)⟩
  clear hO hK hb0 hr0
  go_enter Try.func19, Try.ntmps19
  go_upto_region 1 with fail
  rw [HW0.out]
  go_wp2_with fail
  refine oper_run (.agg #[.slice none 0 0, .slice none 0 0, .int .i64 0, .slice none 0 0, .slice none 0 0, .int .i64 0, .slice none 0 0, .slice none 0 0, .int .i64 0, .slice none 0 0, .slice none 0 0, .int .i64 0, .slice none 0 0, .slice none 0 0, .int .i64 0, .slice none 0 0, .slice none 0 0, .int .i64 0, .slice none 0 0, .slice none 0 0, .int .i64 0, .slice none 0 0, .slice none 0 0, .int .i64 0, .slice none 0 0, .slice none 0 0, .int .i64 0, .slice none 0 0, .slice none 0 0, .int .i64 0, .slice none 0 0, .slice none 0 0, .int .i64 0, .slice none 0 0, .slice none 0 0, .int .i64 0, .int .i64 0, .int .i64 0, .int .i64 0]) (by kernel_rfl) ?_
  obtain ⟨W1, HW1⟩ : ∃ W, Hid (W0.alloc (.cells #[.slice none 0 0, .slice none 0 0, .int .i64 0, .slice none 0 0, .slice none 0 0, .int .i64 0, .slice none 0 0, .slice none 0 0, .int .i64 0, .slice none 0 0, .slice none 0 0, .int .i64 0, .slice none 0 0, .slice none 0 0, .int .i64 0, .slice none 0 0, .slice none 0 0, .int .i64 0, .slice none 0 0, .slice none 0 0, .int .i64 0, .slice none 0 0, .slice none 0 0, .int .i64 0, .slice none 0 0, .slice none 0 0, .int .i64 0, .slice none 0 0, .slice none 0 0, .int .i64 0, .slice none 0 0, .slice none 0 0, .int .i64 0, .slice none 0 0, .slice none 0 0, .int .i64 0, .int .i64 0, .int .i64 0, .int .i64 0] 82) = W) := ⟨_, rfl⟩
  have hbkr := book_row W0
  rw [HW1.out] at hbkr
  have hb1 : Below W0.heap.size W0 W1 := by rw [← HW1.out]; exact (Below.refl _ _).alloc (Nat.le_refl _) _
  have hst := stage_new W0 W1 hb1 W0.heap.size false
  obtain ⟨W2, HW2⟩ : ∃ W, Hid (W1.alloc (.cells #[.pointer none, .pointer none, .pointer none, .pointer none, .pointer (some ⟨W0.heap.size, 0, none⟩), .bool false] 87) = W) := ⟨_, rfl⟩
  rw [HW2.out] at hst
  have hb2 : Below W1.heap.size W1 W2 := by rw [← HW2.out]; exact (Below.refl _ _).alloc (Nat.le_refl _) _
  have hS2 : PlS W0 W2 W1.heap.size W0.heap.size 0 := ⟨⟨_, _, _, _, hst, fun j m _ e => by cases e⟩, hbkr.of_block (hb2.block _ hbkr.lt), hb1.trans (hb2.mono hb1.size)⟩
  have hz1 : W1.heap.size = W0.heap.size + 1 := by rw [← HW1.out]; simp
  rw [hz1] at hS2
  obtain ⟨sb, Hsb⟩ : ∃ x, Hid (W0.heap.size + 1 = x) := ⟨_, rfl⟩
  obtain ⟨bk, Hbk⟩ : ∃ x, Hid (W0.heap.size = x) := ⟨_, rfl⟩
  clear hbkr hb1 hst hb2 hz1
  go_upto_region 2 with fail
  rw [HW1.out]
  rw [HW2.out]
  rw [Hsb.out, Hbk.out] at hS2
  rw [Hsb.out]
  obtain ⟨x0, x1, x2⟩ := HC.out W2 hS2.below
  have hf0 := hS2.fresh 0 (by decide) r0
  clear hS2
  go_wp2_with fail
  refine hf0.mono ?_
  rintro e w3 ⟨rfl, hS3⟩
  obtain ⟨y0, y1, y2⟩ := HC.out w3 hS3.below
  have hf1 := hS3.fresh 1 (by decide) r1
  clear hf0 hS3 x0 x1 x2
  go_wp2_with fail
  refine hf1.mono ?_
  rintro e w4 ⟨rfl, hS4⟩
  clear hf1 y0 y1 y2
  go_wp2_with fail
  go_loopg [6] 400 (fun q s6 wx => ∃ (i : Nat), i ≤ 400 ∧ q = 400 - i ∧ s6 = .int .i64 (i : Nat) ∧ PlS W0 wx sb bk i)
  case atStart => exact ⟨0, by decide, rfl, rfl, hS4⟩
  case round =>
    clear hS4
    obtain ⟨i, hi, rfl, rfl, hS⟩ := hrel
    obtain ⟨y0, y1, y2⟩ := HC.out wr hS.below
    by_cases hlt : i < N ∧ i < 400
    · have hz1 : (i : Int) < (N : Int) := by omega
      have hz2 : (i : Int) < 400 := by omega
      have hwi : IntKind.i64.wrap ((i : Int) + 1) = (i : Int) + 1 := by rw [IntKind.wrap_i64]; omega
      obtain ⟨o, ho⟩ : ∃ o, L[i]? = some o := ⟨_, List.getElem?_eq_getElem (by rw [HN.out]; omega)⟩
      obtain ⟨b, off, rfl, hc⟩ := (HO.out.1.on hS.below) i o ho
      have q0 : wr.cell? ⟨b, off + i * 5, none⟩ = some (.int .i64 o.dd) := hc 0 _ rfl
      have q1 : wr.cell? ⟨b, off + i * 5 + 1, none⟩ = some (.int .i64 o.wh) := hc 1 _ rfl
      have q2 : wr.cell? ⟨b, off + i * 5 + 2, none⟩ = some (.int .i64 o.at') := hc 2 _ rfl
      have q3 : wr.cell? ⟨b, off + i * 5 + 3, none⟩ = some (.int .i64 o.to') := hc 3 _ rfl
      have q4 : wr.cell? ⟨b, off + i * 5 + 4, none⟩ = some (.slice o.ba o.bl o.bc) := hc 4 _ rfl
      have hpl := hS.plays (by omega) o (HO.out.2 o (List.mem_of_getElem? ho))
      clear hc ho hS y0 y1
      go_wp2_with fail
      refine hpl.mono ?_
      rintro e w5 ⟨rfl, hS5⟩
      have c4 := hS5.c4
      have hlk := hS5.look
      clear hpl hS5 q0 q1 q2 q3 q4 y2
      go_wp2_with fail
      refine hlk.mono ?_
      rintro e w6 ⟨rfl, hS6⟩
      clear hlk c4
      go_wp2_with fail
      go_roundg (400 - (i + 1))
      case measure => go_light; omega
      case rel => go_light; exact ⟨i + 1, by omega, rfl, by simp, hS6⟩
    · have hne : (¬ (i : Int) < (N : Int)) ∨ ((i : Int) < (N : Int) ∧ ¬ (i : Int) < 400) := by omega
      have ha0 := hS.all 0 (by decide)
      clear hS hlt y0 y1
      rcases hne with hz | ⟨hz, hz2⟩
      all_goals
        go_wp2_with fail
        refine ha0.mono ?_
        rintro e w5 ⟨rfl, hS5⟩
        have ha1 := hS5.all 1 (by decide)
        clear hS5 ha0
        go_wp2_with fail
        refine ha1.mono ?_
        rintro e w6 ⟨rfl, hS6⟩
        have hlv := lives_any w6
        have HB6 : Hid (Below W0.heap.size W0 w6) := hS6.below
        clear hS6 ha1
        go_wp2_with fail
        refine hlv.mono ?_
        rintro e w7 ⟨rfl, hb7⟩
        have HE : Hid (Below w.heap.size w w7) := by
          have h1 := HB6.out.trans (hb7.mono HB6.out.size)
          exact HB0.out.trans (h1.mono HB0.out.size)
        clear hlv hb7
        go_wp2_with fail
        go_ret
        exact ⟨rfl, HE.out⟩
set_option maxHeartbeats 1600000 in
theorem exact_any (r0 r1 : Int) (oa : Option Addr) (oc : Nat) (L : List NOp) (w : World) (hO : NOpsIn w oa L) (hK : ∀ o ∈ L, o.ok w) :
    Calls Try.prog 4 #[.agg #[.int .i64 r0, .int .i64 r1, .slice oa L.length oc]] w fun e w' => e = .returned (.bool true) ∧ Below w.heap.size w w' := by
  obtain ⟨W0, HW0⟩ : ∃ W, Hid (w.alloc (.cells #[.int .i64 r0, .int .i64 r1, .slice oa L.length oc] 57) = W) := ⟨_, rfl⟩
  have hb0 : Below w.heap.size w W0 := by rw [← HW0.out]; exact (Below.refl _ _).alloc (Nat.le_refl _) _
  have hr0 := row3_alloc w (.int .i64 r0) (.int .i64 r1) (.slice oa L.length oc) 57
  rw [HW0.out] at hr0
  have c0 : W0.cell? ⟨w.heap.size, 0, none⟩ = some (.int .i64 r0) := hr0.cell (i := 0) (by decide)
  have c1 : W0.cell? ⟨w.heap.size, 1, none⟩ = some (.int .i64 r1) := hr0.cell (i := 1) (by decide)
  have c2 : W0.cell? ⟨w.heap.size, 2, none⟩ = some (.slice oa L.length oc) := hr0.cell (i := 2) (by decide)
  have hp := (play_false r0 r1 oa oc L W0 (hO.on hb0) (fun o ho => (hK o ho).on hb0)).mono (R' := fun e w' => e = .returned (.bool true) ∧ Below w.heap.size w w') (fun e w' ⟨he, hb⟩ => ⟨he, hb0.trans (hb.mono hb0.size)⟩)
  generalize L.length = N at *
  clear hO hK hb0 hr0
  go_enter Try.func4, Try.ntmps4
  go_upto_region 1 with fail
  rw [HW0.out]
  go_wp2_with fail
  refine hp.mono ?_
  rintro e w1 ⟨rfl, hb1⟩
  clear hp
  go_wp2_with fail
  go_ret
  exact ⟨rfl, hb1⟩
end Go.Proofs.Ytdfhdneimoimmaa

/- What NetExact and NetFresh are handed, read out of memory. -/
namespace Go.Proofs.Ytdfhdneimoimmaa
open Go.ChangeShapes Go.WideShapes Go.ChangeAt Go.RowKit Go.Deep Go.Joins
set_option maxRecDepth 100000
set_option maxRecDepth 100000

theorem cellsI : Try.prog.cellsOf 3 = 1 := by kernel_rfl
theorem cells8 : Try.prog.cellsOf 5 = 1 := by kernel_rfl
theorem cellsB : Try.prog.cellsOf 37 = 1 := by kernel_rfl
theorem cellsR : Try.prog.cellsOf 54 = 2 := by kernel_rfl
theorem cellsO : Try.prog.cellsOf 91 = 5 := by kernel_rfl
theorem cellsOs : Try.prog.cellsOf 55 = 1 := by kernel_rfl
theorem cellsS : Try.prog.cellsOf 57 = 3 := by kernel_rfl
theorem bytes8 : Try.prog.bytesOf 5 = 1 := by kernel_rfl
theorem reach_eq : reachBytes = 140737488351232 := rfl
theorem add_at (b o : Nat) (r : Nat) : (⟨b, o, none⟩ : Addr).add r = ⟨b, o + r, none⟩ := by simp [Addr.add]
theorem byte_of {n : Int} (h : (Lit.int .u8 n).wf = true) : ∃ m : Nat, n = m ∧ m < 256 := by
  have := bounds_u8 h
  exact ⟨n.toNat, by omega, by omega⟩
/-- What is read is within the form's own reach. -/
def Fits {H : Type} (t : TypeId) (d : DataW H) : Prop := ∀ n, n ∈ d.weights Try.prog t → n ≤ reachBytes
theorem fits_of_each {H : Type} {ts : List TypeId} {ds : List (DataW H)} (h : ∀ n, n ∈ DataW.weightsEach Try.prog ts ds → n ≤ reachBytes) {j : Nat} {t : TypeId} {d : DataW H} (ht : ts[j]? = some t) (hd : ds[j]? = some d) : Fits t d :=
  fun n hn => h n (DataW.weights_mem_each ht hd n hn)
theorem each_of_all {H : Type} {ts : List TypeId} {ds : List (DataW H)} (h : (DataW.weightsEach Try.prog ts ds).all (· ≤ reachBytes) = true) : ∀ n, n ∈ DataW.weightsEach Try.prog ts ds → n ≤ reachBytes :=
  fun n hn => of_decide_eq_true (List.all_eq_true.1 h n hn)
theorem weightsAll_mem {H : Type} {P : Program} {e : TypeId} : ∀ {l : List (DataW H)} {d : DataW H}, d ∈ l → ∀ n ∈ d.weights P e, n ∈ DataW.weightsAll P e l
  | d' :: r, d, hd, n, hn => by
    simp only [DataW.weightsAll, List.mem_append]
    rcases List.mem_cons.1 hd with rfl | h
    · exact Or.inl hn
    · exact Or.inr (weightsAll_mem h n hn)
/-- A field that is a list of bytes. -/
theorem open_bytes {H : Type} {enc : TypeId × Value → H} {W : World} {fuel : Nat} {v : Value} {y : DataW H × List MemPlace} (h : DataW.trod enc Try.prog W 0 (fun _ => true) true fuel 37 [v] = some y) (hf : Fits 37 y.1) :
    ∃ (a : Option Addr) (len cap : Nat) (z : Nat → Nat), v = .slice a len cap ∧ len ≤ cap ∧ cap ≤ 140737488351232 ∧ (∀ j, z j < 256) ∧ Byt W a cap z ∧ (a = none → len = 0 ∧ cap = 0) := by
  rcases open_ints Try.underlying37 Try.underlying5 cells8 h with ⟨hcs, _⟩ | ⟨a, len, cap, zs, hcs, _, hl, hm, hz, hx, hcell, hwf⟩
  · exact ⟨none, 0, 0, fun _ => 0, by simpa using hcs, Nat.le_refl _, by omega, fun _ => by show 0 < 256; decide, fun j hj => absurd hj (Nat.not_lt_zero _), fun _ => ⟨rfl, rfl⟩⟩
  · simp only [if_true] at hz
    refine ⟨some a, len, cap, fun j => (zs.getD j 0).toNat % 256, by simpa using hcs, hl, ?_, fun j => Nat.mod_lt _ (by decide), fun j hj => ?_, fun e => by cases e⟩
    · have hw := hf ((lits .u8 (zs.take len) : List (DataW H)).length + (lits .u8 (zs.drop len) : List (DataW H)).length) (by rw [hx]; simp [DataW.weights, Try.underlying37, bytes8])
      simp only [lits, List.length_map, List.length_take, List.length_drop, reach_eq] at hw
      omega
    · obtain ⟨b, off, sp⟩ := a
      have h5 := hcell j (by omega)
      obtain rfl : sp = none := by simpa [Addr.add] using World.cell?_spot (hcell 0 (by omega))
      rw [add_at] at h5
      refine ⟨b, off, rfl, ?_⟩
      have hmem : zs.getD j 0 ∈ zs := by
        rw [List.getD_eq_getElem?_getD, List.getElem?_eq_getElem (by omega)]; exact List.getElem_mem _
      obtain ⟨m, hm1, hm2⟩ := byte_of (hwf _ hmem)
      show W.cell? _ = some (.int .u8 (((zs.getD j 0).toNat % 256 : Nat) : Int))
      rw [hm1] at h5 ⊢
      rw [Int.toNat_natCast, Nat.mod_eq_of_lt hm2]
      exact h5
theorem cells5_of {w : World} {a : Addr} {cs : List Value} (h : w.cells? 0 a 5 = some cs) : ∃ v0 v1 v2 v3 v4, cs = [v0, v1, v2, v3, v4] ∧ ∀ j v, cs[j]? = some v → w.cell? (a.add j) = some v := by
  obtain ⟨_, hl, hc⟩ := World.cells?_some h
  match cs, hl with
  | [v0, v1, v2, v3, v4], _ =>
    refine ⟨v0, v1, v2, v3, v4, rfl, fun j v hj => ?_⟩
    have hj' : j < 5 := (List.getElem?_eq_some_iff.1 hj).1
    have := hc j hj'
    rw [this]
    rw [← hj, List.getElem?_eq_getElem hj']
theorem open_nop {H : Type} {enc : TypeId × Value → H} {W : World} {fuel b o : Nat} {cs : List Value} {y : DataW H × List MemPlace} (hc : W.cells? 0 ⟨b, o, none⟩ 5 = some cs) (h : DataW.trod enc Try.prog W 0 (fun _ => true) true fuel 91 cs = some y) (hf : Fits 91 y.1) :
    ∃ q : NOp, (∀ (j : Nat) (v : Value), q.cells[j]? = some v → W.cell? ⟨b, o + j, none⟩ = some v) ∧ q.ok W := by
  obtain ⟨v0, v1, v2, v3, v4, rfl, hcell⟩ := cells5_of hc
  obtain ⟨xs, m, _, hx, _, hlen, hfs⟩ := DataW.trod_struct Try.underlying91 h
  obtain ⟨y0, y1, y2, y3, y4, rfl⟩ : ∃ y0 y1 y2 y3 y4, xs = [y0, y1, y2, y3, y4] := by
    match xs, hlen with
    | [a, b, c, d, e], _ => exact ⟨a, b, c, d, e, rfl⟩
  have f0 := hfs 0 _ rfl
  have f1 := hfs 1 _ rfl
  have f2 := hfs 2 _ rfl
  have f3 := hfs 3 _ rfl
  have f4 := hfs 4 _ rfl
  simp [cellsI] at f0 f1 f2 f3
  simp [cellsB] at f4
  obtain ⟨k0, e0, _, _⟩ := DataW.trod_int Try.underlying3 f0
  obtain ⟨k1, e1, _, _⟩ := DataW.trod_int Try.underlying3 f1
  obtain ⟨k2, e2, _, _⟩ := DataW.trod_int Try.underlying3 f2
  obtain ⟨k3, e3, _, _⟩ := DataW.trod_int Try.underlying3 f3
  obtain rfl : v0 = .int .i64 k0 := by simpa using e0
  obtain rfl : v1 = .int .i64 k1 := by simpa using e1
  obtain rfl : v2 = .int .i64 k2 := by simpa using e2
  obtain rfl : v3 = .int .i64 k3 := by simpa using e3
  have hfit : Fits 37 y4.1 := fun n hn => hf n (by
    rw [hx]
    simp only [DataW.weights, Try.underlying91]
    exact DataW.weights_mem_each (j := 4) rfl rfl n hn)
  obtain ⟨a, len, cap, z, rfl, hl, hcap, hz, hb, hn⟩ := open_bytes f4 hfit
  refine ⟨⟨k0, k1, k2, k3, a, len, cap, z⟩, fun j v hj => ?_, hb.le hl, hn, by show len ≤ _; omega, fun j _ => hz j⟩
  have := hcell j v hj
  rwa [add_at] at this
theorem open_nops {H : Type} {enc : TypeId × Value → H} {W : World} {fuel : Nat} {v : Value} {y : DataW H × List MemPlace} (h : DataW.trod enc Try.prog W 0 (fun _ => true) true fuel 55 [v] = some y) (hf : Fits 55 y.1) :
    ∃ (a : Option Addr) (c : Nat) (l : List NOp), v = .slice a l.length c ∧ NOpsIn W a l ∧ ∀ o ∈ l, o.ok W := by
  rcases open_slice Try.underlying55 h with ⟨hcs, _⟩ | ⟨a, len, cap, m, n, D, Pl, hcs, _, hl, _, hm, hyx, hel⟩
  · exact ⟨none, 0, [], by simpa using hcs, fun i o ho => by simp at ho, fun o ho => by simp at ho⟩
  · simp only [if_true] at hm
    subst hm
    obtain ⟨b, o, sp⟩ := a
    rw [hyx] at hf
    have hele : ∀ i, i < len → Fits 91 (D i) := fun i hi n hn => hf n (by
      simp only [DataW.weights, Try.underlying55]
      exact List.mem_cons_of_mem _ (List.mem_append_left _ (weightsAll_mem (List.mem_map.2 ⟨i, List.mem_range.2 hi, rfl⟩) n hn)))
    have hsp : 0 < len → sp = none := fun h0 => by
      obtain ⟨cs', hc, _⟩ := hel 0 (by omega)
      rw [cellsO] at hc
      obtain ⟨v0, v1, v2, v3, v4, rfl, hcell⟩ := cells5_of hc
      have := hcell 0 v0 rfl
      simpa [Addr.add] using World.cell?_spot this
    have hall : ∀ i, ∃ q : NOp, i < len → ((∀ (j : Nat) (v : Value), q.cells[j]? = some v → W.cell? ⟨b, o + i * 5 + j, none⟩ = some v) ∧ q.ok W) := fun i => by
      by_cases hi : i < len
      · obtain rfl := hsp (by omega)
        obtain ⟨cs', hc, ht⟩ := hel i (by omega)
        rw [cellsO, add_at] at hc
        obtain ⟨q, hq⟩ := open_nop hc ht (hele i hi)
        exact ⟨q, fun _ => hq⟩
      · exact ⟨⟨0, 0, 0, 0, none, 0, 0, fun _ => 0⟩, fun h => absurd h hi⟩
    obtain ⟨Q, hQ⟩ := Classical.axiomOfChoice hall
    have hlen : ((List.range len).map Q).length = len := by simp
    refine ⟨some ⟨b, o, sp⟩, m, (List.range len).map Q, by rw [hlen]; simpa using hcs, fun i q hq => ?_, fun q hq => ?_⟩
    · have hi : i < len := by have := (List.getElem?_eq_some_iff.1 hq).1; rwa [hlen] at this
      rw [List.getElem?_map, List.getElem?_range hi] at hq
      obtain rfl : Q i = q := Option.some.inj hq
      obtain rfl := hsp (by omega)
      exact ⟨b, o, rfl, (hQ i hi).1⟩
    · obtain ⟨i, hi, rfl⟩ := List.mem_map.1 hq
      exact (hQ i (List.mem_range.1 hi)).2
theorem open_script {H : Type} {enc : TypeId × Value → H} {W : World} {base : Nat} {v : Value} {d : DataW H} {p : List MemPlace} (hv : Value.okWide Try.prog W .any base 57 v) (h : DataW.Trod enc Try.prog W 0 (fun _ => true) true 57 v d p) (hf : Fits 57 d) :
    ∃ (r0 r1 : Int) (oa : Option Addr) (oc : Nat) (L : List NOp), v = .agg #[.int .i64 r0, .int .i64 r1, .slice oa L.length oc] ∧ NOpsIn W oa L ∧ ∀ o ∈ L, o.ok W := by
  obtain ⟨cs, rfl, hcsz⟩ := okWide_struct Try.underlying57 hv
  rw [cellsS] at hcsz
  obtain ⟨u0, u1, u2, rfl⟩ : ∃ u0 u1 u2, cs = #[u0, u1, u2] := by
    rcases cs with ⟨l⟩
    match l, hcsz with
    | [a, b, c], _ => exact ⟨a, b, c, rfl⟩
  obtain ⟨fuel, hf0⟩ := h
  obtain ⟨xs, m, _, hx, _, hlen, hfs⟩ := DataW.trod_struct Try.underlying57 hf0
  obtain ⟨y0, y1, rfl⟩ : ∃ y0 y1, xs = [y0, y1] := by
    match xs, hlen with
    | [a, b], _ => exact ⟨a, b, rfl⟩
  have f0 := hfs 0 _ rfl
  have f1 := hfs 1 _ rfl
  simp [Value.cells, cellsR] at f0
  simp [Value.cells, cellsOs] at f1
  simp only [Prod.mk.injEq] at hx
  obtain ⟨hd, _⟩ := hx
  have hfit1 : Fits 55 y1.1 := fun n hn => hf n (by
    rw [hd]
    simp only [DataW.weights, Try.underlying57]
    exact DataW.weights_mem_each (j := 1) rfl rfl n hn)
  obtain ⟨ys, m2, _, hy, _, hylen, hys⟩ := DataW.trod_array Try.underlying54 f0
  obtain ⟨q0, q1, rfl⟩ : ∃ q0 q1, ys = [q0, q1] := by
    match ys, hylen with
    | [a, b], _ => exact ⟨a, b, rfl⟩
  have g0 := hys 0 (by decide)
  have g1 := hys 1 (by decide)
  simp [cellsI] at g0
  simp [cellsI] at g1
  obtain ⟨r0, e0, _, _⟩ := DataW.trod_int Try.underlying3 g0
  obtain ⟨r1, e1, _, _⟩ := DataW.trod_int Try.underlying3 g1
  obtain rfl : u0 = .int .i64 r0 := by simpa using e0
  obtain rfl : u1 = .int .i64 r1 := by simpa using e1
  obtain ⟨oa, oc, L, rfl, h1, h2⟩ := open_nops f1 hfit1
  exact ⟨r0, r1, oa, oc, L, rfl, h1, h2⟩
end Go.Proofs.Ytdfhdneimoimmaa
