/- What a step leaves; rows of one's own; append in a region that draws. Package net: a message, a net in memory. -/
import Derived.Test.YtgpmoakfbhcidaaLend
import Derived.Deep.RegionLaw
import Derived.Deep.RegionHeld3
import Derived.Deep.QuietTactic
import Derived.Maps.AppendAt
import Derived.Laws.OwnMore
import Derived.Lib.ConvBytes
import Derived.Laws.IdiomStrings
import Derived.Laws.ResultCell
import Derived.Laws.NewBlocks
import Derived.Laws.Rows
import Derived.Below
namespace Go.Proofs.Ytgpmoakfbhcidaa
open Go.RowKit
set_option maxRecDepth 100000
set_option maxRecDepth 100000

structure Mv (F F' : Nat → Prop) (w w' : World) : Prop where
  os : w'.os = w.os
  tape : w'.tape = w.tape
  output : w'.output = w.output
  size : w.heap.size ≤ w'.heap.size
  block : ∀ k, k < w.heap.size → ¬ F k → w'.heap[k]? = w.heap[k]?
  foot : ∀ k, F' k → F k ∨ w.heap.size ≤ k
theorem Mv.trans {F F' F'' : Nat → Prop} {a b c : World} (h : Mv F F' a b) (k : Mv F' F'' b c) : Mv F F'' a c :=
  ⟨k.os.trans h.os, k.tape.trans h.tape, k.output.trans h.output, Nat.le_trans h.size k.size, fun q hq hn => (k.block q (Nat.lt_of_lt_of_le hq h.size) (fun hf => by
    rcases h.foot q hf with e | e
    · exact hn e
    · omega)).trans (h.block q hq hn), fun q hf => by
    rcases k.foot q hf with e | e
    · exact h.foot q e
    · exact Or.inr (Nat.le_trans h.size e)⟩
theorem Mv.refl (F : Nat → Prop) (w : World) : Mv F F w w := ⟨rfl, rfl, rfl, Nat.le_refl _, fun _ _ _ => rfl, fun _ h => Or.inl h⟩
theorem Mv.of_below {F : Nat → Prop} {w w' : World} (h : Below w.heap.size w w') : Mv F F w w' := ⟨h.os, h.tape, h.output, h.size, fun k hk _ => h.block k hk, fun _ hf => Or.inl hf⟩
theorem Mv.below {F F' : Nat → Prop} {w0 w w' : World} {B : Nat} (h0 : Below B w0 w) (hB : B ≤ w.heap.size) (hF : ∀ k, F k → B ≤ k) (h : Mv F F' w w') : Below B w0 w' :=
  h0.trans ⟨h.os, h.tape, h.output, h.size, fun k hk => h.block k (Nat.lt_of_lt_of_le hk hB) (fun hf => by have := hF k hf; omega)⟩
theorem rows_keep {w w' : World} {K n s : Nat} {e : TypeId} {v : Value} {xs : List Value} (h : w.ownsRow K e s v n xs) (hb : ∀ k, v.ownBlock = some k → w'.heap[k]? = w.heap[k]?) : w'.ownsRow K e s v n xs := by
  refine ⟨h.1, ?_⟩
  rcases h.2 with h0 | ⟨g, cap, cur, ev, hk, hq, hr⟩
  · exact .inl h0
  · exact .inr ⟨g, cap, cur, ev, hk, (hb g (by rw [ev]; rfl)).trans hq, hr⟩
theorem rows_lt {w : World} {K n s : Nat} {e : TypeId} {v : Value} {xs : List Value} (h : w.ownsRow K e s v n xs) : ∀ k, v.ownBlock = some k → K ≤ k ∧ k < w.heap.size := fun k hk => by
  rcases h.2 with ⟨rfl, _⟩ | ⟨g, cap, cur, rfl, hb, hq, _⟩
  · simp [Value.ownBlock] at hk
  · have : g = k := by simpa [Value.ownBlock] using hk
    subst this
    exact ⟨hb, (Array.getElem?_eq_some_iff.1 hq).1⟩
theorem rows_apart {w : World} {K n s b t' m : Nat} {e : TypeId} {v : Value} {xs : List Value} {f : Nat → Value} (h : w.ownsRow K e s v n xs) (hr : w.rowIs b t' m f) (ht : t' ≠ e) : v.ownBlock ≠ some b := fun e' => by
  rcases h.2 with ⟨rfl, _⟩ | ⟨g, cap, cur, rfl, _, hq, _⟩
  · simp [Value.ownBlock] at e'
  · obtain rfl : g = b := by simpa [Value.ownBlock] using e'
    obtain ⟨c, hc, _⟩ := hr
    rw [hq] at hc
    simp only [Option.some.injEq, Obj.cells.injEq] at hc
    exact ht hc.2.1.symm
theorem rows_apart2 {w : World} {K K' n n' s s' : Nat} {e e' : TypeId} {v v' : Value} {xs xs' : List Value} (h : w.ownsRow K e s v n xs) (h' : w.ownsRow K' e' s' v' n' xs') (hne : e ≠ e') : ∀ b, v.ownBlock = some b → v'.ownBlock ≠ some b := by
  intro b hb hb'
  rcases h.2 with ⟨rfl, _⟩ | ⟨g, cap, cur, rfl, _, hq, _⟩
  · simp [Value.ownBlock] at hb
  · rcases h'.2 with ⟨rfl, _⟩ | ⟨g', cap', cur', rfl, _, hq', _⟩
    · simp [Value.ownBlock] at hb'
    · obtain rfl : g = b := by simpa [Value.ownBlock] using hb
      obtain rfl : g' = g := by simpa [Value.ownBlock] using hb'
      rw [hq] at hq'
      simp only [Option.some.injEq, Obj.cells.injEq] at hq'
      exact hne hq'.2.1
/-- append in a region that draws, by its run. -/
theorem step_apps2 {P : Program} {w w' : World} {ops : Array Oper} {o : Oper} {a : Act} {K : Act → World → Prop} {Q : Exit → Act → World → Prop} {E : Prop} (hgd : o.guard = none) (s x : Operand) (t : TypeId)
    (ho : o.op = .call { callee := .builtin .append, args := #[s, x], argTypes := #[t, t] }) (v u v' : Value) (hs : a.eval s = v) (hx : a.eval x = u)
    (hrun : (Builtin.append_ #[t, t] o.type #[v, u]).run P w = .ok v' w') (h : K (a.put o.dst v') w') : if Region.wanted o (yielded ops a.tmps) = true then Oper.wp P o a w K Q else E := by
  have hw : Region.wanted o (yielded ops a.tmps) = true := by simp [Region.wanted, hgd]
  rw [if_pos hw]
  unfold Oper.wp
  simp [execOp, ho, resolve, invoke, builtin, hs, hx, hrun, Result.andThen]
  exact h

/-- A message: to whom, its bytes. -/
structure Ms where
  dst : Int
  s : ByteArray
def Ms.cells (m : Ms) : List Value := [.int .i64 m.dst, .string m.s]
def msCells : List Ms → List Value
  | [] => []
  | m :: ms => m.cells ++ msCells ms
theorem msCells_app : ∀ (l m : List Ms), msCells (l ++ m) = msCells l ++ msCells m
  | [], m => rfl
  | d :: l, m => by simp only [List.cons_append, msCells, msCells_app l m, List.append_assoc]
theorem msCells_len : ∀ ms : List Ms, (msCells ms).length = ms.length * 2
  | [] => rfl
  | d :: ms => by simp only [msCells, List.length_append, msCells_len ms, List.length_cons]; show 2 + _ = _; omega
theorem msCells_at : ∀ (ms : List Ms) (i : Nat) (m : Ms), ms[i]? = some m → (msCells ms)[i * 2]? = some (.int .i64 m.dst) ∧ (msCells ms)[i * 2 + 1]? = some (.string m.s)
  | [], i, m, h => by simp at h
  | d :: ms, 0, m, h => by
    have : d = m := by simpa using h
    subst this
    exact ⟨rfl, rfl⟩
  | d :: ms, i + 1, m, h => by
    have := msCells_at ms i m (by simpa using h)
    rw [show (i + 1) * 2 = i * 2 + 2 by omega]
    exact this
theorem msCells_one (ms : List Ms) : ∀ u ∈ msCells ms, u.oneCell' = true := fun u hu => by
  induction ms with
  | nil => cases hu
  | cons m ms ih =>
    simp only [msCells, Ms.cells, List.cons_append, List.mem_cons, List.nil_append] at hu
    rcases hu with e | e | e
    · rw [e]; rfl
    · rw [e]; rfl
    · exact ih e
theorem msCells_drop : ∀ (ms : List Ms) (k : Nat), msCells (ms.drop k) = (msCells ms).drop (k * 2)
  | ms, 0 => by simp
  | [], k + 1 => by simp [msCells]
  | m :: ms, k + 1 => by
    rw [List.drop_succ_cons, msCells_drop ms k, show (k + 1) * 2 = k * 2 + 2 by omega]
    rfl
theorem msCells_take : ∀ (ms : List Ms) (k : Nat), msCells (ms.take k) = (msCells ms).take (k * 2)
  | ms, 0 => by simp [msCells]
  | [], k + 1 => by simp [msCells]
  | m :: ms, k + 1 => by
    rw [List.take_succ_cons, show (k + 1) * 2 = k * 2 + 2 by omega]
    show m.cells ++ msCells (ms.take k) = _
    rw [msCells_take ms k]
    rfl

/-- The cells of a Net: its room, its messages, how many were lost. -/
def netCell (room : Nat) (mv : Value) (lost : Nat) (i : Nat) : Value := if i = 0 then .int .i64 (room : Nat) else if i = 1 then mv else .int .u64 (lost : Nat)
structure NetIs (w : World) (B nb : Nat) (mv : Value) (room : Nat) (ms : List Ms) (lost : Nat) : Prop where
  row : w.rowIs nb 78 3 (netCell room mv lost)
  own : w.ownsRow B 93 2 mv ms.length (msCells ms)
  lb : B ≤ nb
  le : ms.length ≤ room
  rm : room ≤ 8192
/-- What of memory is the Net's. -/
def NFt (nb : Nat) (mv : Value) (k : Nat) : Prop := k = nb ∨ mv.ownBlock = some k
section
variable {w w' : World} {B nb : Nat} {mv : Value} {room lost : Nat} {ms : List Ms}
theorem NetIs.later (h : NetIs w B nb mv room ms lost) (hb : ∀ k, NFt nb mv k → w'.heap[k]? = w.heap[k]?) : NetIs w' B nb mv room ms lost :=
  ⟨h.row.of_block (hb _ (.inl rfl)), rows_keep h.own (fun k e => hb k (.inr e)), h.lb, h.le, h.rm⟩
theorem NetIs.ge (h : NetIs w B nb mv room ms lost) : ∀ k, NFt nb mv k → B ≤ k ∧ k < w.heap.size := fun k hf => by
  rcases hf with e | e
  · rw [e]; exact ⟨h.lb, h.row.lt⟩
  · exact rows_lt h.own k e
theorem NetIs.on (h : NetIs w B nb mv room ms lost) (hb : Below w.heap.size w w') : NetIs w' B nb mv room ms lost :=
  h.later (fun k hf => hb.block k (h.ge k hf).2)
theorem NetIs.nm (h : NetIs w B nb mv room ms lost) : mv.ownBlock ≠ some nb := rows_apart h.own h.row (by decide)
theorem NetIs.c0 (h : NetIs w B nb mv room ms lost) : w.cell? ⟨nb, 0, none⟩ = some (.int .i64 (room : Nat)) := h.row.cell (i := 0) (by decide)
theorem NetIs.c1 (h : NetIs w B nb mv room ms lost) : w.cell? ⟨nb, 1, none⟩ = some mv := h.row.cell (i := 1) (by decide)
theorem NetIs.c2 (h : NetIs w B nb mv room ms lost) : w.cell? ⟨nb, 2, none⟩ = some (.int .u64 (lost : Nat)) := h.row.cell (i := 2) (by decide)
theorem NetIs.sl (h : NetIs w B nb mv room ms lost) : ∃ a c, mv = .slice a ms.length c ∧ ms.length ≤ c ∧ c ≤ 9223372036854775807 := by
  rcases h.own.2 with ⟨e, h0⟩ | ⟨g, cap, cur, e, _, _, hc, hm, _⟩
  · exact ⟨none, 0, by rw [e, h0], by omega, by omega⟩
  · exact ⟨_, cap, e, hc, hm⟩
/-- A message, as it lies in the row. -/
theorem NetIs.msg (h : NetIs w B nb mv room ms lost) {i : Nat} {m : Ms} (hm : ms[i]? = some m) :
    ∃ g c, mv = .slice (some ⟨g, 0, none⟩) ms.length c ∧ ms.length ≤ c ∧ w.cell? ⟨g, i * 2, none⟩ = some (.int .i64 m.dst) ∧ w.cell? ⟨g, i * 2 + 1, none⟩ = some (.string m.s) := by
  have hi := (List.getElem?_eq_some_iff.1 hm).1
  have q := msCells_at ms i m hm
  have ho := h.own
  rcases h.own.2 with ⟨e, h0⟩ | ⟨g, cc, cur, e, _, _, hcc, _⟩
  · omega
  · subst e
    exact ⟨g, cc, rfl, hcc, by rw [World.ownsRow.cellAt ho (i * 2) (by omega)]; exact q.1, by rw [World.ownsRow.cellAt ho (i * 2 + 1) (by omega)]; exact q.2⟩
theorem has_any (h : NetIs w B nb mv room ms lost) (i : Int) :
    Calls Try.prog 43 #[.pointer (some ⟨nb, 0, none⟩), .int .i64 i] w fun e w' => e = .returned (.bool (decide (0 ≤ i ∧ i < ms.length))) ∧ w' = w := by
  obtain ⟨a, c, e, hc, hm⟩ := h.sl
  have c1 := h.c1
  have hl := h.le
  have hr := h.rm
  generalize ms.length = n at *
  subst e
  clear h
  by_cases h0 : 0 ≤ i
  · by_cases h1 : i < n
    · have eb : decide (0 ≤ i ∧ i < n) = true := by simp [h0, h1]
      rw [eb]
      clear eb
      go_enter Try.func43, Try.ntmps43
      go_wp2
      go_ret
      exact ⟨rfl, rfl⟩
    · have eb : decide (0 ≤ i ∧ i < n) = false := by simp [h1]
      rw [eb]
      clear eb
      go_enter Try.func43, Try.ntmps43
      go_wp2
      go_ret
      exact ⟨rfl, rfl⟩
  · have eb : decide (0 ≤ i ∧ i < n) = false := by simp [h0]
    rw [eb]
    clear eb
    go_enter Try.func43, Try.ntmps43
    go_wp2
    go_ret
    exact ⟨rfl, rfl⟩
theorem full_any (h : NetIs w B nb mv room ms lost) :
    Calls Try.prog 39 #[.pointer (some ⟨nb, 0, none⟩)] w fun e w' => e = .returned (.bool (decide (room ≤ ms.length))) ∧ ∃ q, w' = w.drewN q := by
  obtain ⟨a, c, e, hc, hm⟩ := h.sl
  have c1 := h.c1
  have c0 := h.c0
  have hl := h.le
  have hr := h.rm
  generalize ms.length = n at *
  subst e
  clear h
  by_cases h0 : room ≤ n
  · have eb : decide (room ≤ n) = true := by simp [h0]
    rw [eb]
    have hz : (room : Int) ≤ (n : Int) := by omega
    clear eb
    go_enter Try.func39, Try.ntmps39
    go_wp2_with fail
    go_quiet (fail)
    go_wp2_with fail
    go_ret
    exact ⟨rfl, _, rfl⟩
  · have eb : decide (room ≤ n) = false := by simp [h0]
    rw [eb]
    have hz : ¬ (room : Int) ≤ (n : Int) := by omega
    clear eb
    go_enter Try.func39, Try.ntmps39
    go_wp2_with fail
    go_quiet (fail)
    go_wp2_with fail
    go_ret
    exact ⟨rfl, _, rfl⟩
theorem len_any (h : NetIs w B nb mv room ms lost) :
    Calls Try.prog 34 #[.pointer (some ⟨nb, 0, none⟩)] w fun e w' => e = .returned (.int .i64 (ms.length : Nat)) ∧ w' = w := by
  obtain ⟨a, c, e, hc, hm⟩ := h.sl
  have c1 := h.c1
  generalize ms.length = n at *
  subst e
  clear h
  go_enter Try.func34, Try.ntmps34
  go_wp2
  go_ret
  exact ⟨rfl, rfl⟩
theorem lost_any (h : NetIs w B nb mv room ms lost) :
    Calls Try.prog 35 #[.pointer (some ⟨nb, 0, none⟩)] w fun e w' => e = .returned (.int .u64 (lost : Nat)) ∧ w' = w := by
  have c2 := h.c2
  clear h
  go_enter Try.func35, Try.ntmps35
  go_wp2
  go_ret
  exact ⟨rfl, rfl⟩
/-- lose: one more is lost. -/
theorem lose_any (h : NetIs w B nb mv room ms lost) (hl : lost ≤ 1000000) :
    Calls Try.prog 40 #[.pointer (some ⟨nb, 0, none⟩)] w fun e w' => e = .returned (.tuple #[]) ∧ NetIs w' B nb mv room ms (lost + 1) ∧ Mv (NFt nb mv) (NFt nb mv) w w' := by
  have c2 := h.c2
  have f2 : w.frozen? ⟨nb, 2, none⟩ = false := h.row.frozen 2
  obtain ⟨W, HW⟩ : ∃ W, Hid (w.setCell ⟨nb, 2, none⟩ (.int .u64 ((lost + 1 : Nat) : Int)) = W) := ⟨_, rfl⟩
  have hset : ∀ b, b ≠ nb → W.heap[b]? = w.heap[b]? := fun b hb => by rw [← HW.out]; exact Below.heap_setCell _ _ _ _ hb
  have hz : W.heap.size = w.heap.size := by rw [← HW.out]; simp [World.setCell]
  have K : NetIs W B nb mv room ms (lost + 1) ∧ Mv (NFt nb mv) (NFt nb mv) w W := by
    refine ⟨⟨?_, rows_keep h.own (fun k e => hset k (fun e2 => h.nm (e2 ▸ e))), h.lb, h.le, h.rm⟩, ⟨?_, ?_, ?_, by omega, fun k _ hn => hset k (fun e => hn (.inl e)), fun k hf => .inl hf⟩⟩
    · rw [← HW.out]
      refine (h.row.set 2 _).congr (fun i hi => ?_)
      match i, hi with
      | 0, _ => rfl
      | 1, _ => rfl
      | 2, _ => rfl
    · rw [← HW.out]; rfl
    · rw [← HW.out]; rfl
    · rw [← HW.out]; rfl
  have HK : Hid (NetIs W B nb mv room ms (lost + 1) ∧ Mv (NFt nb mv) (NFt nb mv) w W) := K
  obtain ⟨l1, hl1, hl2⟩ : ∃ l1 : Nat, (lost : Int) + 1 = (l1 : Int) ∧ l1 = lost + 1 := ⟨lost + 1, by omega, rfl⟩
  have hw : IntKind.u64.wrap (l1 : Int) = (l1 : Int) := by rw [IntKind.wrap_u64]; omega
  have hlt : (lost : Int) < 18446744073709551615 := by omega
  rw [← hl2] at HW
  clear K h hset hz hl2
  go_enter Try.func40, Try.ntmps40
  go_wp2
  rw [HW.out]
  go_end0
  exact ⟨rfl, HK.out⟩
end
end Go.Proofs.Ytgpmoakfbhcidaa
