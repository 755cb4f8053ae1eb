/- The document's own net in memory: its row of messages, each with bytes of its own; New, Len, Lost, Send. -/
import Derived.Test.YtgpmoakfbhcidaaN7
namespace Go.Proofs.Ytgpmoakfbhcidaa
open Go.RowKit
set_option maxRecDepth 100000
set_option maxRecDepth 100000

/-- The cells of the document's row. -/
def flCells : List (Ms × Value) → List Value
  | [] => []
  | x :: xs => [.int .i64 x.1.dst, x.2] ++ flCells xs
theorem flCells_app : ∀ (l m : List (Ms × Value)), flCells (l ++ m) = flCells l ++ flCells m
  | [], m => rfl
  | d :: l, m => by simp only [List.cons_append, flCells, flCells_app l m, List.append_assoc]
theorem flCells_len : ∀ xs : List (Ms × Value), (flCells xs).length = xs.length * 2
  | [] => rfl
  | d :: xs => by simp only [flCells, List.length_append, flCells_len xs, List.length_cons]; show 2 + _ = _; omega
theorem flCells_at : ∀ (xs : List (Ms × Value)) (i : Nat) (m : Ms × Value), xs[i]? = some m → (flCells xs)[i * 2]? = some (.int .i64 m.1.dst) ∧ (flCells xs)[i * 2 + 1]? = some m.2
  | [], i, m, h => by simp at h
  | d :: xs, 0, m, h => by
    have : d = m := by simpa using h
    subst this
    exact ⟨rfl, rfl⟩
  | d :: xs, i + 1, m, h => by
    have := flCells_at xs i m (by simpa using h)
    rw [show (i + 1) * 2 = i * 2 + 2 by omega]
    exact this
/-- A copy of these bytes in memory of its own. -/
def CB (w : World) (B : Nat) (v : Value) (s : ByteArray) : Prop := ∃ g, v = .slice (some ⟨g, 0, none⟩) s.size s.size ∧ B ≤ g ∧ w.rowIs g 5 s.size (fun j => .int .u8 (bx s j : Nat)) ∧ s.size ≤ 140737488351232
theorem CB.on {w w' : World} {B : Nat} {v : Value} {s : ByteArray} (h : CB w B v s) (hb : ∀ k, v.ownBlock = some k → w'.heap[k]? = w.heap[k]?) : CB w' B v s := by
  obtain ⟨g, rfl, h1, h2, h3⟩ := h
  exact ⟨g, rfl, h1, h2.of_block (hb g rfl), h3⟩
theorem CB.lt {w : World} {B : Nat} {v : Value} {s : ByteArray} (h : CB w B v s) : ∀ k, v.ownBlock = some k → B ≤ k ∧ k < w.heap.size := fun k e => by
  obtain ⟨g, rfl, h1, h2, _⟩ := h
  have : g = k := by simpa [Value.ownBlock] using e
  subst this
  exact ⟨h1, h2.lt⟩
theorem CB.byt {w : World} {B : Nat} {v : Value} {s : ByteArray} (h : CB w B v s) : ∃ g, v = .slice (some ⟨g, 0, none⟩) s.size s.size ∧ Byt w (some ⟨g, 0, none⟩) s.size (bx s) := by
  obtain ⟨g, rfl, h1, h2, _⟩ := h
  exact ⟨g, rfl, Byt.of_row h2⟩
theorem rowIs_apart {w : World} {b b' t t' n n' : Nat} {f f' : Nat → Value} (h : w.rowIs b t n f) (h' : w.rowIs b' t' n' f') (ht : t ≠ t') : b ≠ b' := by
  rintro rfl
  obtain ⟨c, h1, _⟩ := h
  obtain ⟨c', h2, _⟩ := h'
  rw [h1] at h2
  simp only [Option.some.injEq, Obj.cells.injEq] at h2
  exact ht h2.2.1

/-- The cells of the document's Net: its row, its room, how many were lost. -/
def refCell (fv : Value) (room lost : Nat) (i : Nat) : Value := if i = 0 then fv else if i = 1 then .int .i64 (room : Nat) else .int .u64 (lost : Nat)
structure RefIs (w : World) (B rb : Nat) (fv : Value) (xs : List (Ms × Value)) (room lost : Nat) : Prop where
  row : w.rowIs rb 96 3 (refCell fv room lost)
  own : w.ownsRow B 70 2 fv xs.length (flCells xs)
  byt : ∀ x ∈ xs, CB w B x.2 x.1.s
  lb : B ≤ rb
  le : xs.length ≤ room
  rm : room ≤ 8192
/-- What of memory is the document's net's. -/
def RFt (rb : Nat) (fv : Value) (xs : List (Ms × Value)) (k : Nat) : Prop := k = rb ∨ fv.ownBlock = some k ∨ ∃ x ∈ xs, x.2.ownBlock = some k
section
variable {w w' : World} {B rb : Nat} {fv : Value} {room lost : Nat} {xs : List (Ms × Value)}
theorem RefIs.later (h : RefIs w B rb fv xs room lost) (hb : ∀ k, RFt rb fv xs k → w'.heap[k]? = w.heap[k]?) : RefIs w' B rb fv xs room lost :=
  ⟨h.row.of_block (hb _ (.inl rfl)), rows_keep h.own (fun k e => hb k (.inr (.inl e))), fun x hx => (h.byt x hx).on (fun k e => hb k (.inr (.inr ⟨x, hx, e⟩))), h.lb, h.le, h.rm⟩
theorem RefIs.ge (h : RefIs w B rb fv xs room lost) : ∀ k, RFt rb fv xs k → B ≤ k ∧ k < w.heap.size := fun k hf => by
  rcases hf with e | e | ⟨x, hx, e⟩
  · rw [e]; exact ⟨h.lb, h.row.lt⟩
  · exact rows_lt h.own k e
  · exact (h.byt x hx).lt k e
theorem RefIs.on (h : RefIs w B rb fv xs room lost) (hb : Below w.heap.size w w') : RefIs w' B rb fv xs room lost :=
  h.later (fun k hf => hb.block k (h.ge k hf).2)
theorem RefIs.nm (h : RefIs w B rb fv xs room lost) : fv.ownBlock ≠ some rb := rows_apart h.own h.row (by decide)
theorem RefIs.c0 (h : RefIs w B rb fv xs room lost) : w.cell? ⟨rb, 0, none⟩ = some fv := h.row.cell (i := 0) (by decide)
theorem RefIs.c1 (h : RefIs w B rb fv xs room lost) : w.cell? ⟨rb, 1, none⟩ = some (.int .i64 (room : Nat)) := h.row.cell (i := 1) (by decide)
theorem RefIs.c2 (h : RefIs w B rb fv xs room lost) : w.cell? ⟨rb, 2, none⟩ = some (.int .u64 (lost : Nat)) := h.row.cell (i := 2) (by decide)
theorem RefIs.sl (h : RefIs w B rb fv xs room lost) : ∃ a c, fv = .slice a xs.length c ∧ xs.length ≤ c ∧ c ≤ 9223372036854775807 := by
  rcases h.own.2 with ⟨e, h0⟩ | ⟨g, cap, cur, e, _, _, hc, hm, _⟩
  · exact ⟨none, 0, by rw [e, h0], by omega, by omega⟩
  · exact ⟨_, cap, e, hc, hm⟩
theorem RefIs.msg (h : RefIs w B rb fv xs room lost) {i : Nat} {m : Ms × Value} (hm : xs[i]? = some m) :
    ∃ g c, fv = .slice (some ⟨g, 0, none⟩) xs.length c ∧ xs.length ≤ c ∧ w.cell? ⟨g, i * 2, none⟩ = some (.int .i64 m.1.dst) ∧ w.cell? ⟨g, i * 2 + 1, none⟩ = some m.2 := by
  have hi := (List.getElem?_eq_some_iff.1 hm).1
  have q := flCells_at xs i m hm
  have ho := h.own
  rcases h.own.2 with ⟨e, h0⟩ | ⟨g, cc, cur, e, _, _, hcc, _⟩
  · omega
  · subst e
    exact ⟨g, cc, rfl, hcc, by rw [World.ownsRow.cellAt ho (i * 2) (by omega)]; exact q.1, by rw [World.ownsRow.cellAt ho (i * 2 + 1) (by omega)]; exact q.2⟩
theorem rlen_any (h : RefIs w B rb fv xs room lost) :
    Calls Try.prog 16 #[.pointer (some ⟨rb, 0, none⟩)] w fun e w' => e = .returned (.int .i64 (xs.length : Nat)) ∧ w' = w := by
  obtain ⟨a, c, e, hc, hm⟩ := h.sl
  have c0 := h.c0
  generalize xs.length = n at *
  subst e
  clear h
  go_enter Try.func16, Try.ntmps16
  go_wp2
  go_ret
  exact ⟨rfl, rfl⟩
theorem rlost_any (h : RefIs w B rb fv xs room lost) :
    Calls Try.prog 36 #[.pointer (some ⟨rb, 0, none⟩)] w fun e w' => e = .returned (.int .u64 (lost : Nat)) ∧ w' = w := by
  have c2 := h.c2
  clear h
  go_enter Try.func36, Try.ntmps36
  go_wp2
  go_ret
  exact ⟨rfl, rfl⟩
theorem rnew_any (n : Nat) (h1 : 1 ≤ n) (h2 : n ≤ 8192) (w : World) :
    Calls Try.prog 23 #[.int .i64 (n : Nat)] w fun e w' => e = .returned (.tuple #[.pointer (some ⟨w.heap.size, 0, none⟩), .int .i64 0]) ∧ RefIs w' w.heap.size w.heap.size (.slice none 0 0) [] n 0 ∧ Below w.heap.size w w' ∧ w'.heap.size = w.heap.size + 1 := by
  have H : Hid (RefIs (w.alloc (.cells #[.slice none 0 0, .int .i64 (n : Nat), .int .u64 0] 96)) w.heap.size w.heap.size (.slice none 0 0) [] n 0 ∧ Below w.heap.size w (w.alloc (.cells #[.slice none 0 0, .int .i64 (n : Nat), .int .u64 0] 96)) ∧ (w.alloc (.cells #[.slice none 0 0, .int .i64 (n : Nat), .int .u64 0] 96)).heap.size = w.heap.size + 1) := by
    refine ⟨⟨?_, ⟨rfl, .inl ⟨rfl, rfl⟩⟩, (fun x hx => by cases hx), Nat.le_refl _, Nat.zero_le _, h2⟩, (Below.refl _ _).alloc (Nat.le_refl _) _, by simp⟩
    refine World.rowIs_alloc w _ _ _ (fun i hi => ?_)
    match i, hi with
    | 0, _ => rfl
    | 1, _ => rfl
    | 2, _ => rfl
  have hz1 : ¬ (n : Int) < 1 := by omega
  have hz2 : ¬ (n : Int) > 8192 := by omega
  go_enter Try.func23, Try.ntmps23
  go_wp2
  go_ret2
  exact ⟨rfl, H.out⟩
theorem rnew_not (n : Int) (h : n < 1 ∨ 8192 < n) (w : World) :
    Calls Try.prog 23 #[.int .i64 n] w fun e w' => e = .returned (.tuple #[.pointer none, .int .i64 60]) ∧ w' = w := by
  by_cases hz1 : n < 1
  · go_enter Try.func23, Try.ntmps23
    go_wp2
    go_ret2
    exact ⟨rfl, rfl⟩
  · have hz2 : n > 8192 := by omega
    go_enter Try.func23, Try.ntmps23
    go_wp2
    go_ret2
    exact ⟨rfl, rfl⟩
end

theorem infoF2 : (Try.prog.info? 70).map (fun i => (i.zero, i.size, i.bytes)) = some (some (.agg #[.int .i64 0, .slice none 0 0]), 2, 32) := by kernel_rfl
theorem app_fl {w : World} {K n : Nat} {v : Value} {ys : List Value} (h : w.ownsRow K 70 2 v n ys) (x y : Value) (hx : x.oneCell' = true) (hy : y.oneCell' = true) (hn : n ≤ 1099511627776) (hK : K ≤ w.heap.size) :
    ∃ a c w', (Builtin.append_ #[94, 94] 94 #[v, .slice (some ⟨w.heap.size, 0, none⟩) 1 1]).run Try.prog (w.alloc (.cells #[x, y] 70)) = .ok (.slice a (n + 1) c) w' ∧ w'.ownsRow K 70 2 (.slice a (n + 1) c) (n + 1) (ys ++ [x, y]) ∧ w.grownBy w' v.ownBlock ∧ (∀ k, (Value.slice a (n + 1) c).ownBlock = some k → v.ownBlock = some k ∨ w.heap.size ≤ k) := by
  obtain ⟨i0, hi, hz0, hz1, hz2⟩ := info_parts infoF2
  have hnews : ∀ j u, [x, y][j]? = some u → (w.alloc (.cells #[x, y] 70)).cell? ((⟨w.heap.size, 0, none⟩ : Addr).add j) = some u := fun j u hj => by
    match j with
    | 0 => simp at hj; subst hj; simp [Addr.add]
    | 1 => simp at hj; subst hj; simp [Addr.add]
    | j + 2 => simp at hj
  have hml : maxLen = 9223372036854775807 := rfl
  obtain ⟨v', w', h1, h2, h3, _, h5⟩ := run_append_own_at (P := Try.prog) (w.alloc (.cells #[x, y] 70)) K 94 94 70 i0 _ 2 32 Try.underlying94 hi hz0 hz1 hz2 rfl (by decide) v n ys (h.alloc _) ⟨w.heap.size, 0, none⟩ 1 1 [x, y] rfl hnews (fun u hu => by
    simp only [List.mem_cons, List.not_mem_nil, or_false] at hu
    rcases hu with e | e
    · rw [e]; exact hx
    · rw [e]; exact hy) (by omega) (by omega) (by simp; omega)
  obtain ⟨a, c, ev⟩ : ∃ a c, v' = .slice a (n + 1) c := by
    rcases h2.2 with ⟨_, h0⟩ | ⟨g, cap, cur, e, _⟩
    · omega
    · exact ⟨_, cap, e⟩
  subst ev
  have hsz : (w.alloc (.cells #[x, y] 70)).heap.size = w.heap.size + 1 := by simp
  refine ⟨a, c, w', h1, h2, ⟨h3.os, h3.tape, h3.output, by have := h3.size; omega, fun b hb hne => (h3.block b (by omega) hne).trans (Below.heap_alloc _ _ _ hb)⟩, fun k e => ?_⟩
  rcases h5 with e5 | e5
  · exact .inl (e5 ▸ e)
  · rw [e5] at e
    exact .inr (by have := Option.some.inj e; omega)
end Go.Proofs.Ytgpmoakfbhcidaa
