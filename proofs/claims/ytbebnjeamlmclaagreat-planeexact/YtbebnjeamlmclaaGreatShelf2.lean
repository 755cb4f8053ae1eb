/- A list appended to an empty one: a copy. -/
import Derived.Test.YtbebnjeamlmclaaGreatShelf1
import Derived.Maps.AppendAt
import Derived.Laws.OwnMore
namespace Go.Proofs.YtbebnjeamlmclaaGreat
open Go.RowKit Go.Shelf Go.Sort
set_option maxRecDepth 100000
set_option maxRecDepth 100000

theorem app_list {P : Program} {w : World} {K K0 n c bytes : Nat} {a : Option Addr} {v0 z : Value} {xs : List Value} {t ty e : TypeId} (ht : P.underlying t = some (.slice e)) (hinfo : (P.info? e).map (fun i => (i.zero, i.size, i.bytes)) = some (some z, 1, bytes)) (hzc : z.cells.size = 1)
    (h0 : w.ownsRow K0 e 1 v0 0 []) (hl : w.ownsRow K e 1 (.slice a n c) n xs) (hx : ∀ u, u ∈ xs → u.oneCell' = true) (hb : n * bytes ≤ 140737488355328) (hn : n ≤ 140737488355328) (hK : K0 ≤ w.heap.size) :
    ∃ v' w', (Builtin.append_ #[t, t] ty #[v0, .slice a n c]).run P w = .ok v' w' ∧ w'.ownsRow K0 e 1 v' n xs ∧ w.grownBy w' v0.ownBlock := by
  obtain ⟨i0, hi, hz0, hz1, hz2⟩ : ∃ i, P.info? e = some i ∧ i.zero = some z ∧ i.size = 1 ∧ i.bytes = bytes := by
    obtain ⟨i, hi, hh⟩ := Option.map_eq_some_iff.1 hinfo
    simp only [Prod.mk.injEq] at hh
    exact ⟨i, hi, hh.1, hh.2.1, hh.2.2⟩
  have hml : maxLen = 9223372036854775807 := rfl
  have hlen : xs.length = n := by have := hl.1; omega
  rcases hl.2 with ⟨e1, e2⟩ | ⟨g, cap, cur, e1, _⟩
  · cases e1
    obtain rfl : xs = [] := List.eq_nil_of_length_eq_zero hlen
    exact ⟨v0, w, run_append_owned_none w K0 t ty e i0 1 ht hi v0 0 [] h0, h0, ⟨rfl, rfl, rfl, Nat.le_refl _, fun _ _ _ => rfl⟩⟩
  · cases e1
    obtain ⟨v', w', h1, h2, h3, _⟩ := run_append_own_at (P := P) w K0 t ty e i0 z 1 bytes ht hi hz0 hz1 hz2 hzc (by decide) v0 0 [] h0 ⟨g, 0, none⟩ n c xs (by omega) (fun j u hj => by
      have hj1 := (List.getElem?_eq_some_iff.1 hj).1
      have := hl.cellAt j (by omega)
      have ea : (⟨g, 0, none⟩ : Addr).add j = ⟨g, j, none⟩ := by by_cases e : j = 0 <;> simp [Addr.add, e]
      rw [ea, this]; exact hj) hx (by omega) (by simpa using hb) hK
    exact ⟨v', w', h1, by simpa using h2, h3⟩

/-- append([]int{}, l...): a copy of its own. -/
theorem app_copy {w : World} {K n c : Nat} {a : Option Addr} {xs : List Value} (hl : w.ownsRow K 3 1 (.slice a n c) n xs) (hx : ∀ u, u ∈ xs → u.oneCell' = true) (hn : n ≤ 1048576) :
    ∃ v' w', (Builtin.append_ #[31, 31] 31 #[.slice (some ⟨w.heap.size, 0, none⟩) 0 0, .slice a n c]).run Tryz.prog (w.alloc (.cells #[] 3)) = .ok v' w' ∧ w'.ownsRow w.heap.size 3 1 v' n xs ∧ Below w.heap.size w w' := by
  have hml : maxLen = 9223372036854775807 := rfl
  have h0 : (w.alloc (.cells #[] 3)).ownsRow w.heap.size 3 1 (.slice (some ⟨w.heap.size, 0, none⟩) 0 0) 0 [] := World.ownsRow_lit w #[] 0 (Nat.le_refl _) (by omega) rfl
  obtain ⟨v', w', h1, h2, h3⟩ := app_list (ty := 31) Tryz.underlying31 textInfo rfl h0 (hl.alloc (.cells #[] 3)) hx (by omega) (by omega) (by simp)
  refine ⟨v', w', h1, h2, ⟨h3.os, h3.tape, h3.output, ?_, fun b hb => ?_⟩⟩
  · have := h3.size
    simp at this
    omega
  · rw [h3.block b (by simp; omega) (by simp [Value.ownBlock]; omega)]
    exact Below.heap_alloc _ _ _ hb

/-- append(nil, x...): a row of lists copied. -/
theorem app_rows {w : World} {K n c : Nat} {a : Option Addr} {xs : List Value} (hl : w.ownsRow K 31 1 (.slice a n c) n xs) (hx : ∀ u, u ∈ xs → u.oneCell' = true) (hn : n ≤ 1048576) :
    ∃ v' w', (Builtin.append_ #[24, 24] 24 #[.slice none 0 0, .slice a n c]).run Tryz.prog w = .ok v' w' ∧ w'.ownsRow w.heap.size 31 1 v' n xs ∧ Below w.heap.size w w' := by
  obtain ⟨v', w', h1, h2, h3⟩ := app_list (ty := 24) (K0 := w.heap.size) Tryz.underlying24 lineInfo rfl (World.ownsRow_nil _ _ _ _) hl hx (by omega) (by omega) (Nat.le_refl _)
  exact ⟨v', w', h1, h2, ⟨h3.os, h3.tape, h3.output, h3.size, fun b hb => h3.block b hb (by simp [Value.ownBlock])⟩⟩
end Go.Proofs.YtbebnjeamlmclaaGreat
