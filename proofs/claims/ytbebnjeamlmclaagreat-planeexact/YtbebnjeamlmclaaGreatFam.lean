/- Lists side by side, of elements of one cell: what an append of one leaves of all others. -/
import Derived.Test.YtbebnjeamlmclaaGreatProg
import Derived.WalkKit
import Derived.OwnWalk
import Derived.Below
import Derived.Deep.OwnRows
import Derived.Deep.Onto
import Derived.Deep.DeepAppendWide
namespace Go.Proofs.YtbebnjeamlmclaaGreat
open Go.RowKit
set_option maxRecDepth 100000

/-- Cell j of block b, a row of elements of type e, holds x. -/
def Cel (e : TypeId) (w : World) (b j : Nat) (x : Value) : Prop := ∃ cur, w.heap[b]? = some (.cells cur e (0, 0)) ∧ cur[j]? = some x
theorem Cel.cell {e : TypeId} {w : World} {b j : Nat} {x : Value} (h : Cel e w b j x) : w.cell? ⟨b, j, none⟩ = some x := by
  obtain ⟨cur, h1, h2⟩ := h
  simp [World.cell?, h1, h2]
theorem Cel.lt {e : TypeId} {w : World} {b j : Nat} {x : Value} (h : Cel e w b j x) : b < w.heap.size := by
  obtain ⟨cur, h1, _⟩ := h
  exact (Array.getElem?_eq_some_iff.1 h1).1
theorem Cel.of_block {e : TypeId} {w w' : World} {b j : Nat} {x : Value} (h : Cel e w b j x) (hb : w'.heap[b]? = w.heap[b]?) : Cel e w' b j x := by
  obtain ⟨cur, h1, h2⟩ := h
  exact ⟨cur, hb.trans h1, h2⟩
theorem Cel.apart {e e' : TypeId} {w : World} {b b' j j' : Nat} {x x' : Value} (h : Cel e w b j x) (h' : Cel e' w b' j' x') (hne : e ≠ e') : b ≠ b' := by
  rintro rfl
  obtain ⟨cur, h1, _⟩ := h
  obtain ⟨cur', h1', _⟩ := h'
  rw [h1] at h1'
  simp only [Option.some.injEq, Obj.cells.injEq] at h1'
  exact hne h1'.2.1
theorem own_cel {w : World} {K : Nat} {e : TypeId} {v : Value} {n : Nat} {xs : List Value} (h : w.ownsRow K e 1 v n xs) {b j : Nat} {x : Value} (hb : v.ownBlock = some b) (hx : xs[j]? = some x) : Cel e w b j x := by
  rcases h.2 with ⟨rfl, _⟩ | ⟨g, cap, cur, rfl, _, hq, _, _, _, htake⟩
  · cases hb
  · obtain rfl : g = b := by simpa [Value.ownBlock] using hb
    refine ⟨cur, hq, ?_⟩
    have hj : j < xs.length := (List.getElem?_eq_some_iff.1 hx).1
    rw [← htake] at hx
    rw [List.getElem?_take] at hx
    split at hx
    · simpa using hx
    · cases hx
/-- The block of a row that is not empty. -/
theorem own_some {w : World} {K : Nat} {e : TypeId} {v : Value} {n : Nat} {xs : List Value} (h : w.ownsRow K e 1 v n xs) (hn : 0 < n) : ∃ b c, v = .slice (some ⟨b, 0, none⟩) n c ∧ v.ownBlock = some b ∧ K ≤ b ∧ b < w.heap.size ∧ n ≤ c := by
  rcases h.2 with ⟨_, rfl⟩ | ⟨g, cap, cur, rfl, hk, hq, hc, _⟩
  · omega
  · exact ⟨g, cap, rfl, rfl, hk, (Array.getElem?_eq_some_iff.1 hq).1, hc⟩
theorem own_slice {w : World} {K : Nat} {e : TypeId} {v : Value} {n : Nat} {xs : List Value} (h : w.ownsRow K e 1 v n xs) : ∃ a c, v = .slice a n c ∧ n ≤ c ∧ (∀ b, v.ownBlock = some b → a = some ⟨b, 0, none⟩) := by
  rcases h.2 with ⟨rfl, rfl⟩ | ⟨g, cap, cur, rfl, _, _, hc, _⟩
  · exact ⟨none, 0, rfl, Nat.le_refl _, fun b h => by cases h⟩
  · exact ⟨_, cap, rfl, hc, fun b h => by simp [Value.ownBlock] at h; rw [h]⟩
theorem own_apart {w : World} {K K' : Nat} {e e' : TypeId} {v v' : Value} {n n' : Nat} {xs xs' : List Value} (h : w.ownsRow K e 1 v n xs) (h' : w.ownsRow K' e' 1 v' n' xs') (hne : e ≠ e') : ∀ b, v.ownBlock = some b → v'.ownBlock ≠ some b := by
  intro b hb hb'
  rcases h.2 with ⟨rfl, _⟩ | ⟨g, cap, cur, rfl, _, hq, _⟩
  · cases hb
  · rcases h'.2 with ⟨rfl, _⟩ | ⟨g', cap', cur', rfl, _, hq', _⟩
    · cases hb'
    · obtain rfl : g = b := by simpa [Value.ownBlock] using hb
      obtain rfl : g' = g := by simpa [Value.ownBlock] using hb'
      rw [hq] at hq'
      simp only [Option.some.injEq, Obj.cells.injEq] at hq'
      exact hne hq'.2.1
theorem own_block {w w' : World} {K : Nat} {e : TypeId} {v : Value} {n : Nat} {xs : List Value} (h : w.ownsRow K e 1 v n xs) (hb : ∀ b, v.ownBlock = some b → w'.heap[b]? = w.heap[b]?) : w'.ownsRow K e 1 v n xs := by
  refine ⟨h.1, ?_⟩
  rcases h.2 with ⟨rfl, h0⟩ | ⟨g, cap, cur, rfl, hk, hq, hr⟩
  · exact .inl ⟨rfl, h0⟩
  · exact .inr ⟨g, cap, cur, rfl, hk, (hb g rfl).trans hq, hr⟩

/-- From w to w' only the block g has been written, from its cell n on, and the block f; all else that was there is as it was. -/
structure Grew (e : TypeId) (w w' : World) (g : Option Nat) (n : Nat) (f : Option Nat) : Prop where
  os : w'.os = w.os
  tape : w'.tape = w.tape
  output : w'.output = w.output
  size : w.heap.size ≤ w'.heap.size
  block : ∀ b, b < w.heap.size → g ≠ some b → f ≠ some b → w'.heap[b]? = w.heap[b]?
  cell : ∀ b j x, g = some b → f ≠ some b → j < n → Cel e w b j x → Cel e w' b j x

theorem Grew.refl (e : TypeId) (w : World) (g : Option Nat) (n : Nat) (f : Option Nat) : Grew e w w g n f := ⟨rfl, rfl, rfl, Nat.le_refl _, fun _ _ _ _ => rfl, fun _ _ _ _ _ _ h => h⟩

theorem Grew.of_below {w w' : World} (h : Below w.heap.size w w') (e : TypeId) (g : Option Nat) (n : Nat) (f : Option Nat) : Grew e w w' g n f :=
  ⟨h.os, h.tape, h.output, h.size, fun b hb _ _ => h.block b hb, fun b _ _ _ _ _ hc => hc.of_block (h.block b hc.lt)⟩

theorem Grew.below {e : TypeId} {w w' : World} {g : Option Nat} {n : Nat} {f : Option Nat} (h : Grew e w w' g n f) (K : Nat) (hK : K ≤ w.heap.size) (hg : ∀ b, g = some b → K ≤ b) (hf : ∀ b, f = some b → K ≤ b) : Below K w w' :=
  ⟨h.os, h.tape, h.output, h.size, fun b hb => h.block b (by omega) (fun e => by have := hg b e; omega) (fun e => by have := hf b e; omega)⟩

/-- A row elsewhere is as it was. -/
theorem Grew.own {e : TypeId} {w w' : World} {g f : Option Nat} {m : Nat} (k : Grew e w w' g m f) {K : Nat} {e' : TypeId} {v : Value} {n : Nat} {xs : List Value} (h : w.ownsRow K e' 1 v n xs) (hg : ∀ b, v.ownBlock = some b → g ≠ some b) (hf : ∀ b, v.ownBlock = some b → f ≠ some b) : w'.ownsRow K e' 1 v n xs :=
  own_block h (fun b hb => k.block b (h.lt b hb).2 (hg b hb) (hf b hb))

/-- One more step: the list under way lies where it began, or in new memory; so does the other row. -/
theorem Grew.trans {e : TypeId} {w w1 w2 : World} {g g1 f f1 : Option Nat} {n n1 : Nat} (h : Grew e w w1 g n f) (k : Grew e w1 w2 g1 n1 f1) (hg : g1 = g ∧ n ≤ n1 ∨ ∀ b, g1 = some b → w.heap.size ≤ b) (hf : f1 = f ∨ ∀ b, f1 = some b → w.heap.size ≤ b) : Grew e w w2 g n f := by
  have ne1 : ∀ b, b < w.heap.size → g ≠ some b → g1 ≠ some b := fun b hb hn e => by
    rcases hg with ⟨rfl, _⟩ | hg
    · exact hn e
    · have := hg b e; omega
  have nf1 : ∀ b, b < w.heap.size → f ≠ some b → f1 ≠ some b := fun b hb hn e => by
    rcases hf with rfl | hf
    · exact hn e
    · have := hf b e; omega
  refine ⟨k.os.trans h.os, k.tape.trans h.tape, k.output.trans h.output, Nat.le_trans h.size k.size, fun b hb h1 h2 => ?_, fun b j x eg hfb hj hc => ?_⟩
  · rw [k.block b (Nat.lt_of_lt_of_le hb h.size) (ne1 b hb h1) (nf1 b hb h2)]
    exact h.block b hb h1 h2
  · have hb := hc.lt
    have hc1 := h.cell b j x eg hfb hj hc
    by_cases e1 : g1 = some b
    · rcases hg with ⟨_, hn⟩ | hg
      · exact k.cell b j x e1 (nf1 b hb hfb) (by omega) hc1
      · have := hg b e1; omega
    · exact hc1.of_block (k.block b (Nat.lt_of_lt_of_le hb h.size) e1 (nf1 b hb hfb))

/-- append of one, whatever the element's type. -/
theorem app_one {P : Program} {w : World} {K n bytes : Nat} {v z y : Value} {xs : List Value} {t ty e : TypeId} (ht : P.underlying t = some (.slice e)) (hinfo : (P.info? e).map (fun i => (i.zero, i.size, i.bytes)) = some (some z, 1, bytes)) (hzc : z.cells.size = 1)
    (h : w.ownsRow K e 1 v n xs) (hy : y.oneCell' = true) (hb : ((n + 1) + (n + 1) / 4 + 192) * bytes ≤ 281474976710656) (hn : n + 1 ≤ 140737488355328) (hK : K ≤ w.heap.size) :
    ∃ v' w', (Builtin.append_ #[t, t] ty #[v, .slice (some ⟨w.heap.size, 0, none⟩) 1 1]).run P (w.alloc (.cells #[y] e)) = .ok v' w' ∧ w'.ownsRow K e 1 v' (n + 1) (xs ++ [y]) ∧ Grew e w w' v.ownBlock n none ∧ (v'.ownBlock = v.ownBlock ∨ ∃ b, v'.ownBlock = some b ∧ w.heap.size ≤ b) := by
  obtain ⟨i0, hi, hz0, hz1, hz2⟩ : ∃ i, P.info? e = some i ∧ i.zero = some z ∧ i.size = 1 ∧ i.bytes = bytes := by
    obtain ⟨i, hi, hh⟩ := Option.map_eq_some_iff.1 hinfo
    simp only [Prod.mk.injEq] at hh
    exact ⟨i, hi, hh.1, hh.2.1, hh.2.2⟩
  have hnews : ∀ j u, [y][j]? = some u → (w.alloc (.cells #[y] e)).cell? ((⟨w.heap.size, 0, none⟩ : Addr).add j) = some u := fun j u hj => by
    obtain ⟨hj1, hj2⟩ := List.getElem?_eq_some_iff.1 hj
    have : j = 0 := by simpa using hj1
    subst this
    rw [← hj2]
    simp [Addr.add]
  have hwf : ∀ u, u ∈ [y] → u.oneCell' = true := fun u hu => by rw [show u = y by simpa using hu]; exact hy
  have hml : maxLen = 9223372036854775807 := rfl
  have ho := h.alloc (.cells #[y] e)
  have hz : (w.alloc (.cells #[y] e)).heap.size = w.heap.size + 1 := by simp
  obtain ⟨v', w', h1, h2, h3, _⟩ := run_append_own_wide (P := P) (w.alloc (.cells #[y] e)) K t ty e i0 z 1 bytes ht hi hz0 hz1 hz2 hzc (by decide) v n xs ho ⟨w.heap.size, 0, none⟩ 1 1 [y] rfl hnews hwf (by omega) hb (by omega)
  have hlt := h.lt
  refine ⟨v', w', h1, h2, ⟨h3.os, h3.tape, h3.output, by have := h3.size; omega, fun b hb hg _ => ?_, fun b j x hg _ hj hc => ?_⟩, ?_⟩
  · rw [h3.block b (by omega) (fun e => hg e.symm)]
    exact Below.heap_alloc _ _ _ hb
  · rcases ho.2 with ⟨rfl, hn0⟩ | ⟨q, cap, cur, rfl, hbg, hq, hnc, hcm, hcs, htake⟩
    · omega
    · obtain rfl : q = b := by simpa [Value.ownBlock] using hg
      have hqb := (hlt q rfl).2
      have hxs : xs[j]? = some x := by
        rw [← h.cellAt j (by omega)]
        exact hc.cell
      by_cases hroom : n + 1 ≤ cap
      · have hr2 := run_append_room (P := P) (w.alloc (.cells #[y] e)) t ty e i0 ht hi q n cap cur hq ⟨w.heap.size, 0, none⟩ 1 1 [y] (by rw [hz1]; rfl) hnews hwf hroom (by rw [hz1, hcs]; show n * 1 + 1 ≤ cap * 1; omega)
        rw [hr2] at h1
        injection h1 with e1 e2
        subst e1
        exact own_cel h2 rfl (by rw [List.getElem?_append_left (by rw [h.1]; omega)]; exact hxs)
      · have hr2 := run_append_grow (P := P) (w.alloc (.cells #[y] e)) t ty e i0 z ht hi hz0 ⟨q, 0, none⟩ n cap xs (by rw [hz1]; exact ho.1) (ho.cells (g := q) rfl) ⟨w.heap.size, 0, none⟩ 1 1 [y] (by rw [hz1]; rfl) hnews (by omega) (by omega) (by rw [hz2]; exact growslice_fits_wide (by omega) hb)
        rw [hr2] at h1
        injection h1 with e1 e2
        subst e2
        refine (hc.of_block (Below.heap_alloc _ (.cells #[y] e) _ hqb)).of_block ?_
        exact heap_alloc_old (w.alloc (.cells #[y] e)).drew _ (by simp; omega)
  · rcases ho.2 with ⟨rfl, hn0⟩ | ⟨q, cap, cur, rfl, hbg, hq, hnc, hcm, hcs, htake⟩
    · subst hn0
      have hr2 := run_append_nil (P := P) (w.alloc (.cells #[y] e)) t ty e i0 z ht hi hz0 ⟨w.heap.size, 0, none⟩ 1 1 [y] (by rw [hz1]; rfl) hnews (by omega) (by omega) (by rw [hz2]; omega)
      rw [hr2] at h1
      injection h1 with e1 e2
      subst e1
      exact .inr ⟨_, rfl, by show w.heap.size ≤ (w.alloc (.cells #[y] e)).heap.size; omega⟩
    · by_cases hroom : n + 1 ≤ cap
      · have hr2 := run_append_room (P := P) (w.alloc (.cells #[y] e)) t ty e i0 ht hi q n cap cur hq ⟨w.heap.size, 0, none⟩ 1 1 [y] (by rw [hz1]; rfl) hnews hwf hroom (by rw [hz1, hcs]; show n * 1 + 1 ≤ cap * 1; omega)
        rw [hr2] at h1
        injection h1 with e1 e2
        subst e1
        exact .inl rfl
      · have hr2 := run_append_grow (P := P) (w.alloc (.cells #[y] e)) t ty e i0 z ht hi hz0 ⟨q, 0, none⟩ n cap xs (by rw [hz1]; exact ho.1) (ho.cells (g := q) rfl) ⟨w.heap.size, 0, none⟩ 1 1 [y] (by rw [hz1]; rfl) hnews (by omega) (by omega) (by rw [hz2]; exact growslice_fits_wide (by omega) hb)
        rw [hr2] at h1
        injection h1 with e1 e2
        subst e1
        exact .inr ⟨_, rfl, by show w.heap.size ≤ (w.alloc (.cells #[y] e)).heap.size; omega⟩
end Go.Proofs.YtbebnjeamlmclaaGreat
