/- What a Shelf of ints holds in memory, and what a step leaves of it. -/
import Derived.Test.YtbebnjeamlmclaaGreatShelf2
namespace Go.Proofs.YtbebnjeamlmclaaGreat
open Go.RowKit Go.Shelf Go.Sort
set_option maxRecDepth 100000
set_option maxRecDepth 100000

/-- The ints of a list, in a block of ints. -/
def IntsIn (W : World) (a : Option Addr) (n : Nat) (f : Nat → Int) : Prop := ∀ j, j < n → ∃ b, a = some ⟨b, 0, none⟩ ∧ Cel 3 W b j (.int .i64 (f j))
theorem IntsIn.at' {W : World} {a : Option Addr} {n : Nat} {f : Nat → Int} (h : IntsIn W a n f) : IntsAt W a n f := fun j hj => by
  obtain ⟨b, e, hc⟩ := h j hj
  exact ⟨b, 0, e, by rw [Nat.zero_add]; exact hc.cell⟩
theorem IntsIn.keep {W W' : World} {a : Option Addr} {n : Nat} {f : Nat → Int} (h : IntsIn W a n f) (hc : ∀ b t x, Cel 3 W b t x → W'.heap[b]? = W.heap[b]?) : IntsIn W' a n f := fun j hj => by
  obtain ⟨b, e, hx⟩ := h j hj
  exact ⟨b, e, hx.of_block (hc _ _ _ hx)⟩
theorem IntsIn.of_own {W : World} {K n c : Nat} {a : Option Addr} {f : Nat → Int} (h : W.ownsRow K 3 1 (.slice a n c) n ((List.range n).map fun j => .int .i64 (f j))) : IntsIn W a n f := fun j hj => by
  obtain ⟨b, c', e, hb, _⟩ := own_some h (by omega)
  refine ⟨b, by injection e, own_cel h hb ?_⟩
  simp [hj]

structure Sh (w W : World) (xb sz N M : Nat) (kv ov : Value) (ks os : List Value) : Prop where
  row : W.rowIs xb 30 11 (shCell sz kv ov)
  xbl : w.heap.size ≤ xb
  k : K1 w W kv N ks
  orow : W.ownsRow w.heap.size 31 1 ov M os
  ko : ∀ b, kv.ownBlock = some b → ov.ownBlock ≠ some b
  same : ∀ (p : Nat) (v u : Value), ks[p]? = some v → os[p]? = some u → ∃ a c a' c' n f, v = .slice a n c ∧ u = .slice a' n c' ∧ n ≤ 1048576 ∧ IntsIn W a n f ∧ IntsIn W a' n f

theorem K1.keep {w W W' : World} {kv : Value} {N : Nat} {ks : List Value} (h : K1 w W kv N ks) (hb : Below w.heap.size W W') (ho : ∀ e v n xs, (e = 3 ∨ e = 31) → W.ownsRow w.heap.size e 1 v n xs → W'.ownsRow w.heap.size e 1 v n xs) : K1 w W' kv N ks :=
  ⟨h.below.trans hb, ho _ _ _ _ (.inr rfl) h.row, fun j v hj => by obtain ⟨n, xs, hn, hr⟩ := h.own j v hj; exact ⟨n, xs, hn, ho _ _ _ _ (.inl rfl) hr⟩, h.apart⟩

/-- Behind a step that leaves every old block: all as it was. -/
theorem Sh.on {w W W' : World} {xb sz N M : Nat} {kv ov : Value} {ks os : List Value} (h : Sh w W xb sz N M kv ov ks os) (hb : Below W.heap.size W W') : Sh w W' xb sz N M kv ov ks os :=
  ⟨h.row.of_block (hb.block _ h.row.lt), h.xbl, h.k.on hb, below_own h.orow hb, h.ko, fun p v u hv hu => by
    obtain ⟨a, c, a', c', n, f, e1, e2, hn, i1, i2⟩ := h.same p v u hv hu
    exact ⟨a, c, a', c', n, f, e1, e2, hn, i1.keep (fun b _ _ hc => hb.block b hc.lt), i2.keep (fun b _ _ hc => hb.block b hc.lt)⟩⟩

/-- A store into a row of another kind leaves rows of ints and of lists of ints. -/
theorem set_owns {W : World} {K n xb m o : Nat} {e T : TypeId} {v x : Value} {xs : List Value} {f : Nat → Value} (h : W.ownsRow K e 1 v n xs) (hr : W.rowIs xb T m f) (hne : T ≠ e) : (W.setCell ⟨xb, o, none⟩ x).ownsRow K e 1 v n xs :=
  own_block h (fun b hb => Below.heap_setCell _ _ _ _ (fun e' => row_apart h hr hne (by have e2 : b = xb := e'; rw [← e2]; exact hb)))
theorem set_cel {W : World} {xb m o b t : Nat} {e T : TypeId} {x y : Value} {f : Nat → Value} (hc : Cel e W b t y) (hr : W.rowIs xb T m f) (hne : T ≠ e) : (W.setCell ⟨xb, o, none⟩ x).heap[b]? = W.heap[b]? := by
  refine Below.heap_setCell _ _ _ _ (fun e' => ?_)
  have e2 : b = xb := e'
  subst e2
  obtain ⟨c, h1, _⟩ := hr
  obtain ⟨cur, h2, _⟩ := hc
  rw [h1] at h2
  simp only [Option.some.injEq, Obj.cells.injEq] at h2
  exact hne h2.2.1

theorem Sh.size {w W : World} {xb sz N M sz' : Nat} {kv ov : Value} {ks os : List Value} (h : Sh w W xb sz N M kv ov ks os) : Sh w (W.setCell ⟨xb, 0, none⟩ (.int .i64 (sz' : Int))) xb sz' N M kv ov ks os where
  row := (h.row.set 0 _).congr (fun j _ => by unfold shCell; by_cases e : j = 0 <;> simp [e])
  xbl := h.xbl
  k := h.k.keep ((Below.refl w.heap.size W).setCell h.xbl _) (fun e v n xs he ho => set_owns ho h.row (by rcases he with rfl | rfl <;> decide))
  orow := set_owns h.orow h.row (by decide)
  ko := h.ko
  same := fun p v u hv hu => by
    obtain ⟨a, c, a', c', n, f, e1, e2, hn, i1, i2⟩ := h.same p v u hv hu
    exact ⟨a, c, a', c', n, f, e1, e2, hn, i1.keep (fun b _ _ hc => set_cel hc h.row (by decide)), i2.keep (fun b _ _ hc => set_cel hc h.row (by decide))⟩

/-- What Same asks. -/
theorem Sh.sameL {w W : World} {xb sz N : Nat} {kv ov : Value} {ks os : List Value} (h : Sh w W xb sz N N kv ov ks os) : SameL W kv ov N := by
  obtain ⟨ka, kc, rfl, hkc, _⟩ := own_slice h.k.row
  obtain ⟨oa, oc, rfl, hoc, _⟩ := own_slice h.orow
  refine ⟨ka, kc, oa, oc, rfl, rfl, hkc, hoc, fun p hp => ?_⟩
  obtain ⟨v, hv⟩ := rows_at h.k.row hp
  obtain ⟨u, hu⟩ := rows_at h.orow hp
  obtain ⟨a, c, a', c', n, f, rfl, rfl, hn, i1, i2⟩ := h.same p v u hv hu
  obtain ⟨kb, rfl⟩ := rows_some h.k.row (by omega)
  obtain ⟨ob, rfl⟩ := rows_some h.orow (by omega)
  exact ⟨kb, ob, a, c, a', c', n, f, rfl, rfl, rows_cel h.k.row hv, rows_cel h.orow hu, hn, i1.at', i2.at'⟩
end Go.Proofs.YtbebnjeamlmclaaGreat
