/- A list more on the Shelf: memory. -/
import Derived.Test.YtbebnjeamlmclaaGreatShelf3
namespace Go.Proofs.YtbebnjeamlmclaaGreat
open Go.RowKit Go.Shelf Go.Sort
set_option maxRecDepth 100000
set_option maxRecDepth 100000

/-- A list more, that is its own and none of the kept ones'. -/
theorem K1.push2 {w W : World} {kv : Value} {i : Nat} {ks : List Value} (h : K1 w W kv i ks) {a : Option Addr} {n c : Nat} {xs : List Value} (hv : W.ownsRow w.heap.size 3 1 (.slice a n c) n xs) (hn : n ≤ 1048576) (hi : i ≤ 8796093021952)
    (hfree : ∀ (j : Nat) (u : Value), ks[j]? = some u → ∀ b, u.ownBlock = some b → (Value.slice a n c).ownBlock ≠ some b) :
    ∃ kv' W3, (Builtin.append_ #[24, 24] 24 #[kv, .slice (some ⟨W.heap.size, 0, none⟩) 1 1]).run Tryz.prog (W.alloc (.cells #[.slice a n c] 31)) = .ok kv' W3 ∧ K1 w W3 kv' (i + 1) (ks ++ [.slice a n c]) ∧ Grew 31 W W3 kv.ownBlock i none ∧ (kv'.ownBlock = kv.ownBlock ∨ ∃ b, kv'.ownBlock = some b ∧ W.heap.size ≤ b) := by
  obtain ⟨kv', W3, hrun, hrow, hg, hkb⟩ := app_row h.row (y := .slice a n c) ⟨a, n, c, rfl⟩ hi h.below.size
  have hlen : ks.length = i := by have := h.row.1; omega
  have hkeep : ∀ (u : Value) (m : Nat) (ys : List Value), W.ownsRow w.heap.size 3 1 u m ys → W3.ownsRow w.heap.size 3 1 u m ys := fun u m ys hu =>
    hg.own hu (fun b hb e => own_apart h.row hu ne_kinds b e hb) (fun _ _ e => by cases e)
  refine ⟨kv', W3, hrun, ⟨h.below.trans (hg.below w.heap.size h.below.size (fun b e => (h.row.lt b e).1) (fun _ e => by cases e)), hrow, fun j u hj => ?_, fun p q u z hpq hp hq => ?_⟩, hg, hkb⟩
  · by_cases hji : j < ks.length
    · rw [List.getElem?_append_left hji] at hj
      obtain ⟨m, ys, hm, ho⟩ := h.own j u hj
      exact ⟨m, ys, hm, hkeep _ _ _ ho⟩
    · rw [List.getElem?_append_right (by omega)] at hj
      have : j - ks.length = 0 := by
        have := (List.getElem?_eq_some_iff.1 hj).1
        simpa using this
      rw [this] at hj
      obtain rfl : Value.slice a n c = u := by simpa using hj
      exact ⟨n, xs, hn, hkeep _ _ _ hv⟩
  · intro b hub
    by_cases hqi : q < ks.length
    · rw [List.getElem?_append_left hqi] at hq
      rw [List.getElem?_append_left (by omega)] at hp
      exact h.apart p q u z hpq hp hq b hub
    · rw [List.getElem?_append_right (by omega)] at hq
      have e0 : q - ks.length = 0 := by
        have := (List.getElem?_eq_some_iff.1 hq).1
        simpa using this
      rw [e0] at hq
      obtain rfl : Value.slice a n c = z := by simpa using hq
      rw [List.getElem?_append_left (by omega)] at hp
      exact hfree p u hp b hub

theorem Grew.cel {w w' : World} {g : Option Nat} {n : Nat} {K m : Nat} {v : Value} {xs : List Value} (h : Grew 31 w w' g n none) (hr : w.ownsRow K 31 1 v m xs) (hg : g = v.ownBlock) {b t : Nat} {x : Value} (hc : Cel 3 w b t x) : w'.heap[b]? = w.heap[b]? := by
  refine h.block b hc.lt (fun e => ?_) (fun e => by cases e)
  rw [hg] at e
  rcases hr.2 with ⟨e0, _⟩ | ⟨q, cap, cur, e0, _, hq, _⟩
  · rw [e0] at e; cases e
  · rw [e0] at e
    obtain rfl : q = b := by simpa [Value.ownBlock] using e
    obtain ⟨cur', h1, _⟩ := hc
    rw [hq] at h1
    simp only [Option.some.injEq, Obj.cells.injEq] at h1
    exact ne_kinds h1.2.1

theorem Sh.add1 {w W : World} {xb sz N : Nat} {kv ov : Value} {ks os : List Value} (h : Sh w W xb sz N N kv ov ks os) {a : Option Addr} {n c : Nat} {f : Nat → Int} (hl : W.ownsRow w.heap.size 3 1 (.slice a n c) n ((List.range n).map fun j => .int .i64 (f j))) (hn : n ≤ 1048576) (hN : N ≤ 8796093021952)
    (hfree : ∀ (j : Nat) (u : Value), ks[j]? = some u → ∀ b, u.ownBlock = some b → (Value.slice a n c).ownBlock ≠ some b) :
    ∃ ka kc W2, (Builtin.append_ #[24, 24] 24 #[kv, .slice (some ⟨W.heap.size, 0, none⟩) 1 1]).run Tryz.prog (W.alloc (.cells #[.slice a n c] 31)) = .ok (.slice ka (N + 1) kc) W2 ∧ W.cell? ⟨xb, 1, none⟩ = some kv ∧ W2.cell? ⟨xb, 1, none⟩ = some kv ∧ W2.frozen? ⟨xb, 1, none⟩ = false ∧
      Sh w (W2.setCell ⟨xb, 1, none⟩ (.slice ka (N + 1) kc)) xb sz (N + 1) N (.slice ka (N + 1) kc) ov (ks ++ [.slice a n c]) os ∧ (∀ u m ys, W.ownsRow w.heap.size 3 1 u m ys → (W2.setCell ⟨xb, 1, none⟩ (.slice ka (N + 1) kc)).ownsRow w.heap.size 3 1 u m ys) := by
  obtain ⟨kv', W2, hrun, hK, hg, hkb⟩ := h.k.push2 hl hn hN hfree
  obtain ⟨ka, kc, rfl, _, _⟩ := own_slice hK.row
  have hx2 := hg.rowIs h.row (row_apart h.k.row h.row (by decide)) (by simp)
  have ho2 := hg.own h.orow (fun b hb e => h.ko b e hb) (fun _ _ e => by cases e)
  have hol : os.length = N := by have := h.orow.1; omega
  have hkl : ks.length = N := by have := h.k.row.1; omega
  refine ⟨ka, kc, W2, hrun, h.row.cell (i := 1) (by decide), hx2.cell (i := 1) (by decide), hx2.frozen 1, ⟨(hx2.set 1 _).congr (fun j _ => ?_), h.xbl, hK.keep ((Below.refl w.heap.size W2).setCell h.xbl _) (fun e v n xs he ho => set_owns ho hx2 (by rcases he with rfl | rfl <;> decide)), set_owns ho2 hx2 (by decide), fun b hb e => ?_, fun p v u hv hu => ?_⟩, fun u m ys hu => set_owns (hg.own hu (fun b hb e => own_apart h.k.row hu ne_kinds b e hb) (fun _ _ e => by cases e)) hx2 (by decide)⟩
  · unfold shCell
    by_cases e : j = 1
    · subst e; simp
    · simp [e]
  · rcases hkb with e1 | ⟨b', e1, hb'⟩
    · rw [e1] at hb; exact h.ko b hb e
    · rw [e1] at hb; cases hb; have := (h.orow.lt _ e).2; omega
  · have hp : p < N := by have := (List.getElem?_eq_some_iff.1 hu).1; omega
    rw [List.getElem?_append_left (by omega)] at hv
    obtain ⟨a, c, a', c', n, f, e1, e2, hn, i1, i2⟩ := h.same p v u hv hu
    have i1' := i1.keep (fun b _ _ hc => hg.cel h.k.row rfl hc)
    have i2' := i2.keep (fun b _ _ hc => hg.cel h.k.row rfl hc)
    exact ⟨a, c, a', c', n, f, e1, e2, hn, i1'.keep (fun b _ _ hc => set_cel hc hx2 (by decide)), i2'.keep (fun b _ _ hc => set_cel hc hx2 (by decide))⟩

theorem Sh.add2 {w W : World} {xb sz N : Nat} {kv ov : Value} {ks os : List Value} {a : Option Addr} {n c : Nat} {f : Nat → Int} (h : Sh w W xb sz (N + 1) N kv ov (ks ++ [.slice a n c]) os) (hl : W.ownsRow w.heap.size 3 1 (.slice a n c) n ((List.range n).map fun j => .int .i64 (f j))) (hn : n ≤ 1048576) (hN : N ≤ 8796093021952) (hkl : ks.length = N) :
    ∃ ca cc W4 oa oc W5, (Builtin.append_ #[31, 31] 31 #[.slice (some ⟨W.heap.size, 0, none⟩) 0 0, .slice a n c]).run Tryz.prog (W.alloc (.cells #[] 3)) = .ok (.slice ca n cc) W4 ∧ W.cell? ⟨xb, 2, none⟩ = some ov ∧ W4.cell? ⟨xb, 2, none⟩ = some ov ∧
      (Builtin.append_ #[24, 24] 24 #[ov, .slice (some ⟨W4.heap.size, 0, none⟩) 1 1]).run Tryz.prog (W4.alloc (.cells #[.slice ca n cc] 31)) = .ok (.slice oa (N + 1) oc) W5 ∧ W5.cell? ⟨xb, 2, none⟩ = some ov ∧ W5.frozen? ⟨xb, 2, none⟩ = false ∧
      Sh w (W5.setCell ⟨xb, 2, none⟩ (.slice oa (N + 1) oc)) xb sz (N + 1) (N + 1) kv (.slice oa (N + 1) oc) (ks ++ [.slice a n c]) (os ++ [.slice ca n cc]) ∧ (∀ u m ys, W.ownsRow w.heap.size 3 1 u m ys → (W5.setCell ⟨xb, 2, none⟩ (.slice oa (N + 1) oc)).ownsRow w.heap.size 3 1 u m ys) := by
  have hwW := h.k.below.size
  obtain ⟨cv, W4, hr4, ho4, hb4⟩ := app_copy hl (fun u hu => by obtain ⟨j, _, rfl⟩ := List.mem_map.1 hu; rfl) hn
  obtain ⟨ca, cc, rfl, _, _⟩ := own_slice ho4
  have h4 := h.on hb4
  have hl4 := below_own hl hb4
  have hs4 := hb4.size
  obtain ⟨ov', W5, hr5, hrow, hg, hob⟩ := app_row h4.orow (y := .slice ca n cc) ⟨ca, n, cc, rfl⟩ hN (by omega)
  obtain ⟨oa, oc, rfl, _, _⟩ := own_slice hrow
  have hx5 := hg.rowIs h4.row (row_apart h4.orow h4.row (by decide)) (by simp)
  have hol : os.length = N := by have := h.orow.1; omega
  have kown : ∀ e v n xs, (e = 3 ∨ v = kv) → W4.ownsRow w.heap.size e 1 v n xs → W5.ownsRow w.heap.size e 1 v n xs := fun e v n xs he ho => by
    refine hg.own ho (fun b hb e' => ?_) (fun _ _ e => by cases e)
    rcases he with rfl | rfl
    · exact own_apart h4.orow ho ne_kinds b e' hb
    · exact h.ko b hb e'
  have hK5 : K1 w W5 kv (N + 1) (ks ++ [.slice a n c]) := ⟨h4.k.below.trans (hg.below w.heap.size (by omega) (fun b e => (h4.orow.lt b e).1) (fun _ e => by cases e)), kown _ _ _ _ (.inr rfl) h4.k.row, fun j v hj => by obtain ⟨m, ys, hm, ho⟩ := h4.k.own j v hj; exact ⟨m, ys, hm, kown _ _ _ _ (.inl rfl) ho⟩, h4.k.apart⟩
  refine ⟨ca, cc, W4, oa, oc, W5, hr4, h.row.cell (i := 2) (by decide), h4.row.cell (i := 2) (by decide), hr5, hx5.cell (i := 2) (by decide), hx5.frozen 2, ⟨(hx5.set 2 _).congr (fun j _ => ?_), h.xbl, hK5.keep ((Below.refl w.heap.size W5).setCell h.xbl _) (fun e v n xs he ho => set_owns ho hx5 (by rcases he with rfl | rfl <;> decide)), set_owns hrow hx5 (by decide), fun b hb e => ?_, fun p v u hv hu => ?_⟩, fun u m ys hu => set_owns (kown _ _ _ _ (.inl rfl) (below_own hu hb4)) hx5 (by decide)⟩
  · unfold shCell
    by_cases e : j = 2
    · subst e; simp
    · simp [e]
  · rcases hob with e1 | ⟨b', e1, hb'⟩
    · rw [e1] at e; exact h.ko b hb e
    · rw [e1] at e; cases e; have := (h4.k.row.lt _ hb).2; omega
  · by_cases hp : p < N
    · rw [List.getElem?_append_left (by omega)] at hu
      obtain ⟨a, c, a', c', n, f, e1, e2, hn, i1, i2⟩ := h4.same p v u hv hu
      have i1' := i1.keep (fun b _ _ hc => hg.cel h4.orow rfl hc)
      have i2' := i2.keep (fun b _ _ hc => hg.cel h4.orow rfl hc)
      exact ⟨a, c, a', c', n, f, e1, e2, hn, i1'.keep (fun b _ _ hc => set_cel hc hx5 (by decide)), i2'.keep (fun b _ _ hc => set_cel hc hx5 (by decide))⟩
    · rw [List.getElem?_append_right (by omega)] at hu hv
      have e0 : p - os.length = 0 := by
        have := (List.getElem?_eq_some_iff.1 hu).1
        simpa using this
      have e0' : p - ks.length = 0 := by omega
      rw [e0] at hu
      rw [e0'] at hv
      obtain rfl : Value.slice a n c = v := by simpa using hv
      obtain rfl : Value.slice ca n cc = u := by simpa using hu
      have i1' := (IntsIn.of_own hl4).keep (fun b _ _ hc => hg.cel h4.orow rfl hc)
      have i2' := (IntsIn.of_own ho4).keep (fun b _ _ hc => hg.cel h4.orow rfl hc)
      exact ⟨a, c, ca, cc, n, f, rfl, rfl, hn, i1'.keep (fun b _ _ hc => set_cel hc hx5 (by decide)), i2'.keep (fun b _ _ hc => set_cel hc hx5 (by decide))⟩
end Go.Proofs.YtbebnjeamlmclaaGreat
