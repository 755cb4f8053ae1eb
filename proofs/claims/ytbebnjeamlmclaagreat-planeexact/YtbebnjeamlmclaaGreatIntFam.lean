/- Lists of numbers, and lists of such lists (LineFam's twin, for numbers). -/
import Derived.Test.YtbebnjeamlmclaaGreatFam
namespace Go.Proofs.YtbebnjeamlmclaaGreat
open Go.RowKit
set_option maxRecDepth 100000

theorem lineInfo : (Tryz.prog.info? 31).map (fun i => (i.zero, i.size, i.bytes)) = some (some (.slice none 0 0), 1, 24) := by kernel_rfl
theorem textInfo : (Tryz.prog.info? 3).map (fun i => (i.zero, i.size, i.bytes)) = some (some (.int .i64 0), 1, 8) := by kernel_rfl

theorem below_own {W W' : World} {K n : Nat} {e : TypeId} {v : Value} {xs : List Value} (h : W.ownsRow K e 1 v n xs) (hb : Below W.heap.size W W') : W'.ownsRow K e 1 v n xs :=
  own_block h (fun b e => hb.block b (h.lt b e).2)

/-- The lists that are kept. -/
structure K1 (w W : World) (kv : Value) (i : Nat) (ks : List Value) : Prop where
  below : Below w.heap.size w W
  row : W.ownsRow w.heap.size 31 1 kv i ks
  own : ∀ (j : Nat) (v : Value), ks[j]? = some v → ∃ n xs, n ≤ 1048576 ∧ W.ownsRow w.heap.size 3 1 v n xs
  apart : ∀ (a b : Nat) (v u : Value), a < b → ks[a]? = some v → ks[b]? = some u → ∀ c, v.ownBlock = some c → u.ownBlock ≠ some c

theorem K1.on {w W W' : World} {kv : Value} {i : Nat} {ks : List Value} (h : K1 w W kv i ks) (hb : Below W.heap.size W W') : K1 w W' kv i ks :=
  ⟨h.below.trans (hb.mono h.below.size), below_own h.row hb, fun j v hj => by obtain ⟨n, xs, hn, ho⟩ := h.own j v hj; exact ⟨n, xs, hn, below_own ho hb⟩, h.apart⟩

theorem app_row {w : World} {K n : Nat} {v y : Value} {xs : List Value} (h : w.ownsRow K 31 1 v n xs) (hy : ∃ a l c, y = .slice a l c) (hn : n ≤ 8796093021952) (hK : K ≤ w.heap.size) :
    ∃ v' w', (Builtin.append_ #[24, 24] 24 #[v, .slice (some ⟨w.heap.size, 0, none⟩) 1 1]).run Tryz.prog (w.alloc (.cells #[y] 31)) = .ok v' w' ∧ w'.ownsRow K 31 1 v' (n + 1) (xs ++ [y]) ∧ Grew 31 w w' v.ownBlock n none ∧ (v'.ownBlock = v.ownBlock ∨ ∃ b, v'.ownBlock = some b ∧ w.heap.size ≤ b) := by
  obtain ⟨a, l, c, rfl⟩ := hy
  exact app_one Tryz.underlying24 lineInfo rfl h rfl (by omega) (by omega) hK
theorem app_txt {w : World} {K n : Nat} {v : Value} {xs : List Value} (h : w.ownsRow K 3 1 v n xs) (s : Int) (hn : n ≤ 1050000) (hK : K ≤ w.heap.size) :
    ∃ v' w', (Builtin.append_ #[31, 31] 31 #[v, .slice (some ⟨w.heap.size, 0, none⟩) 1 1]).run Tryz.prog (w.alloc (.cells #[.int .i64 s] 3)) = .ok v' w' ∧ w'.ownsRow K 3 1 v' (n + 1) (xs ++ [.int .i64 s]) ∧ Grew 3 w w' v.ownBlock n none ∧ (v'.ownBlock = v.ownBlock ∨ ∃ b, v'.ownBlock = some b ∧ w.heap.size ≤ b) :=
  app_one Tryz.underlying31 textInfo rfl h rfl (by omega) (by omega) hK

theorem ne_kinds : (31 : TypeId) ≠ 3 := by decide

theorem K1.push {w W W2 : World} {kv : Value} {i : Nat} {ks : List Value} (h : K1 w W kv i ks) (hb : Below W.heap.size W W2) {v : Value} {n : Nat} {xs : List Value} (hv : W2.ownsRow W.heap.size 3 1 v n xs) (hn : n ≤ 1048576) (hi : i ≤ 8796093021952) :
    ∃ kv' W3, (Builtin.append_ #[24, 24] 24 #[kv, .slice (some ⟨W2.heap.size, 0, none⟩) 1 1]).run Tryz.prog (W2.alloc (.cells #[v] 31)) = .ok kv' W3 ∧ K1 w W3 kv' (i + 1) (ks ++ [v]) := by
  have h2 := h.on hb
  obtain ⟨a, c, rfl, _, _⟩ := own_slice hv
  obtain ⟨kv', W3, hrun, hrow, hg, _⟩ := app_row h2.row (y := .slice a n c) ⟨a, n, c, rfl⟩ hi h2.below.size
  have hlen : ks.length = i := by have := h.row.1; omega
  have hkeep : ∀ (u : Value) (m : Nat) (ys : List Value), W2.ownsRow w.heap.size 3 1 u m ys → W3.ownsRow w.heap.size 3 1 u m ys := fun u m ys hu =>
    hg.own hu (fun b hb e => own_apart h2.row hu ne_kinds b e hb) (fun _ _ e => by cases e)
  refine ⟨kv', W3, hrun, ⟨h2.below.trans (hg.below w.heap.size h2.below.size (fun b e => (h2.row.lt b e).1) (fun _ e => by cases e)), hrow, fun j u hj => ?_, fun p q u z hpq hp hq => ?_⟩⟩
  · by_cases hji : j < ks.length
    · rw [List.getElem?_append_left hji] at hj
      obtain ⟨m, ys, hm, ho⟩ := h2.own j u hj
      exact ⟨m, ys, hm, hkeep _ _ _ ho⟩
    · rw [List.getElem?_append_right (by omega)] at hj
      have : j - ks.length = 0 := by
        have := (List.getElem?_eq_some_iff.1 hj).1
        simpa using this
      rw [this] at hj
      obtain rfl : Value.slice a n c = u := by simpa using hj
      exact ⟨n, xs, hn, hkeep _ _ _ (hv.mono h.below.size)⟩
  · intro b hub
    by_cases hqi : q < ks.length
    · rw [List.getElem?_append_left hqi] at hq
      rw [List.getElem?_append_left (by omega)] at hp
      exact h.apart p q u z hpq hp hq b hub
    · rw [List.getElem?_append_right (by omega)] at hq
      have e0 : q - ks.length = 0 := by
        have := (List.getElem?_eq_some_iff.1 hq).1
        simpa using this
      rw [e0] at hq
      obtain rfl : Value.slice a n c = z := by simpa using hq
      rw [List.getElem?_append_left (by omega)] at hp
      obtain ⟨m, ys, _, ho⟩ := h.own p u hp
      have l1 := (ho.lt b hub).2
      intro e
      have l2 := (hv.lt b e).1
      omega

/-- The lists of which the first i are marked, and of list i the first k texts. -/
structure K2 (mk : Nat → Value) (w W : World) (kv : Value) (N : Nat) (ks : List Value) (i k : Nat) : Prop where
  base : K1 w W kv N ks
  marks : ∀ (j : Nat) (v : Value), ks[j]? = some v → ∃ n xs, n ≤ 1048576 ∧ W.ownsRow w.heap.size 3 1 v n xs ∧ (j < i → xs = List.replicate n (mk j)) ∧ (j = i → ∀ t, t < k → t < n → xs[t]? = some (mk i))

theorem K1.marked {mk : Nat → Value} {w W : World} {kv : Value} {N : Nat} {ks : List Value} (h : K1 w W kv N ks) : K2 mk w W kv N ks 0 0 :=
  ⟨h, fun j v hj => by obtain ⟨n, xs, hn, ho⟩ := h.own j v hj; exact ⟨n, xs, hn, ho, fun h => absurd h (Nat.not_lt_zero _), fun _ t ht => absurd ht (Nat.not_lt_zero _)⟩⟩
theorem K2.on {mk : Nat → Value} {w W W' : World} {kv : Value} {N : Nat} {ks : List Value} {i k : Nat} (h : K2 mk w W kv N ks i k) (hb : Below W.heap.size W W') : K2 mk w W' kv N ks i k :=
  ⟨h.base.on hb, fun j v hj => by obtain ⟨n, xs, hn, ho, h1, h2⟩ := h.marks j v hj; exact ⟨n, xs, hn, below_own ho hb, h1, h2⟩⟩
theorem K2.next {mk : Nat → Value} {w W : World} {kv : Value} {N : Nat} {ks : List Value} {i k : Nat} (h : K2 mk w W kv N ks i k) {v : Value} {a : Option Addr} {n c : Nat} (hv : ks[i]? = some v) (hs : v = .slice a n c) (hk : n ≤ k) : K2 mk w W kv N ks (i + 1) 0 :=
  ⟨h.base, fun j u hj => by
    obtain ⟨m, xs, hm, ho, h1, h2⟩ := h.marks j u hj
    refine ⟨m, xs, hm, ho, fun hji => ?_, fun _ t ht => absurd ht (Nat.not_lt_zero _)⟩
    by_cases e : j < i
    · exact h1 e
    · obtain rfl : j = i := by omega
      rw [hv] at hj
      obtain rfl : v = u := by simpa using hj
      obtain ⟨a', c', e1, _⟩ := own_slice ho
      rw [hs] at e1
      have e2 : n = m := by injection e1
      have hl : xs.length = m := by have := ho.1; omega
      apply List.ext_getElem?
      intro t
      by_cases ht : t < m
      · rw [h2 rfl t (by omega) ht, List.getElem?_replicate, if_pos ht]
      · rw [List.getElem?_eq_none (by omega), List.getElem?_replicate, if_neg ht]⟩
theorem K2.store {mk : Nat → Value} {w W : World} {kv : Value} {N : Nat} {ks : List Value} {i k g n c : Nat} (h : K2 mk w W kv N ks i k) (hv : ks[i]? = some (.slice (some ⟨g, 0, none⟩) n c)) (hk : k < n) :
    K2 mk w (W.setCell ⟨g, k, none⟩ (mk i)) kv N ks i (k + 1) := by
  obtain ⟨m, xs, hm, ho, h1, h2⟩ := h.marks i _ hv
  have e2 : n = m := by obtain ⟨a', c', e1, _⟩ := own_slice ho; injection e1
  subst e2
  have hgl := ho.lt g rfl
  have hne : ∀ (j : Nat) (u : Value), ks[j]? = some u → j ≠ i → ∀ b, u.ownBlock = some b → b ≠ g := fun j u hj hji b hb e => by
    subst e
    rcases Nat.lt_or_gt_of_ne hji with l | l
    · exact h.base.apart j i u _ l hj hv b hb rfl
    · exact h.base.apart i j _ u l hv hj b rfl hb
  have hother : ∀ (e : TypeId) (u : Value) (m : Nat) (ys : List Value), W.ownsRow w.heap.size e 1 u m ys → (∀ b, u.ownBlock = some b → b ≠ g) → (W.setCell ⟨g, k, none⟩ (mk i)).ownsRow w.heap.size e 1 u m ys := fun e u m ys hu hn =>
    own_block hu (fun b hb => Below.heap_setCell _ _ _ _ (hn b hb))
  have hrow := hother _ _ _ _ h.base.row (fun b hb e => by subst e; exact own_apart h.base.row ho ne_kinds b hb rfl)
  have hst := (ho.stored k (mk i)).1
  refine ⟨⟨h.base.below.setCell hgl.1 _, hrow, fun j u hj => ?_, h.base.apart⟩, fun j u hj => ?_⟩
  · by_cases e : j = i
    · subst e
      rw [hv] at hj
      obtain rfl := Option.some.inj hj
      exact ⟨n, _, hm, hst⟩
    · obtain ⟨m', ys, hm', ho', _⟩ := h.marks j u hj
      exact ⟨m', ys, hm', hother _ _ _ _ ho' (hne j u hj e)⟩
  · by_cases e : j = i
    · subst e
      rw [hv] at hj
      obtain rfl := Option.some.inj hj
      refine ⟨n, _, hm, hst, fun h => absurd h (Nat.lt_irrefl _), fun _ t ht htn => ?_⟩
      have hl : xs.length = n := by have := ho.1; omega
      rw [List.getElem?_set]
      by_cases e : k = t
      · subst e; rw [if_pos rfl, if_pos (by omega)]
      · rw [if_neg e]; exact h2 rfl t (by omega) htn
    · obtain ⟨m', ys, hm', ho', h1', h2'⟩ := h.marks j u hj
      exact ⟨m', ys, hm', hother _ _ _ _ ho' (hne j u hj e), h1', fun e' => absurd e' e⟩
end Go.Proofs.YtbebnjeamlmclaaGreat
