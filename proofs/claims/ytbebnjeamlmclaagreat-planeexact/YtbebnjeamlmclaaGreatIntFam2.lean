/- Lists of ints that are appended to, one after the other. -/
import Derived.Test.YtbebnjeamlmclaaGreatSpread3
namespace Go.Proofs.YtbebnjeamlmclaaGreat
open Go.RowKit
set_option maxRecDepth 100000

/-- A list that is done: what was kept of it, the one with forty ints put behind. -/
def Dn (mk : Nat → Value) (S0 : Nat) (W : World) (j : Nat) (v m : Value) : Prop :=
  ∃ (n : Nat) (a : Option Addr) (c M cm : Nat), n ≤ 1048576 ∧ v = .slice a n c ∧ n ≤ c ∧ m = .slice (some ⟨M, 0, none⟩) (n + 40) cm ∧ n + 40 ≤ cm ∧
    (∀ t, t < n → ∃ g, a = some ⟨g, 0, none⟩ ∧ Cel 3 W g t (mk j)) ∧ (∀ t, t < n + 40 → Cel 3 W M t (mk j)) ∧ (v.ownBlock = some M ∨ S0 ≤ M)

theorem Dn.keep {mk : Nat → Value} {S0 : Nat} {W W' : World} {j : Nat} {v m : Value} (h : Dn mk S0 W j v m) (k : ∀ b t x, Cel 3 W b t x → (v.ownBlock = some b ∨ S0 ≤ b) → W'.heap[b]? = W.heap[b]?) : Dn mk S0 W' j v m := by
  obtain ⟨n, a, c, M, cm, hn, rfl, hc, rfl, hcm, h1, h3, h6⟩ := h
  refine ⟨n, a, c, M, cm, hn, rfl, hc, rfl, hcm, fun t ht => ?_, fun t ht => (h3 t ht).of_block (k _ _ _ (h3 t ht) h6), h6⟩
  obtain ⟨g, e, hg⟩ := h1 t ht
  exact ⟨g, e, hg.of_block (k _ _ _ hg (.inl (by rw [e]; rfl)))⟩

structure K3 (mk : Nat → Value) (w W : World) (S0 : Nat) (kv mv : Value) (N i : Nat) (ks ms : List Value) : Prop where
  below : Below w.heap.size w W
  s0 : w.heap.size ≤ S0
  s1 : S0 ≤ W.heap.size
  krow : W.ownsRow w.heap.size 31 1 kv N ks
  mrow : W.ownsRow w.heap.size 31 1 mv i ms
  km : ∀ b, kv.ownBlock = some b → mv.ownBlock ≠ some b
  low : ∀ (j : Nat) (v : Value), ks[j]? = some v → ∀ b, v.ownBlock = some b → b < S0
  rest : ∀ (j : Nat) (v : Value), i ≤ j → ks[j]? = some v → ∃ n, n ≤ 1048576 ∧ W.ownsRow w.heap.size 3 1 v n (List.replicate n (mk j))
  apart : ∀ (a b : Nat) (v u : Value), a < b → ks[a]? = some v → ks[b]? = some u → ∀ c, v.ownBlock = some c → u.ownBlock ≠ some c
  done : ∀ (j : Nat) (v m : Value), j < i → ks[j]? = some v → ms[j]? = some m → Dn mk S0 W j v m

theorem K2.to3 {mk : Nat → Value} {w W : World} {kv : Value} {N : Nat} {ks : List Value} {k : Nat} (h : K2 mk w W kv N ks N k) : K3 mk w W W.heap.size kv (.slice none 0 0) N 0 ks [] where
  below := h.base.below
  s0 := h.base.below.size
  s1 := Nat.le_refl _
  krow := h.base.row
  mrow := World.ownsRow_nil _ _ _ _
  km := fun _ _ e => by cases e
  low := fun j v hj b hb => by obtain ⟨n, xs, _, ho⟩ := h.base.own j v hj; exact (ho.lt b hb).2
  rest := fun j v _ hj => by
    obtain ⟨n, xs, hn, ho, h1, _⟩ := h.marks j v hj
    have hl : ks.length = N := by have := h.base.row.1; omega
    have hjN : j < N := by have := (List.getElem?_eq_some_iff.1 hj).1; omega
    rw [h1 hjN] at ho
    exact ⟨n, hn, ho⟩
  apart := h.base.apart
  done := fun _ _ _ h => absurd h (Nat.not_lt_zero _)

/-- What changes no block of ints and none of lists of ints leaves all as it was. -/
theorem K3.keep {mk : Nat → Value} {w W W' : World} {S0 : Nat} {kv mv : Value} {N i : Nat} {ks ms : List Value} (h : K3 mk w W S0 kv mv N i ks ms) (hb : Below w.heap.size W W') (hs : W.heap.size ≤ W'.heap.size)
    (hc : ∀ b t x, Cel 3 W b t x → W'.heap[b]? = W.heap[b]?) (ho : ∀ e v n xs, (e = 3 ∨ e = 31) → W.ownsRow w.heap.size e 1 v n xs → W'.ownsRow w.heap.size e 1 v n xs) : K3 mk w W' S0 kv mv N i ks ms :=
  ⟨h.below.trans hb, h.s0, Nat.le_trans h.s1 hs, ho _ _ _ _ (.inr rfl) h.krow, ho _ _ _ _ (.inr rfl) h.mrow, h.km, h.low,
   fun j v hj hv => by obtain ⟨n, hn, hr⟩ := h.rest j v hj hv; exact ⟨n, hn, ho _ _ _ _ (.inl rfl) hr⟩, h.apart,
   fun j v m hj hv hm => (h.done j v m hj hv hm).keep (fun b t x hx _ => hc b t x hx)⟩

theorem K3.on {mk : Nat → Value} {w W W' : World} {S0 : Nat} {kv mv : Value} {N i : Nat} {ks ms : List Value} (h : K3 mk w W S0 kv mv N i ks ms) (hb : Below W.heap.size W W') : K3 mk w W' S0 kv mv N i ks ms :=
  h.keep (hb.mono h.below.size) hb.size (fun b _ _ hc => hb.block b hc.lt) (fun _ _ _ _ _ ho => below_own ho hb)

/-- List i under way: k ints put behind it. -/
structure K4 (mk : Nat → Value) (w W0 W : World) (v gv : Value) (i n k : Nat) : Prop where
  gr : Grew 3 W0 W v.ownBlock n none
  g : W.ownsRow w.heap.size 3 1 gv (n + k) (List.replicate (n + k) (mk i))
  gb : gv.ownBlock = v.ownBlock ∨ ∃ b, gv.ownBlock = some b ∧ W0.heap.size ≤ b

theorem K3.open {mk : Nat → Value} {w W : World} {S0 : Nat} {kv mv : Value} {N i : Nat} {ks ms : List Value} (h : K3 mk w W S0 kv mv N i ks ms) {v : Value} (hv : ks[i]? = some v) :
    ∃ n, n ≤ 1048576 ∧ K4 mk w W W v v i n 0 := by
  obtain ⟨n, hn, ho⟩ := h.rest i v (Nat.le_refl _) hv
  exact ⟨n, hn, Grew.refl _ _ _ _ _, ho, .inl rfl⟩

theorem K4.app {mo : Nat → Int} {w W0 W : World} {v gv : Value} {i n k : Nat} (h : K4 (fun j => .int .i64 (mo j)) w W0 W v gv i n k) (hw : w.heap.size ≤ W0.heap.size) (hn : n ≤ 1048576) (hk : k < 40) :
    ∃ gv' W2, (Builtin.append_ #[31, 31] 31 #[gv, .slice (some ⟨W.heap.size, 0, none⟩) 1 1]).run Tryz.prog (W.alloc (.cells #[.int .i64 (mo i)] 3)) = .ok gv' W2 ∧ K4 (fun j => .int .i64 (mo j)) w W0 W2 v gv' i n (k + 1) := by
  have hs := h.gr.size
  obtain ⟨gv', W2, hrun, hrow, hg, hgb⟩ := app_txt h.g (mo i) (by omega) (by omega)
  refine ⟨gv', W2, hrun, ⟨h.gr.trans hg ?_ (.inl rfl), ?_, ?_⟩⟩
  · rcases h.gb with e | ⟨b, e, hb'⟩
    · exact .inl ⟨e, by omega⟩
    · exact .inr (fun c hc => by rw [e] at hc; cases hc; exact hb')
  · rw [show n + (k + 1) = n + k + 1 by omega, List.replicate_succ']
    exact hrow
  · rcases hgb with e | ⟨b, e, hb'⟩
    · rw [e]; exact h.gb
    · exact .inr ⟨b, e, by omega⟩

/-- The list with forty ints behind it is kept: list i is done. -/
theorem K4.close {mk : Nat → Value} {w W0 W : World} {S0 : Nat} {kv mv v gv : Value} {N i n : Nat} {ks ms : List Value} (h0 : K3 mk w W0 S0 kv mv N i ks ms) (hv : ks[i]? = some v) (h : K4 mk w W0 W v gv i n 40) (hn : n ≤ 1048576) (hi : i < 8796093021952)
    (hvn : W0.ownsRow w.heap.size 3 1 v n (List.replicate n (mk i))) :
    ∃ mv' W2 ms2, (Builtin.append_ #[24, 24] 24 #[mv, .slice (some ⟨W.heap.size, 0, none⟩) 1 1]).run Tryz.prog (W.alloc (.cells #[gv] 31)) = .ok mv' W2 ∧ K3 mk w W2 S0 kv mv' N (i + 1) ks ms2 ∧ Grew 31 W W2 mv.ownBlock i none ∧ W.ownsRow w.heap.size 31 1 mv i ms := by
  have hs := h.gr.size
  have hw := h0.below.size
  have hlow := h0.low i v hv
  obtain ⟨M, cm, rfl, hM, _, _, hcm⟩ := own_some h.g (by omega)
  have nn : ∀ b, (none : Option Nat) ≠ some b := fun _ e => by cases e
  have vm0 : ∀ b, v.ownBlock = some b → mv.ownBlock ≠ some b := fun b hb e => own_apart h0.mrow hvn ne_kinds b e hb
  have vk0 : ∀ b, v.ownBlock = some b → kv.ownBlock ≠ some b := fun b hb e => own_apart h0.krow hvn ne_kinds b e hb
  have hk1 := h.gr.own h0.krow (fun b hb e => vk0 b e hb) (fun b _ => nn b)
  have hm1 := h.gr.own h0.mrow (fun b hb e => vm0 b e hb) (fun b _ => nn b)
  obtain ⟨mv', W2, hrun, hrow, hg, hmb⟩ := app_row (y := .slice (some ⟨M, 0, none⟩) (n + 40) cm) hm1 ⟨_, _, _, rfl⟩ (by omega) (by omega)
  have msl : ms.length = i := by have := h0.mrow.1; omega
  have kvl : ∀ b, kv.ownBlock = some b → b < W0.heap.size := fun b e => (h0.krow.lt b e).2
  have txt : ∀ b t x, Cel 3 W b t x → mv.ownBlock ≠ some b := fun b t x hc e => by
    rcases hm1.2 with ⟨e0, _⟩ | ⟨q, cap, cur, e0, _, hq, _⟩
    · rw [e0] at e; cases e
    · rw [e0] at e
      obtain rfl : q = b := by simpa [Value.ownBlock] using e
      obtain ⟨cur', h1, _⟩ := hc
      rw [hq] at h1
      simp only [Option.some.injEq, Obj.cells.injEq] at h1
      exact ne_kinds h1.2.1
  have step : ∀ b t x, Cel 3 W b t x → Cel 3 W2 b t x := fun b t x hc => hc.of_block (hg.block b hc.lt (txt b t x hc) (nn b))
  have gcel : ∀ t, t < n + 40 → Cel 3 W M t (mk i) := fun t ht => own_cel h.g rfl (by rw [List.getElem?_replicate, if_pos ht])
  refine ⟨mv', W2, ms ++ [.slice (some ⟨M, 0, none⟩) (n + 40) cm], hrun, ⟨?_, h0.s0, Nat.le_trans h0.s1 (Nat.le_trans hs hg.size), hg.own hk1 (fun b hb e => h0.km b hb e) (fun b _ => nn b), hrow, ?_, h0.low, ?_, h0.apart, ?_⟩, hg, hm1⟩
  · exact (h0.below.trans (h.gr.below w.heap.size hw (fun b e => (hvn.lt b e).1) (fun b e => by cases e))).trans (hg.below w.heap.size (by omega) (fun b e => (h0.mrow.lt b e).1) (fun b e => by cases e))
  · intro b hb e
    rcases hmb with e1 | ⟨b', e1, hb'⟩
    · rw [e1] at e; exact h0.km b hb e
    · rw [e1] at e; cases e; have := kvl _ hb; omega
  · intro j u hj hu
    obtain ⟨m, hm, ho⟩ := h0.rest j u (by omega) hu
    exact ⟨m, hm, hg.own (h.gr.own ho (fun b hb e => h0.apart i j v u (by omega) hv hu b e hb) (fun b _ => nn b)) (fun b hb e => own_apart h0.mrow ho ne_kinds b e hb) (fun b _ => nn b)⟩
  · intro j u m hj hu hm
    by_cases hji : j < i
    · rw [List.getElem?_append_left (by omega)] at hm
      refine (h0.done j u m hji hu hm).keep (fun b t x hc hb => ?_)
      have hbv : v.ownBlock ≠ some b := fun e => by
        rcases hb with hb | hb
        · exact h0.apart j i u v hji hu hv b hb e
        · have := hlow b e; omega
      have e1 := h.gr.block b hc.lt hbv (nn b)
      rw [hg.block b (by have := hc.lt; omega) (txt b t x (hc.of_block e1)) (nn b), e1]
    · obtain rfl : j = i := by omega
      rw [List.getElem?_append_right (by omega), msl, Nat.sub_self] at hm
      rw [hv] at hu
      obtain rfl := Option.some.inj hu
      obtain rfl : Value.slice (some ⟨M, 0, none⟩) (n + 40) cm = m := by simpa using hm
      obtain ⟨a, c, rfl, hc, ha⟩ := own_slice hvn
      refine ⟨n, a, c, M, cm, hn, rfl, hc, rfl, hcm, fun t ht => ?_, fun t ht => step _ _ _ (gcel t ht), ?_⟩
      · obtain ⟨g, c', e1, e2, _, _, _⟩ := own_some hvn (by omega)
        exact ⟨g, ha g e2, step _ _ _ (h.gr.cell g t _ e2 (nn g) ht (own_cel hvn e2 (by rw [List.getElem?_replicate, if_pos ht])))⟩
      · rcases h.gb with e | ⟨b, e, hb⟩
        · exact .inl (by rw [← e]; exact hM)
        · exact .inr (by rw [hM] at e; cases e; exact Nat.le_trans h0.s1 hb)

theorem Grew.rowIs {e T : TypeId} {w w' : World} {g f : Option Nat} {n yb m : Nat} {F : Nat → Value} (h : Grew e w w' g n f) (hy : w.rowIs yb T m F) (hg : g ≠ some yb) (hf : f ≠ some yb) : w'.rowIs yb T m F :=
  hy.of_block (h.block yb hy.lt hg hf)

/-- All are done: both hold their marks alone. -/
theorem K3.looks {w W : World} {S0 : Nat} {kv mv : Value} {N : Nat} {ks ms : List Value} (h : K3 mI w W S0 kv mv N N ks ms) : Mkd W kv N ∧ Mkd W mv N := by
  have kl : ks.length = N := by have := h.krow.1; omega
  have ml : ms.length = N := by have := h.mrow.1; omega
  obtain ⟨ka, kc, rfl, hkc, _⟩ := own_slice h.krow
  obtain ⟨ma, mc, rfl, hmc, _⟩ := own_slice h.mrow
  refine ⟨⟨ka, kc, rfl, hkc, fun p hp => ?_⟩, ⟨ma, mc, rfl, hmc, fun p hp => ?_⟩⟩
  · obtain ⟨v, hv⟩ := rows_at h.krow hp
    obtain ⟨m, hm⟩ := rows_at h.mrow hp
    obtain ⟨n, a, c, M, cm, hn, rfl, hc, rfl, hcm, h1, h3, _⟩ := h.done p v m hp hv hm
    obtain ⟨kb, rfl⟩ := rows_some h.krow (by omega)
    exact ⟨kb, a, n, c, rfl, rows_cel h.krow hv, hc, by omega, fun t ht => by obtain ⟨g, e, hg⟩ := h1 t ht; exact ⟨g, e, hg.cell⟩⟩
  · obtain ⟨v, hv⟩ := rows_at h.krow hp
    obtain ⟨m, hm⟩ := rows_at h.mrow hp
    obtain ⟨n, a, c, M, cm, hn, rfl, hc, rfl, hcm, h1, h3, _⟩ := h.done p v m hp hv hm
    obtain ⟨kb, rfl⟩ := rows_some h.mrow (by omega)
    exact ⟨kb, _, n + 40, cm, rfl, rows_cel h.mrow hm, hcm, by omega, fun t ht => ⟨M, rfl, (h3 t ht).cell⟩⟩
end Go.Proofs.YtbebnjeamlmclaaGreat
