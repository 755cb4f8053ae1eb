/- Lists of texts that are appended to, one after the other. -/
import Derived.Test.YthoeehgnkolgpaaDoorLineFam
namespace Go.Proofs.YthoeehgnkolgpaaDoor
open Go.RowKit

/-- A list that is done: what was kept of it, the one with one text put behind, the one with seventy. -/
def Dn (mk mo : Nat → Value) (S0 : Nat) (W : World) (j : Nat) (v f m : Value) : Prop :=
  ∃ (n : Nat) (a : Option Addr) (c F cf M cm : Nat), n ≤ 1048576 ∧ v = .slice a n c ∧ n ≤ c ∧ f = .slice (some ⟨F, 0, none⟩) (n + 1) cf ∧ n + 1 ≤ cf ∧ m = .slice (some ⟨M, 0, none⟩) (n + 70) cm ∧ n + 70 ≤ cm ∧
    (∀ t, t < n → ∃ g, a = some ⟨g, 0, none⟩ ∧ Cel 9 W g t (mk j)) ∧ Cel 9 W F n (mo j) ∧ (∀ t, t < n → Cel 9 W M t (mk j)) ∧ (∀ t, n ≤ t → t < n + 70 → Cel 9 W M t (mo j)) ∧
    (v.ownBlock = some F ∨ S0 ≤ F) ∧ (v.ownBlock = some M ∨ S0 ≤ M)

theorem Dn.keep {mk mo : Nat → Value} {S0 : Nat} {W W' : World} {j : Nat} {v f m : Value} (h : Dn mk mo S0 W j v f m) (k : ∀ b t x, Cel 9 W b t x → (v.ownBlock = some b ∨ S0 ≤ b) → W'.heap[b]? = W.heap[b]?) : Dn mk mo S0 W' j v f m := by
  obtain ⟨n, a, c, F, cf, M, cm, hn, rfl, hc, rfl, hcf, rfl, hcm, h1, h2, h3, h4, h5, h6⟩ := h
  refine ⟨n, a, c, F, cf, M, cm, hn, rfl, hc, rfl, hcf, rfl, hcm, fun t ht => ?_, h2.of_block (k _ _ _ h2 h5), fun t ht => (h3 t ht).of_block (k _ _ _ (h3 t ht) h6), fun t h7 h8 => (h4 t h7 h8).of_block (k _ _ _ (h4 t h7 h8) h6), h5, h6⟩
  obtain ⟨g, e, hg⟩ := h1 t ht
  exact ⟨g, e, hg.of_block (k _ _ _ hg (.inl (by rw [e]; rfl)))⟩

structure K3 (mk mo : Nat → Value) (w W : World) (S0 : Nat) (kv fv mv : Value) (N i : Nat) (ks fs ms : List Value) : Prop where
  below : Below w.heap.size w W
  s0 : w.heap.size ≤ S0
  s1 : S0 ≤ W.heap.size
  krow : W.ownsRow w.heap.size 22 1 kv N ks
  frow : W.ownsRow w.heap.size 22 1 fv i fs
  mrow : W.ownsRow w.heap.size 22 1 mv i ms
  kf : ∀ b, kv.ownBlock = some b → fv.ownBlock ≠ some b
  km : ∀ b, kv.ownBlock = some b → mv.ownBlock ≠ some b
  fm : ∀ b, fv.ownBlock = some b → mv.ownBlock ≠ some b
  low : ∀ (j : Nat) (v : Value), ks[j]? = some v → ∀ b, v.ownBlock = some b → b < S0
  rest : ∀ (j : Nat) (v : Value), i ≤ j → ks[j]? = some v → ∃ n, n ≤ 1048576 ∧ W.ownsRow w.heap.size 9 1 v n (List.replicate n (mk j))
  apart : ∀ (a b : Nat) (v u : Value), a < b → ks[a]? = some v → ks[b]? = some u → ∀ c, v.ownBlock = some c → u.ownBlock ≠ some c
  done : ∀ (j : Nat) (v f m : Value), j < i → ks[j]? = some v → fs[j]? = some f → ms[j]? = some m → Dn mk mo S0 W j v f m

theorem K2.to3 {mk mo : Nat → Value} {w W : World} {kv : Value} {N : Nat} {ks : List Value} {k : Nat} (h : K2 mk w W kv N ks N k) : K3 mk mo w W W.heap.size kv (.slice none 0 0) (.slice none 0 0) N 0 ks [] [] where
  below := h.base.below
  s0 := h.base.below.size
  s1 := Nat.le_refl _
  krow := h.base.row
  frow := World.ownsRow_nil _ _ _ _
  mrow := World.ownsRow_nil _ _ _ _
  kf := fun _ _ e => by cases e
  km := fun _ _ e => by cases e
  fm := fun _ e => by cases e
  low := fun j v hj b hb => by obtain ⟨n, xs, _, ho⟩ := h.base.own j v hj; exact (ho.lt b hb).2
  rest := fun j v _ hj => by
    obtain ⟨n, xs, hn, ho, h1, _⟩ := h.marks j v hj
    have hl : ks.length = N := by have := h.base.row.1; omega
    have hjN : j < N := by have := (List.getElem?_eq_some_iff.1 hj).1; omega
    rw [h1 hjN] at ho
    exact ⟨n, hn, ho⟩
  apart := h.base.apart
  done := fun _ _ _ _ h => absurd h (Nat.not_lt_zero _)

/-- List i under way: k texts put behind it; p: has the first such list been kept? -/
structure K4 (mk mo : Nat → Value) (w W0 W : World) (v gv fv0 fv : Value) (i n k p : Nat) (fs fs' : List Value) : Prop where
  gr : Grew 9 W0 W v.ownBlock n fv0.ownBlock
  g : W.ownsRow w.heap.size 9 1 gv (n + k) (List.replicate n (mk i) ++ List.replicate k (mo i))
  gb : gv.ownBlock = v.ownBlock ∨ ∃ b, gv.ownBlock = some b ∧ W0.heap.size ≤ b
  frow : W.ownsRow w.heap.size 22 1 fv (i + p) fs'
  fb : fv.ownBlock = fv0.ownBlock ∨ ∃ b, fv.ownBlock = some b ∧ W0.heap.size ≤ b
  ff : (p = 0 ∧ fs' = fs) ∨ (p = 1 ∧ 0 < k ∧ ∃ F cf, fs' = fs ++ [.slice (some ⟨F, 0, none⟩) (n + 1) cf] ∧ n + 1 ≤ cf ∧ Cel 9 W F n (mo i) ∧ (v.ownBlock = some F ∨ W0.heap.size ≤ F))

theorem K3.open {mk mo : Nat → Value} {w W : World} {S0 : Nat} {kv fv mv : Value} {N i : Nat} {ks fs ms : List Value} (h : K3 mk mo w W S0 kv fv mv N i ks fs ms) {v : Value} (hv : ks[i]? = some v) :
    ∃ n, n ≤ 1048576 ∧ K4 mk mo w W W v v fv fv i n 0 0 fs fs := by
  obtain ⟨n, hn, ho⟩ := h.rest i v (Nat.le_refl _) hv
  refine ⟨n, hn, Grew.refl _ _ _ _ _, ?_, .inl rfl, h.frow, .inl rfl, .inl ⟨rfl, rfl⟩⟩
  simpa using ho

/-- One text more. -/
theorem K4.app {mo : Nat → ByteArray} {mk : Nat → Value} {w W0 W W1 : World} {v gv fv0 fv : Value} {i n k p : Nat} {fs fs' : List Value} (h : K4 mk (fun j => .string (mo j)) w W0 W v gv fv0 fv i n k p fs fs') (hw : w.heap.size ≤ W0.heap.size) (hb : Below W.heap.size W W1) (hn : n ≤ 1048576) (hk : k < 70) :
    ∃ gv' W2, (Builtin.append_ #[22, 22] 22 #[gv, .slice (some ⟨W1.heap.size, 0, none⟩) 1 1]).run Tryd.prog (W1.alloc (.cells #[.string (mo i)] 9)) = .ok gv' W2 ∧ K4 mk (fun j => .string (mo j)) w W0 W2 v gv' fv0 fv i n (k + 1) p fs fs' := by
  have hs := h.gr.size
  have hs1 := hb.size
  obtain ⟨gv', W2, hrun, hrow, hg, hgb⟩ := app_txt (below_own h.g hb) (mo i) (by omega) (by omega)
  have hgr1 : Grew 9 W0 W1 v.ownBlock n fv0.ownBlock := h.gr.trans (Grew.of_below hb _ v.ownBlock n fv0.ownBlock) (.inl ⟨rfl, Nat.le_refl _⟩) (.inl rfl)
  have hfrow1 := below_own h.frow hb
  have hfrow2 := hg.own hfrow1 (fun b hb' e => own_apart hfrow1 (below_own h.g hb) ne_kinds b hb' e) (fun _ _ e => by cases e)
  refine ⟨gv', W2, hrun, ⟨hgr1.trans hg ?_ (.inr (fun b e => by cases e)), ?_, ?_, hfrow2, h.fb, ?_⟩⟩
  · rcases h.gb with e | ⟨b, e, hb'⟩
    · exact .inl ⟨e, by omega⟩
    · exact .inr (fun c hc => by rw [e] at hc; cases hc; exact hb')
  · rw [show n + (k + 1) = n + k + 1 by omega, List.replicate_succ', ← List.append_assoc]
    exact hrow
  · rcases hgb with e | ⟨b, e, hb'⟩
    · rw [e]; exact h.gb
    · exact .inr ⟨b, e, by omega⟩
  · rcases h.ff with hp | ⟨hp, hk0, F, cf, e1, hcf, hc, hF⟩
    · exact .inl hp
    · refine .inr ⟨hp, by omega, F, cf, e1, hcf, ?_, hF⟩
      have hc1 := hc.of_block (hb.block _ hc.lt)
      by_cases e : gv.ownBlock = some F
      · exact hg.cell F n _ e (fun e => by cases e) (by omega) hc1
      · exact hc1.of_block (hg.block F hc1.lt e (fun e => by cases e))

/-- The list with one text behind it is kept. -/
theorem K4.first {mk mo : Nat → Value} {w W0 W : World} {v gv fv0 fv : Value} {i n : Nat} {fs fs' : List Value} (h : K4 mk mo w W0 W v gv fv0 fv i n 1 0 fs fs') (hw : w.heap.size ≤ W0.heap.size) (hi : i < 8796093021952) :
    ∃ fv' W2 fs2, (Builtin.append_ #[53, 53] 53 #[fv, .slice (some ⟨W.heap.size, 0, none⟩) 1 1]).run Tryd.prog (W.alloc (.cells #[gv] 22)) = .ok fv' W2 ∧ K4 mk mo w W0 W2 v gv fv0 fv' i n 1 1 fs fs2 := by
  have hs := h.gr.size
  obtain ⟨F, cf, rfl, hF, _, _, hcf⟩ := own_some h.g (by omega)
  obtain ⟨fv', W2, hrun, hrow, hg, hfb⟩ := app_row (y := .slice (some ⟨F, 0, none⟩) (n + 1) cf) h.frow ⟨_, _, _, rfl⟩ (by omega) (by omega)
  have hcel : Cel 9 W F n (mo i) := own_cel h.g rfl (by rw [List.getElem?_append_right (by simp)]; simp)
  have hap : ∀ b, fv.ownBlock = some b → (Value.slice (some ⟨F, 0, none⟩) (n + 1) cf).ownBlock ≠ some b := own_apart h.frow h.g ne_kinds
  have hfs : fs' = fs := by
    rcases h.ff with ⟨_, e⟩ | ⟨e, _⟩
    · exact e
    · cases e
  have hne : fv.ownBlock ≠ some F := fun e => hap F e rfl
  -- the block of first may be the one that lay there, or a new one
  have hgS : Grew 9 W W2 none 0 fv.ownBlock := ⟨hg.os, hg.tape, hg.output, hg.size, fun b hb _ h2 => hg.block b hb h2 (fun e => by cases e), fun _ _ _ e => by cases e⟩
  refine ⟨fv', W2, fs ++ [.slice (some ⟨F, 0, none⟩) (n + 1) cf], hrun, ⟨?_, ?_, h.gb, ?_, ?_, .inr ⟨rfl, by omega, F, cf, rfl, hcf, hcel.of_block (hg.block F hcel.lt hne (fun e => by cases e)), ?_⟩⟩⟩
  · exact h.gr.trans hgS (.inr (fun b e => by cases e)) (by
      rcases h.fb with e | ⟨b, e, hb'⟩
      · exact .inl e
      · exact .inr (fun c hc => by rw [e] at hc; cases hc; exact hb'))
  · exact hg.own h.g (fun b hb e => hap b e hb) (fun _ _ e => by cases e)
  · rw [← hfs]; exact hrow
  · rcases hfb with e | ⟨b, e, hb'⟩
    · rw [e]; exact h.fb
    · exact .inr ⟨b, e, by omega⟩
  · rcases h.gb with e | ⟨b, e, hb'⟩
    · exact .inl (by rw [← e]; exact hF)
    · exact .inr (by rw [hF] at e; cases e; exact hb')

/-- The list with seventy texts behind it is kept: list i is done. -/
theorem K4.close {mk mo : Nat → Value} {w W0 W : World} {S0 : Nat} {kv fv0 fv mv v gv : Value} {N i n : Nat} {ks fs fs' ms : List Value} (h0 : K3 mk mo w W0 S0 kv fv0 mv N i ks fs ms) (hv : ks[i]? = some v) (h : K4 mk mo w W0 W v gv fv0 fv i n 70 1 fs fs') (hn : n ≤ 1048576) (hi : i < 8796093021952)
    (hvn : W0.ownsRow w.heap.size 9 1 v n (List.replicate n (mk i))) :
    ∃ mv' W2 ms2, (Builtin.append_ #[53, 53] 53 #[mv, .slice (some ⟨W.heap.size, 0, none⟩) 1 1]).run Tryd.prog (W.alloc (.cells #[gv] 22)) = .ok mv' W2 ∧ K3 mk mo w W2 S0 kv fv mv' N (i + 1) ks fs' ms2 := by
  have hs := h.gr.size
  have hw := h0.below.size
  have hlow := h0.low i v hv
  obtain ⟨M, cm, rfl, hM, _, _, hcm⟩ := own_some h.g (by omega)
  have vf0 : ∀ b, v.ownBlock = some b → fv0.ownBlock ≠ some b := fun b hb e => own_apart h0.frow hvn ne_kinds b e hb
  have vm0 : ∀ b, v.ownBlock = some b → mv.ownBlock ≠ some b := fun b hb e => own_apart h0.mrow hvn ne_kinds b e hb
  have vk0 : ∀ b, v.ownBlock = some b → kv.ownBlock ≠ some b := fun b hb e => own_apart h0.krow hvn ne_kinds b e hb
  have hk1 := h.gr.own h0.krow (fun b hb e => vk0 b e hb) (fun b hb e => h0.kf b hb e)
  have hm1 := h.gr.own h0.mrow (fun b hb e => vm0 b e hb) (fun b hb e => h0.fm b e hb)
  obtain ⟨mv', W2, hrun, hrow, hg, hmb⟩ := app_row (y := .slice (some ⟨M, 0, none⟩) (n + 70) cm) hm1 ⟨_, _, _, rfl⟩ (by omega) (by omega)
  obtain ⟨F, cf, hfs, hcf, hcF, hF⟩ : ∃ F cf, fs' = fs ++ [.slice (some ⟨F, 0, none⟩) (n + 1) cf] ∧ n + 1 ≤ cf ∧ Cel 9 W F n (mo i) ∧ (v.ownBlock = some F ∨ W0.heap.size ≤ F) := by
    rcases h.ff with ⟨e, _⟩ | ⟨_, _, F, cf, e⟩
    · cases e
    · exact ⟨F, cf, e⟩
  have fsl : fs.length = i := by have := h0.frow.1; omega
  have msl : ms.length = i := by have := h0.mrow.1; omega
  have mvl : ∀ b, mv.ownBlock = some b → b < W0.heap.size := fun b e => (h0.mrow.lt b e).2
  have kvl : ∀ b, kv.ownBlock = some b → b < W0.heap.size := fun b e => (h0.krow.lt b e).2
  -- a block of texts is none of the row's
  have txt : ∀ b t x, Cel 9 W b t x → mv.ownBlock ≠ some b := fun b t x hc e => by
    rcases hm1.2 with ⟨e0, _⟩ | ⟨q, cap, cur, e0, _, hq, _⟩
    · rw [e0] at e; cases e
    · rw [e0] at e
      obtain rfl : q = b := by simpa [Value.ownBlock] using e
      obtain ⟨cur', h1, _⟩ := hc
      rw [hq] at h1
      simp only [Option.some.injEq, Obj.cells.injEq] at h1
      exact ne_kinds h1.2.1
  have nn : ∀ b, (none : Option Nat) ≠ some b := fun _ e => by cases e
  have step : ∀ b t x, Cel 9 W b t x → Cel 9 W2 b t x := fun b t x hc => hc.of_block (hg.block b hc.lt (txt b t x hc) (nn b))
  have gcel : ∀ t x, (List.replicate n (mk i) ++ List.replicate 70 (mo i))[t]? = some x → Cel 9 W M t x := fun t x hx => own_cel h.g rfl hx
  refine ⟨mv', W2, ms ++ [.slice (some ⟨M, 0, none⟩) (n + 70) cm], hrun, ⟨?_, h0.s0, Nat.le_trans h0.s1 (Nat.le_trans hs hg.size), hg.own hk1 (fun b hb e => h0.km b hb e) (fun b _ => nn b), ?_, hrow, ?_, ?_, ?_, h0.low, ?_, h0.apart, ?_⟩⟩
  · refine (h0.below.trans (h.gr.below w.heap.size hw (fun b e => (hvn.lt b e).1) (fun b e => (h0.frow.lt b e).1))).trans (hg.below w.heap.size (by omega) (fun b e => (h0.mrow.lt b e).1) (fun b e => by cases e))
  · refine hg.own h.frow (fun b hb e => ?_) (fun b _ => nn b)
    rcases h.fb with e1 | ⟨b', e1, hb'⟩
    · rw [e1] at hb; exact h0.fm b hb e
    · rw [e1] at hb; cases hb; have := mvl _ e; omega
  · intro b hb e
    rcases h.fb with e1 | ⟨b', e1, hb'⟩
    · rw [e1] at e; exact h0.kf b hb e
    · rw [e1] at e; cases e; have := kvl _ hb; omega
  · intro b hb e
    rcases hmb with e1 | ⟨b', e1, hb'⟩
    · rw [e1] at e; exact h0.km b hb e
    · rw [e1] at e; cases e; have := kvl _ hb; omega
  · intro b hb e
    rcases hmb with e1 | ⟨b', e1, hb'⟩
    · rw [e1] at e
      rcases h.fb with e2 | ⟨b2, e2, hb2⟩
      · rw [e2] at hb; exact h0.fm b hb e
      · rw [e2] at hb; cases hb; have := mvl _ e; omega
    · rw [e1] at e; cases e; have := (h.frow.lt _ hb).2; omega
  · intro j u hj hu
    obtain ⟨m, hm, ho⟩ := h0.rest j u (by omega) hu
    refine ⟨m, hm, hg.own (h.gr.own ho (fun b hb e => h0.apart i j v u (by omega) hv hu b e hb) (fun b hb e => own_apart h0.frow ho ne_kinds b e hb)) (fun b hb e => own_apart h0.mrow ho ne_kinds b e hb) (fun b _ => nn b)⟩
  · intro j u f m hj hu hf hm
    by_cases hji : j < i
    · rw [hfs, List.getElem?_append_left (by omega)] at hf
      rw [List.getElem?_append_left (by omega)] at hm
      refine (h0.done j u f m hji hu hf hm).keep (fun b t x hc hb => ?_)
      have hbv : v.ownBlock ≠ some b := fun e => by
        rcases hb with hb | hb
        · exact h0.apart j i u v hji hu hv b hb e
        · have := hlow b e; omega
      have hbf : fv0.ownBlock ≠ some b := fun e => by
        rcases h0.frow.2 with ⟨e0, _⟩ | ⟨q, cap, cur, e0, _, hq, _⟩
        · rw [e0] at e; cases e
        · rw [e0] at e
          obtain rfl : q = b := by simpa [Value.ownBlock] using e
          obtain ⟨cur', h1, _⟩ := hc
          rw [hq] at h1
          simp only [Option.some.injEq, Obj.cells.injEq] at h1
          exact ne_kinds h1.2.1
      have e1 := h.gr.block b hc.lt hbv hbf
      rw [hg.block b (by have := hc.lt; omega) (txt b t x (hc.of_block e1)) (nn b), e1]
    · have hjs : j < i + 1 := hj
      obtain rfl : j = i := by omega
      rw [hfs, List.getElem?_append_right (by omega), fsl, Nat.sub_self] at hf
      rw [List.getElem?_append_right (by omega), msl, Nat.sub_self] at hm
      rw [hv] at hu
      obtain rfl := Option.some.inj hu
      obtain rfl : Value.slice (some ⟨F, 0, none⟩) (n + 1) cf = f := by simpa using hf
      obtain rfl : Value.slice (some ⟨M, 0, none⟩) (n + 70) cm = m := by simpa using hm
      obtain ⟨a, c, rfl, hc, ha⟩ := own_slice hvn
      refine ⟨n, a, c, F, cf, M, cm, hn, rfl, hc, rfl, hcf, rfl, hcm, fun t ht => ?_, step _ _ _ hcF, fun t ht => step _ _ _ (gcel t _ ?_), fun t h1 h2 => step _ _ _ (gcel t _ ?_), ?_, ?_⟩
      · obtain ⟨g, c', e1, e2, _, _, _⟩ := own_some hvn (by omega)
        refine ⟨g, ha g e2, step _ _ _ (h.gr.cell g t _ e2 (vf0 g e2) ht (own_cel hvn e2 (by rw [List.getElem?_replicate, if_pos ht])))⟩
      · rw [List.getElem?_append_left (by simp; omega), List.getElem?_replicate, if_pos ht]
      · rw [List.getElem?_append_right (by simp; omega), List.getElem?_replicate, if_pos (by simp; omega)]
      · rcases hF with e | e
        · exact .inl e
        · exact .inr (Nat.le_trans h0.s1 e)
      · rcases h.gb with e | ⟨b, e, hb⟩
        · exact .inl (by rw [← e]; exact hM)
        · exact .inr (by rw [hM] at e; cases e; exact Nat.le_trans h0.s1 hb)
end Go.Proofs.YthoeehgnkolgpaaDoor
