/- The stage: each call on a pair. -/
import Derived.Test.YtgpmoakfbhcidaaX8
import Derived.Test.YtgpmoakfbhcidaaBZ8
namespace Go.Proofs.Ytgpmoakfbhcidaa
open Go.RowKit
set_option maxRecDepth 100000
set_option maxRecDepth 100000

/-- How many were lost, at most. -/
def LostLe (P : Nat → Option PM) (L : Nat) : Prop := ∀ j m, j < 2 → P j = some m → m.lost ≤ L
theorem LostLe.upd {P : Nat → Option PM} {L L' : Nat} (h : LostLe P L) (hl : L ≤ L') (k : Nat) (m : PM) (hm : m.lost ≤ L') : LostLe (upd P k (some m)) L' := fun j q hj e => by
  by_cases e2 : j = k
  · rw [e2, upd_at] at e
    rw [← Option.some.inj e]
    exact hm
  · rw [upd_ne _ _ _ e2] at e
    exact Nat.le_trans (h j q hj e) hl
theorem bx_bytes {a : Option Addr} {n : Nat} {y : Nat → Nat} {w : World} (h : Byt w a n y) (hy : ∀ j, j < n → y j < 256) : Byt w a (strOf n y).size (bx (strOf n y)) := fun j hj => by
  rw [strOf_size] at hj
  rw [bx_strOf hy hj]
  exact h j hj
section
variable {w w' : World} {B sb bk : Nat} {mark : Bool} {P : Nat → Option PM} {nv vv : Nat → Value} {F : Nat → Nat → Prop}
/-- What a call on the pair k leaves. -/
structure Went (B sb bk : Nat) (mark : Bool) (k L : Nat) (nv vv : Nat → Value) (F : Nat → Nat → Prop) (w w' : World) : Prop where
  is : ∃ P' F', StIs w' B sb bk mark P' nv vv F' ∧ Mv (SFt sb F) (SFt sb F') w w' ∧ LostLe P' L ∧ ∃ m, P' k = some m
theorem Went.mv {L k : Nat} (h : Went B sb bk mark k L nv vv F w w') : ∃ G, Mv (SFt sb F) G w w' := by
  obtain ⟨P', F', _, h2, _⟩ := h.is
  exact ⟨_, h2⟩
theorem PairIs.go {m : PM} {x y : Value} {F : Nat → Prop} (h : PairIs w B (some m) x y F) : ∃ nb mv rb fv xs, x = .pointer (some ⟨nb, 0, none⟩) ∧ y = .pointer (some ⟨rb, 0, none⟩) ∧ NetIs w B nb mv m.room m.ms m.lost ∧ RefIs w B rb fv xs m.room m.lost ∧ xs.map Prod.fst = m.ms ∧ ∀ k, F k ↔ (NFt nb mv k ∨ RFt rb fv xs k) := h
/-- Both have turned. -/
theorem StIs.went (h : StIs w B sb bk mark P nv vv F) {k L L' : Nat} (hk : k < 2) (hL : LostLe P L) (hll : L ≤ L') {nb rb room lost lost' : Nat} {mv mv' fv fv' : Value} {ms ms' : List Ms} {xs xs' : List (Ms × Value)} {w1 w2 w3 : World}
    (en : nv k = .pointer (some ⟨nb, 0, none⟩)) (ev : vv k = .pointer (some ⟨rb, 0, none⟩)) (hN : NetIs w B nb mv room ms lost) (hF : ∀ q, F k q ↔ (NFt nb mv q ∨ RFt rb fv xs q)) (hR : RefIs w B rb fv xs room lost)
    (hN1 : NetIs w1 B nb mv' room ms' lost') (hM1 : Mv (NFt nb mv) (NFt nb mv') w w1) (hb : Below w1.heap.size w1 w2) (hR3 : RefIs w3 B rb fv' xs' room lost') (hM3 : Mv (RFt rb fv xs) (RFt rb fv' xs') w2 w3) (hx : xs'.map Prod.fst = ms') (hlo : lost' ≤ L') : Went B sb bk mark k L' nv vv F w w3 := by
  have hN2 := hN1.on hb
  have hR2 : RefIs w2 B rb fv xs room lost := (hR.later (fun q hq => hM1.block q (hR.ge q hq).2 (fun e => net_ref hN hR q e hq))).on hb
  have hN3 : NetIs w3 B nb mv' room ms' lost' := hN2.later (fun q hq => hM3.block q (hN2.ge q hq).2 (fun e => net_ref hN2 hR2 q hq e))
  have hM : Mv (F k) (fun q => NFt nb mv' q ∨ RFt rb fv' xs' q) w w3 := by
    have q := (hM1.below2 hb).both hM3
    exact ⟨q.os, q.tape, q.output, q.size, fun i hi hn => q.block i hi (fun e => hn ((hF i).2 e)), fun i hi => (q.foot i hi).imp_left (fun e => (hF i).2 e)⟩
  obtain ⟨h1, h2⟩ := h.turn hk (m := some ⟨room, ms', lost'⟩) (F' := fun q => NFt nb mv' q ∨ RFt rb fv' xs' q) (w' := w3) ⟨nb, mv', rb, fv', xs', en, ev, hN3, hR3, hx, fun _ => Iff.rfl⟩ hM
  exact ⟨_, _, h1, h2, hL.upd hll k _ hlo, _, upd_at _ _ _⟩
theorem StIs.stay (h : StIs w B sb bk mark P nv vv F) {k L L' : Nat} (hL : LostLe P L) (hll : L ≤ L') {m : PM} (hP : P k = some m) (hb : Below w.heap.size w w') : Went B sb bk mark k L' nv vv F w w' :=
  ⟨P, F, h.on hb, Mv.of_below hb, fun j q hj e => Nat.le_trans (hL j q hj e) hll, m, hP⟩
theorem mem_fst {xs : List (Ms × Value)} {ms : List Ms} (h : xs.map Prod.fst = ms) (i : Nat) {x : Int} {s : ByteArray} (hm : ms[i]? = some ⟨x, s⟩) : ∃ v, xs[i]? = some (⟨x, s⟩, v) := by
  rw [← h, List.getElem?_map] at hm
  cases hx : xs[i]? with
  | none => rw [hx] at hm; cases hm
  | some q =>
    rw [hx] at hm
    obtain ⟨a, b⟩ := q
    have : a = ⟨x, s⟩ := Option.some.inj hm
    rw [this]
    exact ⟨b, rfl⟩
theorem fst_len {xs : List (Ms × Value)} {ms : List Ms} (h : xs.map Prod.fst = ms) : xs.length = ms.length := by rw [← h, List.length_map]
theorem fst_erase : ∀ (xs : List (Ms × Value)) (i : Nat), (xs.eraseIdx i).map Prod.fst = (xs.map Prod.fst).eraseIdx i
  | [], i => by simp
  | x :: l, 0 => rfl
  | x :: l, i + 1 => by
    show x.1 :: (l.eraseIdx i).map Prod.fst = x.1 :: (l.map Prod.fst).eraseIdx i
    rw [fst_erase l i]
variable {k L : Nat} {m : PM}
/-- Send, on both. -/
theorem StIs.send (h : StIs w B sb bk mark P nv vv F) (hB : B ≤ w.heap.size) (hk : k < 2) (hL : LostLe P L) (hl1 : L ≤ 1000) (hP : P k = some m) :
    ∃ nb rb, nv k = .pointer (some ⟨nb, 0, none⟩) ∧ vv k = .pointer (some ⟨rb, 0, none⟩) ∧ ∀ (x : Int) (a b : Option Addr) (n c d : Nat) (y : Nat → Nat), n ≤ 140737488351232 → Byt w a n y → (a = none → n = 0) → Byt w b n y → (∀ q, b = some q → 0 < n → ¬ SFt sb F q.block) → (∀ j, j < n → y j < 256) →
      Calls Try.prog 12 #[.pointer (some ⟨nb, 0, none⟩), .int .i64 x, .slice a n c] w fun e w1 => ∃ ok : Bool, e = .returned (.bool ok) ∧ (∃ G, Mv (SFt sb F) G w w1) ∧
        Hid (Calls Try.prog 14 #[.pointer (some ⟨rb, 0, none⟩), .int .i64 x, .slice b n d] w1 fun e w2 => e = .returned (.bool ok) ∧ Went B sb bk mark k (L + 1) nv vv F w w2) := by
  have hp := h.pair k hk
  rw [hP] at hp
  obtain ⟨nb, mv, rb, fv, xs, en, ev, hN, hR, hx, hF⟩ := hp.go
  refine ⟨nb, rb, en, ev, fun x a b n c d y hn ha hna hb hbs hy => ?_⟩
  have hlo := hL k m hk hP
  have hxl := fst_len hx
  have hmv : ∀ {mv' : Value} {w1 : World}, Mv (NFt nb mv) (NFt nb mv') w w1 → Mv (SFt sb F) (NFt nb mv') w w1 := fun q => ⟨q.os, q.tape, q.output, q.size, fun i hi hnn => q.block i hi (fun e => hnn (.inr ⟨k, hk, (hF i).2 (.inl e)⟩)), fun i hi => (q.foot i hi).imp_left (fun e => .inr ⟨k, hk, (hF i).2 (.inl e)⟩)⟩
  have hRn : ∀ {mv' : Value} {w1 : World}, Mv (NFt nb mv) (NFt nb mv') w w1 → RefIs w1 B rb fv xs m.room m.lost := fun hM => hR.later (fun q hq => hM.block q (hR.ge q hq).2 (fun e => net_ref hN hR q e hq))
  by_cases hl : m.ms.length < m.room
  · refine (send_some hN hB hl x a n c y ha hna).mono fun e w1 ⟨he, mv', hN1, hM1⟩ => ⟨true, he, ⟨_, hmv hM1⟩, ?_⟩
    have hb1 : Byt w1 b n y := fun j hj => by
      obtain ⟨q, off, e, hc⟩ := hb j hj
      exact ⟨q, off, e, by rw [World.cell?_of_block (w := w) (a := ⟨q, off + j, none⟩) ((hmv hM1).block q (World.block_lt_of_cell? _ _ hc) (hbs _ e (by omega)))]; exact hc⟩
    have hs := rsend_some (hRn hM1) (Nat.le_trans hB hM1.size) (by omega) x b d (strOf n y) (by rw [strOf_size]; exact hn) (bx_bytes hb1 hy)
    rw [strOf_size] at hs
    refine hs.mono fun e w2 ⟨he2, fv', v, hR2, hM2⟩ => ⟨he2, ?_⟩
    exact h.went hk hL (Nat.le_succ L) en ev hN hF hR hN1 hM1 (Below.refl _ _) hR2 hM2 (by rw [List.map_append, hx]; rfl) (by omega)
  · refine (send_full hN hl (by omega) x (.slice a n c)).mono fun e w1 ⟨he, hN1, hM1⟩ => ⟨false, he, ⟨_, hmv hM1⟩, ?_⟩
    refine (rsend_full (hRn hM1) (by omega) (by omega) x (.slice b n d)).mono fun e w2 ⟨he2, hR2, hM2⟩ => ⟨he2, ?_⟩
    exact h.went hk hL (Nat.le_succ L) en ev hN hF hR hN1 hM1 (Below.refl _ _) hR2 hM2 hx (by omega)
/-- Block g bears a conversion's mark. -/
def Mkd (w : World) (g : Nat) : Prop := ∃ cs t c, w.heap[g]? = some (.cells cs t (c, c + 1))
theorem FlB.mkd {w : World} {g c : Nat} {s : ByteArray} (h : FlB w g c s) : Mkd w g := by
  obtain ⟨cs, h1, _⟩ := h.blk
  exact ⟨cs, _, c, h1⟩
theorem Mkd.on {w w' : World} {g : Nat} (h : Mkd w g) (e : w'.heap[g]? = w.heap[g]?) : Mkd w' g := by
  obtain ⟨cs, t, c, h1⟩ := h
  exact ⟨cs, t, c, e.trans h1⟩
theorem Mkd.row {w : World} {g t n : Nat} {f : Nat → Value} (h : Mkd w g) (hr : w.rowIs g t n f) : False := by
  obtain ⟨cs, t', c, h1⟩ := h
  obtain ⟨cs', h2, _⟩ := hr
  rw [h1] at h2
  simp at h2
theorem Mkd.own {w : World} {g K n s : Nat} {e : TypeId} {v : Value} {xs : List Value} (h : Mkd w g) (ho : w.ownsRow K e s v n xs) : v.ownBlock ≠ some g := fun e' => by
  obtain ⟨cs, t', c, h1⟩ := h
  rcases ho.2 with ⟨rfl, _⟩ | ⟨g', cap, cur, rfl, _, hq, _⟩
  · simp [Value.ownBlock] at e'
  · obtain rfl : g' = g := by simpa [Value.ownBlock] using e'
    rw [h1] at hq
    simp at hq
theorem StIs.mkd {w : World} {B sb bk : Nat} {mark : Bool} {P : Nat → Option PM} {nv vv : Nat → Value} {F : Nat → Nat → Prop} {g : Nat} (h : StIs w B sb bk mark P nv vv F) (hm : Mkd w g) : ¬ SFt sb F g := fun e => by
  rcases e with e | ⟨k, hk, e⟩
  · subst e; exact hm.row h.row
  · have hp := h.pair k hk
    cases hP : P k with
    | none =>
      rw [hP] at hp
      exact hp.2.2 g e
    | some m =>
      rw [hP] at hp
      obtain ⟨nb, mv, rb, fv, xs, _, _, hN, hR, _, hF⟩ := hp.go
      rcases (hF g).1 e with (q | q) | (q | q | ⟨x, hx, q⟩)
      · subst q; exact hm.row hN.row
      · exact hm.own hN.own q
      · subst q; exact hm.row hR.row
      · exact hm.own hR.own q
      · obtain ⟨g', ev, _, hg, _⟩ := hR.byt x hx
        have : g' = g := by rw [ev] at q; simpa [Value.ownBlock] using q
        subst this
        exact hm.row hg
/-- From w to w' nothing but the block fb has turned of what was there. -/
structure Fr (fb : Nat) (w w' : World) : Prop where
  os : w'.os = w.os
  tape : w'.tape = w.tape
  output : w'.output = w.output
  size : w.heap.size ≤ w'.heap.size
  block : ∀ q, q < w.heap.size → q ≠ fb → w'.heap[q]? = w.heap[q]?
theorem Fr.of_below {fb : Nat} {w w' : World} (h : Below w.heap.size w w') : Fr fb w w' := ⟨h.os, h.tape, h.output, h.size, fun q hq _ => h.block q hq⟩
theorem Byt.fr {fb n : Nat} {w w' : World} {a : Option Addr} {y : Nat → Nat} (h : Byt w a n y) (hf : Fr fb w w') (hn : ∀ q, a = some q → q.block ≠ fb) : Byt w' a n y := fun j hj => by
  obtain ⟨b, off, e, hc⟩ := h j hj
  exact ⟨b, off, e, by rw [World.cell?_of_block (w := w) (a := ⟨b, off + j, none⟩) (hf.block b (World.block_lt_of_cell? _ _ hc) (hn _ e))]; exact hc⟩
/-- Look, on both. -/
theorem StIs.look (h : StIs w B sb bk mark P nv vv F) (hk : k < 2) (hP : P k = some m) :
    ∃ nb rb, nv k = .pointer (some ⟨nb, 0, none⟩) ∧ vv k = .pointer (some ⟨rb, 0, none⟩) ∧ ∀ (i : Int) (Wc : World), Below w.heap.size w Wc →
      Calls Try.prog 15 #[.pointer (some ⟨nb, 0, none⟩), .int .i64 i] Wc fun e w1 => ∃ (x : Int) (a : Option Addr) (n c : Nat) (ok : Bool) (y : Nat → Nat), e = .returned (.tuple #[.agg #[.int .i64 x, .slice a n c], .bool ok]) ∧ OwnZ w1 B (.slice a n c) n y ∧ Byt w1 a n y ∧ n ≤ 140737488351232 ∧ (∀ q, a = some q → Wc.heap.size ≤ q.block ∧ q.block < w1.heap.size ∧ Mkd w1 q.block) ∧ Below Wc.heap.size Wc w1 ∧
        Hid (∀ W fb, Fr fb w1 W → w.heap.size ≤ fb → Calls Try.prog 27 #[.pointer (some ⟨rb, 0, none⟩), .int .i64 i] W fun e w2 => ∃ (b : Option Addr) (d : Nat), e = .returned (.tuple #[.agg #[.int .i64 x, .slice b n d], .bool ok]) ∧ Byt w2 b n y ∧ Below W.heap.size W w2) := by
  have hp := h.pair k hk
  rw [hP] at hp
  obtain ⟨nb, mv, rb, fv, xs, en, ev, hN, hR, hx, hF⟩ := hp.go
  refine ⟨nb, rb, en, ev, fun i Wc hWc => ?_⟩
  have hxl := fst_len hx
  have hR1 : ∀ {w1 W : World} {fb : Nat}, Below Wc.heap.size Wc w1 → Fr fb w1 W → w.heap.size ≤ fb → RefIs W B rb fv xs m.room m.lost := fun hb hf hfb =>
    ((hR.on hWc).on hb).later (fun q hq => hf.block q (by have := (hR.ge q hq).2; have := hWc.size; have := hb.size; omega) (by have := (hR.ge q hq).2; omega))
  by_cases hi : 0 ≤ i ∧ i < m.ms.length
  · obtain ⟨q, rfl⟩ : ∃ q : Nat, i = (q : Int) := ⟨i.toNat, by omega⟩
    obtain ⟨⟨x, s⟩, hm⟩ : ∃ z, m.ms[q]? = some z := ⟨_, List.getElem?_eq_getElem (by omega)⟩
    obtain ⟨v, hv⟩ := mem_fst hx q hm
    have hss : s.size ≤ 140737488351232 := by obtain ⟨_, _, _, _, h4⟩ := hR.byt _ (List.mem_of_getElem? hv); exact h4
    refine (look_some (hN.on hWc) q x s hm).mono fun e w1 ⟨g, c, he, hFl, hg, hb⟩ => ⟨x, some ⟨g, 0, none⟩, s.size, c, true, bx s, he, hFl.ownZ (by have := h.lb; have := h.row.lt; have := hWc.size; omega), hFl.byt, hss, (fun z hz => by rw [← Option.some.inj hz]; exact ⟨hg, hFl.lt, hFl.mkd⟩), hb, fun W fb hf hfb => ?_⟩
    exact (rlook_some (hR1 hb hf hfb) q x s v hv).mono fun e w2 ⟨g2, he2, _, hr2, hb2⟩ => ⟨some ⟨g2, 0, none⟩, s.size, he2, Byt.of_row hr2, hb2⟩
  · refine (look_none (hN.on hWc) i hi).mono fun e w1 ⟨he, hb⟩ => ⟨0, none, 0, 0, false, fun _ => 0, he, ownZ_nil _ _ _, (fun j hj => absurd hj (Nat.not_lt_zero _)), by omega, (fun z hz => by cases hz), hb, fun W fb hf hfb => ?_⟩
    exact (rlook_none (hR1 hb hf hfb) i (by rw [hxl]; exact hi)).mono fun e w2 ⟨he2, hb2⟩ => ⟨none, 0, he2, (fun j hj => absurd hj (Nat.not_lt_zero _)), hb2⟩
/-- Take, on both. -/
theorem StIs.take (h : StIs w B sb bk mark P nv vv F) (hB : B ≤ w.heap.size) (hk : k < 2) (hL : LostLe P L) (hP : P k = some m) :
    ∃ nb rb, nv k = .pointer (some ⟨nb, 0, none⟩) ∧ vv k = .pointer (some ⟨rb, 0, none⟩) ∧ ∀ (i : Int) (Wc : World), Below w.heap.size w Wc →
      Calls Try.prog 20 #[.pointer (some ⟨nb, 0, none⟩), .int .i64 i] Wc fun e w1 => ∃ (x : Int) (a : Option Addr) (n c : Nat) (ok : Bool) (y : Nat → Nat), e = .returned (.tuple #[.agg #[.int .i64 x, .slice a n c], .bool ok]) ∧ OwnZ w1 B (.slice a n c) n y ∧ Byt w1 a n y ∧ n ≤ 140737488351232 ∧ (∀ q, a = some q → Wc.heap.size ≤ q.block ∧ q.block < w1.heap.size ∧ Mkd w1 q.block) ∧ (∃ G, Mv (SFt sb F) G Wc w1) ∧
        Hid (∀ W fb, Fr fb w1 W → w.heap.size ≤ fb → (fb < Wc.heap.size ∨ w1.heap.size ≤ fb) → Calls Try.prog 29 #[.pointer (some ⟨rb, 0, none⟩), .int .i64 i] W fun e w2 => ∃ (b : Option Addr) (d : Nat), e = .returned (.tuple #[.agg #[.int .i64 x, .slice b n d], .bool ok]) ∧ Byt w2 b n y ∧ Went B sb bk mark k (L + 1) nv vv F w w2 ∧ ∀ q, w.heap.size ≤ q → q < W.heap.size → w2.heap[q]? = W.heap[q]?) := by
  have hp := h.pair k hk
  rw [hP] at hp
  obtain ⟨nb, mv, rb, fv, xs, en, ev, hN, hR, hx, hF⟩ := hp.go
  refine ⟨nb, rb, en, ev, fun i Wc hWc => ?_⟩
  have hlo := hL k m hk hP
  have hxl := fst_len hx
  have hmv : ∀ {mv' : Value} {w1 : World}, Mv (NFt nb mv) (NFt nb mv') Wc w1 → Mv (SFt sb F) (NFt nb mv') Wc w1 := fun q => ⟨q.os, q.tape, q.output, q.size, fun i hi hnn => q.block i hi (fun e => hnn (.inr ⟨k, hk, (hF i).2 (.inl e)⟩)), fun i hi => (q.foot i hi).imp_left (fun e => .inr ⟨k, hk, (hF i).2 (.inl e)⟩)⟩
  have hNc := hN.on hWc
  have hRc := hR.on hWc
  have hR1 : ∀ {w1 W : World} {fb : Nat} {G : Nat → Prop}, Mv (NFt nb mv) G Wc w1 → Fr fb w1 W → w.heap.size ≤ fb → RefIs W B rb fv xs m.room m.lost := fun hb hf hfb =>
    (hRc.later (fun q hq => hb.block q (hRc.ge q hq).2 (fun e => net_ref hNc hRc q e hq))).later (fun q hq => hf.block q (by have := (hR.ge q hq).2; have := hWc.size; have := hb.size; omega) (by have := (hR.ge q hq).2; omega))
  by_cases hi : 0 ≤ i ∧ i < m.ms.length
  · obtain ⟨q, rfl⟩ : ∃ q : Nat, i = (q : Int) := ⟨i.toNat, by omega⟩
    obtain ⟨⟨x, s⟩, hm⟩ : ∃ z, m.ms[q]? = some z := ⟨_, List.getElem?_eq_getElem (by omega)⟩
    obtain ⟨v, hv⟩ := mem_fst hx q hm
    have hss : s.size ≤ 140737488351232 := by obtain ⟨_, _, _, _, h4⟩ := hR.byt _ (List.mem_of_getElem? hv); exact h4
    refine (take_some hNc q x s hm).mono fun e w1 ⟨g, c, he, hFl, hg, mv', hN1, hM1⟩ => ⟨x, some ⟨g, 0, none⟩, s.size, c, true, bx s, he, hFl.ownZ (by have := h.lb; have := h.row.lt; have := hWc.size; omega), hFl.byt, hss, (fun z hz => by rw [← Option.some.inj hz]; exact ⟨hg, hFl.lt, hFl.mkd⟩), ⟨_, hmv hM1⟩, fun W fb hf hfb hfb2 => ?_⟩
    have hRW := hR1 hM1 hf hfb
    have hNW : NetIs W B nb mv' m.room (m.ms.eraseIdx q) m.lost := hN1.later (fun z hz => hf.block z (hN1.ge z hz).2 (fun e => by
      have h1 := (hN1.ge z hz).2
      rcases hM1.foot z hz with e2 | e2
      · have := (hN.ge z e2).2; omega
      · omega))
    have hBW : B ≤ W.heap.size := by have := hM1.size; have := hf.size; have := hWc.size; omega
    refine (rtake_some hRW hBW q x s v hv).mono fun e w2 ⟨g2, he2, _, hr2, fv', hR2, hM2⟩ => ⟨some ⟨g2, 0, none⟩, s.size, he2, Byt.of_row hr2, ?_, fun z hz hz2 => hM2.block z hz2 (fun hf => by have := (hR.ge z hf).2; omega)⟩
    have hN2 : NetIs w2 B nb mv' m.room (m.ms.eraseIdx q) m.lost := hNW.later (fun z hz => hM2.block z (hNW.ge z hz).2 (fun e => net_ref hNW hRW z hz e))
    have hM : Mv (F k) (fun z => NFt nb mv' z ∨ RFt rb fv' (xs.eraseIdx q) z) w w2 := by
      have z1 := hWc.size
      have z2 := hM1.size
      have z3 := hf.size
      have z4 := hM2.size
      refine ⟨hM2.os.trans (hf.os.trans (hM1.os.trans hWc.os)), hM2.tape.trans (hf.tape.trans (hM1.tape.trans hWc.tape)), hM2.output.trans (hf.output.trans (hM1.output.trans hWc.output)), by omega, fun z hz hn => ?_, fun z hz => ?_⟩
      · exact (hM2.block z (by omega) (fun e => hn ((hF z).2 (.inr e)))).trans ((hf.block z (by omega) (by omega)).trans ((hM1.block z (by omega) (fun e => hn ((hF z).2 (.inl e)))).trans (hWc.block z hz)))
      · rcases hz with e | e
        · rcases hM1.foot z e with e2 | e2
          · exact .inl ((hF z).2 (.inl e2))
          · exact .inr (by omega)
        · rcases hM2.foot z e with e2 | e2
          · exact .inl ((hF z).2 (.inr e2))
          · exact .inr (by omega)
    obtain ⟨h1, h2⟩ := h.turn hk (m := some ⟨m.room, m.ms.eraseIdx q, m.lost⟩) (F' := fun z => NFt nb mv' z ∨ RFt rb fv' (xs.eraseIdx q) z) (w' := w2) ⟨nb, mv', rb, fv', xs.eraseIdx q, en, ev, hN2, hR2, by rw [fst_erase, hx], fun _ => Iff.rfl⟩ hM
    exact ⟨_, _, h1, h2, hL.upd (Nat.le_succ L) k _ (by show m.lost ≤ L + 1; omega), _, upd_at _ _ _⟩
  · refine (take_none hNc i hi).mono fun e w1 ⟨he, hb⟩ => ⟨0, none, 0, 0, false, fun _ => 0, he, ownZ_nil _ _ _, (fun j hj => absurd hj (Nat.not_lt_zero _)), by omega, (fun z hz => by cases hz), ⟨_, Mv.of_below hb⟩, fun W fb hf hfb _ => ?_⟩
    refine (rtake_none (hR1 (G := NFt nb mv) (Mv.of_below hb) hf hfb) i (by rw [hxl]; exact hi)).mono fun e w2 ⟨he2, hb2⟩ => ⟨none, 0, he2, (fun j hj => absurd hj (Nat.not_lt_zero _)), ?_, fun z _ hz2 => hb2.block z hz2⟩
    have z1 := hWc.size
    have z2 := hb.size
    have z3 := hf.size
    have z4 := hb2.size
    have : Below w.heap.size w w2 := ⟨hb2.os.trans (hf.os.trans (hb.os.trans hWc.os)), hb2.tape.trans (hf.tape.trans (hb.tape.trans hWc.tape)), hb2.output.trans (hf.output.trans (hb.output.trans hWc.output)), by omega, fun z hz => (hb2.block z (by omega)).trans ((hf.block z (by omega) (by omega)).trans ((hb.block z (by omega)).trans (hWc.block z hz)))⟩
    exact h.stay hL (Nat.le_succ L) hP this
/-- Drop, on both. -/
theorem StIs.drop (h : StIs w B sb bk mark P nv vv F) (hB : B ≤ w.heap.size) (hk : k < 2) (hL : LostLe P L) (hP : P k = some m) :
    ∃ nb rb, nv k = .pointer (some ⟨nb, 0, none⟩) ∧ vv k = .pointer (some ⟨rb, 0, none⟩) ∧ ∀ (i : Int),
      Calls Try.prog 30 #[.pointer (some ⟨nb, 0, none⟩), .int .i64 i] w fun e w1 => ∃ ok : Bool, e = .returned (.bool ok) ∧ (∃ G, Mv (SFt sb F) G w w1) ∧
        Hid (Calls Try.prog 31 #[.pointer (some ⟨rb, 0, none⟩), .int .i64 i] w1 fun e w2 => e = .returned (.bool ok) ∧ Went B sb bk mark k (L + 1) nv vv F w w2) := by
  have hp := h.pair k hk
  rw [hP] at hp
  obtain ⟨nb, mv, rb, fv, xs, en, ev, hN, hR, hx, hF⟩ := hp.go
  refine ⟨nb, rb, en, ev, fun i => ?_⟩
  have hlo := hL k m hk hP
  have hxl := fst_len hx
  have hmv : ∀ {mv' : Value} {w1 : World}, Mv (NFt nb mv) (NFt nb mv') w w1 → Mv (SFt sb F) (NFt nb mv') w w1 := fun q => ⟨q.os, q.tape, q.output, q.size, fun i hi hnn => q.block i hi (fun e => hnn (.inr ⟨k, hk, (hF i).2 (.inl e)⟩)), fun i hi => (q.foot i hi).imp_left (fun e => .inr ⟨k, hk, (hF i).2 (.inl e)⟩)⟩
  by_cases hi : 0 ≤ i ∧ i < m.ms.length
  · obtain ⟨q, rfl⟩ : ∃ q : Nat, i = (q : Int) := ⟨i.toNat, by omega⟩
    refine (drop_some hN q (by omega)).mono fun e w1 ⟨he, mv', hN1, hM1⟩ => ⟨true, he, ⟨_, hmv hM1⟩, ?_⟩
    have hR1 := hR.later (fun q hq => hM1.block q (hR.ge q hq).2 (fun e => net_ref hN hR q e hq))
    refine (rdrop_some hR1 (Nat.le_trans hB hM1.size) q (by omega)).mono fun e w2 ⟨he2, fv', hR2, hM2⟩ => ⟨he2, ?_⟩
    exact h.went hk hL (Nat.le_succ L) en ev hN hF hR hN1 hM1 (Below.refl _ _) hR2 hM2 (by rw [fst_erase, hx]) (by omega)
  · refine (drop_none hN i hi).mono fun e w1 ⟨he, e1⟩ => ⟨false, he, ⟨SFt sb F, by rw [e1]; exact Mv.refl _ _⟩, ?_⟩
    rw [e1]
    refine (rdrop_none hR i (by rw [hxl]; exact hi)).mono fun e w2 ⟨he2, e2⟩ => ⟨he2, ?_⟩
    rw [e2]
    exact h.stay hL (Nat.le_succ L) hP (Below.refl _ _)
/-- Double, on both. -/
theorem StIs.doub (h : StIs w B sb bk mark P nv vv F) (hB : B ≤ w.heap.size) (hk : k < 2) (hL : LostLe P L) (hP : P k = some m) :
    ∃ nb rb, nv k = .pointer (some ⟨nb, 0, none⟩) ∧ vv k = .pointer (some ⟨rb, 0, none⟩) ∧ ∀ (i : Int),
      Calls Try.prog 32 #[.pointer (some ⟨nb, 0, none⟩), .int .i64 i] w fun e w1 => ∃ ok : Bool, e = .returned (.bool ok) ∧ (∃ G, Mv (SFt sb F) G w w1) ∧
        Hid (Calls Try.prog 33 #[.pointer (some ⟨rb, 0, none⟩), .int .i64 i] w1 fun e w2 => e = .returned (.bool ok) ∧ Went B sb bk mark k (L + 1) nv vv F w w2) := by
  have hp := h.pair k hk
  rw [hP] at hp
  obtain ⟨nb, mv, rb, fv, xs, en, ev, hN, hR, hx, hF⟩ := hp.go
  refine ⟨nb, rb, en, ev, fun i => ?_⟩
  have hlo := hL k m hk hP
  have hxl := fst_len hx
  have hmv : ∀ {mv' : Value} {w1 : World}, Mv (NFt nb mv) (NFt nb mv') w w1 → Mv (SFt sb F) (NFt nb mv') w w1 := fun q => ⟨q.os, q.tape, q.output, q.size, fun i hi hnn => q.block i hi (fun e => hnn (.inr ⟨k, hk, (hF i).2 (.inl e)⟩)), fun i hi => (q.foot i hi).imp_left (fun e => .inr ⟨k, hk, (hF i).2 (.inl e)⟩)⟩
  have hnot : ∀ w1, Below w.heap.size w w1 → ¬ (0 ≤ i ∧ i < m.ms.length ∧ m.ms.length < m.room) → Calls Try.prog 33 #[.pointer (some ⟨rb, 0, none⟩), .int .i64 i] w1 fun e w2 => e = .returned (.bool false) ∧ Went B sb bk mark k (L + 1) nv vv F w w2 := fun w1 hb hn =>
    (rdouble_not (hR.on hb) i (by rw [hxl]; exact hn)).mono fun e w2 ⟨he2, q, e2⟩ => ⟨he2, h.stay hL (Nat.le_succ L) hP (by rw [e2]; exact below_dN hb q)⟩
  by_cases hi : 0 ≤ i ∧ i < m.ms.length
  · obtain ⟨q, rfl⟩ : ∃ q : Nat, i = (q : Int) := ⟨i.toNat, by omega⟩
    by_cases hl : m.ms.length < m.room
    · obtain ⟨⟨x, s⟩, hm⟩ : ∃ z, m.ms[q]? = some z := ⟨_, List.getElem?_eq_getElem (by omega)⟩
      obtain ⟨v, hv⟩ := mem_fst hx q hm
      refine (double_some hN hB q x s hm hl).mono fun e w1 ⟨he, mv', hN1, hM1⟩ => ⟨true, he, ⟨_, hmv hM1⟩, ?_⟩
      have hR1 := hR.later (fun q hq => hM1.block q (hR.ge q hq).2 (fun e => net_ref hN hR q e hq))
      refine (rdouble_some hR1 (Nat.le_trans hB hM1.size) q x s v hv (by omega)).mono fun e w2 ⟨he2, fv', v', hR2, hM2⟩ => ⟨he2, ?_⟩
      exact h.went hk hL (Nat.le_succ L) en ev hN hF hR hN1 hM1 (Below.refl _ _) hR2 hM2 (by rw [List.map_append, hx]; rfl) (by omega)
    · refine (double_full hN q (by omega) hl).mono fun e w1 ⟨he, z, e1⟩ => ⟨false, he, ⟨_, Mv.of_below (by rw [e1]; exact below_dN (Below.refl _ _) z)⟩, ?_⟩
      exact hnot w1 (by rw [e1]; exact below_dN (Below.refl _ _) z) (fun hh => hl hh.2.2)
  · refine (double_none hN i hi).mono fun e w1 ⟨he, e1⟩ => ⟨false, he, ⟨SFt sb F, by rw [e1]; exact Mv.refl _ _⟩, ?_⟩
    exact hnot w1 (by rw [e1]; exact Below.refl _ _) (fun hh => hi ⟨hh.1, hh.2.1⟩)
/-- Len and Lost, on both. -/
theorem StIs.count (h : StIs w B sb bk mark P nv vv F) (hk : k < 2) (hP : P k = some m) :
    ∃ nb rb, nv k = .pointer (some ⟨nb, 0, none⟩) ∧ vv k = .pointer (some ⟨rb, 0, none⟩) ∧ Hid (Calls Try.prog 34 #[.pointer (some ⟨nb, 0, none⟩)] w fun e w' => e = .returned (.int .i64 (m.ms.length : Nat)) ∧ w' = w) ∧ Hid (Calls Try.prog 16 #[.pointer (some ⟨rb, 0, none⟩)] w fun e w' => e = .returned (.int .i64 (m.ms.length : Nat)) ∧ w' = w) ∧ Hid (Calls Try.prog 35 #[.pointer (some ⟨nb, 0, none⟩)] w fun e w' => e = .returned (.int .u64 (m.lost : Nat)) ∧ w' = w) ∧ Hid (Calls Try.prog 36 #[.pointer (some ⟨rb, 0, none⟩)] w fun e w' => e = .returned (.int .u64 (m.lost : Nat)) ∧ w' = w) := by
  have hp := h.pair k hk
  rw [hP] at hp
  obtain ⟨nb, mv, rb, fv, xs, en, ev, hN, hR, hx, hF⟩ := hp.go
  have hxl := fst_len hx
  have hrl := rlen_any hR
  rw [hxl] at hrl
  exact ⟨nb, rb, en, ev, len_any hN, hrl, lost_any hN, rlost_any hR⟩
end
end Go.Proofs.Ytgpmoakfbhcidaa
