/- A spread that is grown: every list with 96 bytes of its mark behind it. -/
import Derived.Test.YtgpmoakfbhcidaaYA1
namespace Go.Proofs.Ytgpmoakfbhcidaa
open Go.RowKit
set_option maxRecDepth 100000
set_option maxRecDepth 100000

/-- What is kept while list p is under way as v, of so many bytes. -/
structure GrI (S : Nat → Prop) (w0 w : World) (B yb zb N p len : Nat) (kv zv v : Value) (A A' : Nat → Option Addr) (ln C C' : Nat → Nat) : Prop where
  yrow : w.rowIs yb 101 8 (sprB kv)
  zrow : w.rowIs zb 101 8 (sprB zv)
  lst : w.ownsRow B 53 1 kv N ((List.range N).map (sl A ln C))
  zlst : w.ownsRow B 53 1 zv p ((List.range p).map (sl A' (fun i => ln i + 96) C'))
  byt : ∀ i, i < N → Byt w (A i) (ln i) (mrk i)
  own : ∀ i, p < i → i < N → OwnZ w B (sl A ln C i) (ln i) (mrk i)
  zown : ∀ i, i < p → OwnZ w B (sl A' (fun i => ln i + 96) C' i) (ln i + 96) (mrk i)
  cur : OwnZ w B v len (mrk p)
  llen : ln p ≤ len
  frm : ∀ i a, i < N → A i = some a → a = ⟨a.block, 0, none⟩ ∧ ∃ cur fz, w.heap[a.block]? = some (.cells cur 5 fz)
  kz : ∀ q, kv.ownBlock = some q → zv.ownBlock ≠ some q
  yz : yb ≠ zb
  zl : w0.heap.size ≤ zb
  d1 : ∀ i j a a', i < N → j < N → i ≠ j → A i = some a → A j = some a' → a.block ≠ a'.block
  d2 : ∀ i j a a', i < N → j < p → i ≠ j → A i = some a → A' j = some a' → a.block ≠ a'.block
  d3 : ∀ i j a a', i < p → j < p → i ≠ j → A' i = some a → A' j = some a' → a.block ≠ a'.block
  cA : ∀ q i a, v.ownBlock = some q → i < N → i ≠ p → A i = some a → a.block ≠ q
  cZ : ∀ q i a, v.ownBlock = some q → i < p → A' i = some a → a.block ≠ q
  kp : Kp S w0 w
  hS : ∀ i a, i < N → A i = some a → S a.block ∨ w0.heap.size ≤ a.block
  cS : ∀ q, v.ownBlock = some q → S q ∨ w0.heap.size ≤ q
  zS : ∀ q, zv.ownBlock = some q → w0.heap.size ≤ q
section
variable {S : Nat → Prop} {w0 w : World} {B yb zb N p len : Nat} {kv zv v : Value} {A A' : Nat → Option Addr} {ln C C' : Nat → Nat}
theorem zlt (h : GrI S w0 w B yb zb N p len kv zv v A A' ln C C') {i : Nat} {a : Addr} (hi : i < p) (ha : A' i = some a) : a.block < w.heap.size := ownZ_lt (h.zown i hi) a.block ((sl_block _ _ _ _ _).2 ⟨a, ha, rfl⟩)
theorem frm_lt (h : GrI S w0 w B yb zb N p len kv zv v A A' ln C C') {i : Nat} {a : Addr} (hi : i < N) (ha : A i = some a) : a.block < w.heap.size := by
  obtain ⟨_, _, _, e⟩ := h.frm i a hi ha
  exact (Array.getElem?_eq_some_iff.1 e).1
/-- One byte more. -/
theorem GrI.more (h : GrI S w0 w B yb zb N p len kv zv v A A' ln C C') (hB : B ≤ w.heap.size) (hp : p < N) (hmax : len + 1 ≤ 140737488355328) :
    ∃ a c w2, (Builtin.append_ #[53, 53] 53 #[v, .slice (some ⟨w.heap.size, 0, none⟩) 1 1]).run Try.prog (w.alloc (.cells #[.int .u8 (mrk p len : Nat)] 5)) = .ok (.slice a (len + 1) c) w2 ∧ GrI S w0 w2 B yb zb N p (len + 1) kv zv (.slice a (len + 1) c) A A' ln C C' ∧ B ≤ w2.heap.size := by
  have hbA : Below w.heap.size w (w.alloc (.cells #[.int .u8 (mrk p len : Nat)] 5)) := (Below.refl _ _).alloc (Nat.le_refl _) _
  have zA : (w.alloc (.cells #[.int .u8 (mrk p len : Nat)] 5)).heap.size = w.heap.size + 1 := by simp
  obtain ⟨v', w2, hr, ho, hg, hl⟩ := app_mark (w.alloc (.cells #[.int .u8 (mrk p len : Nat)] 5)) B v len (mrk p) (ownZ_keep h.cur (fun k e => hbA.block k (ownZ_lt h.cur k e))) w.heap.size (mrk p len) (by simp) hmax (by omega)
  generalize w.alloc (.cells #[.int .u8 (mrk p len : Nat)] 5) = wa at *
  have ho' : OwnZ w2 B v' (len + 1) (mrk p) := ownZ_congr ho (fun j hj => by
    unfold cat
    by_cases e : j < len
    · rw [if_pos e]
    · rw [if_neg e, show j = len by omega])
  obtain ⟨a, c, rfl⟩ := ownZ_form ho'
  have zg := hg.size
  have keep : ∀ q, q < w.heap.size → v.ownBlock ≠ some q → w2.heap[q]? = w.heap[q]? := fun q hq hn => (hg.block q (by omega) (fun e => hn e.symm)).trans (hbA.block q hq)
  have lies : ∀ q, (Value.slice a (len + 1) c).ownBlock = some q → v.ownBlock = some q ∨ w.heap.size ≤ q := fun q e => by
    rcases hl with e2 | ⟨e2, _⟩
    · exact .inl (e2 ▸ e)
    · rw [e2] at e; exact .inr (by have := Option.some.inj e; omega)
  have hyr := keep yb h.yrow.lt (ownZ_row_ne h.cur h.yrow (by decide))
  have hzr := keep zb h.zrow.lt (ownZ_row_ne h.cur h.zrow (by decide))
  refine ⟨a, c, w2, hr, ⟨h.yrow.of_block hyr, h.zrow.of_block hzr, owns_keep h.lst (fun q e => keep q (h.lst.lt q e).2 (fun e2 => ownZ_rows_ne h.cur h.lst (by decide) q e2 e)), owns_keep h.zlst (fun q e => keep q (h.zlst.lt q e).2 (fun e2 => ownZ_rows_ne h.cur h.zlst (by decide) q e2 e)), fun i hi => ?_, fun i h1 h2 => ownZ_keep (h.own i h1 h2) (fun q e => ?_), fun i h1 => ownZ_keep (h.zown i h1) (fun q e => ?_), ho', by have := h.llen; omega, fun i x hi hx => ⟨(h.frm i x hi hx).1, ?_⟩, h.kz, h.yz, h.zl, h.d1, h.d2, h.d3, fun q i x e hi hne hx => ?_, fun q i x e hi hx => ?_, ?_, h.hS, fun q e => ?_, h.zS⟩, by omega⟩
  · by_cases e : i = p
    · subst e
      intro j hj
      obtain ⟨b, off, e, hc⟩ := h.byt i hi j hj
      have hbl := World.block_lt_of_cell? _ _ hc
      have hbl : b < w.heap.size := hbl
      by_cases hvb : v.ownBlock = some b
      · rcases hl with e2 | ⟨_, hs⟩
        · have ef := (h.frm i _ hi e).1
          have eoff : off = 0 := by simpa using ef
          subst eoff
          obtain ⟨g', cap', _, e4, _⟩ := ownZ_row ho' (by omega)
          rw [e4] at ho' e2
          have eb : g' = b := by rw [hvb] at e2; simpa [Value.ownBlock] using e2
          subst eb
          exact ⟨g', 0, e, by rw [Nat.zero_add]; exact ownZ_at ho' j (by have := h.llen; omega)⟩
        · exact ⟨b, off, e, by rw [World.cell?_of_block (w := w) (a := ⟨b, off + j, none⟩) ((hs.block b (by omega)).trans (hbA.block b hbl))]; exact hc⟩
      · exact ⟨b, off, e, by rw [World.cell?_of_block (w := w) (a := ⟨b, off + j, none⟩) (keep b hbl hvb)]; exact hc⟩
    · intro j hj
      obtain ⟨b, off, e2, hc⟩ := h.byt i hi j hj
      have hbl : b < w.heap.size := World.block_lt_of_cell? _ _ hc
      exact ⟨b, off, e2, by rw [World.cell?_of_block (w := w) (a := ⟨b, off + j, none⟩) (keep b hbl (fun e3 => h.cA b i _ e3 hi e e2 rfl))]; exact hc⟩
  · obtain ⟨x, hx, hb⟩ := (sl_block _ _ _ _ _).1 e
    exact keep q (ownZ_lt (h.own i h1 h2) q e) (fun e3 => h.cA q i x e3 h2 (by omega) hx hb)
  · obtain ⟨x, hx, hb⟩ := (sl_block _ _ _ _ _).1 e
    exact keep q (ownZ_lt (h.zown i h1) q e) (fun e3 => h.cZ q i x e3 h1 hx hb)
  · obtain ⟨_, cur, fz, hty⟩ := h.frm i x hi hx
    have hbl := frm_lt h hi hx
    by_cases hvb : v.ownBlock = some x.block
    · rcases hl with e2 | ⟨_, hs⟩
      · exact ownZ_type ho' (e2.trans hvb)
      · exact ⟨cur, fz, ((hs.block x.block (by omega)).trans (hbA.block x.block hbl)).trans hty⟩
    · exact ⟨cur, fz, (keep x.block hbl hvb).trans hty⟩
  · rcases lies q e with e2 | e2
    · exact h.cA q i x e2 hi hne hx
    · have := frm_lt h hi hx; omega
  · rcases lies q e with e2 | e2
    · exact h.cZ q i x e2 hi hx
    · have := zlt h hi hx; omega
  · have z0 := h.kp.size
    refine ⟨hg.os.trans (hbA.os.trans h.kp.os), hg.tape.trans (hbA.tape.trans h.kp.tape), hg.output.trans (hbA.output.trans h.kp.output), by omega, fun q hq hn => (keep q (by omega) (fun e => ?_)).trans (h.kp.block q hq hn)⟩
    rcases h.cS q e with e2 | e2
    · exact hn e2
    · omega
  · rcases lies q e with e2 | e2
    · exact h.cS q e2
    · exact .inr (Nat.le_trans h.kp.size e2)
/-- The grown list is laid into the other spread. -/
theorem GrI.lay {a : Option Addr} {c : Nat} (h : GrI S w0 w B yb zb N p (ln p + 96) kv zv (.slice a (ln p + 96) c) A A' ln C C') (hB : B ≤ w.heap.size) (hp : p < N) (hN : N ≤ 100000) :
    ∃ za zc w2, (Builtin.append_ #[30, 30] 30 #[zv, .slice (some ⟨w.heap.size, 0, none⟩) 1 1]).run Try.prog (w.alloc (.cells #[.slice a (ln p + 96) c] 53)) = .ok (.slice za (p + 1) zc) w2 ∧ w2.cell? ⟨zb, 1, none⟩ = some zv ∧ w2.frozen? ⟨zb, 1, none⟩ = false ∧
      (∀ w3, w3 = w2.setCell ⟨zb, 1, none⟩ (.slice za (p + 1) zc) → B ≤ w3.heap.size ∧ (w3.rowIs yb 101 8 (sprB kv)) ∧ (∀ v, p + 1 < N → (v = sl A ln C (p + 1)) → GrI S w0 w3 B yb zb N (p + 1) (ln (p + 1)) kv (.slice za (p + 1) zc) v A (put A' p a) ln C (put C' p c)) ∧ (p + 1 = N → Full w3 yb N kv A ln C ∧ Full w3 zb N (.slice za (p + 1) zc) (put A' p a) (fun i => ln i + 96) (put C' p c)) ∧ Kp S w0 w3) := by
  have hbA : Below w.heap.size w (w.alloc (.cells #[.slice a (ln p + 96) c] 53)) := (Below.refl _ _).alloc (Nat.le_refl _) _
  have zA : (w.alloc (.cells #[.slice a (ln p + 96) c] 53)).heap.size = w.heap.size + 1 := by simp
  obtain ⟨zv', w2, hr, ho, hg, hl⟩ := app_one Try.underlying30 Try.infoB rfl (by decide) _ B zv p _ (h.zlst.alloc (.cells #[.slice a (ln p + 96) c] 53)) w.heap.size (.slice a (ln p + 96) c) (by simp) rfl (by omega) (by omega)
  generalize w.alloc (.cells #[.slice a (ln p + 96) c] 53) = wa at *
  obtain ⟨za, zc, rfl⟩ : ∃ za zc, zv' = .slice za (p + 1) zc := by
    rcases ho.2 with ⟨_, h0⟩ | ⟨g, cap, cur, e, _⟩
    · omega
    · exact ⟨_, cap, e⟩
  have zg := hg.size
  have keep : ∀ q, q < w.heap.size → zv.ownBlock ≠ some q → w2.heap[q]? = w.heap[q]? := fun q hq hn => (hg.block q (by omega) (fun e => hn e.symm)).trans (hbA.block q hq)
  have lies : ∀ q, (Value.slice za (p + 1) zc).ownBlock = some q → zv.ownBlock = some q ∨ w.heap.size ≤ q := fun q e => by
    rcases hl with e2 | e2
    · exact .inl (e2 ▸ e)
    · rw [e2] at e; exact .inr (by have := Option.some.inj e; omega)
  have hzr : w2.rowIs zb 101 8 (sprB zv) := h.zrow.of_block (keep zb h.zrow.lt (rows_apart h.zlst h.zrow (by decide)))
  refine ⟨za, zc, w2, hr, hzr.cell (i := 1) (by decide), hzr.frozen 1, fun w3 e3 => ?_⟩
  have hset : ∀ b, b ≠ zb → w3.heap[b]? = w2.heap[b]? := fun b hb => by rw [e3]; exact Below.heap_setCell _ _ _ _ hb
  have z3 : w3.heap.size = w2.heap.size := by rw [e3]; simp [World.setCell]
  have k3 : ∀ q, q < w.heap.size → q ≠ zb → zv.ownBlock ≠ some q → w3.heap[q]? = w.heap[q]? := fun q hq h1 h2 => (hset q h1).trans (keep q hq h2)
  have hz3 : w3.rowIs zb 101 8 (sprB (.slice za (p + 1) zc)) := by
    rw [e3]
    refine (hzr.set 1 _).congr (fun i hi => ?_)
    unfold sprB
    by_cases e : i = 1
    · subst e; rfl
    · rw [if_neg e, if_neg e, if_neg e]
  have hy3 : w3.rowIs yb 101 8 (sprB kv) := h.yrow.of_block (k3 yb h.yrow.lt h.yz (rows_apart h.zlst h.yrow (by decide)))
  have hlst3 : w3.ownsRow B 53 1 kv N ((List.range N).map (sl A ln C)) := owns_keep h.lst (fun q e => k3 q (h.lst.lt q e).2 (fun e2 => rows_apart h.lst h.zrow (by decide) (e2 ▸ e)) (h.kz q e))
  have hz8 : ∀ {u : Value} {n : Nat} {x : Nat → Nat}, OwnZ w B u n x → OwnZ w3 B u n x := fun hu => ownZ_keep hu (fun q e => k3 q (ownZ_lt hu q e) (fun e2 => ownZ_row_ne hu h.zrow (by decide) (e2 ▸ e)) (ownZ_rows_ne hu h.zlst (by decide) q e))
  have hzl3 : w3.ownsRow B 53 1 (.slice za (p + 1) zc) (p + 1) ((List.range (p + 1)).map (sl (put A' p a) (fun i => ln i + 96) (put C' p c))) := by
    have e : (List.range (p + 1)).map (sl (put A' p a) (fun i => ln i + 96) (put C' p c)) = (List.range p).map (sl A' (fun i => ln i + 96) C') ++ [.slice a (ln p + 96) c] := by
      rw [range_map_succ]
      congr 1
      · apply List.map_congr_left
        intro j hj
        have hj := List.mem_range.1 hj
        unfold sl
        rw [put_ne _ _ _ (by omega), put_ne _ _ _ (by omega)]
      · unfold sl
        rw [put_at, put_at]
    rw [e]
    exact owns_keep ho (fun q eq => hset q (fun e2 => by
      have := rows_apart ho hzr (by decide)
      exact this (e2 ▸ eq)))
  have hzo : ∀ i, i < p + 1 → OwnZ w3 B (sl (put A' p a) (fun i => ln i + 96) (put C' p c) i) (ln i + 96) (mrk i) := fun i hi => by
    by_cases e : i = p
    · subst e
      unfold sl
      rw [put_at, put_at]
      exact hz8 h.cur
    · have := hz8 (h.zown i (by omega))
      unfold sl at this ⊢
      rw [put_ne _ _ _ e, put_ne _ _ _ e]
      exact this
  have hcb : ∀ x, a = some x → (Value.slice a (ln p + 96) c).ownBlock = some x.block := fun x e => by rw [e]; rfl
  have hty : ∀ i x, i < N → A i = some x → w3.heap[x.block]? = w.heap[x.block]? := fun i x hi hx => by
    obtain ⟨_, cur, fz, ht⟩ := h.frm i x hi hx
    refine k3 x.block (frm_lt h hi hx) (fun e => ?_) (fun e => ?_)
    · obtain ⟨cc, h1, _⟩ := h.zrow
      rw [← e, ht] at h1
      simp only [Option.some.injEq, Obj.cells.injEq] at h1
      exact absurd h1.2.1 (by decide)
    · rcases h.zlst.2 with ⟨q, _⟩ | ⟨g', cap, cur', q, _, hq, _⟩
      · rw [q] at e; simp [Value.ownBlock] at e
      · obtain rfl : g' = x.block := by rw [q] at e; simpa [Value.ownBlock] using e
        rw [ht] at hq
        simp only [Option.some.injEq, Obj.cells.injEq] at hq
        exact absurd hq.2.1 (by decide)
  have hby : ∀ i, i < N → Byt w3 (A i) (ln i) (mrk i) := fun i hi j hj => by
    obtain ⟨b, off, e, hc⟩ := h.byt i hi j hj
    have hq : w3.heap[b]? = w.heap[b]? := hty i _ hi e
    exact ⟨b, off, e, by rw [World.cell?_of_block (w := w) (a := ⟨b, off + j, none⟩) hq]; exact hc⟩
  have hd2 : ∀ i j x x', i < N → j < p + 1 → i ≠ j → A i = some x → put A' p a j = some x' → x.block ≠ x'.block := fun i j x x' hi hj hne hx hx' => by
    by_cases e : j = p
    · subst e
      rw [put_at] at hx'
      exact h.cA _ i x (hcb x' hx') hi hne hx
    · rw [put_ne _ _ _ e] at hx'
      exact h.d2 i j x x' hi (by omega) hne hx hx'
  have hd3 : ∀ i j x x', i < p + 1 → j < p + 1 → i ≠ j → put A' p a i = some x → put A' p a j = some x' → x.block ≠ x'.block := fun i j x x' hi hj hne hx hx' => by
    by_cases e : i = p
    · subst e
      rw [put_at] at hx
      rw [put_ne _ _ _ (Ne.symm hne)] at hx'
      exact fun e => h.cZ _ j x' (hcb x hx) (by omega) hx' e.symm
    · rw [put_ne _ _ _ e] at hx
      by_cases e2 : j = p
      · subst e2
        rw [put_at] at hx'
        exact h.cZ _ i x (hcb x' hx') (by omega) hx
      · rw [put_ne _ _ _ e2] at hx'
        exact h.d3 i j x x' (by omega) (by omega) hne hx hx'
  have hbel : Kp S w0 w3 := by
    have z0 := h.kp.size
    have hb2 : Kp S w0 w2 := ⟨hg.os.trans (hbA.os.trans h.kp.os), hg.tape.trans (hbA.tape.trans h.kp.tape), hg.output.trans (hbA.output.trans h.kp.output), by omega, fun q hq hn => (keep q (by omega) (fun e => by have := h.zS q e; omega)).trans (h.kp.block q hq hn)⟩
    rw [e3]
    exact hb2.setCell (.inr h.zl) _ _
  refine ⟨by omega, hy3, fun v hv ev => ?_, fun e => ?_, hbel⟩
  · subst ev
    refine ⟨hy3, hz3, hlst3, hzl3, hby, fun i h1 h2 => hz8 (h.own i (by omega) h2), hzo, hz8 (h.own (p + 1) (by omega) hv), Nat.le_refl _, fun i x hi hx => ⟨(h.frm i x hi hx).1, ?_⟩, fun q e => ?_, h.yz, h.zl, h.d1, hd2, hd3, fun q i x e hi hne hx => ?_, fun q i x e hi hx => ?_, hbel, h.hS, fun q e => ?_, fun q e => ?_⟩
    · obtain ⟨_, cur, fz, ht⟩ := h.frm i x hi hx
      exact ⟨cur, fz, (hty i x hi hx).trans ht⟩
    · intro e2
      rcases lies q e2 with e4 | e4
      · exact h.kz q e e4
      · have := (h.lst.lt q e).2; omega
    · obtain ⟨y, hy, hb⟩ := (sl_block _ _ _ _ _).1 e
      rw [← hb]
      exact h.d1 i (p + 1) x y hi hv hne hx hy
    · obtain ⟨y, hy, hb⟩ := (sl_block _ _ _ _ _).1 e
      rw [← hb]
      exact fun e5 => hd2 (p + 1) i y x hv hi (by omega) hy hx e5.symm
    · obtain ⟨y, hy, hb⟩ := (sl_block _ _ _ _ _).1 e
      rw [← hb]
      exact h.hS (p + 1) y hv hy
    · rcases lies q e with e4 | e4
      · exact h.zS q e4
      · exact Nat.le_trans h.kp.size e4
  · subst e
    refine ⟨⟨hy3, owns_form hlst3, hby⟩, hz3, owns_form hzl3, fun i hi => ?_⟩
    obtain ⟨x, cc, e, hb, _⟩ := ownZ_byt' (hzo i hi)
    unfold sl at e
    injection e with e1
    rw [e1]
    exact hb
end
end Go.Proofs.Ytgpmoakfbhcidaa
