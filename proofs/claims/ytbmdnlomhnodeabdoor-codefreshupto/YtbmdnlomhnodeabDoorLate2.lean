/- Late takes a list more: memory. -/
import Derived.Test.YtbmdnlomhnodeabDoorLate1
namespace Go.Proofs.YtbmdnlomhnodeabDoor
open Go.RowKit
set_option maxRecDepth 100000

set_option maxHeartbeats 3200000 in
theorem LateIs.add {w : World} {B lk n : Nat} {GA WA : Nat → Option Addr} {gl GC WC : Nat → Nat} {X : Nat → Nat → Nat} {gv wv : Value} (h : LateIs w B lk n GA WA gl GC WC X gv wv) (hB : B ≤ w.heap.size) (a : Option Addr) (len cap : Nat) (x : Nat → Nat) (hN : n ≤ 900000)
    (hown : Own w B (.slice a len cap) len x) (hfree : ∀ ad, a = some ad → ¬ LF lk n GA WA gv wv ad.block) (wa : Option Addr) (wc : Nat) (hwb : Byt w wa len x) (hwn : wa = none → len = 0) (hwl : ∀ b off, wa = some ⟨b, off, none⟩ → ¬ LF lk n GA WA gv wv b) :
    ∃ ga gc w2 c4 w4 oa oc w6 S, (Builtin.append_ #[59, 59] 59 #[gv, .slice (some ⟨w.heap.size, 0, none⟩) 1 1]).run Tryd.prog (w.alloc (.cells #[.slice a len cap] 22)) = .ok (.slice ga (n + 1) gc) w2 ∧ w.cell? ⟨lk, 0, none⟩ = some gv ∧ w2.cell? ⟨lk, 0, none⟩ = some gv ∧ w2.frozen? ⟨lk, 0, none⟩ = false ∧
      (w2.setCell ⟨lk, 0, none⟩ (.slice ga (n + 1) gc)).cell? ⟨lk, 1, none⟩ = some wv ∧
      (convert 22 9 (.slice wa len wc)).run Tryd.prog (w2.setCell ⟨lk, 0, none⟩ (.slice ga (n + 1) gc)).drew = .ok (.string S) (w2.setCell ⟨lk, 0, none⟩ (.slice ga (n + 1) gc)).drew ∧
      (convert 9 22 (.string S)).run Tryd.prog (w2.setCell ⟨lk, 0, none⟩ (.slice ga (n + 1) gc)).drew = .ok (.slice (some ⟨w2.heap.size, 0, none⟩) len c4) w4 ∧ w4.cell? ⟨lk, 1, none⟩ = some wv ∧ (w4.alloc (.cells #[.slice (some ⟨w2.heap.size, 0, none⟩) len c4] 22)).cell? ⟨lk, 1, none⟩ = some wv ∧
      (Builtin.append_ #[59, 59] 59 #[wv, .slice (some ⟨w4.heap.size, 0, none⟩) 1 1]).run Tryd.prog (w4.alloc (.cells #[.slice (some ⟨w2.heap.size, 0, none⟩) len c4] 22)) = .ok (.slice oa (n + 1) oc) w6 ∧ w6.cell? ⟨lk, 1, none⟩ = some wv ∧ w6.frozen? ⟨lk, 1, none⟩ = false ∧
      LateIs (w6.setCell ⟨lk, 1, none⟩ (.slice oa (n + 1) oc)) B lk (n + 1) (put GA n a) (put WA n (some ⟨w2.heap.size, 0, none⟩)) (put gl n len) (put GC n cap) (put WC n c4) (put X n x) (.slice ga (n + 1) gc) (.slice oa (n + 1) oc) ∧
      Mv (fun k => LF lk n GA WA gv wv k ∨ ∃ ad, a = some ad ∧ ad.block = k) (LF lk (n + 1) (put GA n a) (put WA n (some ⟨w2.heap.size, 0, none⟩)) (.slice ga (n + 1) gc) (.slice oa (n + 1) oc)) w (w6.setCell ⟨lk, 1, none⟩ (.slice oa (n + 1) oc)) := by
  have hlk := h.row.lt
  have sA : w.Since w.heap.size (w.alloc (.cells #[.slice a len cap] 22)) := (World.Since.refl _ _).alloc (Nat.le_refl _) _
  have zA : (w.alloc (.cells #[.slice a len cap] 22)).heap.size = w.heap.size + 1 := by simp
  obtain ⟨gv', w2, hr1, ho1, hg1, hl1⟩ := app_one Tryd.underlying59 Tryd.infoB rfl (by decide) _ B gv n _ (h.since sA).og w.heap.size (.slice a len cap) (by simp) rfl (by omega) (by omega)
  have z2 := hg1.size
  have hgv' : ∀ k, gv'.ownBlock = some k → gv.ownBlock = some k ∨ k = w.heap.size + 1 := fun k e => by
    rcases hl1 with e2 | e2
    · exact Or.inl (e2 ▸ e)
    · rw [zA] at e2; rw [e2] at e; exact Or.inr (Option.some.inj e).symm
  have k2 : ∀ k, k < w.heap.size → gv.ownBlock ≠ some k → w2.heap[k]? = w.heap[k]? := fun k hk hn => (hg1.block k (by omega) (fun e => hn e.symm)).trans (sA.block k hk)
  have row2 : w2.rowIs lk 76 2 (lateCell gv wv) := h.row.of_block (k2 lk hlk h.nb.1)
  obtain ⟨ga, gc, rfl⟩ : ∃ ga gc, gv' = .slice ga (n + 1) gc := by
    rcases ho1.2 with ⟨_, h0⟩ | ⟨g, c, cur, e, _⟩
    · omega
    · exact ⟨_, c, e⟩
  have c0 := h.row.cell (i := 0) (by decide)
  have c20 := row2.cell (i := 0) (by decide)
  have f20 := row2.frozen 0
  have row3 := row2.set 0 (.slice ga (n + 1) gc)
  have z3 : (w2.setCell ⟨lk, 0, none⟩ (.slice ga (n + 1) gc)).heap.size = w2.heap.size := by simp [World.setCell]
  have k3 : ∀ k, k ≠ lk → (w2.setCell ⟨lk, 0, none⟩ (.slice ga (n + 1) gc)).heap[k]? = w2.heap[k]? := fun k hk => Below.heap_setCell _ _ _ _ hk
  have c31 := row3.cell (i := 1) (by decide)
  have e3 : (w2.setCell ⟨lk, 0, none⟩ (.slice ga (n + 1) gc)).os = w2.os ∧ (w2.setCell ⟨lk, 0, none⟩ (.slice ga (n + 1) gc)).tape = w2.tape ∧ (w2.setCell ⟨lk, 0, none⟩ (.slice ga (n + 1) gc)).output = w2.output := ⟨rfl, rfl, rfl⟩
  have hwb3 : Byt (w2.setCell ⟨lk, 0, none⟩ (.slice ga (n + 1) gc)) wa len x := fun j hj => by
    obtain ⟨b, off, e, hc⟩ := hwb j hj
    have q := hwl b off e
    have hbl := World.block_lt_of_cell? _ _ hc
    exact ⟨b, off, e, by rw [World.cell?_of_block (w := w) ((k3 b (fun e => q (Or.inl e))).trans (k2 b hbl (fun e => q (Or.inr (Or.inl e)))))]; exact hc⟩
  have ow3 : (w2.setCell ⟨lk, 0, none⟩ (.slice ga (n + 1) gc)).ownsRow B 22 1 wv n ((List.range n).map fun i => .slice (WA i) (gl i) (WC i)) := owns_keep h.ow (fun k e => (k3 k (fun e2 => h.nb.2 (e2 ▸ e))).trans (k2 k (h.ow.lt k e).2 (fun e2 => h.no k e2 e)))
  generalize hw3 : w2.setCell ⟨lk, 0, none⟩ (.slice ga (n + 1) gc) = w3 at *
  have sD : w3.Since w3.heap.size w3.drew := (World.Since.refl _ _).drew
  have hs1 := str_byt wa len wc x w3.drew (hwb3.since sD) hwn
  obtain ⟨c4, w4, hr4, s4, z4, hb4⟩ := bytes_conv w3.drew len x
  have s34 : w3.Since w3.heap.size w4 := sD.trans s4
  have zd : w3.drew.heap.size = w3.heap.size := rfl
  rw [zd] at hr4 hb4 z4
  have row4 := row_since row3 s34
  have c41 := row4.cell (i := 1) (by decide)
  have sB : w4.Since w4.heap.size (w4.alloc (.cells #[.slice (some ⟨w3.heap.size, 0, none⟩) len c4] 22)) := (World.Since.refl _ _).alloc (Nat.le_refl _) _
  have zB : (w4.alloc (.cells #[.slice (some ⟨w3.heap.size, 0, none⟩) len c4] 22)).heap.size = w4.heap.size + 1 := by simp
  have c51 := (row_since row4 sB).cell (i := 1) (by decide)
  have ow4 := owns_keep ow3 (w' := w4) (fun k e => s34.block k (ow3.lt k e).2)
  have ow5 := ow4.alloc (.cells #[.slice (some ⟨w3.heap.size, 0, none⟩) len c4] 22)
  obtain ⟨wv', w6, hr2, ho2, hg2, hl2⟩ := app_one Tryd.underlying59 Tryd.infoB rfl (by decide) _ B wv n _ ow5 w4.heap.size (.slice (some ⟨w3.heap.size, 0, none⟩) len c4) (by simp) rfl (by omega) (by omega)
  have z6 := hg2.size
  have hwv' : ∀ k, wv'.ownBlock = some k → wv.ownBlock = some k ∨ k = w4.heap.size + 1 := fun k e => by
    rcases hl2 with e2 | e2
    · exact Or.inl (e2 ▸ e)
    · rw [zB] at e2; rw [e2] at e; exact Or.inr (Option.some.inj e).symm
  obtain ⟨oa, oc, rfl⟩ : ∃ oa oc, wv' = .slice oa (n + 1) oc := by
    rcases ho2.2 with ⟨_, h0⟩ | ⟨g, c, cur, e, _⟩
    · omega
    · exact ⟨_, c, e⟩
  have k6 : ∀ k, k < w4.heap.size → wv.ownBlock ≠ some k → w6.heap[k]? = w4.heap[k]? := fun k hk hn => (hg2.block k (by omega) (fun e => hn e.symm)).trans (sB.block k hk)
  have row6 : w6.rowIs lk 76 2 _ := row4.of_block (k6 lk (by omega) h.nb.2)
  have c61 := row6.cell (i := 1) (by decide)
  have f61 := row6.frozen 1
  have row7 := row6.set 1 (.slice oa (n + 1) oc)
  have k7 : ∀ k, k ≠ lk → (w6.setCell ⟨lk, 1, none⟩ (.slice oa (n + 1) oc)).heap[k]? = w6.heap[k]? := fun k hk => Below.heap_setCell _ _ _ _ hk
  have z7 : (w6.setCell ⟨lk, 1, none⟩ (.slice oa (n + 1) oc)).heap.size = w6.heap.size := by simp [World.setCell]
  have k37 : ∀ k, k < w4.heap.size → k ≠ lk → wv.ownBlock ≠ some k → (w6.setCell ⟨lk, 1, none⟩ (.slice oa (n + 1) oc)).heap[k]? = w4.heap[k]? := fun k h1 h2 h3 => (k7 k h2).trans (k6 k h1 h3)
  have kall : ∀ k, k < w.heap.size → k ≠ lk → gv.ownBlock ≠ some k → wv.ownBlock ≠ some k → (w6.setCell ⟨lk, 1, none⟩ (.slice oa (n + 1) oc)).heap[k]? = w.heap[k]? := fun k h1 h2 h3 h4 => (k37 k (by omega) h2 h4).trans ((s34.block k (by omega)).trans ((k3 k h2).trans (k2 k h1 h3)))
  have hgvlt : ∀ k, (Value.slice ga (n + 1) gc).ownBlock = some k → k < w3.heap.size ∧ k ≠ lk ∧ wv.ownBlock ≠ some k := fun k e => by
    have hl := (ho1.lt k e).2
    rcases hgv' k e with e2 | e2
    · exact ⟨by omega, fun e3 => h.nb.1 (e3 ▸ e2), h.no k e2⟩
    · exact ⟨by omega, by omega, fun e3 => by have := (h.ow.lt k e3).2; omega⟩
  subst hw3
  rw [z3] at hr4 hb4 hr2 ho2 c51
  have hadr : ∀ ad, a = some ad → B ≤ ad.block ∧ ad.block < w.heap.size ∧ ad.block ≠ lk ∧ gv.ownBlock ≠ some ad.block ∧ wv.ownBlock ≠ some ad.block := fun ad he => by
    have e1 : (Value.slice a len cap).ownBlock = some ad.block := by rw [he]; rfl
    exact ⟨own_block hown _ e1, own_lt hown _ e1, fun e => hfree ad he (Or.inl e), fun e => hfree ad he (Or.inr (Or.inl e)), fun e => hfree ad he (Or.inr (Or.inr (Or.inl e)))⟩
  have big : ∀ b, b < w.heap.size → B ≤ b → b ≠ lk → gv.ownBlock ≠ some b → wv.ownBlock ≠ some b → B ≤ b ∧ b < (w6.setCell ⟨lk, 1, none⟩ (.slice oa (n + 1) oc)).heap.size ∧ b ≠ lk ∧ (Value.slice ga (n + 1) gc).ownBlock ≠ some b ∧ (Value.slice oa (n + 1) oc).ownBlock ≠ some b := fun b q1 q2 q3 q4 q5 => ⟨q2, by omega, q3, fun e => by
      rcases hgv' b e with e2 | e2
      · exact q4 e2
      · omega, fun e => by
      rcases hwv' b e with e2 | e2
      · exact q5 e2
      · omega⟩
  refine ⟨ga, gc, w2, c4, w4, oa, oc, w6, _, hr1, c0, c20, f20, by rw [c31]; rfl, hs1, hr4, by rw [c41]; rfl, by rw [c51]; rfl, hr2, by rw [c61]; rfl, f61, ?_, ?_⟩
  · refine ⟨row7.congr (fun i hi => ?_), ?_, ?_, fun i hi => ?_, fun i hi j hj => ?_, fun i hi he => ?_, fun i ad hi he => ?_, fun i ad hi he => ?_, fun i j ad a' hi hj hij he he' => ?_, fun i j ad a' hi hj he he' => ?_, ⟨fun e => (hgvlt lk e).2.1 rfl, fun e => ?_⟩, fun k e e2 => ?_, h.lb⟩
    · match i, hi with
      | 0, _ => rfl
      | 1, _ => rfl
    · have e : ((List.range (n + 1)).map fun i => Value.slice (put GA n a i) (put gl n len i) (put GC n cap i)) = ((List.range n).map fun i => Value.slice (GA i) (gl i) (GC i)) ++ [.slice a len cap] := by
        rw [range_map_succ, put_at, put_at, put_at]
        congr 1
        apply List.map_congr_left
        intro j hj
        have hj := List.mem_range.1 hj
        rw [put_ne _ _ _ (by omega), put_ne _ _ _ (by omega), put_ne _ _ _ (by omega)]
      rw [e]
      exact owns_keep ho1 (fun k ek => by
        have := hgvlt k ek
        exact (k37 k (by omega) this.2.1 this.2.2).trans ((s34.block k this.1).trans (k3 k this.2.1)))
    · have e : ((List.range (n + 1)).map fun i => Value.slice (put WA n (some ⟨w2.heap.size, 0, none⟩) i) (put gl n len i) (put WC n c4 i)) = ((List.range n).map fun i => Value.slice (WA i) (gl i) (WC i)) ++ [.slice (some ⟨w2.heap.size, 0, none⟩) len c4] := by
        rw [range_map_succ, put_at, put_at, put_at]
        congr 1
        apply List.map_congr_left
        intro j hj
        have hj := List.mem_range.1 hj
        rw [put_ne _ _ _ (by omega), put_ne _ _ _ (by omega), put_ne _ _ _ (by omega)]
      rw [e]
      exact owns_keep ho2 (fun k ek => k7 k (fun e3 => by
        rcases hwv' k ek with e4 | e4
        · exact h.nb.2 (e3 ▸ e4)
        · omega))
    · by_cases e : i = n
      · subst e
        rw [put_at, put_at, put_at, put_at]
        refine own_keep hown (fun k ek => ?_)
        obtain ⟨ad, he, eb⟩ := own_slice ek
        have q := hadr ad he
        rw [← eb]
        exact kall _ q.2.1 q.2.2.1 q.2.2.2.1 q.2.2.2.2
      · rw [put_ne _ _ _ e, put_ne _ _ _ e, put_ne _ _ _ e, put_ne _ _ _ e]
        refine own_keep (h.own i (by omega)) (fun k ek => ?_)
        obtain ⟨ad, he, eb⟩ := own_slice ek
        have q := h.gb i ad (by omega) he
        rw [← eb]
        exact kall _ q.2.1 q.2.2.1 q.2.2.2.1 q.2.2.2.2
    · by_cases e : i = n
      · subst e
        rw [put_at] at hj
        rw [put_at, put_at]
        obtain ⟨b, off, e, hcc⟩ := hb4 j hj
        cases e
        exact ⟨w2.heap.size, 0, rfl, by rw [World.cell?_of_block (w := w4) (k37 w2.heap.size (by omega) (by omega) (fun e => by have := (h.ow.lt w2.heap.size e).2; omega))]; exact hcc⟩
      · rw [put_ne _ _ _ e] at hj
        rw [put_ne _ _ _ e, put_ne _ _ _ e]
        obtain ⟨b, off, e2, hcc⟩ := h.byt i (by omega) j hj
        have q := h.wb i _ (by omega) e2
        exact ⟨b, off, e2, by rw [World.cell?_of_block (w := w) (kall b q.2.1 q.2.2.1 q.2.2.2.1 q.2.2.2.2)]; exact hcc⟩
    · by_cases e : i = n
      · subst e; rw [put_at] at he; cases he
      · rw [put_ne _ _ _ e] at he
        rw [put_ne _ _ _ e]
        exact h.wn i (by omega) he
    · by_cases e : i = n
      · subst e
        rw [put_at] at he
        have q := hadr ad he
        exact big _ q.2.1 q.1 q.2.2.1 q.2.2.2.1 q.2.2.2.2
      · rw [put_ne _ _ _ e] at he
        have q := h.gb i ad (by omega) he
        exact big _ q.2.1 q.1 q.2.2.1 q.2.2.2.1 q.2.2.2.2
    · by_cases e : i = n
      · subst e
        rw [put_at] at he
        cases he
        exact ⟨by show B ≤ w2.heap.size; omega, by show w2.heap.size < _; omega, by show w2.heap.size ≠ lk; omega, fun e => by have := (ho1.lt _ e).2; have : w2.heap.size < w2.heap.size := this; omega, fun e => by
          rcases hwv' _ e with e2 | e2
          · have := (h.ow.lt _ e2).2; have : w2.heap.size < w.heap.size := this; omega
          · have : w2.heap.size = w4.heap.size + 1 := e2
            omega⟩
      · rw [put_ne _ _ _ e] at he
        have q := h.wb i ad (by omega) he
        exact big _ q.2.1 q.1 q.2.2.1 q.2.2.2.1 q.2.2.2.2
    · by_cases ei : i = n
      · subst ei
        have ej : j ≠ i := fun e => hij e.symm
        rw [put_at] at he
        rw [put_ne _ _ _ ej] at he'
        exact fun e => hfree ad he (Or.inr (Or.inr (Or.inr (Or.inl ⟨j, a', by omega, he', e.symm⟩))))
      · rw [put_ne _ _ _ ei] at he
        by_cases ej : j = n
        · subst ej
          rw [put_at] at he'
          exact fun e => hfree a' he' (Or.inr (Or.inr (Or.inr (Or.inl ⟨i, ad, by omega, he, e⟩))))
        · rw [put_ne _ _ _ ej] at he'
          exact h.dg i j ad a' (by omega) (by omega) hij he he'
    · by_cases ej : j = n
      · subst ej
        rw [put_at] at he'
        cases he'
        have : ad.block < w.heap.size := by
          by_cases ei : i = j
          · subst ei; rw [put_at] at he; exact (hadr ad he).2.1
          · rw [put_ne _ _ _ ei] at he; exact (h.gb i ad (by omega) he).2.1
        show ad.block ≠ w2.heap.size
        omega
      · rw [put_ne _ _ _ ej] at he'
        by_cases ei : i = n
        · subst ei
          rw [put_at] at he
          exact fun e => hfree ad he (Or.inr (Or.inr (Or.inr (Or.inr ⟨j, a', by omega, he', e.symm⟩))))
        · rw [put_ne _ _ _ ei] at he
          exact h.dw i j ad a' (by omega) (by omega) he he'
    · rcases hwv' lk e with e2 | e2
      · exact h.nb.2 e2
      · omega
    · have q := hgvlt k e
      rcases hwv' k e2 with e4 | e4
      · exact q.2.2 e4
      · omega
  · refine ⟨hg2.os.trans (s34.os.trans (e3.1.trans hg1.os)), hg2.tape.trans (s34.tape.trans (e3.2.1.trans hg1.tape)), hg2.output.trans (s34.output.trans (e3.2.2.trans hg1.output)), by omega, fun k hk hn => kall k hk (fun e => hn (Or.inl (Or.inl e))) (fun e => hn (Or.inl (Or.inr (Or.inl e)))) (fun e => hn (Or.inl (Or.inr (Or.inr (Or.inl e))))), fun k hf => ?_⟩
    rcases hf with e | e | e | ⟨i, ad, hi, he, e⟩ | ⟨i, ad, hi, he, e⟩
    · exact Or.inl (Or.inl (Or.inl e))
    · rcases hgv' k e with e2 | e2
      · exact Or.inl (Or.inl (Or.inr (Or.inl e2)))
      · exact Or.inr (by omega)
    · rcases hwv' k e with e2 | e2
      · exact Or.inl (Or.inl (Or.inr (Or.inr (Or.inl e2))))
      · exact Or.inr (by omega)
    · by_cases ei : i = n
      · subst ei
        rw [put_at] at he
        exact Or.inl (Or.inr ⟨ad, he, e⟩)
      · rw [put_ne _ _ _ ei] at he
        exact Or.inl (Or.inl (Or.inr (Or.inr (Or.inr (Or.inl ⟨i, ad, by omega, he, e⟩)))))
    · by_cases ei : i = n
      · subst ei
        rw [put_at] at he
        cases he
        exact Or.inr (by have : w2.heap.size = k := e; omega)
      · rw [put_ne _ _ _ ei] at he
        exact Or.inl (Or.inl (Or.inr (Or.inr (Or.inr (Or.inr ⟨i, ad, by omega, he, e⟩)))))
end Go.Proofs.YtbmdnlomhnodeabDoor
