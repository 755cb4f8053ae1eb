/- A Book takes one entry more. -/
import Derived.Test.YtgpmoakfbhcidaaBZ1
namespace Go.Proofs.Ytgpmoakfbhcidaa
open Go.RowKit
set_option maxRecDepth 100000

set_option maxHeartbeats 1600000 in
theorem BookIs.push {w : World} {B bk n lo hi : Nat} {A : Nat → Option Addr} {ln C M : Nat → Nat} {bv ov : Value} {at' turn done used : Nat} (h : BookIs w B bk n lo hi A ln C M bv ov at' turn done used) (hB : B ≤ w.heap.size) (a : Option Addr) (len cap m hi' : Nat) (hN : n ≤ 900000)
    (hb : Byt w a len (mrk m)) (hm : m ≤ turn) (hadr : ∀ ad, a = some ad → B ≤ ad.block ∧ ad.block < w.heap.size ∧ ad.block ≠ bk ∧ bv.ownBlock ≠ some ad.block ∧ ov.ownBlock ≠ some ad.block)
    (hhi : hi' ≤ n + 1) (hcase : ∀ i, i < hi' → i < hi ∨ i = n) (hown : n < hi' → OwnZ w B (.slice a len cap) len (mrk m)) (hd1 : n < hi' → ∀ j ad a', j < n → a = some ad → A j = some a' → ad.block ≠ a'.block) (hd2 : ∀ i ad a', lo ≤ i → i < hi' → i < n → a = some ad → A i = some a' → a'.block ≠ ad.block) :
    ∃ ba bc w2 oa oc w5, (Builtin.append_ #[30, 30] 30 #[bv, .slice (some ⟨w.heap.size, 0, none⟩) 1 1]).run Try.prog (w.alloc (.cells #[.slice a len cap] 53)) = .ok (.slice ba (n + 1) bc) w2 ∧ w.cell? ⟨bk, 0, none⟩ = some bv ∧ w2.cell? ⟨bk, 0, none⟩ = some bv ∧ w2.frozen? ⟨bk, 0, none⟩ = false ∧
      (w2.setCell ⟨bk, 0, none⟩ (.slice ba (n + 1) bc)).cell? ⟨bk, 1, none⟩ = some ov ∧
      (Builtin.append_ #[31, 31] 31 #[ov, .slice (some ⟨w2.heap.size, 0, none⟩) 1 1]).run Try.prog ((w2.setCell ⟨bk, 0, none⟩ (.slice ba (n + 1) bc)).alloc (.cells #[.int .i64 (m : Nat)] 3)) = .ok (.slice oa (n + 1) oc) w5 ∧ w5.cell? ⟨bk, 1, none⟩ = some ov ∧ w5.frozen? ⟨bk, 1, none⟩ = false ∧
      BookIs (w5.setCell ⟨bk, 1, none⟩ (.slice oa (n + 1) oc)) B bk (n + 1) lo hi' (put A n a) (put ln n len) (put C n cap) (put M n m) (.slice ba (n + 1) bc) (.slice oa (n + 1) oc) at' turn done used ∧
      Mv (fun k => BF bk n A bv ov k ∨ ∃ ad, a = some ad ∧ ad.block = k) (BF bk (n + 1) (put A n a) (.slice ba (n + 1) bc) (.slice oa (n + 1) oc)) w (w5.setCell ⟨bk, 1, none⟩ (.slice oa (n + 1) oc)) ∧
      (∀ k, k < w.heap.size → k ≠ bk → bv.ownBlock ≠ some k → ov.ownBlock ≠ some k → (w5.setCell ⟨bk, 1, none⟩ (.slice oa (n + 1) oc)).heap[k]? = w.heap[k]?) ∧ (∀ k, k < w.heap.size → bv.ownBlock ≠ some k → (Value.slice ba (n + 1) bc).ownBlock ≠ some k) ∧ (∀ k, k < w.heap.size → ov.ownBlock ≠ some k → (Value.slice oa (n + 1) oc).ownBlock ≠ some k) := by
  have hbk := h.row.lt
  have sA : w.Since w.heap.size (w.alloc (.cells #[.slice a len cap] 53)) := (World.Since.refl _ _).alloc (Nat.le_refl _) _
  have zA : (w.alloc (.cells #[.slice a len cap] 53)).heap.size = w.heap.size + 1 := by simp
  have hA1 := h.since sA
  obtain ⟨bv', w2, hr1, ho1, hg1, hl1⟩ := app_one Try.underlying30 Try.infoB rfl (by decide) _ B bv n _ hA1.ob w.heap.size (.slice a len cap) (by simp) rfl (by omega) (by omega)
  have z2 := hg1.size
  have hbv' : ∀ k, bv'.ownBlock = some k → bv.ownBlock = some k ∨ k = w.heap.size + 1 := fun k e => by
    rcases hl1 with e2 | e2
    · exact Or.inl (e2 ▸ e)
    · rw [zA] at e2; rw [e2] at e; exact Or.inr (Option.some.inj e).symm
  -- every block but bv's own is as it was, up to w2
  have k2 : ∀ k, k < w.heap.size → bv.ownBlock ≠ some k → w2.heap[k]? = w.heap[k]? := fun k hk hn => (hg1.block k (by omega) (fun e => hn e.symm)).trans (sA.block k hk)
  have row2 : w2.rowIs bk 44 39 (bookCell bv ov at' turn done used) := h.row.of_block (k2 bk hbk h.nb.1)
  obtain ⟨ba, bc, rfl⟩ : ∃ ba bc, bv' = .slice ba (n + 1) bc := by
    rcases ho1.2 with ⟨_, h0⟩ | ⟨g, c, cur, e, _⟩
    · omega
    · exact ⟨_, c, e⟩
  have c0 := h.row.cell (i := 0) (by decide)
  have c20 := row2.cell (i := 0) (by decide)
  have f20 := row2.frozen 0
  have row3 := row2.set 0 (.slice ba (n + 1) bc)
  have z3 : (w2.setCell ⟨bk, 0, none⟩ (.slice ba (n + 1) bc)).heap.size = w2.heap.size := by simp [World.setCell]
  have k3 : ∀ k, k ≠ bk → (w2.setCell ⟨bk, 0, none⟩ (.slice ba (n + 1) bc)).heap[k]? = w2.heap[k]? := fun k hk => Below.heap_setCell _ _ _ _ hk
  have c31 := row3.cell (i := 1) (by decide)
  have oo3 : (w2.setCell ⟨bk, 0, none⟩ (.slice ba (n + 1) bc)).ownsRow B 3 1 ov n ((List.range n).map fun i => .int .i64 (M i : Nat)) := owns_keep h.oo (fun k e => (k3 k (fun e2 => h.nb.2 (e2 ▸ e))).trans (k2 k (h.oo.lt k e).2 (fun e2 => h.no k e2 e)))
  generalize hw3 : w2.setCell ⟨bk, 0, none⟩ (.slice ba (n + 1) bc) = w3 at *
  have sB : w3.Since w3.heap.size (w3.alloc (.cells #[.int .i64 (m : Nat)] 3)) := (World.Since.refl _ _).alloc (Nat.le_refl _) _
  have zB : (w3.alloc (.cells #[.int .i64 (m : Nat)] 3)).heap.size = w3.heap.size + 1 := by simp
  have oo4 := oo3.alloc (.cells #[.int .i64 (m : Nat)] 3)
  obtain ⟨ov', w5, hr2, ho2, hg2, hl2⟩ := app_one Try.underlying31 Try.infoI rfl (by decide) _ B ov n _ oo4 w3.heap.size (.int .i64 (m : Nat)) (by simp) rfl (by omega) (by omega)
  have z5 := hg2.size
  have hov' : ∀ k, ov'.ownBlock = some k → ov.ownBlock = some k ∨ k = w3.heap.size + 1 := fun k e => by
    rcases hl2 with e2 | e2
    · exact Or.inl (e2 ▸ e)
    · rw [zB] at e2; rw [e2] at e; exact Or.inr (Option.some.inj e).symm
  obtain ⟨oa, oc, rfl⟩ : ∃ oa oc, ov' = .slice oa (n + 1) oc := by
    rcases ho2.2 with ⟨_, h0⟩ | ⟨g, c, cur, e, _⟩
    · omega
    · exact ⟨_, c, e⟩
  have k5 : ∀ k, k < w3.heap.size → ov.ownBlock ≠ some k → w5.heap[k]? = w3.heap[k]? := fun k hk hn => (hg2.block k (by omega) (fun e => hn e.symm)).trans (sB.block k hk)
  have row5 : w5.rowIs bk 44 39 _ := row3.of_block (k5 bk (by omega) h.nb.2)
  have c51 := row5.cell (i := 1) (by decide)
  have f51 := row5.frozen 1
  have row6 := row5.set 1 (.slice oa (n + 1) oc)
  have k6 : ∀ k, k ≠ bk → (w5.setCell ⟨bk, 1, none⟩ (.slice oa (n + 1) oc)).heap[k]? = w5.heap[k]? := fun k hk => Below.heap_setCell _ _ _ _ hk
  have z6 : (w5.setCell ⟨bk, 1, none⟩ (.slice oa (n + 1) oc)).heap.size = w5.heap.size := by simp [World.setCell]
  -- the whole way
  have kall : ∀ k, k < w.heap.size → k ≠ bk → bv.ownBlock ≠ some k → ov.ownBlock ≠ some k → (w5.setCell ⟨bk, 1, none⟩ (.slice oa (n + 1) oc)).heap[k]? = w.heap[k]? := fun k h1 h2 h3 h4 => (k6 k h2).trans ((k5 k (by omega) h4).trans ((k3 k h2).trans (k2 k h1 h3)))
  have hbvlt : ∀ k, (Value.slice ba (n + 1) bc).ownBlock = some k → k < w3.heap.size ∧ k ≠ bk ∧ ov.ownBlock ≠ some k := fun k e => by
    have hl := (ho1.lt k e).2
    rcases hbv' k e with e2 | e2
    · exact ⟨by omega, fun e3 => h.nb.1 (e3 ▸ e2), h.no k e2⟩
    · exact ⟨by omega, by omega, fun e3 => by have := (h.oo.lt k e3).2; omega⟩
  subst hw3
  refine ⟨ba, bc, w2, oa, oc, w5, hr1, c0, c20, f20, ?_, by rw [← z3]; exact hr2, ?_, f51, ?_, ?_, kall, fun k hk hn e => ?_, fun k hk hn e => ?_⟩
  · rw [c31]; rfl
  · rw [c51]; rfl
  · refine ⟨row6.congr (fun i hi => ?_), ?_, ?_, fun i hi j hj => ?_, fun i h1 h2 => ?_, fun i ad hi he => ?_, fun i j ad a' h1 h2 hj hij he he' => ?_, ⟨fun e => (hbvlt bk e).2.1 rfl, fun e => ?_⟩, fun k e e2 => ?_, hhi, h.lb, fun i hi => ?_⟩
    · unfold bookCell
      by_cases e1 : i = 1
      · subst e1; rfl
      · rw [if_neg e1]
        by_cases e0 : i = 0
        · subst e0; rfl
        · rw [if_neg e0, if_neg e0, if_neg e0, if_neg e1, if_neg e1]
    · have e : ((List.range (n + 1)).map fun i => Value.slice (put A n a i) (put ln n len i) (put C n cap i)) = ((List.range n).map fun i => Value.slice (A i) (ln i) (C i)) ++ [.slice a len cap] := by
        rw [range_map_succ, put_at, put_at, put_at]
        congr 1
        apply List.map_congr_left
        intro j hj
        have hj := List.mem_range.1 hj
        rw [put_ne _ _ _ (by omega), put_ne _ _ _ (by omega), put_ne _ _ _ (by omega)]
      rw [e]
      exact owns_keep ho1 (fun k ek => by
        have := hbvlt k ek
        exact (k6 k this.2.1).trans ((k5 k this.1 this.2.2).trans (k3 k this.2.1)))
    · have e : ((List.range (n + 1)).map fun i => Value.int .i64 (put M n m i : Nat)) = ((List.range n).map fun i => Value.int .i64 (M i : Nat)) ++ [.int .i64 (m : Nat)] := by
        rw [range_map_succ, put_at]
        congr 1
        apply List.map_congr_left
        intro j hj
        have hj := List.mem_range.1 hj
        rw [put_ne _ _ _ (by omega)]
      rw [e]
      exact owns_keep ho2 (fun k ek => k6 k (fun e3 => by
        rcases hov' k ek with e4 | e4
        · exact h.nb.2 (e3 ▸ e4)
        · omega))
    · by_cases e : i = n
      · subst e
        rw [put_at] at hj
        rw [put_at, put_at]
        obtain ⟨b, off, e, hcc⟩ := hb j hj
        have q := hadr _ e
        exact ⟨b, off, e, by rw [World.cell?_of_block (w := w) (kall b q.2.1 q.2.2.1 q.2.2.2.1 q.2.2.2.2)]; exact hcc⟩
      · rw [put_ne _ _ _ e] at hj
        rw [put_ne _ _ _ e, put_ne _ _ _ e]
        obtain ⟨b, off, e2, hcc⟩ := h.byt i (by omega) j hj
        have q := h.blk i _ (by omega) e2
        exact ⟨b, off, e2, by rw [World.cell?_of_block (w := w) (kall b q.2.1 q.2.2.1 q.2.2.2.1 q.2.2.2.2)]; exact hcc⟩
    · by_cases e : i = n
      · subst e
        rw [put_at, put_at, put_at, put_at]
        refine ownZ_keep (hown h2) (fun k ek => ?_)
        match a, ek, hadr with
        | some ad, ek, hadr =>
          have e' : ad.block = k := by simpa [Value.ownBlock] using ek
          have q := hadr ad rfl
          rw [← e']
          exact kall _ q.2.1 q.2.2.1 q.2.2.2.1 q.2.2.2.2
        | none, ek, _ => simp [Value.ownBlock] at ek
      · have hih : i < hi := by
          rcases hcase i h2 with q | q
          · exact q
          · exact absurd q e
        rw [put_ne _ _ _ e, put_ne _ _ _ e, put_ne _ _ _ e, put_ne _ _ _ e]
        refine ownZ_keep (h.own i h1 hih) (fun k ek => ?_)
        match hAi : A i, ek with
        | some ad, ek =>
          have e' : ad.block = k := by simpa [Value.ownBlock] using ek
          have q := h.blk i ad (Nat.lt_of_lt_of_le hih h.hn) hAi
          rw [← e']
          exact kall _ q.2.1 q.2.2.1 q.2.2.2.1 q.2.2.2.2
        | none, ek => simp [Value.ownBlock] at ek
    · have big : ∀ b, b < w.heap.size → B ≤ b → b ≠ bk → bv.ownBlock ≠ some b → ov.ownBlock ≠ some b → B ≤ b ∧ b < (w5.setCell ⟨bk, 1, none⟩ (.slice oa (n + 1) oc)).heap.size ∧ b ≠ bk ∧ (Value.slice ba (n + 1) bc).ownBlock ≠ some b ∧ (Value.slice oa (n + 1) oc).ownBlock ≠ some b := fun b q1 q2 q3 q4 q5 => ⟨q2, by omega, q3, fun e => by
          rcases hbv' b e with e2 | e2
          · exact q4 e2
          · omega, fun e => by
          rcases hov' b e with e2 | e2
          · exact q5 e2
          · omega⟩
      by_cases e : i = n
      · subst e
        rw [put_at] at he
        have q := hadr ad he
        exact big _ q.2.1 q.1 q.2.2.1 q.2.2.2.1 q.2.2.2.2
      · rw [put_ne _ _ _ e] at he
        have q := h.blk i ad (by omega) he
        exact big _ q.2.1 q.1 q.2.2.1 q.2.2.2.1 q.2.2.2.2
    · by_cases ei : i = n
      · subst ei
        have ej : j ≠ i := fun e => hij e.symm
        rw [put_at] at he
        rw [put_ne _ _ _ ej] at he'
        exact hd1 h2 j ad a' (by omega) he he'
      · have hih : i < hi := by
          rcases hcase i h2 with q | q
          · exact q
          · exact absurd q ei
        rw [put_ne _ _ _ ei] at he
        by_cases ej : j = n
        · subst ej
          rw [put_at] at he'
          exact hd2 i a' ad h1 h2 (by omega) he' he
        · rw [put_ne _ _ _ ej] at he'
          exact h.dis i j ad a' h1 hih (by omega) hij he he'
    · rcases hov' bk e with e2 | e2
      · exact h.nb.2 e2
      · omega
    · have q := hbvlt k e
      rcases hov' k e2 with e3 | e3
      · exact q.2.2 e3
      · omega
    · by_cases e : i = n
      · subst e; rw [put_at]; exact hm
      · rw [put_ne _ _ _ e]; exact h.mt i (by omega)
  · have e3 : (w2.setCell ⟨bk, 0, none⟩ (.slice ba (n + 1) bc)).os = w2.os ∧ (w2.setCell ⟨bk, 0, none⟩ (.slice ba (n + 1) bc)).tape = w2.tape ∧ (w2.setCell ⟨bk, 0, none⟩ (.slice ba (n + 1) bc)).output = w2.output := ⟨rfl, rfl, rfl⟩
    refine ⟨hg2.os.trans (e3.1.trans hg1.os), hg2.tape.trans (e3.2.1.trans hg1.tape), hg2.output.trans (e3.2.2.trans hg1.output), by omega, fun k hk hn => kall k hk (fun e => hn (Or.inl (Or.inl e))) (fun e => hn (Or.inl (Or.inr (Or.inl e)))) (fun e => hn (Or.inl (Or.inr (Or.inr (Or.inl e))))), fun k hf => ?_⟩
    rcases hf with e | e | e | ⟨i, ad, hi, he, e⟩
    · exact Or.inl (Or.inl (Or.inl e))
    · rcases hbv' k e with e2 | e2
      · exact Or.inl (Or.inl (Or.inr (Or.inl e2)))
      · exact Or.inr (by omega)
    · rcases hov' k e with e2 | e2
      · exact Or.inl (Or.inl (Or.inr (Or.inr (Or.inl e2))))
      · exact Or.inr (by omega)
    · by_cases ei : i = n
      · subst ei
        rw [put_at] at he
        exact Or.inl (Or.inr ⟨ad, he, e⟩)
      · rw [put_ne _ _ _ ei] at he
        exact Or.inl (Or.inl (Or.inr (Or.inr (Or.inr ⟨i, ad, by omega, he, e⟩))))
  · rcases hbv' k e with e2 | e2
    · exact hn e2
    · omega
  · rcases hov' k e with e2 | e2
    · exact hn e2
    · omega
end Go.Proofs.Ytgpmoakfbhcidaa
