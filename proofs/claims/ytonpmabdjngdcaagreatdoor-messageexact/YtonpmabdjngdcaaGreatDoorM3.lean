/- Own texts, joined: Book3, Book4, Book5, VarLook, RawLook, BytesLook, Looks, ReadsAll. -/
import Derived.Test.YtonpmabdjngdcaaGreatDoorM2
import Derived.Test.YtonpmabdjngdcaaGreatDoorM1

/- A Book takes one entry more. -/
namespace Go.Proofs.YtonpmabdjngdcaaGreatDoor
open Go.RowKit
set_option maxRecDepth 100000

set_option maxHeartbeats 1600000 in
theorem BookIs.push {w : World} {B bk n lo hi : Nat} {A : Nat → Option Addr} {ln C M : Nat → Nat} {bv ov : Value} {at' turn done used : Nat} (h : BookIs w B bk n lo hi A ln C M bv ov at' turn done used) (hB : B ≤ w.heap.size) (a : Option Addr) (len cap m hi' : Nat) (hN : n ≤ 900000)
    (hb : Byt w a len (mrk m)) (hm : m ≤ turn) (hadr : ∀ ad, a = some ad → B ≤ ad.block ∧ ad.block < w.heap.size ∧ ad.block ≠ bk ∧ bv.ownBlock ≠ some ad.block ∧ ov.ownBlock ≠ some ad.block)
    (hhi : hi' ≤ n + 1) (hcase : ∀ i, i < hi' → i < hi ∨ i = n) (hown : n < hi' → Own w B (.slice a len cap) len (mrk m)) (hd1 : n < hi' → ∀ j ad a', j < n → a = some ad → A j = some a' → ad.block ≠ a'.block) (hd2 : ∀ i ad a', lo ≤ i → i < hi' → i < n → a = some ad → A i = some a' → a'.block ≠ ad.block) :
    ∃ ba bc w2 oa oc w5, (Builtin.append_ #[23, 23] 23 #[bv, .slice (some ⟨w.heap.size, 0, none⟩) 1 1]).run Tryz.prog (w.alloc (.cells #[.slice a len cap] 32)) = .ok (.slice ba (n + 1) bc) w2 ∧ w.cell? ⟨bk, 0, none⟩ = some bv ∧ w2.cell? ⟨bk, 0, none⟩ = some bv ∧ w2.frozen? ⟨bk, 0, none⟩ = false ∧
      (w2.setCell ⟨bk, 0, none⟩ (.slice ba (n + 1) bc)).cell? ⟨bk, 1, none⟩ = some ov ∧
      (Builtin.append_ #[57, 57] 57 #[ov, .slice (some ⟨w2.heap.size, 0, none⟩) 1 1]).run Tryz.prog ((w2.setCell ⟨bk, 0, none⟩ (.slice ba (n + 1) bc)).alloc (.cells #[.int .i64 (m : Nat)] 3)) = .ok (.slice oa (n + 1) oc) w5 ∧ w5.cell? ⟨bk, 1, none⟩ = some ov ∧ w5.frozen? ⟨bk, 1, none⟩ = false ∧
      BookIs (w5.setCell ⟨bk, 1, none⟩ (.slice oa (n + 1) oc)) B bk (n + 1) lo hi' (put A n a) (put ln n len) (put C n cap) (put M n m) (.slice ba (n + 1) bc) (.slice oa (n + 1) oc) at' turn done used ∧
      Mv (fun k => BF bk n A bv ov k ∨ ∃ ad, a = some ad ∧ ad.block = k) (BF bk (n + 1) (put A n a) (.slice ba (n + 1) bc) (.slice oa (n + 1) oc)) w (w5.setCell ⟨bk, 1, none⟩ (.slice oa (n + 1) oc)) ∧
      (∀ k, k < w.heap.size → k ≠ bk → bv.ownBlock ≠ some k → ov.ownBlock ≠ some k → (w5.setCell ⟨bk, 1, none⟩ (.slice oa (n + 1) oc)).heap[k]? = w.heap[k]?) ∧ (∀ k, k < w.heap.size → bv.ownBlock ≠ some k → (Value.slice ba (n + 1) bc).ownBlock ≠ some k) ∧ (∀ k, k < w.heap.size → ov.ownBlock ≠ some k → (Value.slice oa (n + 1) oc).ownBlock ≠ some k) := by
  have hbk := h.row.lt
  have sA : w.Since w.heap.size (w.alloc (.cells #[.slice a len cap] 32)) := (World.Since.refl _ _).alloc (Nat.le_refl _) _
  have zA : (w.alloc (.cells #[.slice a len cap] 32)).heap.size = w.heap.size + 1 := by simp
  have hA1 := h.since sA
  obtain ⟨bv', w2, hr1, ho1, hg1, hl1⟩ := app_one Tryz.underlying23 Tryz.infoB rfl (by decide) _ B bv n _ hA1.ob w.heap.size (.slice a len cap) (by simp) rfl (by omega) (by omega)
  have z2 := hg1.size
  have hbv' : ∀ k, bv'.ownBlock = some k → bv.ownBlock = some k ∨ k = w.heap.size + 1 := fun k e => by
    rcases hl1 with e2 | e2
    · exact Or.inl (e2 ▸ e)
    · rw [zA] at e2; rw [e2] at e; exact Or.inr (Option.some.inj e).symm
  -- every block but bv's own is as it was, up to w2
  have k2 : ∀ k, k < w.heap.size → bv.ownBlock ≠ some k → w2.heap[k]? = w.heap[k]? := fun k hk hn => (hg1.block k (by omega) (fun e => hn e.symm)).trans (sA.block k hk)
  have row2 : w2.rowIs bk 70 39 (bookCell bv ov at' turn done used) := h.row.of_block (k2 bk hbk h.nb.1)
  obtain ⟨ba, bc, rfl⟩ : ∃ ba bc, bv' = .slice ba (n + 1) bc := by
    rcases ho1.2 with ⟨_, h0⟩ | ⟨g, c, cur, e, _⟩
    · omega
    · exact ⟨_, c, e⟩
  have c0 := h.row.cell (i := 0) (by decide)
  have c20 := row2.cell (i := 0) (by decide)
  have f20 := row2.frozen 0
  have row3 := row2.set 0 (.slice ba (n + 1) bc)
  have z3 : (w2.setCell ⟨bk, 0, none⟩ (.slice ba (n + 1) bc)).heap.size = w2.heap.size := by simp [World.setCell]
  have k3 : ∀ k, k ≠ bk → (w2.setCell ⟨bk, 0, none⟩ (.slice ba (n + 1) bc)).heap[k]? = w2.heap[k]? := fun k hk => Below.heap_setCell _ _ _ _ hk
  have c31 := row3.cell (i := 1) (by decide)
  have oo3 : (w2.setCell ⟨bk, 0, none⟩ (.slice ba (n + 1) bc)).ownsRow B 3 1 ov n ((List.range n).map fun i => .int .i64 (M i : Nat)) := owns_keep h.oo (fun k e => (k3 k (fun e2 => h.nb.2 (e2 ▸ e))).trans (k2 k (h.oo.lt k e).2 (fun e2 => h.no k e2 e)))
  generalize hw3 : w2.setCell ⟨bk, 0, none⟩ (.slice ba (n + 1) bc) = w3 at *
  have sB : w3.Since w3.heap.size (w3.alloc (.cells #[.int .i64 (m : Nat)] 3)) := (World.Since.refl _ _).alloc (Nat.le_refl _) _
  have zB : (w3.alloc (.cells #[.int .i64 (m : Nat)] 3)).heap.size = w3.heap.size + 1 := by simp
  have oo4 := oo3.alloc (.cells #[.int .i64 (m : Nat)] 3)
  obtain ⟨ov', w5, hr2, ho2, hg2, hl2⟩ := app_one Tryz.underlying57 Tryz.infoI rfl (by decide) _ B ov n _ oo4 w3.heap.size (.int .i64 (m : Nat)) (by simp) rfl (by omega) (by omega)
  have z5 := hg2.size
  have hov' : ∀ k, ov'.ownBlock = some k → ov.ownBlock = some k ∨ k = w3.heap.size + 1 := fun k e => by
    rcases hl2 with e2 | e2
    · exact Or.inl (e2 ▸ e)
    · rw [zB] at e2; rw [e2] at e; exact Or.inr (Option.some.inj e).symm
  obtain ⟨oa, oc, rfl⟩ : ∃ oa oc, ov' = .slice oa (n + 1) oc := by
    rcases ho2.2 with ⟨_, h0⟩ | ⟨g, c, cur, e, _⟩
    · omega
    · exact ⟨_, c, e⟩
  have k5 : ∀ k, k < w3.heap.size → ov.ownBlock ≠ some k → w5.heap[k]? = w3.heap[k]? := fun k hk hn => (hg2.block k (by omega) (fun e => hn e.symm)).trans (sB.block k hk)
  have row5 : w5.rowIs bk 70 39 _ := row3.of_block (k5 bk (by omega) h.nb.2)
  have c51 := row5.cell (i := 1) (by decide)
  have f51 := row5.frozen 1
  have row6 := row5.set 1 (.slice oa (n + 1) oc)
  have k6 : ∀ k, k ≠ bk → (w5.setCell ⟨bk, 1, none⟩ (.slice oa (n + 1) oc)).heap[k]? = w5.heap[k]? := fun k hk => Below.heap_setCell _ _ _ _ hk
  have z6 : (w5.setCell ⟨bk, 1, none⟩ (.slice oa (n + 1) oc)).heap.size = w5.heap.size := by simp [World.setCell]
  -- the whole way
  have kall : ∀ k, k < w.heap.size → k ≠ bk → bv.ownBlock ≠ some k → ov.ownBlock ≠ some k → (w5.setCell ⟨bk, 1, none⟩ (.slice oa (n + 1) oc)).heap[k]? = w.heap[k]? := fun k h1 h2 h3 h4 => (k6 k h2).trans ((k5 k (by omega) h4).trans ((k3 k h2).trans (k2 k h1 h3)))
  have hbvlt : ∀ k, (Value.slice ba (n + 1) bc).ownBlock = some k → k < w3.heap.size ∧ k ≠ bk ∧ ov.ownBlock ≠ some k := fun k e => by
    have hl := (ho1.lt k e).2
    rcases hbv' k e with e2 | e2
    · exact ⟨by omega, fun e3 => h.nb.1 (e3 ▸ e2), h.no k e2⟩
    · exact ⟨by omega, by omega, fun e3 => by have := (h.oo.lt k e3).2; omega⟩
  subst hw3
  refine ⟨ba, bc, w2, oa, oc, w5, hr1, c0, c20, f20, ?_, by rw [← z3]; exact hr2, ?_, f51, ?_, ?_, kall, fun k hk hn e => ?_, fun k hk hn e => ?_⟩
  · rw [c31]; rfl
  · rw [c51]; rfl
  · refine ⟨row6.congr (fun i hi => ?_), ?_, ?_, fun i hi j hj => ?_, fun i h1 h2 => ?_, fun i ad hi he => ?_, fun i j ad a' h1 h2 hj hij he he' => ?_, ⟨fun e => (hbvlt bk e).2.1 rfl, fun e => ?_⟩, fun k e e2 => ?_, hhi, h.lb, fun i hi => ?_⟩
    · unfold bookCell
      by_cases e1 : i = 1
      · subst e1; rfl
      · rw [if_neg e1]
        by_cases e0 : i = 0
        · subst e0; rfl
        · rw [if_neg e0, if_neg e0, if_neg e0, if_neg e1, if_neg e1]
    · have e : ((List.range (n + 1)).map fun i => Value.slice (put A n a i) (put ln n len i) (put C n cap i)) = ((List.range n).map fun i => Value.slice (A i) (ln i) (C i)) ++ [.slice a len cap] := by
        rw [range_map_succ, put_at, put_at, put_at]
        congr 1
        apply List.map_congr_left
        intro j hj
        have hj := List.mem_range.1 hj
        rw [put_ne _ _ _ (by omega), put_ne _ _ _ (by omega), put_ne _ _ _ (by omega)]
      rw [e]
      exact owns_keep ho1 (fun k ek => by
        have := hbvlt k ek
        exact (k6 k this.2.1).trans ((k5 k this.1 this.2.2).trans (k3 k this.2.1)))
    · have e : ((List.range (n + 1)).map fun i => Value.int .i64 (put M n m i : Nat)) = ((List.range n).map fun i => Value.int .i64 (M i : Nat)) ++ [.int .i64 (m : Nat)] := by
        rw [range_map_succ, put_at]
        congr 1
        apply List.map_congr_left
        intro j hj
        have hj := List.mem_range.1 hj
        rw [put_ne _ _ _ (by omega)]
      rw [e]
      exact owns_keep ho2 (fun k ek => k6 k (fun e3 => by
        rcases hov' k ek with e4 | e4
        · exact h.nb.2 (e3 ▸ e4)
        · omega))
    · by_cases e : i = n
      · subst e
        rw [put_at] at hj
        rw [put_at, put_at]
        obtain ⟨b, off, e, hcc⟩ := hb j hj
        have q := hadr _ e
        exact ⟨b, off, e, by rw [World.cell?_of_block (w := w) (kall b q.2.1 q.2.2.1 q.2.2.2.1 q.2.2.2.2)]; exact hcc⟩
      · rw [put_ne _ _ _ e] at hj
        rw [put_ne _ _ _ e, put_ne _ _ _ e]
        obtain ⟨b, off, e2, hcc⟩ := h.byt i (by omega) j hj
        have q := h.blk i _ (by omega) e2
        exact ⟨b, off, e2, by rw [World.cell?_of_block (w := w) (kall b q.2.1 q.2.2.1 q.2.2.2.1 q.2.2.2.2)]; exact hcc⟩
    · by_cases e : i = n
      · subst e
        rw [put_at, put_at, put_at, put_at]
        refine own_keep (hown h2) (fun k ek => ?_)
        match a, ek, hadr with
        | some ad, ek, hadr =>
          have e' : ad.block = k := by simpa [Value.ownBlock] using ek
          have q := hadr ad rfl
          rw [← e']
          exact kall _ q.2.1 q.2.2.1 q.2.2.2.1 q.2.2.2.2
        | none, ek, _ => simp [Value.ownBlock] at ek
      · have hih : i < hi := by
          rcases hcase i h2 with q | q
          · exact q
          · exact absurd q e
        rw [put_ne _ _ _ e, put_ne _ _ _ e, put_ne _ _ _ e, put_ne _ _ _ e]
        refine own_keep (h.own i h1 hih) (fun k ek => ?_)
        match hAi : A i, ek with
        | some ad, ek =>
          have e' : ad.block = k := by simpa [Value.ownBlock] using ek
          have q := h.blk i ad (Nat.lt_of_lt_of_le hih h.hn) hAi
          rw [← e']
          exact kall _ q.2.1 q.2.2.1 q.2.2.2.1 q.2.2.2.2
        | none, ek => simp [Value.ownBlock] at ek
    · have big : ∀ b, b < w.heap.size → B ≤ b → b ≠ bk → bv.ownBlock ≠ some b → ov.ownBlock ≠ some b → B ≤ b ∧ b < (w5.setCell ⟨bk, 1, none⟩ (.slice oa (n + 1) oc)).heap.size ∧ b ≠ bk ∧ (Value.slice ba (n + 1) bc).ownBlock ≠ some b ∧ (Value.slice oa (n + 1) oc).ownBlock ≠ some b := fun b q1 q2 q3 q4 q5 => ⟨q2, by omega, q3, fun e => by
          rcases hbv' b e with e2 | e2
          · exact q4 e2
          · omega, fun e => by
          rcases hov' b e with e2 | e2
          · exact q5 e2
          · omega⟩
      by_cases e : i = n
      · subst e
        rw [put_at] at he
        have q := hadr ad he
        exact big _ q.2.1 q.1 q.2.2.1 q.2.2.2.1 q.2.2.2.2
      · rw [put_ne _ _ _ e] at he
        have q := h.blk i ad (by omega) he
        exact big _ q.2.1 q.1 q.2.2.1 q.2.2.2.1 q.2.2.2.2
    · by_cases ei : i = n
      · subst ei
        have ej : j ≠ i := fun e => hij e.symm
        rw [put_at] at he
        rw [put_ne _ _ _ ej] at he'
        exact hd1 h2 j ad a' (by omega) he he'
      · have hih : i < hi := by
          rcases hcase i h2 with q | q
          · exact q
          · exact absurd q ei
        rw [put_ne _ _ _ ei] at he
        by_cases ej : j = n
        · subst ej
          rw [put_at] at he'
          exact hd2 i a' ad h1 h2 (by omega) he' he
        · rw [put_ne _ _ _ ej] at he'
          exact h.dis i j ad a' h1 hih (by omega) hij he he'
    · rcases hov' bk e with e2 | e2
      · exact h.nb.2 e2
      · omega
    · have q := hbvlt k e
      rcases hov' k e2 with e3 | e3
      · exact q.2.2 e3
      · omega
    · by_cases e : i = n
      · subst e; rw [put_at]; exact hm
      · rw [put_ne _ _ _ e]; exact h.mt i (by omega)
  · have e3 : (w2.setCell ⟨bk, 0, none⟩ (.slice ba (n + 1) bc)).os = w2.os ∧ (w2.setCell ⟨bk, 0, none⟩ (.slice ba (n + 1) bc)).tape = w2.tape ∧ (w2.setCell ⟨bk, 0, none⟩ (.slice ba (n + 1) bc)).output = w2.output := ⟨rfl, rfl, rfl⟩
    refine ⟨hg2.os.trans (e3.1.trans hg1.os), hg2.tape.trans (e3.2.1.trans hg1.tape), hg2.output.trans (e3.2.2.trans hg1.output), by omega, fun k hk hn => kall k hk (fun e => hn (Or.inl (Or.inl e))) (fun e => hn (Or.inl (Or.inr (Or.inl e)))) (fun e => hn (Or.inl (Or.inr (Or.inr (Or.inl e))))), fun k hf => ?_⟩
    rcases hf with e | e | e | ⟨i, ad, hi, he, e⟩
    · exact Or.inl (Or.inl (Or.inl e))
    · rcases hbv' k e with e2 | e2
      · exact Or.inl (Or.inl (Or.inr (Or.inl e2)))
      · exact Or.inr (by omega)
    · rcases hov' k e with e2 | e2
      · exact Or.inl (Or.inl (Or.inr (Or.inr (Or.inl e2))))
      · exact Or.inr (by omega)
    · by_cases ei : i = n
      · subst ei
        rw [put_at] at he
        exact Or.inl (Or.inr ⟨ad, he, e⟩)
      · rw [put_ne _ _ _ ei] at he
        exact Or.inl (Or.inl (Or.inr (Or.inr (Or.inr ⟨i, ad, by omega, he, e⟩))))
  · rcases hbv' k e with e2 | e2
    · exact hn e2
    · omega
  · rcases hov' k e with e2 | e2
    · exact hn e2
    · omega
end Go.Proofs.YtonpmabdjngdcaaGreatDoor

/- The walks of Book.tight and Book.Bytes. -/
namespace Go.Proofs.YtonpmabdjngdcaaGreatDoor
open Go.RowKit
set_option maxRecDepth 100000

theorem own_set {w : World} {B g n cap : Nat} {x : Nat → Nat} (h : Own w B (.slice (some ⟨g, 0, none⟩) n cap) n x) (i c : Nat) : Own (w.setCell ⟨g, i, none⟩ (.int .u8 (c : Nat))) B (.slice (some ⟨g, 0, none⟩) n cap) n (fun j => if j = i then c else x j) := by
  have hs := (World.ownsRow.stored h i (.int .u8 (c : Nat))).1
  have e : (cellsOf n x).set i (.int .u8 (c : Nat)) = cellsOf n (fun j => if j = i then c else x j) := by
    unfold cellsOf
    rw [← map_put]
    apply List.map_congr_left
    intro j _
    by_cases e : j = i
    · subst e; simp [put_at]
    · simp [put_ne _ _ _ e, e]
  rw [e] at hs
  exact hs

set_option maxRecDepth 100000 in
theorem tight_any (bk used k : Nat) (f : Nat → Value) (w : World) (h : w.rowIs bk 70 39 f) (hf : f 38 = .int .i64 (used : Nat)) (hu : used ≤ 16777216) (hk : k ≤ 4611686018427387904) :
    Calls Tryz.prog 46 #[.pointer (some ⟨bk, 0, none⟩), .int .i64 k] w fun e w' => (16777216 < used + k ∧ e = .returned (.bool true) ∧ w' = w) ∨ (used + k ≤ 16777216 ∧ e = .returned (.bool false) ∧ w' = w.setCell ⟨bk, 38, none⟩ (.int .i64 ((used + k : Nat) : Int))) := by
  have c := h.cell (i := 38) (by decide)
  rw [hf] at c
  have fz := h.frozen 38
  obtain ⟨s, hs, hs2⟩ : ∃ s : Nat, (used : Int) + (k : Int) = (s : Int) ∧ s = used + k := ⟨used + k, by omega, rfl⟩
  have hw : IntKind.i64.wrap (s : Int) = (s : Int) := by rw [IntKind.wrap_i64]; omega
  rw [← hs2]
  by_cases hg : 16777216 < s
  · have hgz : (16777216 : Int) < (s : Int) := by omega
    clear hs2
    go_enter Tryz.func46, Tryz.ntmps46
    go_wp2_with fail
    go_ret
    exact Or.inl ⟨hg, rfl, rfl⟩
  · have hgz : ¬ ((16777216 : Int) < (s : Int)) := by omega
    clear hs2
    go_enter Tryz.func46, Tryz.ntmps46
    go_wp2_with fail
    go_ret
    exact ⟨by omega, rfl, rfl⟩

set_option maxHeartbeats 3200000 in
set_option maxRecDepth 100000 in
theorem bookBytes {w : World} {B bk n : Nat} {A : Nat → Option Addr} {ln C M : Nat → Nat} {bv ov : Value} {at' turn done used : Nat} (h : BookIs w B bk n at' n A ln C M bv ov at' turn done used) (hB : B ≤ w.heap.size) (a : Option Addr) (len cap : Nat) (x : Nat → Nat) (hl : Own w B (.slice a len cap) len x) (hfree : ∀ ad, a = some ad → ¬ BF bk n A bv ov ad.block)
    (hat : at' ≤ n) (hturn : turn ≤ 9000000000000000) (hlen : len ≤ 1099511627776) (hU : n * 120 + (n - at') * 1080 ≤ used) (hu : used ≤ 16777216) (hb1 : ∀ i, i < n → ln i ≤ 1099511627872) (hb2 : ∀ i, at' ≤ i → i < n → ln i ≤ 1099511627776) :
    Calls Tryz.prog 20 #[.pointer (some ⟨bk, 0, none⟩), .slice a len cap] w fun e w' => e = .returned (.tuple #[]) ∧ ∃ n' A' ln' C' M' bv' ov' used', BookIs w' B bk n' at' n' A' ln' C' M' bv' ov' at' (turn + 1) done used' ∧ at' ≤ n' ∧ n' * 120 + (n' - at') * 1080 ≤ used' ∧ used' ≤ 16777216 ∧ (∀ i, i < n' → ln' i ≤ 1099511627872) ∧ (∀ i, at' ≤ i → i < n' → ln' i ≤ 1099511627776) ∧ Mv (fun k => BF bk n A bv ov k ∨ ∃ ad, a = some ad ∧ ad.block = k) (BF bk n' A' bv' ov') w w' := by
  obtain ⟨g, hg, hgF, hgN⟩ : ∃ g, (∀ ad, a = some ad → ad = ⟨g, 0, none⟩) ∧ (∀ k, BF bk n A bv ov k → k ≠ g) ∧ (a = none → w.heap.size ≤ g) := by
    rcases hl.2 with ⟨e, _⟩ | ⟨g, c, cur, e, _⟩
    · exact ⟨w.heap.size, (fun ad he => by rw [he] at e; cases e), (fun k hk => by have := h.ge k hk; omega), fun _ => Nat.le_refl _⟩
    · exact ⟨g, (fun ad he => by rw [he] at e; cases e; rfl), (fun k hk e2 => by cases e; exact hfree _ rfl (e2 ▸ hk)), fun e2 => by rw [e2] at e; cases e⟩
  have hlg : 0 < len → a = some ⟨g, 0, none⟩ := fun hp => by
    rcases hl.2 with ⟨_, e⟩ | ⟨g', c, cur, e, _⟩
    · omega
    · cases e; rw [hg _ rfl]
  obtain ⟨h1, mv1⟩ := h.setNum (at2 := at') (turn2 := turn + 1) (done2 := done) (used2 := used) 36 (.int .i64 ((turn + 1 : Nat) : Int)) (by omega) (fun i hi => by
    unfold bookCell
    by_cases e : i = 36
    · subst e; rfl
    · rw [if_neg e, if_neg e, if_neg e])
  have c36 := h.row.cell (i := 36) (by decide)
  have f36 := h.row.frozen 36
  replace c36 : w.cell? ⟨bk, 36, none⟩ = some (.int .i64 (turn : Nat)) := c36
  have d36 : (w.setCell ⟨bk, 36, none⟩ (.int .i64 ((turn + 1 : Nat) : Int))).cell? ⟨bk, 36, none⟩ = some (.int .i64 ((turn + 1 : Nat) : Int)) := h1.row.cell (i := 36) (by decide)
  have hl1 : Own (w.setCell ⟨bk, 36, none⟩ (.int .i64 ((turn + 1 : Nat) : Int))) B (.slice a len cap) len x := own_keep hl (fun k e => by
    match a, e, hfree with
    | some ad, e, hfree =>
      have e' : ad.block = k := by simpa [Value.ownBlock] using e
      exact mv1.block k (own_lt hl k e) (e' ▸ hfree ad rfl)
    | none, e, _ => simp [Value.ownBlock] at e)
  obtain ⟨m, hm, hm2⟩ : ∃ m : Nat, (turn : Int) + 1 = (m : Int) ∧ turn + 1 = m := ⟨turn + 1, by omega, rfl⟩
  have hwm : IntKind.i64.wrap (m : Int) = (m : Int) := by rw [IntKind.wrap_i64]; omega
  rw [hm2] at h1 mv1 d36 hl1
  have hB1 : B ≤ (w.setCell ⟨bk, 36, none⟩ (.int .i64 (m : Int))).heap.size := by simpa [World.setCell] using hB
  have hmm : m ≤ 10000000000000000 := by omega
  have hz1 : (w.setCell ⟨bk, 36, none⟩ (.int .i64 (m : Int))).heap.size = w.heap.size := by simp [World.setCell]
  have HM := hide hm2
  have HZ := hide hz1
  clear hm2 hz1
  go_enter Tryz.func20, Tryz.ntmps20
  go_upto_region 2 with fail
  generalize w.setCell ⟨bk, 36, none⟩ (.int .i64 (m : Int)) = w1 at *
  clear d36 c36 f36
  go_wp2_with fail
  go_loopg [5] len (fun q s5 wx => ∃ i : Nat, i ≤ len ∧ q = len - i ∧ s5 = .int .i64 i ∧ Own wx B (.slice a len cap) len (fun j => if j < i then mrk m j else x j) ∧ But g w1 wx)
  case atStart => exact ⟨0, Nat.zero_le _, rfl, rfl, own_congr hl1 (fun j _ => by rw [if_neg (Nat.not_lt_zero _)]), But.of_since (World.Since.refl _ _)⟩
  case round =>
    obtain ⟨i, hi, rfl, rfl, hlo, hbt⟩ := hrel
    clear hl1
    by_cases hlt : i < len
    · have ha := hlg (by omega)
      subst ha
      have hz : (i : Int) < (len : Int) := by omega
      have cc := World.ownsRow.cellAt hlo i (by omega)
      rw [get_cellsOf hlt] at cc
      have ff := World.ownsRow.frozenAt hlo i
      have hst := own_set hlo i (mrk m i)
      have hst2 := own_congr hst (y := fun j => if j < i + 1 then mrk m j else x j) (fun j _ => by
        by_cases e : j = i
        · subst e; simp
        · by_cases e2 : j < i
          · simp [e, e2, Nat.lt_succ_of_lt e2]
          · have : ¬ j < i + 1 := by omega
            simp [e, e2, this])
      have hbt2 := hbt.setCell i (.int .u8 (mrk m i : Nat))
      have hac := at_any' m i wr hmm
      generalize mrk m i = mi at *
      clear hst hlo
      go_wp2_with fail
      refine hac.mono ?_
      rintro e w4 ⟨rfl, rfl⟩
      clear hac
      go_wp2_with fail
      go_roundg (len - (i + 1))
      case measure => go_light; omega
      case rel => go_light; exact ⟨i + 1, by omega, rfl, by simp, hst2, hbt2⟩
    · obtain rfl : i = len := by omega
      have hlm : Own wr B (.slice a i cap) i (mrk m) := own_congr hlo (fun j hj => by rw [if_pos hj])
      have h2 := h1.later hbt.size (fun k hf => hbt.block k (h1.ge k hf).2 (hgF k hf))
      have hz : ¬ ((i : Int) < (i : Int)) := by omega
      obtain ⟨s, hs, hs2⟩ : ∃ s : Nat, (3 : Int) * (i : Int) = (s : Int) ∧ s = 3 * i := ⟨3 * i, by omega, rfl⟩
      have hws : IntKind.i64.wrap (s : Int) = (s : Int) := by rw [IntKind.wrap_i64]; omega
      obtain ⟨K, hK, hK2⟩ : ∃ K : Nat, (1200 : Int) + (s : Int) = (K : Int) ∧ K = 1200 + s := ⟨1200 + s, by omega, rfl⟩
      have hwK : IntKind.i64.wrap (K : Int) = (K : Int) := by rw [IntKind.wrap_i64]; omega
      have htt := tight_any bk used K _ wr h2.row rfl hu (by omega)
      have mv2 : Mv (fun k => BF bk n A bv ov k ∨ ∃ ad, a = some ad ∧ ad.block = k) (fun k => BF bk n A bv ov k ∨ ∃ ad, a = some ad ∧ ad.block = k) w wr := by
        have q1 : Mv (fun k => BF bk n A bv ov k ∨ ∃ ad, a = some ad ∧ ad.block = k) (fun k => BF bk n A bv ov k ∨ ∃ ad, a = some ad ∧ ad.block = k) w w1 := ⟨mv1.os, mv1.tape, mv1.output, mv1.size, fun k hk hn => mv1.block k hk (fun hf => hn (Or.inl hf)), fun k hf => Or.inl hf⟩
        refine q1.trans ⟨hbt.os, hbt.tape, hbt.output, hbt.size, fun k hk hn => hbt.block k hk (fun e => ?_), fun k hf => Or.inl hf⟩
        have hz1 := unhide HZ
        rcases hca : a with _ | ad
        · have := hgN hca
          omega
        · exact hn (Or.inr ⟨ad, hca, by rw [hg ad hca]; exact e.symm⟩)
      have hK3 : 1200 ≤ K := by omega
      clear hs2 hK2
      go_wp2_with fail
      refine htt.mono ?_
      rintro e w4 (⟨hov, rfl, rfl⟩ | ⟨hle, rfl, rfl⟩)
      · go_wp2_with fail
        try simp only [Exit.inBlock, Exit.then]
        refine bodyPost_ret (results_none rfl _ _ _) rfl ?_
        refine ⟨rfl, n, A, ln, C, M, bv, ov, used, ?_, hat, hU, hu, hb1, hb2, ⟨mv2.os, mv2.tape, mv2.output, mv2.size, mv2.block, fun k hf => Or.inl (Or.inl hf)⟩⟩
        rw [unhide HM]; exact h2
      · obtain ⟨h3, mv3⟩ := h2.setNum (at2 := at') (turn2 := m) (done2 := done) (used2 := used + K) 38 (.int .i64 ((used + K : Nat) : Int)) (Nat.le_refl _) (fun i hi => by
          unfold bookCell
          by_cases e : i = 38
          · subst e; rfl
          · rw [if_neg e, if_neg e, if_neg e])
        have hl3 : Own (wr.setCell ⟨bk, 38, none⟩ (.int .i64 ((used + K : Nat) : Int))) B (.slice a i cap) i (mrk m) := own_keep hlm (fun k e => by
          match a, e, hfree with
          | some ad, e, hfree =>
            have e' : ad.block = k := by simpa [Value.ownBlock] using e
            exact mv3.block k (own_lt hlm k e) (e' ▸ hfree ad rfl)
          | none, e, _ => simp [Value.ownBlock] at e)
        have hz3 : (wr.setCell ⟨bk, 38, none⟩ (.int .i64 ((used + K : Nat) : Int))).heap.size = wr.heap.size := by simp [World.setCell]
        have hB3 : B ≤ (wr.setCell ⟨bk, 38, none⟩ (.int .i64 ((used + K : Nat) : Int))).heap.size := by have := hbt.size; omega
        have mv4 : Mv (fun k => BF bk n A bv ov k ∨ ∃ ad, a = some ad ∧ ad.block = k) (fun k => BF bk n A bv ov k ∨ ∃ ad, a = some ad ∧ ad.block = k) w (wr.setCell ⟨bk, 38, none⟩ (.int .i64 ((used + K : Nat) : Int))) := mv2.trans ⟨mv3.os, mv3.tape, mv3.output, mv3.size, fun k hk hn => mv3.block k hk (fun hf => hn (Or.inl hf)), fun k hf => Or.inl hf⟩
        generalize wr.setCell ⟨bk, 38, none⟩ (.int .i64 ((used + K : Nat) : Int)) = w5 at *
        have hbt3 : Byt w5 a i (mrk m) := by
          obtain ⟨_, _, e, h1, _⟩ := own_byt' hl3
          cases e
          exact h1
        have hnF : ∀ ad, a = some ad → ad.block ≠ bk ∧ bv.ownBlock ≠ some ad.block ∧ ov.ownBlock ≠ some ad.block ∧ ∀ j a', j < n → A j = some a' → ad.block ≠ a'.block := fun ad he => ⟨fun e => hfree ad he (Or.inl e), fun e => hfree ad he (Or.inr (Or.inl e)), fun e => hfree ad he (Or.inr (Or.inr (Or.inl e))), fun j a' hj hA e => hfree ad he (Or.inr (Or.inr (Or.inr ⟨j, a', hj, hA, e.symm⟩)))⟩
        obtain ⟨ba, bc, w6, oa, oc, w9, hr1, p0, p1, p2, p3, hr2, p4, p5, hfin, mvf, _⟩ := h3.push hB3 a i cap m (n + 1) (by omega) hbt3 (Nat.le_refl _) (fun ad he => ⟨own_block hl3 _ (by rw [he]; rfl), own_lt hl3 _ (by rw [he]; rfl), (hnF ad he).1, (hnF ad he).2.1, (hnF ad he).2.2.1⟩) (Nat.le_refl _) (fun j hj => by omega) (fun _ => hl3) (fun _ j ad a' hj he hA => (hnF ad he).2.2.2 j a' hj hA) (fun j ad a' _ _ hj he hA e => (hnF ad he).2.2.2 j a' hj hA e.symm)
        have H1 := hide hr1
        have H2 := hide hr2
        have mvA := mv4.trans mvf
        clear hr1 hr2 h3 mv3 hl3 hbt3 hnF mvf h1 h2 mv1 mv2 mv4 hlo hbt hlm hz3 hB3
        go_wp2_with (first
          | (at_builtin; refine wpList_append_eq rfl _ _ 23 rfl _ _ _ (by rfl) (by rfl) (unhide H1) ?_)
          | (at_builtin; refine wpList_append_eq rfl _ _ 57 rfl _ _ _ (by rfl) (by rfl) (unhide H2) ?_))
        go_end0
        refine ⟨rfl, n + 1, put A n a, put ln n i, put C n cap, put M n m, _, _, used + K, ?_, by omega, by omega, hle, fun j hj => ?_, fun j h1 hj => ?_, mvA⟩
        · rw [unhide HM]; exact hfin
        · by_cases e : j = n
          · subst e; rw [put_at]; omega
          · rw [put_ne _ _ _ e]; exact hb1 j (by omega)
        · by_cases e : j = n
          · subst e; rw [put_at]; omega
          · rw [put_ne _ _ _ e]; exact hb2 j h1 (by omega)
end Go.Proofs.YtonpmabdjngdcaaGreatDoor

/- The walks of a Book's looks at its other lists, which are nil, and of their growing. -/
namespace Go.Proofs.YtonpmabdjngdcaaGreatDoor
open Go.RowKit
set_option maxRecDepth 100000

set_option maxHeartbeats 1600000 in
set_option maxRecDepth 100000 in
theorem book_kept (bk : Nat) (f : Nat → Value) (w : World) (h : w.rowIs bk 70 39 f) (h6 : f 6 = .slice none 0 0) (h9 : f 9 = .slice none 0 0) (h12 : f 12 = .slice none 0 0) (h15 : f 15 = .slice none 0 0) :
    Calls Tryz.prog 93 #[.pointer (some ⟨bk, 0, none⟩)] w fun e w' => e = .returned (.bool true) ∧ w' = w := by
  have c6 := h.cell (i := 6) (by decide)
  rw [h6] at c6
  have c9 := h.cell (i := 9) (by decide)
  rw [h9] at c9
  have c12 := h.cell (i := 12) (by decide)
  rw [h12] at c12
  have c15 := h.cell (i := 15) (by decide)
  rw [h15] at c15
  clear h h6 h9 h12 h15
  go_enter Tryz.func93, Tryz.ntmps93
  go_wp2_with fail
  go_loopg [3] 0 (fun q s3 wx => q = 0 ∧ s3 = .int .i64 0 ∧ w = wx)
  case atStart => exact ⟨rfl, rfl, rfl⟩
  case round =>
    obtain ⟨rfl, rfl, rfl⟩ := hrel
    go_wp2_with fail
    go_loopg [5] 0 (fun q s5 wx => q = 0 ∧ s5 = .int .i64 0 ∧ w = wx)
    case atStart => exact ⟨rfl, rfl, rfl⟩
    case round =>
      obtain ⟨rfl, rfl, rfl⟩ := hrel
      go_wp2_with fail
      go_loopg [7] 0 (fun q s7 wx => q = 0 ∧ s7 = .int .i64 0 ∧ w = wx)
      case atStart => exact ⟨rfl, rfl, rfl⟩
      case round =>
        obtain ⟨rfl, rfl, rfl⟩ := hrel
        go_wp2_with fail
        go_loopg [9] 0 (fun q s9 wx => q = 0 ∧ s9 = .int .i64 0 ∧ w = wx)
        case atStart => exact ⟨rfl, rfl, rfl⟩
        case round =>
          obtain ⟨rfl, rfl, rfl⟩ := hrel
          go_wp2_with fail
          go_ret
          exact ⟨rfl, rfl⟩
set_option maxHeartbeats 1600000 in
set_option maxRecDepth 100000 in
theorem book_told (bk : Nat) (f : Nat → Value) (w : World) (h : w.rowIs bk 70 39 f) (h18 : f 18 = .slice none 0 0) (h21 : f 21 = .slice none 0 0) (h24 : f 24 = .slice none 0 0) (h27 : f 27 = .slice none 0 0) :
    Calls Tryz.prog 94 #[.pointer (some ⟨bk, 0, none⟩)] w fun e w' => e = .returned (.bool true) ∧ w' = w := by
  have c18 := h.cell (i := 18) (by decide)
  rw [h18] at c18
  have c21 := h.cell (i := 21) (by decide)
  rw [h21] at c21
  have c24 := h.cell (i := 24) (by decide)
  rw [h24] at c24
  have c27 := h.cell (i := 27) (by decide)
  rw [h27] at c27
  clear h h18 h21 h24 h27
  go_enter Tryz.func94, Tryz.ntmps94
  go_wp2_with fail
  go_loopg [3] 0 (fun q s3 wx => q = 0 ∧ s3 = .int .i64 0 ∧ w = wx)
  case atStart => exact ⟨rfl, rfl, rfl⟩
  case round =>
    obtain ⟨rfl, rfl, rfl⟩ := hrel
    go_wp2_with fail
    go_loopg [5] 0 (fun q s5 wx => q = 0 ∧ s5 = .int .i64 0 ∧ w = wx)
    case atStart => exact ⟨rfl, rfl, rfl⟩
    case round =>
      obtain ⟨rfl, rfl, rfl⟩ := hrel
      go_wp2_with fail
      go_loopg [7] 0 (fun q s7 wx => q = 0 ∧ s7 = .int .i64 0 ∧ w = wx)
      case atStart => exact ⟨rfl, rfl, rfl⟩
      case round =>
        obtain ⟨rfl, rfl, rfl⟩ := hrel
        go_wp2_with fail
        go_loopg [9] 0 (fun q s9 wx => q = 0 ∧ s9 = .int .i64 0 ∧ w = wx)
        case atStart => exact ⟨rfl, rfl, rfl⟩
        case round =>
          obtain ⟨rfl, rfl, rfl⟩ := hrel
          go_wp2_with fail
          go_ret
          exact ⟨rfl, rfl⟩
set_option maxHeartbeats 1600000 in
set_option maxRecDepth 100000 in
theorem book_held (bk : Nat) (f : Nat → Value) (w : World) (h : w.rowIs bk 70 39 f) (h30 : f 30 = .slice none 0 0) (h33 : f 33 = .slice none 0 0) :
    Calls Tryz.prog 95 #[.pointer (some ⟨bk, 0, none⟩)] w fun e w' => e = .returned (.bool true) ∧ w' = w := by
  have c30 := h.cell (i := 30) (by decide)
  rw [h30] at c30
  have c33 := h.cell (i := 33) (by decide)
  rw [h33] at c33
  clear h h30 h33
  go_enter Tryz.func95, Tryz.ntmps95
  go_wp2_with fail
  go_loopg [3] 0 (fun q s3 wx => q = 0 ∧ s3 = .int .i64 0 ∧ w = wx)
  case atStart => exact ⟨rfl, rfl, rfl⟩
  case round =>
    obtain ⟨rfl, rfl, rfl⟩ := hrel
    go_wp2_with fail
    go_loopg [7] 0 (fun q s7 wx => q = 0 ∧ s7 = .int .i64 0 ∧ w = wx)
    case atStart => exact ⟨rfl, rfl, rfl⟩
    case round =>
      obtain ⟨rfl, rfl, rfl⟩ := hrel
      go_wp2_with fail
      go_ret
      exact ⟨rfl, rfl⟩
set_option maxHeartbeats 1600000 in
set_option maxRecDepth 100000 in
theorem book_growRows (bk : Nat) (f : Nat → Value) (w : World) (h : w.rowIs bk 70 39 f) (h0 : f 3 = .slice none 0 0) (h2 : f 5 = .int .i64 0) :
    Calls Tryz.prog 97 #[.pointer (some ⟨bk, 0, none⟩)] w fun e w' => e = .returned (.tuple #[]) ∧ w' = w.setCell ⟨bk, 5, none⟩ (.int .i64 0) := by
  have c0 := h.cell (i := 3) (by decide)
  rw [h0] at c0
  have c2 := h.cell (i := 5) (by decide)
  rw [h2] at c2
  have f2 := h.frozen 5
  clear h h0 h2
  go_enter Tryz.func97, Tryz.ntmps97
  go_wp2_with fail
  go_loopg [3] 0 (fun q s3 wx => q = 0 ∧ s3 = .int .i64 0 ∧ w = wx)
  case atStart => exact ⟨rfl, rfl, rfl⟩
  case round =>
    obtain ⟨rfl, rfl, rfl⟩ := hrel
    go_wp2_with fail
    go_end0
    exact ⟨rfl, rfl⟩
set_option maxHeartbeats 1600000 in
set_option maxRecDepth 100000 in
theorem book_growTexts (bk : Nat) (f : Nat → Value) (w : World) (h : w.rowIs bk 70 39 f) (h0 : f 6 = .slice none 0 0) (h2 : f 8 = .int .i64 0) :
    Calls Tryz.prog 98 #[.pointer (some ⟨bk, 0, none⟩)] w fun e w' => e = .returned (.tuple #[]) ∧ w' = w.setCell ⟨bk, 8, none⟩ (.int .i64 0) := by
  have c0 := h.cell (i := 6) (by decide)
  rw [h0] at c0
  have c2 := h.cell (i := 8) (by decide)
  rw [h2] at c2
  have f2 := h.frozen 8
  clear h h0 h2
  go_enter Tryz.func98, Tryz.ntmps98
  go_wp2_with fail
  go_loopg [3] 0 (fun q s3 wx => q = 0 ∧ s3 = .int .i64 0 ∧ w = wx)
  case atStart => exact ⟨rfl, rfl, rfl⟩
  case round =>
    obtain ⟨rfl, rfl, rfl⟩ := hrel
    go_wp2_with fail
    go_end0
    exact ⟨rfl, rfl⟩
set_option maxHeartbeats 1600000 in
set_option maxRecDepth 100000 in
theorem book_growInts (bk : Nat) (f : Nat → Value) (w : World) (h : w.rowIs bk 70 39 f) (h0 : f 9 = .slice none 0 0) (h2 : f 11 = .int .i64 0) :
    Calls Tryz.prog 99 #[.pointer (some ⟨bk, 0, none⟩)] w fun e w' => e = .returned (.tuple #[]) ∧ w' = w.setCell ⟨bk, 11, none⟩ (.int .i64 0) := by
  have c0 := h.cell (i := 9) (by decide)
  rw [h0] at c0
  have c2 := h.cell (i := 11) (by decide)
  rw [h2] at c2
  have f2 := h.frozen 11
  clear h h0 h2
  go_enter Tryz.func99, Tryz.ntmps99
  go_wp2_with fail
  go_loopg [3] 0 (fun q s3 wx => q = 0 ∧ s3 = .int .i64 0 ∧ w = wx)
  case atStart => exact ⟨rfl, rfl, rfl⟩
  case round =>
    obtain ⟨rfl, rfl, rfl⟩ := hrel
    go_wp2_with fail
    go_end0
    exact ⟨rfl, rfl⟩
set_option maxHeartbeats 1600000 in
set_option maxRecDepth 100000 in
theorem book_growWords (bk : Nat) (f : Nat → Value) (w : World) (h : w.rowIs bk 70 39 f) (h0 : f 12 = .slice none 0 0) (h2 : f 14 = .int .i64 0) :
    Calls Tryz.prog 100 #[.pointer (some ⟨bk, 0, none⟩)] w fun e w' => e = .returned (.tuple #[]) ∧ w' = w.setCell ⟨bk, 14, none⟩ (.int .i64 0) := by
  have c0 := h.cell (i := 12) (by decide)
  rw [h0] at c0
  have c2 := h.cell (i := 14) (by decide)
  rw [h2] at c2
  have f2 := h.frozen 14
  clear h h0 h2
  go_enter Tryz.func100, Tryz.ntmps100
  go_wp2_with fail
  go_loopg [3] 0 (fun q s3 wx => q = 0 ∧ s3 = .int .i64 0 ∧ w = wx)
  case atStart => exact ⟨rfl, rfl, rfl⟩
  case round =>
    obtain ⟨rfl, rfl, rfl⟩ := hrel
    go_wp2_with fail
    go_end0
    exact ⟨rfl, rfl⟩
set_option maxHeartbeats 1600000 in
set_option maxRecDepth 100000 in
theorem book_growDones (bk : Nat) (f : Nat → Value) (w : World) (h : w.rowIs bk 70 39 f) (h0 : f 15 = .slice none 0 0) (h2 : f 17 = .int .i64 0) :
    Calls Tryz.prog 101 #[.pointer (some ⟨bk, 0, none⟩)] w fun e w' => e = .returned (.tuple #[]) ∧ w' = w.setCell ⟨bk, 17, none⟩ (.int .i64 0) := by
  have c0 := h.cell (i := 15) (by decide)
  rw [h0] at c0
  have c2 := h.cell (i := 17) (by decide)
  rw [h2] at c2
  have f2 := h.frozen 17
  clear h h0 h2
  go_enter Tryz.func101, Tryz.ntmps101
  go_wp2_with fail
  go_loopg [3] 0 (fun q s3 wx => q = 0 ∧ s3 = .int .i64 0 ∧ w = wx)
  case atStart => exact ⟨rfl, rfl, rfl⟩
  case round =>
    obtain ⟨rfl, rfl, rfl⟩ := hrel
    go_wp2_with fail
    go_end0
    exact ⟨rfl, rfl⟩
set_option maxHeartbeats 1600000 in
set_option maxRecDepth 100000 in
theorem book_growAccts (bk : Nat) (f : Nat → Value) (w : World) (h : w.rowIs bk 70 39 f) (h0 : f 18 = .slice none 0 0) (h2 : f 20 = .int .i64 0) :
    Calls Tryz.prog 102 #[.pointer (some ⟨bk, 0, none⟩)] w fun e w' => e = .returned (.tuple #[]) ∧ w' = w.setCell ⟨bk, 20, none⟩ (.int .i64 0) := by
  have c0 := h.cell (i := 18) (by decide)
  rw [h0] at c0
  have c2 := h.cell (i := 20) (by decide)
  rw [h2] at c2
  have f2 := h.frozen 20
  clear h h0 h2
  go_enter Tryz.func102, Tryz.ntmps102
  go_wp2_with fail
  go_loopg [3] 0 (fun q s3 wx => q = 0 ∧ s3 = .int .i64 0 ∧ w = wx)
  case atStart => exact ⟨rfl, rfl, rfl⟩
  case round =>
    obtain ⟨rfl, rfl, rfl⟩ := hrel
    go_wp2_with fail
    go_end0
    exact ⟨rfl, rfl⟩
set_option maxHeartbeats 1600000 in
set_option maxRecDepth 100000 in
theorem book_growQueue (bk : Nat) (f : Nat → Value) (w : World) (h : w.rowIs bk 70 39 f) (h0 : f 21 = .slice none 0 0) (h2 : f 23 = .int .i64 0) :
    Calls Tryz.prog 103 #[.pointer (some ⟨bk, 0, none⟩)] w fun e w' => e = .returned (.tuple #[]) ∧ w' = w.setCell ⟨bk, 23, none⟩ (.int .i64 0) := by
  have c0 := h.cell (i := 21) (by decide)
  rw [h0] at c0
  have c2 := h.cell (i := 23) (by decide)
  rw [h2] at c2
  have f2 := h.frozen 23
  clear h h0 h2
  go_enter Tryz.func103, Tryz.ntmps103
  go_wp2_with fail
  go_loopg [3] 0 (fun q s3 wx => q = 0 ∧ s3 = .int .i64 0 ∧ w = wx)
  case atStart => exact ⟨rfl, rfl, rfl⟩
  case round =>
    obtain ⟨rfl, rfl, rfl⟩ := hrel
    go_wp2_with fail
    go_end0
    exact ⟨rfl, rfl⟩
set_option maxHeartbeats 1600000 in
set_option maxRecDepth 100000 in
theorem book_growSlots (bk : Nat) (f : Nat → Value) (w : World) (h : w.rowIs bk 70 39 f) (h0 : f 24 = .slice none 0 0) (h2 : f 26 = .int .i64 0) :
    Calls Tryz.prog 104 #[.pointer (some ⟨bk, 0, none⟩)] w fun e w' => e = .returned (.tuple #[]) ∧ w' = w.setCell ⟨bk, 26, none⟩ (.int .i64 0) := by
  have c0 := h.cell (i := 24) (by decide)
  rw [h0] at c0
  have c2 := h.cell (i := 26) (by decide)
  rw [h2] at c2
  have f2 := h.frozen 26
  clear h h0 h2
  go_enter Tryz.func104, Tryz.ntmps104
  go_wp2_with fail
  go_loopg [3] 0 (fun q s3 wx => q = 0 ∧ s3 = .int .i64 0 ∧ w = wx)
  case atStart => exact ⟨rfl, rfl, rfl⟩
  case round =>
    obtain ⟨rfl, rfl, rfl⟩ := hrel
    go_wp2_with fail
    go_end0
    exact ⟨rfl, rfl⟩
set_option maxHeartbeats 1600000 in
set_option maxRecDepth 100000 in
theorem book_growMsgs (bk : Nat) (f : Nat → Value) (w : World) (h : w.rowIs bk 70 39 f) (h0 : f 27 = .slice none 0 0) (h2 : f 29 = .int .i64 0) :
    Calls Tryz.prog 105 #[.pointer (some ⟨bk, 0, none⟩)] w fun e w' => e = .returned (.tuple #[]) ∧ w' = w.setCell ⟨bk, 29, none⟩ (.int .i64 0) := by
  have c0 := h.cell (i := 27) (by decide)
  rw [h0] at c0
  have c2 := h.cell (i := 29) (by decide)
  rw [h2] at c2
  have f2 := h.frozen 29
  clear h h0 h2
  go_enter Tryz.func105, Tryz.ntmps105
  go_wp2_with fail
  go_loopg [3] 0 (fun q s3 wx => q = 0 ∧ s3 = .int .i64 0 ∧ w = wx)
  case atStart => exact ⟨rfl, rfl, rfl⟩
  case round =>
    obtain ⟨rfl, rfl, rfl⟩ := hrel
    go_wp2_with fail
    go_end0
    exact ⟨rfl, rfl⟩
set_option maxHeartbeats 1600000 in
set_option maxRecDepth 100000 in
theorem book_growFlights (bk : Nat) (f : Nat → Value) (w : World) (h : w.rowIs bk 70 39 f) (h0 : f 30 = .slice none 0 0) (h2 : f 32 = .int .i64 0) :
    Calls Tryz.prog 106 #[.pointer (some ⟨bk, 0, none⟩)] w fun e w' => e = .returned (.tuple #[]) ∧ w' = w.setCell ⟨bk, 32, none⟩ (.int .i64 0) := by
  have c0 := h.cell (i := 30) (by decide)
  rw [h0] at c0
  have c2 := h.cell (i := 32) (by decide)
  rw [h2] at c2
  have f2 := h.frozen 32
  clear h h0 h2
  go_enter Tryz.func106, Tryz.ntmps106
  go_wp2_with fail
  go_loopg [3] 0 (fun q s3 wx => q = 0 ∧ s3 = .int .i64 0 ∧ w = wx)
  case atStart => exact ⟨rfl, rfl, rfl⟩
  case round =>
    obtain ⟨rfl, rfl, rfl⟩ := hrel
    go_wp2_with fail
    go_end0
    exact ⟨rfl, rfl⟩
set_option maxHeartbeats 1600000 in
set_option maxRecDepth 100000 in
theorem book_growFiles (bk : Nat) (f : Nat → Value) (w : World) (h : w.rowIs bk 70 39 f) (h0 : f 33 = .slice none 0 0) (h2 : f 35 = .int .i64 0) :
    Calls Tryz.prog 107 #[.pointer (some ⟨bk, 0, none⟩)] w fun e w' => e = .returned (.tuple #[]) ∧ w' = w.setCell ⟨bk, 35, none⟩ (.int .i64 0) := by
  have c0 := h.cell (i := 33) (by decide)
  rw [h0] at c0
  have c2 := h.cell (i := 35) (by decide)
  rw [h2] at c2
  have f2 := h.frozen 35
  clear h h0 h2
  go_enter Tryz.func107, Tryz.ntmps107
  go_wp2_with fail
  go_loopg [3] 0 (fun q s3 wx => q = 0 ∧ s3 = .int .i64 0 ∧ w = wx)
  case atStart => exact ⟨rfl, rfl, rfl⟩
  case round =>
    obtain ⟨rfl, rfl, rfl⟩ := hrel
    go_wp2_with fail
    go_end0
    exact ⟨rfl, rfl⟩
end Go.Proofs.YtonpmabdjngdcaaGreatDoor

/- What stands at the front of bytes as a number in its shortest form; the walk of package code's lookVar. -/
namespace Go.Proofs.YtonpmabdjngdcaaGreatDoor
open Go.RowKit

/-- What the first i bytes say, the lowest first. -/
def vs (z : Nat → Nat) : Nat → Nat
  | 0 => 0
  | i + 1 => vs z i + z i % 128 * 128 ^ i
theorem vs_lt (z : Nat → Nat) : ∀ i, vs z i < 128 ^ i
  | 0 => by show 0 < 1; decide
  | i + 1 => by
    have h1 := vs_lt z i
    show vs z i + z i % 128 * 128 ^ i < 128 ^ (i + 1)
    rw [Nat.pow_succ]
    have h2 : z i % 128 * 128 ^ i ≤ 127 * 128 ^ i := Nat.mul_le_mul_right _ (by omega)
    omega
/-- A number, how many bytes it takes, its fault. -/
def vres (z : Nat → Nat) (m most : Nat) : Nat → Nat → Nat × Nat × Nat
  | 0, _ => (0, 0, 11)
  | f + 1, i => if i = m then (0, 0, 10) else if i = 9 ∧ 1 < z i then (0, 0, 11) else if 128 ≤ z i then vres z m most f (i + 1) else if z i = 0 ∧ 0 < i then (0, 0, 11) else if most < vs z (i + 1) then (0, 0, 12) else (vs z (i + 1), i + 1, 0)
def vlook (z : Nat → Nat) (m most : Nat) : Nat × Nat × Nat := vres z m most 10 0

theorem and127 (c : Nat) (h : c < 256) : bits .and .u8 (c : Int) 127 = ((c % 128 : Nat) : Int) := by
  have := u8_and_nat c 127 h (by decide); rw [nat_mask7] at this; exact this
theorem and128 (c : Nat) (h : c < 256) : bits .and .u8 (c : Int) 128 = if 128 ≤ c then 128 else 0 := by
  have : ∀ c : Fin 256, bits .and .u8 ((c.val : Nat) : Int) 128 = if 128 ≤ c.val then 128 else 0 := by decide +kernel
  exact this ⟨c, h⟩
theorem vs_or (z : Nat → Nat) (i : Nat) (hb : vs z (i + 1) < 18446744073709551616) : bits .or .u64 (vs z i : Int) ((z i % 128 * 128 ^ i : Nat) : Int) = ((vs z (i + 1) : Nat) : Int) := by
  have h1 := vs_lt z i
  have e : vs z (i + 1) = vs z i + z i % 128 * 128 ^ i := rfl
  have e2 : (128 : Nat) ^ i = 2 ^ (7 * i) := by rw [Nat.pow_mul]
  have := u64_or_nat (vs z i) (z i % 128 * 128 ^ i) (by omega) (by omega)
  rw [this, Nat.or_comm, e]
  have hj := nat_join (7 * i) (z i % 128 * 128 ^ i) (vs z i) (by rw [e2]; simp [Nat.mul_mod_left]) (by rw [← e2]; exact h1)
  rw [hj, Nat.add_comm]

set_option maxHeartbeats 3200000 in
theorem lookVar_walk (a : Option Addr) (m cap most : Nat) (z : Nat → Nat) (w : World) (N size bd : Nat) (hmax : m ≤ 281474976710656) (hc : Byt w a m z) (hz : ∀ j, z j < 256) (hres : vlook z m most = (N, size, bd)) :
    Calls Tryz.prog 162 #[.slice a m cap, .int .u64 most] w fun e w' => e = .returned (.tuple #[.agg #[.int .u64 N, .slice none 0 0, .int .i64 size], .int .i64 bd]) ∧ w.Since w.heap.size w' := by
  have hs0 : w.Since w.heap.size (w.alloc (.cells #[.int .u64 0, .slice none 0 0, .int .i64 0] 137)) := (World.Since.refl _ _).alloc (Nat.le_refl _) _
  have hr0 := item_row w 0 none 0 0
  go_enter Tryz.func162, Tryz.ntmps162
  go_wp2_with fail
  generalize w.alloc (.cells #[.int .u64 0, .slice none 0 0, .int .i64 0] 137) = w0 at *
  go_loopg [6, 8] 10 (fun g s6 s8 wx => ∃ i : Nat, i ≤ 10 ∧ i ≤ m ∧ g = 10 - i ∧ s6 = .int .u64 (vs z i : Nat) ∧ s8 = .int .i64 i ∧ vres z m most (10 - i) i = (N, size, bd) ∧ w.Since w.heap.size wx ∧ wx.rowIs w.heap.size 137 3 (itemCell 0 none 0 0))
  case atStart => exact ⟨0, by omega, by omega, rfl, rfl, rfl, hres, hs0, hr0⟩
  case round =>
    obtain ⟨i, hi, him, rfl, rfl, rfl, hv, hsn, hrw⟩ := hrel
    clear hs0 hr0 hres
    have o0 : wr.cell? ⟨w.heap.size, 0, none⟩ = some (.int .u64 0) := hrw.cell (by decide)
    have o1 : wr.cell? ⟨w.heap.size, 1, none⟩ = some (.slice none 0 0) := hrw.cell (by decide)
    have o2 : wr.cell? ⟨w.heap.size, 2, none⟩ = some (.int .i64 0) := hrw.cell (by decide)
    have p0 := hrw.frozen 0
    have p1 := hrw.frozen 1
    have p2 := hrw.frozen 2
    have fin : ∀ u0 u1 u2, w.Since w.heap.size (((wr.setCell ⟨w.heap.size, 0, none⟩ u0).setCell ⟨w.heap.size, 1, none⟩ u1).setCell ⟨w.heap.size, 2, none⟩ u2) := fun u0 u1 u2 =>
      ((hsn.setCell (a := ⟨w.heap.size, 0, none⟩) (Nat.le_refl _) _).setCell (a := ⟨w.heap.size, 1, none⟩) (Nat.le_refl _) _).setCell (a := ⟨w.heap.size, 2, none⟩) (Nat.le_refl _) _
    by_cases h10 : i = 10
    · subst h10
      have hv' : ((0, 0, 11) : Nat × Nat × Nat) = (N, size, bd) := hv
      cases hv'
      clear hv
      go_wp2_with fail
      refine bodyPost_ret (v := .tuple #[item0, .int .i64 11]) (by simp [results, Tryz.results162, go_sem, o0, o1, o2]) rfl ⟨rfl, fin _ _ _⟩
    · obtain ⟨f, hf⟩ : ∃ f, 10 - i = f + 1 := ⟨9 - i, by omega⟩
      rw [hf] at hv
      unfold vres at hv
      have hi10 : (i : Int) < 10 := by omega
      by_cases hie : i = m
      · rw [if_pos hie] at hv
        cases hv
        subst hie
        clear hf
        go_wp2_with fail
        refine bodyPost_ret (v := .tuple #[item0, .int .i64 10]) (by simp [results, Tryz.results162, go_sem, o0, o1, o2]) rfl ⟨rfl, fin _ _ _⟩
      · rw [if_neg hie] at hv
        have hlt : i < m := by omega
        obtain ⟨b, off, rfl, hcell⟩ := hc i hlt
        have t0 : wr.cell? ⟨b, off + i, none⟩ = some (.int .u8 (z i : Nat)) := by rw [hsn.cell (a := ⟨b, off + i, none⟩) (World.block_lt_of_cell? _ _ hcell)]; exact hcell
        have him' : ((i : Int) == (m : Int)) = false := by simp; omega
        have hiz : (i : Int) < (m : Int) := by omega
        have hzi := hz i
        clear hc hcell
        by_cases h9 : i = 9 ∧ 1 < z i
        · rw [if_pos h9] at hv
          cases hv
          obtain ⟨rfl, h9b⟩ := h9
          have h9c : (1 : Int) < (z 9 : Int) := by omega
          clear hf
          go_wp2_with fail
          refine bodyPost_ret (v := .tuple #[item0, .int .i64 11]) (by simp [results, Tryz.results162, go_sem, o0, o1, o2]) rfl ⟨rfl, fin _ _ _⟩
        · rw [if_neg h9] at hv
          have hvb : vs z (i + 1) < 18446744073709551616 := by
            have e : vs z (i + 1) = vs z i + z i % 128 * 128 ^ i := rfl
            by_cases e9 : i = 9
            · subst e9
              have := vs_lt z 9
              have h1 : z 9 ≤ 1 := by omega
              have h2 : z 9 % 128 ≤ 1 := by omega
              have h3 : z 9 % 128 * 128 ^ 9 ≤ 1 * 128 ^ 9 := Nat.mul_le_mul_right _ h2
              omega
            · have h1 := vs_lt z (i + 1)
              have h2 : 128 ^ (i + 1) ≤ 128 ^ 9 := Nat.pow_le_pow_right (by decide) (by omega)
              omega
          have hor : bits .or .u64 (vs z i : Int) (IntKind.u64.wrap ((z i : Int) % 128 * 2 ^ (7 * i))) = ((vs z (i + 1) : Nat) : Int) := by
            rw [← vs_or z i hvb]
            congr 1
            have e2 : (128 : Nat) ^ i = 2 ^ (7 * i) := by rw [Nat.pow_mul]
            have h1 : z i % 128 * 128 ^ i < 18446744073709551616 := by
              have e : vs z (i + 1) = vs z i + z i % 128 * 128 ^ i := rfl
              omega
            rw [e2] at h1 ⊢
            have h3 : ((z i : Int) % 128 * 2 ^ (7 * i)) = ((z i % 128 * 2 ^ (7 * i) : Nat) : Int) := by simp
            rw [h3]
            generalize z i % 128 * 2 ^ (7 * i) = q at *
            rw [IntKind.wrap_u64]; omega
          have ha7 := and127 (z i) hzi
          have ha8 := and128 (z i) hzi
          have g9 : i = 9 → ¬ ((1 : Int) < (z i : Int)) := fun e => by omega
          have hf' : f = 9 - i := by omega
          by_cases hge : 128 ≤ z i
          · rw [if_pos hge] at hv ha8
            have q9 : ((i : Int) == 9) = false := by simp; omega
            clear h9 hf g9
            go_wp2_with fail
            go_roundg (10 - (i + 1))
            case measure => go_light; omega
            case rel =>
              go_light
              refine ⟨i + 1, by omega, by omega, rfl, rfl, by simp, ?_, hsn, hrw⟩
              rw [show 10 - (i + 1) = 9 - i by omega, ← hf']; exact hv
          · rw [if_neg hge] at hv ha8
            have hzlt : z i < 128 := by omega
            by_cases hz0 : z i = 0 ∧ 0 < i
            · rw [if_pos hz0] at hv
              cases hv
              obtain ⟨hz0, hip⟩ := hz0
              have hip' : (0 : Int) < (i : Int) := by omega
              rw [hz0] at t0 ha7 ha8 hor
              by_cases e9 : i = 9
              · subst e9
                clear h9 hf g9 hf'
                go_wp2_with fail
                refine bodyPost_ret (v := .tuple #[item0, .int .i64 11]) (by simp [results, Tryz.results162, go_sem, o0, o1, o2]) rfl ⟨rfl, fin _ _ _⟩
              · have q9 : ((i : Int) == 9) = false := by simp; omega
                clear h9 hf g9 hf'
                go_wp2_with fail
                refine bodyPost_ret (v := .tuple #[item0, .int .i64 11]) (by simp [results, Tryz.results162, go_sem, o0, o1, o2]) rfl ⟨rfl, fin _ _ _⟩
            · rw [if_neg hz0] at hv
              have hcs : ((z i = 0 ∧ i = 0) ∨ z i ≠ 0) := by omega
              rcases hcs with ⟨hz1, hi0⟩ | hz1
              · have q9 : ((i : Int) == 9) = false := by simp; omega
                have hip' : ¬ ((0 : Int) < (i : Int)) := by omega
                have zq : ((z i : Int) == 0) = true := by simp; omega
                clear h9 hf g9 hz0 hi0 hz1
                by_cases hmo : most < vs z (i + 1)
                · rw [if_pos hmo] at hv
                  cases hv
                  have hmo' : (most : Int) < (vs z (i + 1) : Int) := by omega
                  clear hf'
                  go_wp2_with fail
                  refine bodyPost_ret (v := .tuple #[item0, .int .i64 12]) (by simp [results, Tryz.results162, go_sem, o0, o1, o2]) rfl ⟨rfl, fin _ _ _⟩
                · rw [if_neg hmo] at hv
                  cases hv
                  have hmo' : ¬ ((most : Int) < (vs z (i + 1) : Int)) := by omega
                  clear hf'
                  go_wp2_with fail
                  refine bodyPost_ret (v := .tuple #[.agg #[.int .u64 (vs z (i + 1) : Nat), .slice none 0 0, .int .i64 ((i + 1 : Nat) : Int)], .int .i64 0]) (by simp [results, Tryz.results162, go_sem, o0, o1, o2]) rfl ⟨rfl, fin _ _ _⟩
              · have zq : ((z i : Int) == 0) = false := by simp; omega
                by_cases e9 : i = 9
                · have g9' := g9 e9
                  have q9 : ((i : Int) == 9) = true := by simp; omega
                  clear h9 hf g9 hz0 e9
                  by_cases hmo : most < vs z (i + 1)
                  · rw [if_pos hmo] at hv
                    cases hv
                    have hmo' : (most : Int) < (vs z (i + 1) : Int) := by omega
                    clear hf'
                    go_wp2_with fail
                    refine bodyPost_ret (v := .tuple #[item0, .int .i64 12]) (by simp [results, Tryz.results162, go_sem, o0, o1, o2]) rfl ⟨rfl, fin _ _ _⟩
                  · rw [if_neg hmo] at hv
                    cases hv
                    have hmo' : ¬ ((most : Int) < (vs z (i + 1) : Int)) := by omega
                    clear hf'
                    go_wp2_with fail
                    refine bodyPost_ret (v := .tuple #[.agg #[.int .u64 (vs z (i + 1) : Nat), .slice none 0 0, .int .i64 ((i + 1 : Nat) : Int)], .int .i64 0]) (by simp [results, Tryz.results162, go_sem, o0, o1, o2]) rfl ⟨rfl, fin _ _ _⟩
                · have q9 : ((i : Int) == 9) = false := by simp; omega
                  clear h9 hf g9 hz0
                  by_cases hmo : most < vs z (i + 1)
                  · rw [if_pos hmo] at hv
                    cases hv
                    have hmo' : (most : Int) < (vs z (i + 1) : Int) := by omega
                    clear hf'
                    go_wp2_with fail
                    refine bodyPost_ret (v := .tuple #[item0, .int .i64 12]) (by simp [results, Tryz.results162, go_sem, o0, o1, o2]) rfl ⟨rfl, fin _ _ _⟩
                  · rw [if_neg hmo] at hv
                    cases hv
                    have hmo' : ¬ ((most : Int) < (vs z (i + 1) : Int)) := by omega
                    clear hf'
                    go_wp2_with fail
                    refine bodyPost_ret (v := .tuple #[.agg #[.int .u64 (vs z (i + 1) : Nat), .slice none 0 0, .int .i64 ((i + 1 : Nat) : Int)], .int .i64 0]) (by simp [results, Tryz.results162, go_sem, o0, o1, o2]) rfl ⟨rfl, fin _ _ _⟩

theorem lookVar_any (a : Option Addr) (m cap most : Nat) (z : Nat → Nat) (w : World) (hmax : m ≤ 281474976710656) (hc : Byt w a m z) (hz : ∀ j, z j < 256) :
    Calls Tryz.prog 162 #[.slice a m cap, .int .u64 most] w fun e w' => e = .returned (.tuple #[.agg #[.int .u64 ((vlook z m most).1 : Nat), .slice none 0 0, .int .i64 ((vlook z m most).2.1 : Nat)], .int .i64 ((vlook z m most).2.2 : Nat)]) ∧ w.Since w.heap.size w' :=
  lookVar_walk a m cap most z w _ _ _ hmax hc hz rfl
end Go.Proofs.YtonpmabdjngdcaaGreatDoor

/- The walks of package code's lookRaw, lookBytes and of look for the kinds Var, Bytes and Raw. -/
namespace Go.Proofs.YtonpmabdjngdcaaGreatDoor
open Go.RowKit

/-- Three cells of a result, written anew. -/
theorem since_item {w wr : World} (hsn : w.Since w.heap.size wr) (u0 u1 u2 : Value) : w.Since w.heap.size (((wr.setCell ⟨w.heap.size, 0, none⟩ u0).setCell ⟨w.heap.size, 1, none⟩ u1).setCell ⟨w.heap.size, 2, none⟩ u2) :=
  ((hsn.setCell (a := ⟨w.heap.size, 0, none⟩) (Nat.le_refl _) _).setCell (a := ⟨w.heap.size, 1, none⟩) (Nat.le_refl _) _).setCell (a := ⟨w.heap.size, 2, none⟩) (Nat.le_refl _) _
theorem txt_item {w wr : World} {ta : Option Addr} {l : Nat} {tx : Nat → Nat} (h : Txt (w.heap.size + 1) wr ta l tx) (u0 u1 u2 : Value) : Txt w.heap.size (((wr.setCell ⟨w.heap.size, 0, none⟩ u0).setCell ⟨w.heap.size, 1, none⟩ u1).setCell ⟨w.heap.size, 2, none⟩ u2) ta l tx := by
  rcases h with h | ⟨t, e, hb, hr⟩
  · exact Or.inl h
  · have q3 : ∀ i, t ≠ (⟨w.heap.size, i, none⟩ : Addr).block := fun i => by show t ≠ w.heap.size; omega
    exact Or.inr ⟨t, e, by omega, ((hr.setOther (q3 0) _).setOther (q3 1) _).setOther (q3 2) _⟩

theorem lookRaw_short (a : Option Addr) (m cap n : Nat) (w : World) (hmax : m ≤ 281474976710656) (hs : m < n) :
    Calls Tryz.prog 164 #[.slice a m cap, .int .u64 n] w fun e w' => e = .returned (.tuple #[item0, .int .i64 10]) ∧ w.Since w.heap.size w' := by
  have hz : (m : Int) < (n : Int) := by omega
  go_enter Tryz.func164, Tryz.ntmps164
  go_wp2
  exact bodyPost_ret (v := .tuple #[item0, .int .i64 10]) (by simp [results, Tryz.results164, go_sem]) rfl ⟨rfl, (World.Since.refl _ _).alloc (Nat.le_refl _) _⟩

set_option maxHeartbeats 800000 in
theorem lookRaw_ok (b off m cap n : Nat) (z : Nat → Nat) (w : World) (hmax : m ≤ 281474976710656) (hcap : m ≤ cap) (hs : n ≤ m) (hc : Byt w (some ⟨b, off, none⟩) m z) :
    Calls Tryz.prog 164 #[.slice (some ⟨b, off, none⟩) m cap, .int .u64 n] w fun e w' => (∃ ta, e = .returned (.tuple #[.agg #[.int .u64 0, .slice ta n n, .int .i64 n], .int .i64 0]) ∧ Txt w.heap.size w' ta n z) ∧ w.Since w.heap.size w' := by
  have hz : ¬ ((m : Int) < (n : Int)) := by omega
  have hz1 : (n : Int) ≤ (cap : Int) := by omega
  have hs0 : w.Since w.heap.size (w.alloc (.cells #[.int .u64 0, .slice none 0 0, .int .i64 0] 137)) := (World.Since.refl _ _).alloc (Nat.le_refl _) _
  have hr0 := item_row w 0 none 0 0
  have e0 : (w.alloc (.cells #[.int .u64 0, .slice none 0 0, .int .i64 0] 137)).heap.size = w.heap.size + 1 := by simp
  have hc1 := (hc.le hs).since hs0
  go_enter Tryz.func164, Tryz.ntmps164
  go_wp2_with fail
  generalize w.alloc (.cells #[.int .u64 0, .slice none 0 0, .int .i64 0] 137) = w0 at *
  refine (copied_any _ n _ z w0 (by omega) hc1).mono ?_
  rintro e w1 ⟨rfl, h1, z1, r1⟩
  have hrw := row_since hr0 h1
  have o0 : w1.cell? ⟨w.heap.size, 0, none⟩ = some (.int .u64 0) := hrw.cell (by decide)
  have o1 : w1.cell? ⟨w.heap.size, 1, none⟩ = some (.slice none 0 0) := hrw.cell (by decide)
  have o2 : w1.cell? ⟨w.heap.size, 2, none⟩ = some (.int .i64 0) := hrw.cell (by decide)
  have p0 := hrw.frozen 0
  have p1 := hrw.frozen 1
  have p2 := hrw.frozen 2
  have hsn : w.Since w.heap.size w1 := hs0.trans (since_mono h1 (by omega))
  have htx : Txt (w.heap.size + 1) w1 (some ⟨w.heap.size + 1, 0, none⟩) n z := by rw [e0] at r1; exact Or.inr ⟨w.heap.size + 1, rfl, Nat.le_refl _, r1⟩
  rw [e0]
  clear hrw h1 r1 hs0 hr0 hc1 hc
  go_wp2_with fail
  refine bodyPost_ret (v := .tuple #[.agg #[.int .u64 0, .slice (some ⟨w.heap.size + 1, 0, none⟩) n n, .int .i64 n], .int .i64 0]) (by simp [results, Tryz.results164, go_sem, o0, o1, o2]) rfl ⟨⟨_, rfl, txt_item htx _ _ _⟩, since_item hsn _ _ _⟩

/-- A text with its length ahead: its length, how many bytes it takes, its fault. -/
def blook (z : Nat → Nat) (m most : Nat) : Nat × Nat × Nat :=
  if (vlook z m most).2.2 ≠ 0 then (0, 0, (vlook z m most).2.2) else if m - (vlook z m most).2.1 < (vlook z m most).1 then (0, 0, 10) else ((vlook z m most).1, (vlook z m most).2.1 + (vlook z m most).1, 0)

theorem vres_size (z : Nat → Nat) (m most : Nat) : ∀ f i, i ≤ m → (vres z m most f i).2.2 = 0 → (vres z m most f i).2.1 ≤ m ∧ i < (vres z m most f i).2.1 ∧ (vres z m most f i).1 = vs z (vres z m most f i).2.1 ∧ (vres z m most f i).1 ≤ most
  | 0, i, _, h => by simp [vres] at h
  | f + 1, i, him, h => by
    unfold vres at h ⊢
    split at h
    · simp at h
    · next h1 =>
      rw [if_neg h1]
      split at h
      · simp at h
      · next h2 =>
        rw [if_neg h2]
        split at h
        · next h3 =>
          rw [if_pos h3]
          have := vres_size z m most f (i + 1) (by omega) h
          exact ⟨this.1, by omega, this.2.2⟩
        · next h3 =>
          rw [if_neg h3]
          split at h
          · simp at h
          · next h4 =>
            rw [if_neg h4]
            split at h
            · simp at h
            · next h5 =>
              rw [if_neg h5]
              exact ⟨by show i + 1 ≤ m; omega, by show i < i + 1; omega, rfl, by show vs z (i + 1) ≤ most; omega⟩
theorem vlook_size (z : Nat → Nat) (m most : Nat) (h : (vlook z m most).2.2 = 0) : (vlook z m most).2.1 ≤ m ∧ 0 < (vlook z m most).2.1 ∧ (vlook z m most).1 = vs z (vlook z m most).2.1 ∧ (vlook z m most).1 ≤ most :=
  vres_size z m most 10 0 (Nat.zero_le _) h
theorem vres_bad (z : Nat → Nat) (m most : Nat) : ∀ f i, (vres z m most f i).2.2 ≠ 0 → (vres z m most f i).1 = 0 ∧ (vres z m most f i).2.1 = 0
  | 0, i, _ => ⟨rfl, rfl⟩
  | f + 1, i, h => by
    unfold vres at h ⊢
    split
    · exact ⟨rfl, rfl⟩
    · next h1 =>
      rw [if_neg h1] at h
      split
      · exact ⟨rfl, rfl⟩
      · next h2 =>
        rw [if_neg h2] at h
        split
        · next h3 => rw [if_pos h3] at h; exact vres_bad z m most f (i + 1) h
        · next h3 =>
          rw [if_neg h3] at h
          split
          · exact ⟨rfl, rfl⟩
          · next h4 =>
            rw [if_neg h4] at h
            split
            · exact ⟨rfl, rfl⟩
            · next h5 => rw [if_neg h5] at h; exact absurd rfl h
theorem vlook_bad (z : Nat → Nat) (m most : Nat) (h : (vlook z m most).2.2 ≠ 0) : (vlook z m most).1 = 0 ∧ (vlook z m most).2.1 = 0 := vres_bad z m most 10 0 h
end Go.Proofs.YtonpmabdjngdcaaGreatDoor

/- The walk of package code's lookBytes. -/
namespace Go.Proofs.YtonpmabdjngdcaaGreatDoor
open Go.RowKit

/-- Behind the region that looks at the text: the item lies in a block of its own. -/
structure Seen2 (w wx : World) (ib : Nat) (ta : Option Addr) (l size : Nat) (tx : Nat → Nat) : Prop where
  since : w.Since w.heap.size wx
  it : wx.rowIs ib 137 3 (itemCell 0 ta l size)
  lo : w.heap.size ≤ ib
  txt : Txt w.heap.size wx ta l tx
  ne : ∀ t, ta = some ⟨t, 0, none⟩ → t < wx.heap.size → t ≠ ib
theorem seen2_a {w w' : World} {ta : Option Addr} {l size : Nat} {tx : Nat → Nat} (hs : w.drew.Since w.drew.heap.size w') (htx : Txt w.drew.heap.size w' ta l tx) (hn : ta = none → l = 0) :
    Seen2 w (w'.alloc (.cells #[.int .u64 0, .slice ta l l, .int .i64 size] 137)) w'.heap.size ta l size tx := by
  have hz : w.heap.size ≤ w'.heap.size := hs.size
  have hs' : w.Since w.heap.size w' := (World.Since.refl _ _).drew.trans hs
  have hx := hn
  refine ⟨hs'.alloc hz _, item_row w' 0 ta l size, hz, ?_, ?_⟩
  · rcases htx with h | ⟨t, e, hb, hr⟩
    · exact Or.inl h
    · exact Or.inr ⟨t, e, hb, hr.alloc _⟩
  · intro t e _
    rcases htx with ⟨h, _⟩ | ⟨t', e', hb, hr⟩
    · rw [h] at e; cases e
    · rw [e] at e'; cases e'
      have := hr.lt
      omega
theorem seen2_b {w w' : World} {ta : Option Addr} {l size : Nat} {tx : Nat → Nat}
    (hs : (w.alloc (.cells #[.int .u64 0, .slice none 0 0, .int .i64 0] 137)).drew.Since (w.alloc (.cells #[.int .u64 0, .slice none 0 0, .int .i64 0] 137)).drew.heap.size w')
    (htx : Txt (w.alloc (.cells #[.int .u64 0, .slice none 0 0, .int .i64 0] 137)).drew.heap.size w' ta l tx) :
    Seen2 w (((w'.setCell ⟨w.heap.size, 0, none⟩ (.int .u64 0)).setCell ⟨w.heap.size, 1, none⟩ (.slice ta l l)).setCell ⟨w.heap.size, 2, none⟩ (.int .i64 size)) w.heap.size ta l size tx := by
  have hs' : w.Since w.heap.size w' := (((World.Since.refl _ _).alloc (Nat.le_refl _) _).drew).trans (since_mono hs (by simp))
  have hrow : w'.rowIs w.heap.size 137 3 (itemCell 0 none 0 0) := row_since (item_row w 0 none 0 0).drew hs
  refine ⟨since_item hs' _ _ _, (((hrow.set 0 _).set 1 _).set 2 _).congr (fun i hi => ?_), Nat.le_refl _, ?_, ?_⟩
  · match i, hi with
    | 0, _ => rfl
    | 1, _ => rfl
    | 2, _ => rfl
  · exact txt_item (by simpa using htx) _ _ _
  · intro t e _
    rcases htx with ⟨h, _⟩ | ⟨t', e', hb, hr⟩
    · rw [h] at e; cases e
    · rw [e] at e'; cases e'
      have : w.heap.size + 1 ≤ t := by simpa using hb
      omega

set_option maxHeartbeats 1600000 in
set_option maxRecDepth 100000 in
theorem lookBytes_walk (b off m cap most : Nat) (z : Nat → Nat) (w : World) (N s bv l size bd : Nat) (hmax : m ≤ 281474976710656) (hcap : m ≤ cap) (hc : Byt w (some ⟨b, off, none⟩) m z) (hz : ∀ j, z j < 256) (hv : vlook z m most = (N, s, bv))
    (hl : bv = 0 → ((m - s < N ∧ l = 0 ∧ size = 0 ∧ bd = 10) ∨ (N ≤ m - s ∧ l = N ∧ size = N ∧ bd = 0))) :
    Calls Tryz.prog 163 #[.slice (some ⟨b, off, none⟩) m cap, .int .u64 most] w fun e w' =>
      ((bv ≠ 0 ∧ e = .returned (.tuple #[item0, .int .i64 bv])) ∨ (bv = 0 ∧ bd ≠ 0 ∧ e = .returned (.tuple #[item0, .int .i64 bd])) ∨
        (bv = 0 ∧ bd = 0 ∧ ∃ ta, e = .returned (.tuple #[.agg #[.int .u64 0, .slice ta l l, .int .i64 ((s + l : Nat) : Int)], .int .i64 0]) ∧ Txt w.heap.size w' ta l (fun j => z (s + j)))) ∧ w.Since w.heap.size w' := by
  have hs0 : w.Since w.heap.size (w.alloc (.cells #[.int .u64 0, .slice none 0 0, .int .i64 0] 137)) := (World.Since.refl _ _).alloc (Nat.le_refl _) _
  have hr0 := item_row w 0 none 0 0
  have e0 : (w.alloc (.cells #[.int .u64 0, .slice none 0 0, .int .i64 0] 137)).heap.size = w.heap.size + 1 := by simp
  have hc1 := hc.since hs0
  go_enter Tryz.func163, Tryz.ntmps163
  go_wp2_with fail
  generalize w.alloc (.cells #[.int .u64 0, .slice none 0 0, .int .i64 0] 137) = w0 at *
  refine (lookVar_walk _ m cap most z w0 N s bv hmax hc1 hz hv).mono ?_
  rintro e w1 ⟨rfl, h1⟩
  have hz1 : w0.heap.size ≤ w1.heap.size := h1.size
  have hsn1 : w.Since w.heap.size w1 := hs0.trans (since_mono h1 (by omega))
  have hrw := row_since hr0 h1
  have hh := item_row w1 N none 0 s
  have hrw2 := hrw.alloc (.cells #[.int .u64 N, .slice none 0 0, .int .i64 s] 137)
  have hsn2 : w.Since w.heap.size (w1.alloc (.cells #[.int .u64 N, .slice none 0 0, .int .i64 s] 137)) := hsn1.alloc (by omega) _
  have e2 : (w1.alloc (.cells #[.int .u64 N, .slice none 0 0, .int .i64 s] 137)).heap.size = w1.heap.size + 1 := by simp
  have hc2 := hc.since hsn2
  clear h1 hrw hsn1 hr0 hs0 hc1
  go_upto_region 2 with fail
  generalize w1.alloc (.cells #[.int .u64 N, .slice none 0 0, .int .i64 s] 137) = w2 at *
  generalize w1.heap.size = q1 at *
  by_cases hbv : bv = 0
  · subst hbv
    obtain ⟨hsm, hsp, hNs, hNm⟩ := vlook_size z m most (by rw [hv])
    rw [hv] at hsm hsp hNs hNm
    replace hsm : s ≤ m := hsm
    have hs1z : (s : Int) ≤ (m : Int) := by omega
    have hq0 : ((0 : Nat) : Int) = 0 := rfl
    have d0 : w2.cell? ⟨q1, 0, none⟩ = some (.int .u64 N) := hh.cell (by decide)
    have d2 : w2.cell? ⟨q1, 2, none⟩ = some (.int .i64 s) := hh.cell (by decide)
    have n0 := World.new_ne w2 _ d0
    have n2 := World.new_ne w2 _ d2
    have hcall : ∀ W, w2.Since w2.heap.size W → Calls Tryz.prog 164 #[.slice (if cap = s then some ⟨b, off, none⟩ else some ⟨b, off + s, none⟩) (m - s) (cap - s), .int .u64 N] W fun e w' => (∃ ta, e = .returned (.tuple #[.agg #[.int .u64 0, .slice ta l l, .int .i64 size], .int .i64 bd]) ∧ Txt W.heap.size w' ta l (fun j => z (s + j)) ∧ (ta = none → l = 0)) ∧ W.Since W.heap.size w' := fun W hW => by
      rcases hl rfl with ⟨h1, rfl, rfl, rfl⟩ | ⟨h1, rfl, rfl, rfl⟩
      · exact (lookRaw_short _ (m - s) (cap - s) N W (by omega) h1).mono fun e w' ⟨he, hs⟩ => ⟨⟨none, he, Or.inl ⟨rfl, rfl⟩, fun _ => rfl⟩, hs⟩
      · have hby : ∀ o, (m ≠ s → o = off + s) → Byt W (some ⟨b, o, none⟩) (m - s) (fun j => z (s + j)) := fun o ho j hj => by
          obtain ⟨b', off', e', hcell⟩ := hc2 (s + j) (by omega)
          cases e'
          refine ⟨b, o, rfl, ?_⟩
          rw [ho (by omega), hW.cell (a := ⟨b, off + s + j, none⟩) (World.block_lt_of_cell? _ _ (by rw [Nat.add_assoc]; exact hcell)), Nat.add_assoc]
          exact hcell
        by_cases hcs : cap = s
        · rw [if_pos hcs]
          exact (lookRaw_ok b off (m - s) (cap - s) _ (fun j => z (s + j)) W (by omega) (by omega) h1 (hby off (fun h => by omega))).mono fun e w' ⟨⟨ta, he, ht⟩, hs⟩ => ⟨⟨ta, he, ht, fun hn => by rcases ht with ⟨_, h⟩ | ⟨t, e', _⟩; exact h; rw [hn] at e'; cases e'⟩, hs⟩
        · rw [if_neg hcs]
          exact (lookRaw_ok b (off + s) (m - s) (cap - s) _ (fun j => z (s + j)) W (by omega) (by omega) h1 (hby _ (fun _ => rfl))).mono fun e w' ⟨⟨ta, he, ht⟩, hs⟩ => ⟨⟨ta, he, ht, fun hn => by rcases ht with ⟨_, h⟩ | ⟨t, e', _⟩; exact h; rw [hn] at e'; cases e'⟩, hs⟩
    have HL := hide hcall
    clear hcall hc hc2 hNs hNm hsp hv
    go_upto_region 4 with fail
    go_cut [7, 8] from 19 to 39 (fun s7 s8 wx => ∃ ib ta, s8 = .pointer (some ⟨ib, 0, none⟩) ∧ s7 = .int .i64 bd ∧ Seen2 w2 wx ib ta l size (fun j => z (s + j)))
    case first =>
      have hw1 : q1 < w2.heap.size := by omega
      by_cases hna : cap = s
      · have hms : m = s := by omega
        subst hna
        subst hms
        rw [if_pos rfl, Nat.sub_self] at HL
        go_region_held3 (fun w' => w'.cell? ⟨q1, 0, none⟩ = some (.int .u64 N) ∧ w'.cell? ⟨q1, 2, none⟩ = some (.int .i64 m))
          (first | go_keep | (refine ⟨?_, ?_⟩ <;> (rw [hcc _ _ (by simp; omega)]) <;> (go_simp)) | (refine ⟨?_, ?_⟩ <;> (iterate 3 (rw [World.cell?_setCell_far _ _ _ _ (by show w2.heap.size ≠ q1; omega)])) <;> (rw [hcc _ _ (by simp; omega)]) <;> (go_simp)))
          (first | (go_at_call 164; refine ((unhide HL) _ ?_).mono ?_; (first | exact (World.Since.refl _ _).drew | exact ((World.Since.refl _ _).alloc (Nat.le_refl _) _).drew | exact ((World.Since.refl _ _).drew).alloc (Nat.le_refl _) _); rintro e w' ⟨⟨ta, rfl, htx, hnn⟩, hs⟩; (obtain ⟨hcc, hff⟩ := scell hs; have x2 : q1 < w'.heap.size := (by have := hs.size; simp at this; omega); have x3 : q1 < w2.heap.size + 1 := (by omega))))
        all_goals
          go_wp2_with fail
          go_meet
          case rel => go_light; first | exact ⟨_, ta, rfl, rfl, seen2_a hs htx hnn⟩ | exact ⟨_, ta, rfl, rfl, by have h := seen2_b (size := size) hs htx; rw [e2] at h; exact h⟩
      · rw [if_neg hna] at HL
        go_region_held3 (fun w' => w'.cell? ⟨q1, 0, none⟩ = some (.int .u64 N) ∧ w'.cell? ⟨q1, 2, none⟩ = some (.int .i64 s))
          (first | go_keep | (refine ⟨?_, ?_⟩ <;> (rw [hcc _ _ (by simp; omega)]) <;> (go_simp)) | (refine ⟨?_, ?_⟩ <;> (iterate 3 (rw [World.cell?_setCell_far _ _ _ _ (by show w2.heap.size ≠ q1; omega)])) <;> (rw [hcc _ _ (by simp; omega)]) <;> (go_simp)))
          (first | (go_at_call 164; refine ((unhide HL) _ ?_).mono ?_; (first | exact (World.Since.refl _ _).drew | exact ((World.Since.refl _ _).alloc (Nat.le_refl _) _).drew | exact ((World.Since.refl _ _).drew).alloc (Nat.le_refl _) _); rintro e w' ⟨⟨ta, rfl, htx, hnn⟩, hs⟩; (obtain ⟨hcc, hff⟩ := scell hs; have x2 : q1 < w'.heap.size := (by have := hs.size; simp at this; omega); have x3 : q1 < w2.heap.size + 1 := (by omega))))
        all_goals
          go_wp2_with fail
          go_meet
          case rel => go_light; first | exact ⟨_, ta, rfl, rfl, seen2_a hs htx hnn⟩ | exact ⟨_, ta, rfl, rfl, by have h := seen2_b (size := size) hs htx; rw [e2] at h; exact h⟩
    case rest =>
      obtain ⟨ib, ta, rfl, rfl, hS⟩ := hcut
      have hw2 : w2.heap.size = q1 + 1 := e2
      have hlo := hS.lo
      have hsn3 : w.Since w.heap.size wc := hsn2.trans (since_mono hS.since (by omega))
      have hro := row_since hrw2 hS.since
      have hhd := row_since hh hS.since
      have o0 : wc.cell? ⟨w.heap.size, 0, none⟩ = some (.int .u64 0) := hro.cell (by decide)
      have o1 : wc.cell? ⟨w.heap.size, 1, none⟩ = some (.slice none 0 0) := hro.cell (by decide)
      have o2 : wc.cell? ⟨w.heap.size, 2, none⟩ = some (.int .i64 0) := hro.cell (by decide)
      have p0 := hro.frozen 0
      have p1 := hro.frozen 1
      have p2 := hro.frozen 2
      by_cases hbd : bd = 0
      · obtain ⟨h1, rfl, rfl, _⟩ : N ≤ m - s ∧ l = N ∧ size = N ∧ bd = 0 := by
          rcases hl rfl with ⟨_, _, _, h⟩ | h
          · omega
          · exact h
        subst hbd
        have i0 : wc.cell? ⟨ib, 0, none⟩ = some (.int .u64 0) := hS.it.cell (by decide)
        have i1 : wc.cell? ⟨ib, 1, none⟩ = some (.slice ta size size) := hS.it.cell (by decide)
        have i2 : wc.cell? ⟨ib, 2, none⟩ = some (.int .i64 size) := hS.it.cell (by decide)
        have j2 := hS.it.frozen 2
        have g2 : wc.cell? ⟨q1, 2, none⟩ = some (.int .i64 s) := hhd.cell (by decide)
        have hsn4 : w.Since w.heap.size (wc.setCell ⟨ib, 2, none⟩ (.int .i64 ((size : Int) + (s : Int)))) := hsn3.setCell (a := ⟨ib, 2, none⟩) (by show w.heap.size ≤ ib; omega) _
        have htx4 : Txt (w.heap.size + 1) (wc.setCell ⟨ib, 2, none⟩ (.int .i64 ((size : Int) + (s : Int)))) ta size (fun j => z (s + j)) := by
          rcases hS.txt with h | ⟨t, e, hb, hr⟩
          · exact Or.inl h
          · exact Or.inr ⟨t, e, by omega, hr.setOther (by show t ≠ ib; exact hS.ne t e hr.lt) _⟩
        have hro4 := hro.setOther (a := ⟨ib, 2, none⟩) (by show w.heap.size ≠ ib; omega) (.int .i64 ((size : Int) + (s : Int)))
        have hit4 := (hS.it.set 2 (.int .i64 ((size : Int) + (s : Int))))
        clear d0 d2 n0 n2 HL hhd hh
        go_wp2_with fail
        clear hit4
        generalize wc.setCell ⟨ib, 2, none⟩ (.int .i64 ((size : Int) + (s : Int))) = W4 at *
        have o0' : W4.cell? ⟨w.heap.size, 0, none⟩ = some (.int .u64 0) := hro4.cell (by decide)
        have o1' : W4.cell? ⟨w.heap.size, 1, none⟩ = some (.slice none 0 0) := hro4.cell (by decide)
        have o2' : W4.cell? ⟨w.heap.size, 2, none⟩ = some (.int .i64 0) := hro4.cell (by decide)
        refine bodyPost_ret (v := .tuple #[.agg #[.int .u64 0, .slice ta size size, .int .i64 ((size : Int) + (s : Int))], .int .i64 0]) (by simp [results, Tryz.results163, go_sem, o0', o1', o2']) rfl ⟨⟨ta, by rw [Int.add_comm], txt_item htx4 _ _ _⟩, since_item hsn4 _ _ _⟩
      · have hq : ((bd : Int) != 0) = true := by simp; omega
        clear d0 d2 n0 n2 HL hhd hh
        go_wp2_with fail
        refine bodyPost_ret (v := .tuple #[item0, .int .i64 bd]) (by simp [results, Tryz.results163, go_sem, o0, o1, o2]) rfl ⟨by first | rfl | exact Or.inr (Or.inl ⟨rfl, hbd, rfl⟩), since_item hsn3 _ _ _⟩
  · have hq : ((bv : Int) != 0) = true := by simp; omega
    have o0 : w2.cell? ⟨w.heap.size, 0, none⟩ = some (.int .u64 0) := hrw2.cell (by decide)
    have o1 : w2.cell? ⟨w.heap.size, 1, none⟩ = some (.slice none 0 0) := hrw2.cell (by decide)
    have o2 : w2.cell? ⟨w.heap.size, 2, none⟩ = some (.int .i64 0) := hrw2.cell (by decide)
    have p0 := hrw2.frozen 0
    have p1 := hrw2.frozen 1
    have p2 := hrw2.frozen 2
    go_wp2_with fail
    refine bodyPost_ret (v := .tuple #[item0, .int .i64 bv]) (by simp [results, Tryz.results163, go_sem, o0, o1, o2]) rfl ⟨Or.inl ⟨hbv, rfl⟩, since_item hsn2 _ _ _⟩
end Go.Proofs.YtonpmabdjngdcaaGreatDoor

/- look for the kinds Var, Bytes and Raw, at a Reader's place. -/
namespace Go.Proofs.YtonpmabdjngdcaaGreatDoor
open Go.RowKit

theorem lookBytes_any (b off m cap most : Nat) (z : Nat → Nat) (w : World) (hmax : m ≤ 281474976710656) (hcap : m ≤ cap) (hc : Byt w (some ⟨b, off, none⟩) m z) (hz : ∀ j, z j < 256) :
    Calls Tryz.prog 163 #[.slice (some ⟨b, off, none⟩) m cap, .int .u64 most] w fun e w' =>
      (∃ ta, e = .returned (.tuple #[.agg #[.int .u64 (0 : Nat), .slice ta (blook z m most).1 (blook z m most).1, .int .i64 ((blook z m most).2.1 : Nat)], .int .i64 ((blook z m most).2.2 : Nat)]) ∧ Txt w.heap.size w' ta (blook z m most).1 (fun j => z ((vlook z m most).2.1 + j))) ∧ w.Since w.heap.size w' := by
  obtain ⟨N, s, bv, hv⟩ : ∃ N s bv, vlook z m most = (N, s, bv) := ⟨_, _, _, rfl⟩
  unfold blook
  rw [hv]
  by_cases hbv : bv = 0
  · subst hbv
    rw [if_neg (by simp)]
    by_cases hN : m - s < N
    · simp only [hN, if_true]
      refine (lookBytes_walk b off m cap most z w N s 0 0 0 10 hmax hcap hc hz hv (fun _ => Or.inl ⟨hN, rfl, rfl, rfl⟩)).mono fun e w' ⟨h, hs⟩ => ⟨?_, hs⟩
      rcases h with ⟨h, _⟩ | ⟨_, _, he⟩ | ⟨_, h, _⟩
      · exact absurd rfl h
      · exact ⟨none, he, Or.inl ⟨rfl, rfl⟩⟩
      · exact absurd h (by decide)
    · simp only [hN, if_false]
      refine (lookBytes_walk b off m cap most z w N s 0 N N 0 hmax hcap hc hz hv (fun _ => Or.inr ⟨by omega, rfl, rfl, rfl⟩)).mono fun e w' ⟨h, hs⟩ => ⟨?_, hs⟩
      rcases h with ⟨h, _⟩ | ⟨_, h, _⟩ | ⟨_, _, h⟩
      · exact absurd rfl h
      · exact absurd rfl h
      · exact h
  · rw [if_pos hbv]
    refine (lookBytes_walk b off m cap most z w N s bv 0 0 0 hmax hcap hc hz hv (fun h => absurd h hbv)).mono fun e w' ⟨h, hs⟩ => ⟨?_, hs⟩
    rcases h with ⟨_, he⟩ | ⟨h, _⟩ | ⟨h, _⟩
    · exact ⟨none, he, Or.inl ⟨rfl, rfl⟩⟩
    · exact absurd h hbv
    · exact absurd h hbv

/-- So many bytes: how many, how many are taken, the fault. -/
def rlook (n m : Nat) : Nat × Nat × Nat := if m < n then (0, 0, 10) else (n, n, 0)
theorem lookRaw_any (b off m cap n : Nat) (z : Nat → Nat) (w : World) (hmax : m ≤ 281474976710656) (hcap : m ≤ cap) (hc : Byt w (some ⟨b, off, none⟩) m z) :
    Calls Tryz.prog 164 #[.slice (some ⟨b, off, none⟩) m cap, .int .u64 n] w fun e w' =>
      (∃ ta, e = .returned (.tuple #[.agg #[.int .u64 (0 : Nat), .slice ta (rlook n m).1 (rlook n m).1, .int .i64 ((rlook n m).2.1 : Nat)], .int .i64 ((rlook n m).2.2 : Nat)]) ∧ Txt w.heap.size w' ta (rlook n m).1 z) ∧ w.Since w.heap.size w' := by
  unfold rlook
  by_cases h : m < n
  · rw [if_pos h]
    exact (lookRaw_short _ m cap n w hmax h).mono fun e w' ⟨he, hs⟩ => ⟨⟨none, he, Or.inl ⟨rfl, rfl⟩⟩, hs⟩
  · rw [if_neg h]
    exact lookRaw_ok b off m cap n z w hmax hcap (by omega) hc

set_option maxHeartbeats 800000 in
theorem look_3 (sa : Option Addr) (m cap : Nat) (bound : Int) (N l size bd : Nat) (tx : Nat → Nat) (w : World)
    (hcall : ∀ W, w.Since w.heap.size W → Calls Tryz.prog 162 #[.slice sa m cap, .int .u64 bound] W fun e w' => (∃ ta, e = .returned (.tuple #[.agg #[.int .u64 N, .slice ta l l, .int .i64 size], .int .i64 bd]) ∧ Txt W.heap.size w' ta l tx) ∧ W.Since W.heap.size w') :
    Calls Tryz.prog 140 #[.int .i64 3, .slice sa m cap, .int .u64 bound] w fun e w' => (∃ ta, e = .returned (.tuple #[.agg #[.int .u64 N, .slice ta l l, .int .i64 size], .int .i64 bd]) ∧ Txt w.heap.size w' ta l tx) ∧ w.Since w.heap.size w' := by
  have hs0 : w.Since w.heap.size (w.alloc (.cells #[.int .u64 0, .slice none 0 0, .int .i64 0] 137)) := (World.Since.refl _ _).alloc (Nat.le_refl _) _
  have hr0 := item_row w 0 none 0 0
  have e0 : (w.alloc (.cells #[.int .u64 0, .slice none 0 0, .int .i64 0] 137)).heap.size = w.heap.size + 1 := by simp
  have H := hide (hcall _ hs0)
  clear hcall
  go_enter Tryz.func140, Tryz.ntmps140
  go_wp2_with fail
  generalize w.alloc (.cells #[.int .u64 0, .slice none 0 0, .int .i64 0] 137) = w0 at *
  refine (unhide H).mono ?_
  rintro e w1 ⟨⟨ta, rfl, htx⟩, h1⟩
  have hrw := row_since hr0 h1
  have o0 : w1.cell? ⟨w.heap.size, 0, none⟩ = some (.int .u64 0) := hrw.cell (by decide)
  have o1 : w1.cell? ⟨w.heap.size, 1, none⟩ = some (.slice none 0 0) := hrw.cell (by decide)
  have o2 : w1.cell? ⟨w.heap.size, 2, none⟩ = some (.int .i64 0) := hrw.cell (by decide)
  have p0 := hrw.frozen 0
  have p1 := hrw.frozen 1
  have p2 := hrw.frozen 2
  have hsn : w.Since w.heap.size w1 := hs0.trans (since_mono h1 (by omega))
  rw [e0] at htx
  clear hrw h1 hs0 hr0 H
  go_wp2_with fail
  refine bodyPost_ret (v := .tuple #[.agg #[.int .u64 N, .slice ta l l, .int .i64 size], .int .i64 bd]) (by simp [results, Tryz.results140, go_sem, o0, o1, o2]) rfl ⟨⟨ta, rfl, txt_item htx _ _ _⟩, since_item hsn _ _ _⟩

set_option maxHeartbeats 800000 in
theorem look_4 (sa : Option Addr) (m cap : Nat) (bound : Int) (N l size bd : Nat) (tx : Nat → Nat) (w : World)
    (hcall : ∀ W, w.Since w.heap.size W → Calls Tryz.prog 163 #[.slice sa m cap, .int .u64 bound] W fun e w' => (∃ ta, e = .returned (.tuple #[.agg #[.int .u64 N, .slice ta l l, .int .i64 size], .int .i64 bd]) ∧ Txt W.heap.size w' ta l tx) ∧ W.Since W.heap.size w') :
    Calls Tryz.prog 140 #[.int .i64 4, .slice sa m cap, .int .u64 bound] w fun e w' => (∃ ta, e = .returned (.tuple #[.agg #[.int .u64 N, .slice ta l l, .int .i64 size], .int .i64 bd]) ∧ Txt w.heap.size w' ta l tx) ∧ w.Since w.heap.size w' := by
  have hs0 : w.Since w.heap.size (w.alloc (.cells #[.int .u64 0, .slice none 0 0, .int .i64 0] 137)) := (World.Since.refl _ _).alloc (Nat.le_refl _) _
  have hr0 := item_row w 0 none 0 0
  have e0 : (w.alloc (.cells #[.int .u64 0, .slice none 0 0, .int .i64 0] 137)).heap.size = w.heap.size + 1 := by simp
  have H := hide (hcall _ hs0)
  clear hcall
  go_enter Tryz.func140, Tryz.ntmps140
  go_wp2_with fail
  generalize w.alloc (.cells #[.int .u64 0, .slice none 0 0, .int .i64 0] 137) = w0 at *
  refine (unhide H).mono ?_
  rintro e w1 ⟨⟨ta, rfl, htx⟩, h1⟩
  have hrw := row_since hr0 h1
  have o0 : w1.cell? ⟨w.heap.size, 0, none⟩ = some (.int .u64 0) := hrw.cell (by decide)
  have o1 : w1.cell? ⟨w.heap.size, 1, none⟩ = some (.slice none 0 0) := hrw.cell (by decide)
  have o2 : w1.cell? ⟨w.heap.size, 2, none⟩ = some (.int .i64 0) := hrw.cell (by decide)
  have p0 := hrw.frozen 0
  have p1 := hrw.frozen 1
  have p2 := hrw.frozen 2
  have hsn : w.Since w.heap.size w1 := hs0.trans (since_mono h1 (by omega))
  rw [e0] at htx
  clear hrw h1 hs0 hr0 H
  go_wp2_with fail
  refine bodyPost_ret (v := .tuple #[.agg #[.int .u64 N, .slice ta l l, .int .i64 size], .int .i64 bd]) (by simp [results, Tryz.results140, go_sem, o0, o1, o2]) rfl ⟨⟨ta, rfl, txt_item htx _ _ _⟩, since_item hsn _ _ _⟩

set_option maxHeartbeats 800000 in
theorem look_5 (sa : Option Addr) (m cap : Nat) (bound : Int) (N l size bd : Nat) (tx : Nat → Nat) (w : World)
    (hcall : ∀ W, w.Since w.heap.size W → Calls Tryz.prog 164 #[.slice sa m cap, .int .u64 bound] W fun e w' => (∃ ta, e = .returned (.tuple #[.agg #[.int .u64 N, .slice ta l l, .int .i64 size], .int .i64 bd]) ∧ Txt W.heap.size w' ta l tx) ∧ W.Since W.heap.size w') :
    Calls Tryz.prog 140 #[.int .i64 5, .slice sa m cap, .int .u64 bound] w fun e w' => (∃ ta, e = .returned (.tuple #[.agg #[.int .u64 N, .slice ta l l, .int .i64 size], .int .i64 bd]) ∧ Txt w.heap.size w' ta l tx) ∧ w.Since w.heap.size w' := by
  have hs0 : w.Since w.heap.size (w.alloc (.cells #[.int .u64 0, .slice none 0 0, .int .i64 0] 137)) := (World.Since.refl _ _).alloc (Nat.le_refl _) _
  have hr0 := item_row w 0 none 0 0
  have e0 : (w.alloc (.cells #[.int .u64 0, .slice none 0 0, .int .i64 0] 137)).heap.size = w.heap.size + 1 := by simp
  have H := hide (hcall _ hs0)
  clear hcall
  go_enter Tryz.func140, Tryz.ntmps140
  go_wp2_with fail
  generalize w.alloc (.cells #[.int .u64 0, .slice none 0 0, .int .i64 0] 137) = w0 at *
  refine (unhide H).mono ?_
  rintro e w1 ⟨⟨ta, rfl, htx⟩, h1⟩
  have hrw := row_since hr0 h1
  have o0 : w1.cell? ⟨w.heap.size, 0, none⟩ = some (.int .u64 0) := hrw.cell (by decide)
  have o1 : w1.cell? ⟨w.heap.size, 1, none⟩ = some (.slice none 0 0) := hrw.cell (by decide)
  have o2 : w1.cell? ⟨w.heap.size, 2, none⟩ = some (.int .i64 0) := hrw.cell (by decide)
  have p0 := hrw.frozen 0
  have p1 := hrw.frozen 1
  have p2 := hrw.frozen 2
  have hsn : w.Since w.heap.size w1 := hs0.trans (since_mono h1 (by omega))
  rw [e0] at htx
  clear hrw h1 hs0 hr0 H
  go_wp2_with fail
  refine bodyPost_ret (v := .tuple #[.agg #[.int .u64 N, .slice ta l l, .int .i64 size], .int .i64 bd]) (by simp [results, Tryz.results140, go_sem, o0, o1, o2]) rfl ⟨⟨ta, rfl, txt_item htx _ _ _⟩, since_item hsn _ _ _⟩

/-- A Reader's bytes from its place on. -/
theorem byt_place {w W : World} {rb hb n at' bad : Nat} {z : Nat → Nat} (h : IsR w rb hb n z at' bad) (hW : w.Since w.heap.size W) (o : Nat) (ho : n ≠ at' → o = at') : Byt W (some ⟨hb, o, none⟩) (n - at') (fun j => z (at' + j)) := fun j hj => by
  have hrow := row_since h.row hW
  have := hrow.cell (i := at' + j) (by omega)
  exact ⟨hb, o, rfl, by rw [ho (by omega)]; exact this⟩
theorem looks_var (rb hb n at' most : Nat) (z : Nat → Nat) (w : World) (h : IsR w rb hb n z at' 0) :
    Looks w (if n = at' then some ⟨hb, 0, none⟩ else some ⟨hb, at', none⟩) (n - at') 3 most (vlook (fun j => z (at' + j)) (n - at') most).1 0 (vlook (fun j => z (at' + j)) (n - at') most).2.1 (vlook (fun j => z (at' + j)) (n - at') most).2.2 z := fun W hW => by
  have hroom := h.room
  refine look_3 _ (n - at') (n - at') most _ 0 _ _ z W (fun W' hW' => ?_)
  have hW2 := hW.trans (since_mono hW' hW.size)
  have key : ∀ o, (n ≠ at' → o = at') → Calls Tryz.prog 162 #[.slice (some ⟨hb, o, none⟩) (n - at') (n - at'), .int .u64 most] W' fun e w' => (∃ ta, e = .returned (.tuple #[.agg #[.int .u64 ((vlook (fun j => z (at' + j)) (n - at') most).1 : Nat), .slice ta 0 0, .int .i64 ((vlook (fun j => z (at' + j)) (n - at') most).2.1 : Nat)], .int .i64 ((vlook (fun j => z (at' + j)) (n - at') most).2.2 : Nat)]) ∧ Txt W'.heap.size w' ta 0 z) ∧ W'.Since W'.heap.size w' := fun o ho =>
    (lookVar_any _ (n - at') (n - at') most (fun j => z (at' + j)) W' (by omega) (byt_place h hW2 o ho) (fun j => h.byte _)).mono fun e w' ⟨he, hs⟩ => ⟨⟨none, he, Or.inl ⟨rfl, rfl⟩⟩, hs⟩
  by_cases hna : n = at'
  · rw [if_pos hna]; exact key 0 (fun h => absurd hna h)
  · rw [if_neg hna]; exact key at' (fun _ => rfl)
theorem looks_bytes (rb hb n at' most : Nat) (z : Nat → Nat) (w : World) (h : IsR w rb hb n z at' 0) :
    Looks w (if n = at' then some ⟨hb, 0, none⟩ else some ⟨hb, at', none⟩) (n - at') 4 most 0 (blook (fun j => z (at' + j)) (n - at') most).1 (blook (fun j => z (at' + j)) (n - at') most).2.1 (blook (fun j => z (at' + j)) (n - at') most).2.2 (fun j => z (at' + ((vlook (fun j => z (at' + j)) (n - at') most).2.1 + j))) := fun W hW => by
  have hroom := h.room
  refine look_4 _ (n - at') (n - at') most 0 _ _ _ _ W (fun W' hW' => ?_)
  have hW2 := hW.trans (since_mono hW' hW.size)
  by_cases hna : n = at'
  · rw [if_pos hna]; exact lookBytes_any hb 0 (n - at') (n - at') most (fun j => z (at' + j)) W' (by omega) (Nat.le_refl _) (byt_place h hW2 0 (fun h => absurd hna h)) (fun j => h.byte _)
  · rw [if_neg hna]; exact lookBytes_any hb at' (n - at') (n - at') most (fun j => z (at' + j)) W' (by omega) (Nat.le_refl _) (byt_place h hW2 at' (fun _ => rfl)) (fun j => h.byte _)
theorem looks_raw (rb hb n at' k : Nat) (z : Nat → Nat) (w : World) (h : IsR w rb hb n z at' 0) :
    Looks w (if n = at' then some ⟨hb, 0, none⟩ else some ⟨hb, at', none⟩) (n - at') 5 k 0 (rlook k (n - at')).1 (rlook k (n - at')).2.1 (rlook k (n - at')).2.2 (fun j => z (at' + j)) := fun W hW => by
  have hroom := h.room
  refine look_5 _ (n - at') (n - at') k 0 _ _ _ _ W (fun W' hW' => ?_)
  have hW2 := hW.trans (since_mono hW' hW.size)
  by_cases hna : n = at'
  · rw [if_pos hna]; exact lookRaw_any hb 0 (n - at') (n - at') k (fun j => z (at' + j)) W' (by omega) (Nat.le_refl _) (byt_place h hW2 0 (fun h => absurd hna h))
  · rw [if_neg hna]; exact lookRaw_any hb at' (n - at') (n - at') k (fun j => z (at' + j)) W' (by omega) (Nat.le_refl _) (byt_place h hW2 at' (fun _ => rfl))
end Go.Proofs.YtonpmabdjngdcaaGreatDoor

/- The Reader's reads, whatever its place and fault. -/
namespace Go.Proofs.YtonpmabdjngdcaaGreatDoor
open Go.RowKit

/-- Behind a read of a number of fixed size: the number, the place, the fault. -/
def fixAns (z : Nat → Nat) (n width at' bad : Nat) : Nat × Nat × Nat := if bad ≠ 0 then (0, at', bad) else if n - at' < width then (0, at', 10) else (be (fun j => z (at' + j)) width, at' + width, 0)
def varAns (z : Nat → Nat) (n most at' bad : Nat) : Nat × Nat × Nat := if bad ≠ 0 then (0, at', bad) else ((vlook (fun j => z (at' + j)) (n - at') most).1, at' + (vlook (fun j => z (at' + j)) (n - at') most).2.1, (vlook (fun j => z (at' + j)) (n - at') most).2.2)
/-- Behind a read of a text: its length, where it lies, the place, the fault. -/
def bytesAns (z : Nat → Nat) (n most at' bad : Nat) : Nat × Nat × Nat × Nat := if bad ≠ 0 then (0, at', at', bad) else ((blook (fun j => z (at' + j)) (n - at') most).1, at' + (vlook (fun j => z (at' + j)) (n - at') most).2.1, at' + (blook (fun j => z (at' + j)) (n - at') most).2.1, (blook (fun j => z (at' + j)) (n - at') most).2.2)
def rawAns (n : Nat) (k : Int) (at' bad : Nat) : Nat × Nat × Nat × Nat := if bad ≠ 0 then (0, at', at', bad) else if k < 0 then (0, at', at', 14) else ((rlook k.toNat (n - at')).1, at', at' + (rlook k.toNat (n - at')).2.1, (rlook k.toNat (n - at')).2.2)
theorem blook_size (z : Nat → Nat) (m most : Nat) (h : (blook z m most).2.2 = 0) : (blook z m most).2.1 ≤ m := by
  unfold blook at h ⊢
  split at h
  · next h1 => exact absurd h h1
  · next h1 =>
    rw [if_neg h1]
    split at h
    · simp at h
    · next h2 =>
      rw [if_neg h2]
      have := (vlook_size z m most (by omega)).1
      show (vlook z m most).2.1 + (vlook z m most).1 ≤ m
      omega
theorem blook_bad (z : Nat → Nat) (m most : Nat) (h : (blook z m most).2.2 ≠ 0) : (blook z m most).1 = 0 ∧ (blook z m most).2.1 = 0 := by
  unfold blook at h ⊢
  split at h
  · next h1 => rw [if_pos h1]; exact ⟨rfl, rfl⟩
  · next h1 =>
    rw [if_neg h1]
    split at h
    · next h2 => rw [if_pos h2]; exact ⟨rfl, rfl⟩
    · exact absurd rfl h
theorem rlook_size (k m : Nat) (h : (rlook k m).2.2 = 0) : (rlook k m).2.1 ≤ m := by
  unfold rlook at h ⊢
  split at h
  · simp at h
  · next h1 => rw [if_neg h1]; show k ≤ m; omega
theorem rlook_bad (k m : Nat) (h : (rlook k m).2.2 ≠ 0) : (rlook k m).1 = 0 ∧ (rlook k m).2.1 = 0 := by
  unfold rlook at h ⊢
  split at h
  · next h1 => rw [if_pos h1]; exact ⟨rfl, rfl⟩
  · exact absurd rfl h
theorem isR_eq {w : World} {rb hb n a b c d : Nat} {z : Nat → Nat} (h : IsR w rb hb n z a c) (e : a = b) (f : c = d) : IsR w rb hb n z b d := by subst e; subst f; exact h
theorem txt_none (B : Nat) (w : World) (l : Nat) (tx : Nat → Nat) (h : l = 0) : Txt B w none l tx := Or.inl ⟨rfl, h⟩
theorem Txt.mono' {B B' : Nat} {w : World} {ta : Option Addr} {l : Nat} {tx : Nat → Nat} (h : Txt B w ta l tx) (hB : B' ≤ B) : Txt B' w ta l tx := by
  rcases h with h | ⟨t, e, hb, hr⟩
  · exact Or.inl h
  · exact Or.inr ⟨t, e, by omega, hr⟩
theorem be_pos (z : Nat → Nat) (hz : ∀ j, z j < 256) (i : Nat) (hi : i ≤ 4) : be z i < 4294967296 :=
  Nat.lt_of_lt_of_le (be_lt z hz i) (Nat.pow_le_pow_right (n := 256) (by decide) hi)

set_option maxHeartbeats 800000 in
theorem u8_r (rb hb n at' bad : Nat) (z : Nat → Nat) (w : World) (h : IsR w rb hb n z at' bad) (hw : Wid w) :
    Calls Tryz.prog 86 #[.pointer (some ⟨rb, 0, none⟩)] w fun e w' => e = .returned (.int .u8 ((fixAns z n 1 at' bad).1 : Nat)) ∧ But rb w w' ∧ IsR w' rb hb n z (fixAns z n 1 at' bad).2.1 (fixAns z n 1 at' bad).2.2 := by
  by_cases hbad : bad = 0
  · subst hbad
    unfold fixAns
    rw [if_neg (by simp)]
    by_cases hs : n - at' < 1
    · rw [if_pos hs]
      have hn := next_any rb hb n at' z 0 0 _ _ _ _ _ w h (looks_short 0 hb n at' z w (by decide) hw hs) (fun e => by simp at e)
      go_enter Tryz.func86, Tryz.ntmps86
      go_wp2_with fail
      refine hn.mono ?_
      rintro e w1 ⟨hb1, ⟨he, _⟩ | ⟨_, rfl, hI⟩⟩
      · exact absurd he (by decide)
      · have hfl := fld0 w1 0 0 none 0
        go_wp2
        go_ret
        exact ⟨rfl, hb1, hI⟩
    · rw [if_neg hs]
      have hle := h.le
      have hlt : be (fun j => z (at' + j)) 1 < 256 := be_lt _ (fun j => h.byte _) 1
      have hn := next_any rb hb n at' z 0 0 _ _ _ _ _ w h (looks_ok 0 rb hb n at' z w (by decide) hw h (by show 1 ≤ n - at'; omega)) (fun _ => by show at' + 1 ≤ n; omega)
      go_enter Tryz.func86, Tryz.ntmps86
      go_wp2_with fail
      refine hn.mono ?_
      rintro e w1 ⟨hb1, ⟨_, ⟨ta, rfl, _⟩, hI⟩ | ⟨hne, _⟩⟩
      · have hfl := fld0 w1 (be (fun j => z (at' + j)) (widthOf 0) : Nat) (widthOf 0 : Nat) ta 0
        change be (fun j => z (at' + j)) (widthOf 0) < _ at hlt
        go_wp2
        go_ret
        exact ⟨rfl, hb1, hI⟩
      · exact absurd rfl hne
  · unfold fixAns
    rw [if_pos hbad]
    go_enter Tryz.func86, Tryz.ntmps86
    go_wp2_with fail
    refine (next_bad rb hb n at' bad z 0 0 w h hbad).mono ?_
    rintro e w1 ⟨rfl, hs⟩
    have hfl := fld0 w1 0 0 none 0
    go_wp2
    go_ret
    exact ⟨rfl, But.of_since hs, h.since hs⟩

set_option maxHeartbeats 800000 in
theorem u32_r (rb hb n at' bad : Nat) (z : Nat → Nat) (w : World) (h : IsR w rb hb n z at' bad) (hw : Wid w) :
    Calls Tryz.prog 41 #[.pointer (some ⟨rb, 0, none⟩)] w fun e w' => e = .returned (.int .u32 ((fixAns z n 4 at' bad).1 : Nat)) ∧ But rb w w' ∧ IsR w' rb hb n z (fixAns z n 4 at' bad).2.1 (fixAns z n 4 at' bad).2.2 := by
  by_cases hbad : bad = 0
  · subst hbad
    unfold fixAns
    rw [if_neg (by simp)]
    by_cases hs : n - at' < 4
    · rw [if_pos hs]
      have hn := next_any rb hb n at' z 1 0 _ _ _ _ _ w h (looks_short 1 hb n at' z w (by decide) hw hs) (fun e => by simp at e)
      go_enter Tryz.func41, Tryz.ntmps41
      go_wp2_with fail
      refine hn.mono ?_
      rintro e w1 ⟨hb1, ⟨he, _⟩ | ⟨_, rfl, hI⟩⟩
      · exact absurd he (by decide)
      · have hfl := fld0 w1 0 0 none 0
        go_wp2
        go_ret
        exact ⟨rfl, hb1, hI⟩
    · rw [if_neg hs]
      have hle := h.le
      have hlt : be (fun j => z (at' + j)) 4 < 4294967296 := be_pos _ (fun j => h.byte _) 4 (by decide)
      have hn := next_any rb hb n at' z 1 0 _ _ _ _ _ w h (looks_ok 1 rb hb n at' z w (by decide) hw h (by show 4 ≤ n - at'; omega)) (fun _ => by show at' + 4 ≤ n; omega)
      go_enter Tryz.func41, Tryz.ntmps41
      go_wp2_with fail
      refine hn.mono ?_
      rintro e w1 ⟨hb1, ⟨_, ⟨ta, rfl, _⟩, hI⟩ | ⟨hne, _⟩⟩
      · have hfl := fld0 w1 (be (fun j => z (at' + j)) (widthOf 1) : Nat) (widthOf 1 : Nat) ta 0
        change be (fun j => z (at' + j)) (widthOf 1) < _ at hlt
        go_wp2
        go_ret
        exact ⟨rfl, hb1, hI⟩
      · exact absurd rfl hne
  · unfold fixAns
    rw [if_pos hbad]
    go_enter Tryz.func41, Tryz.ntmps41
    go_wp2_with fail
    refine (next_bad rb hb n at' bad z 1 0 w h hbad).mono ?_
    rintro e w1 ⟨rfl, hs⟩
    have hfl := fld0 w1 0 0 none 0
    go_wp2
    go_ret
    exact ⟨rfl, But.of_since hs, h.since hs⟩

set_option maxHeartbeats 800000 in
theorem var_r (rb hb n at' bad most : Nat) (z : Nat → Nat) (w : World) (h : IsR w rb hb n z at' bad) :
    Calls Tryz.prog 118 #[.pointer (some ⟨rb, 0, none⟩), .int .u64 most] w fun e w' => e = .returned (.int .u64 ((varAns z n most at' bad).1 : Nat)) ∧ But rb w w' ∧ IsR w' rb hb n z (varAns z n most at' bad).2.1 (varAns z n most at' bad).2.2 := by
  by_cases hbad : bad = 0
  · subst hbad
    unfold varAns
    rw [if_neg (by simp)]
    have hle := h.le
    have hn := next_any rb hb n at' z 3 most _ _ _ _ _ w h (looks_var rb hb n at' most z w h) (fun e => by have := (vlook_size _ _ _ e).1; omega)
    have hvb := vlook_bad (fun j => z (at' + j)) (n - at') most
    generalize vlook (fun j => z (at' + j)) (n - at') most = V at *
    obtain ⟨N, s, bd⟩ := V
    go_enter Tryz.func118, Tryz.ntmps118
    go_wp2_with fail
    refine hn.mono ?_
    rintro e w1 ⟨hb1, ⟨hbd, ⟨ta, rfl, _⟩, hI⟩ | ⟨hne, rfl, hI⟩⟩
    · have hfl := fld0 w1 N s ta 0
      clear hvb hn
      go_wp2
      go_ret
      exact ⟨rfl, hb1, isR_eq hI rfl hbd.symm⟩
    · have hfl := fld0 w1 0 0 none 0
      obtain ⟨e1, e2⟩ := hvb hne
      replace e1 : N = 0 := e1
      replace e2 : s = 0 := e2
      subst e1
      subst e2
      clear hvb hn
      go_wp2
      go_ret
      exact ⟨rfl, hb1, hI⟩
  · unfold varAns
    rw [if_pos hbad]
    go_enter Tryz.func118, Tryz.ntmps118
    go_wp2_with fail
    refine (next_bad rb hb n at' bad z 3 most w h hbad).mono ?_
    rintro e w1 ⟨rfl, hs⟩
    have hfl := fld0 w1 0 0 none 0
    go_wp2
    go_ret
    exact ⟨rfl, But.of_since hs, h.since hs⟩

set_option maxHeartbeats 800000 in
theorem bytes_r (rb hb n at' bad : Nat) (most : Int) (z : Nat → Nat) (w : World) (h : IsR w rb hb n z at' bad) (hm : most ≤ 9223372036854775807) :
    Calls Tryz.prog 130 #[.pointer (some ⟨rb, 0, none⟩), .int .i64 most] w fun e w' => (∃ ta, e = .returned (.slice ta (bytesAns z n most.toNat at' bad).1 (bytesAns z n most.toNat at' bad).1) ∧ Txt w.heap.size w' ta (bytesAns z n most.toNat at' bad).1 (fun j => z ((bytesAns z n most.toNat at' bad).2.1 + j))) ∧ But rb w w' ∧ IsR w' rb hb n z (bytesAns z n most.toNat at' bad).2.2.1 (bytesAns z n most.toNat at' bad).2.2.2 := by
  obtain ⟨M, hM, hMb⟩ : ∃ M : Nat, M = most.toNat ∧ M < 18446744073709551616 := ⟨_, rfl, by omega⟩
  rw [← hM]
  have key : Calls Tryz.prog 85 #[.pointer (some ⟨rb, 0, none⟩), .int .i64 4, .int .u64 (M : Nat)] w fun e w' => (∃ ta N S, e = .returned (.agg #[.int .u64 N, .slice ta (bytesAns z n M at' bad).1 (bytesAns z n M at' bad).1, .int .i64 S]) ∧ Txt w.heap.size w' ta (bytesAns z n M at' bad).1 (fun j => z ((bytesAns z n M at' bad).2.1 + j))) ∧ But rb w w' ∧ IsR w' rb hb n z (bytesAns z n M at' bad).2.2.1 (bytesAns z n M at' bad).2.2.2 := by
    by_cases hbad : bad = 0
    · subst hbad
      unfold bytesAns
      rw [if_neg (by simp)]
      have hle := h.le
      have hn := next_any rb hb n at' z 4 M _ _ _ _ _ w h (looks_bytes rb hb n at' M z w h) (fun e => by have := blook_size _ _ _ e; omega)
      have hvb := blook_bad (fun j => z (at' + j)) (n - at') M
      refine hn.mono ?_
      generalize blook (fun j => z (at' + j)) (n - at') M = V at *
      generalize vlook (fun j => z (at' + j)) (n - at') M = V2 at *
      obtain ⟨l, s, bd⟩ := V
      rintro e w1 ⟨hb1, ⟨hbd, ⟨ta, rfl, htx⟩, hI⟩ | ⟨hne, rfl, hI⟩⟩
      · exact ⟨⟨ta, _, _, rfl, by simpa [Nat.add_assoc] using htx⟩, hb1, isR_eq hI rfl hbd.symm⟩
      · obtain ⟨e1, e2⟩ := hvb hne
        replace e1 : l = 0 := e1
        replace e2 : s = 0 := e2
        subst e1
        subst e2
        exact ⟨⟨none, _, _, rfl, txt_none _ _ _ _ rfl⟩, hb1, hI⟩
    · unfold bytesAns
      rw [if_pos hbad]
      exact (next_bad rb hb n at' bad z 4 _ w h hbad).mono fun e w1 ⟨he, hs⟩ => ⟨⟨none, _, _, he, txt_none _ _ _ _ rfl⟩, But.of_since hs, h.since hs⟩
  generalize (bytesAns z n M at' bad) = V at *
  obtain ⟨l, f, a2, b2⟩ := V
  by_cases hneg : most < 0
  · obtain rfl : M = 0 := by omega
    have e0 : ((0 : Nat) : Int) = 0 := rfl
    rw [e0] at key
    have H := hide key
    clear key e0 hM
    go_enter Tryz.func130, Tryz.ntmps130
    go_wp2_with fail
    all_goals
      refine (unhide H).mono ?_
      rintro e w1 ⟨⟨ta, N, S, rfl, htx⟩, hb1, hI⟩
      have hfl := fld1 w1 N S ta l
      clear H
      go_wp2
      go_ret
      exact ⟨⟨ta, rfl, htx⟩, hb1, hI⟩
  · obtain rfl : most = (M : Nat) := by omega
    have H := hide key
    clear key hM
    go_enter Tryz.func130, Tryz.ntmps130
    go_wp2_with fail
    all_goals
      refine (unhide H).mono ?_
      rintro e w1 ⟨⟨ta, N, S, rfl, htx⟩, hb1, hI⟩
      have hfl := fld1 w1 N S ta l
      clear H
      go_wp2
      go_ret
      exact ⟨⟨ta, rfl, htx⟩, hb1, hI⟩

theorem since_drewN' {B : Nat} {w w' : World} (h : w.Since B w') (n : Nat) : w.Since B (w'.drewN n) := ⟨h.os, h.tape, h.output, h.size, h.block⟩
theorem end_r (rb hb n at' bad : Nat) (z : Nat → Nat) (w : World) (h : IsR w rb hb n z at' bad) :
    Calls Tryz.prog 87 #[.pointer (some ⟨rb, 0, none⟩)] w fun e w' => e = .returned (.int .i64 ((if bad = 0 ∧ at' < n then 13 else bad : Nat) : Int)) ∧ ∃ m, w' = w.drewN m := by
  have c2 := h.c2
  by_cases hbad : bad = 0
  · subst hbad
    have hlf := left_any rb hb n at' 0 z w h
    by_cases hlt : at' < n
    · rw [if_pos ⟨rfl, hlt⟩]
      have hp : (0 : Int) < ((n - at' : Nat) : Int) := by omega
      generalize n - at' = d at *
      go_enter Tryz.func87, Tryz.ntmps87
      go_wp2_with fail
      refine hlf.mono ?_
      rintro e w1 ⟨rfl, m, rfl⟩
      go_wp2
      go_ret
      exact ⟨rfl, m, rfl⟩
    · rw [if_neg (by omega)]
      have hp : ((n - at' : Nat) : Int) = 0 := by omega
      rw [hp] at hlf
      go_enter Tryz.func87, Tryz.ntmps87
      go_wp2_with fail
      refine hlf.mono ?_
      rintro e w1 ⟨rfl, m, rfl⟩
      have c3 := (h.since (since_drewN' (World.Since.refl _ _) m)).c2
      go_wp2
      go_ret
      exact ⟨rfl, m, rfl⟩
  · rw [if_neg (by omega)]
    have hq : ((bad : Int) == 0) = false := by simp; omega
    go_enter Tryz.func87, Tryz.ntmps87
    go_wp2
    go_ret
    exact ⟨rfl, 0, rfl⟩
end Go.Proofs.YtonpmabdjngdcaaGreatDoor
