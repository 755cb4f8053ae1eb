/- A word is finished: it goes behind the others, and the next one begins. -/
import Derived.Test.YthoeehgnkolgpaaDoorWords1
import Derived.Lib.BufferRead
namespace Go.Proofs.YthoeehgnkolgpaaDoor
open Go.RowKit

/-- append in a region that draws, by its run. -/
theorem step_append_eq {P : Program} {w w' : World} {ops : Array Oper} {o : Oper} {a : Act} {K : Act → World → Prop} {Q : Exit → Act → World → Prop} {E : Prop} (hgd : o.guard = none) (s x : Operand) (t : TypeId)
    (ho : o.op = .call { callee := .builtin .append, args := #[s, x], argTypes := #[t, t] }) (v u v' : Value) (hs : a.eval s = v) (hx : a.eval x = u)
    (hrun : (Builtin.append_ #[t, t] o.type #[v, u]).run P w = .ok v' w') (h : K (a.put o.dst v') w') : if Region.wanted o (yielded ops a.tmps) = true then Oper.wp P o a w K Q else E := by
  have hw : Region.wanted o (yielded ops a.tmps) = true := by simp [Region.wanted, hgd]
  rw [if_pos hw]
  unfold Oper.wp
  simp [execOp, ho, resolve, invoke, builtin, hs, hx, hrun, Result.andThen]
  exact h

/-- string(b) of a row of bytes that is owned. -/
theorem back_own {w W : World} {K : Nat} {a : Option Addr} {c : Nat} {wd : List UInt8} (h : w.ownsRow K 5 1 (.slice a wd.length c) wd.length (Lib.byteCells wd)) (hW : W.heap = w.heap) :
    (convert 40 9 (.slice a wd.length c)).run Tryd.prog W = .ok (.string ⟨wd.toArray⟩) W := by
  have hcell : ∀ p, W.cell? p = w.cell? p := fun p => World.cell?_of_block (by rw [hW])
  rcases h.2 with ⟨e, hn⟩ | ⟨g, cap, cur, e, _, hg, hnc, _, hsz, htk⟩
  · obtain rfl : wd = [] := List.eq_nil_of_length_eq_zero hn
    simp only [Value.slice.injEq] at e
    obtain ⟨rfl, _, rfl⟩ := e
    exact Lib.run_convert_nil_bytes (P := Tryd.prog) W 40 9 5 0 Tryd.underlying40 Tryd.underlying5 Tryd.underlying9
  · simp only [Value.slice.injEq] at e
    obtain ⟨rfl, _, rfl⟩ := e
    exact run_convert_bytes_back (P := Tryd.prog) W 40 9 5 ⟨g, 0, none⟩ c wd Tryd.underlying40 Tryd.underlying5 Tryd.underlying9 (fun j hj => by
      rw [hcell]
      refine h.cells (g := g) rfl j _ ?_
      simp [Lib.byteCells, hj])
theorem info9 : (Tryd.prog.info? 9).map (fun i => (i.zero, i.size, i.bytes)) = some (some (.string ⟨#[]⟩), 1, 16) := by kernel_rfl
theorem app_str {w : World} {K n : Nat} {v : Value} {xs : List Value} (h : w.ownsRow K 9 1 v n xs) (S : ByteArray) (hb : (n + 1) * 16 ≤ 140737488355328) (hK : K ≤ w.heap.size) (ty : TypeId) :
    ∃ v' w', (Builtin.append_ #[22, 22] ty #[v, .slice (some ⟨w.heap.size, 0, none⟩) 1 1]).run Tryd.prog (w.alloc (.cells #[.string S] 9)).drew = .ok v' w' ∧ w'.ownsRow K 9 1 v' (n + 1) (xs ++ [.string S]) ∧ (w.alloc (.cells #[.string S] 9)).grownBy w' v.ownBlock := by
  obtain ⟨i0, hi, hz0, hz1, hz2⟩ := info_parts info9
  obtain ⟨v', w', h1, h2, h3, _⟩ := run_append_own (P := Tryd.prog) (w := (w.alloc (.cells #[.string S] 9)).drew) K 22 ty 9 i0 (.string ⟨#[]⟩) 1 16 Tryd.underlying22 hi hz0 hz1 hz2 rfl (by decide) v n xs ((h.alloc _).drew) ⟨w.heap.size, 0, none⟩ 1 1 [.string S] rfl
    (fun j u hj => by
      obtain ⟨hj1, hj2⟩ := List.getElem?_eq_some_iff.1 hj
      have : j = 0 := by simpa using hj1
      subst this
      rw [← hj2]
      show (w.alloc _).cell? _ = _
      simp [Addr.add])
    (fun u hu => by simp at hu; subst hu; rfl) (by have : maxLen = 9223372036854775807 := rfl; omega) hb (by simp; omega)
  exact ⟨v', w', h1, h2, ⟨h3.os, h3.tape, h3.output, h3.size, h3.block⟩⟩
theorem cut0 (a : Option Addr) (n c : Nat) (hnone : a = none → n = 0 ∧ c = 0) (hsp : ∀ ad, a = some ad → ad.spot = none) (W : World) :
    (Instr.sliceAt 40 (.slice a n c) none (some (.int .i64 0)) none).run Tryd.prog W = .ok (.slice a 0 c) W := by
  cases a with
  | none =>
    obtain ⟨rfl, rfl⟩ := hnone rfl
    kernel_rfl
  | some ad =>
    rw [run_sliceAt_slice _ _ _ _ _ _ (show Tryd.prog.underlying 40 = some (.slice (Tryd.prog.elem 40)) by kernel_rfl)]
    go_simp

set_option maxHeartbeats 1600000 in
set_option maxRecDepth 100000 in
theorem finish_any (B K a : Nat) (wd : List UInt8) (ws : List (List UInt8)) (vw vs : Value) (w : World) (h : Part B K a wd ws vw vs w) (hlen : (ws.length + 1) * 16 ≤ 140737488355328) :
    Calls Tryd.prog 73 #[.pointer (some ⟨B, 0, none⟩)] w fun e w' => e = .returned (.tuple #[]) ∧ (∃ vw' vs', Part B K 0 [] (ws ++ [wd]) vw' vs' w') ∧ Kp B K w w' := by
  obtain ⟨v', w1, hrun, hown, hg⟩ := app_str h.os ⟨wd.toArray⟩ hlen h.top 22
  obtain ⟨va, vc, rfl⟩ := own_form h.ow
  obtain ⟨sa, sc, rfl⟩ := own_form h.os
  obtain ⟨ta, tc, rfl⟩ := own_form hown
  have c1 := box_cell h.box 1 (by simp)
  have c2 := box_cell h.box 2 (by simp)
  simp only [List.getElem_toArray, List.getElem_cons_succ, List.getElem_cons_zero] at c1 c2
  have hcv := back_own h.ow (W := w.drew) rfl
  have H := hide h
  have hBw : B < w.heap.size := Nat.lt_of_lt_of_le h.low h.top
  have hrow : ∀ k, (Value.slice sa ws.length sc).ownBlock = some k → K ≤ k := fun k hk => (World.ownsRow.lt h.os k hk).1
  have hkeep : ∀ k, k < K → w1.heap[k]? = w.heap[k]? := fun k hk => by
    rw [hg.block k (by simp; have := h.top; omega) (fun e => by have := hrow k e.symm; omega)]
    exact Below.heap_alloc _ _ _ (Nat.lt_of_lt_of_le hk h.top)
  have hbox1 := (hkeep B h.low).trans h.box
  have d1 := box_cell hbox1 1 (by simp)
  have d2 := box_cell hbox1 2 (by simp)
  have d0 := box_cell hbox1 0 (by simp)
  simp only [List.getElem_toArray, List.getElem_cons_succ, List.getElem_cons_zero] at d0 d1 d2
  have f0 := box_frozen hbox1 0
  have f1 := box_frozen hbox1 1
  have f2 := box_frozen hbox1 2
  have hz1 : w.heap.size ≤ w1.heap.size := Nat.le_trans (by simp) hg.size
  have hw1 : w1.ownsRow K 5 1 (.slice va wd.length vc) wd.length (Lib.byteCells wd) := (h.ow.alloc _).kept hg (kinds_apart (h.ow.alloc (.cells #[.string ⟨wd.toArray⟩] 9)) (h.os.alloc _))
  have hw0 : w1.ownsRow K 5 1 (.slice va 0 vc) 0 [] := by
    rcases hw1.2 with ⟨e, hn⟩ | ⟨g, cap, cur, e, hgb, hg2, hnc, hmx, hsz, _⟩
    · simp only [Value.slice.injEq] at e
      obtain ⟨rfl, _, rfl⟩ := e
      exact World.ownsRow_nil _ _ _ _
    · simp only [Value.slice.injEq] at e
      obtain ⟨rfl, _, rfl⟩ := e
      exact ⟨by simp, Or.inr ⟨g, vc, cur, rfl, hgb, hg2, Nat.zero_le _, hmx, hsz, by simp⟩⟩
  have hcut : ∀ W, (Instr.sliceAt 40 (.slice va wd.length vc) none (some (.int .i64 0)) none).run Tryd.prog W = .ok (.slice va 0 vc) W := by
    rcases hw1.2 with ⟨e, hn⟩ | ⟨g, cap, cur, e, _⟩
    · simp only [Value.slice.injEq] at e
      obtain ⟨rfl, e2, rfl⟩ := e
      rw [e2]
      exact fun W => cut0 none 0 0 (fun _ => ⟨rfl, rfl⟩) (fun _ e => by cases e) W
    · simp only [Value.slice.injEq] at e
      obtain ⟨rfl, _, rfl⟩ := e
      exact fun W => cut0 _ _ _ (fun e => by cases e) (fun _ e => by cases e; rfl) W
  have hfin : Part B K 0 [] (ws ++ [wd]) (.slice va 0 vc) (.slice ta (ws.length + 1) tc) (((w1.setCell ⟨B, 2, none⟩ (.slice ta (ws.length + 1) tc)).setCell ⟨B, 1, none⟩ (.slice va 0 vc)).setCell ⟨B, 0, none⟩ (.int .i64 0)) := by
    refine ⟨by rw [box_set (box_set (box_set hbox1 _ _) _ _)]; rfl, h.low, by simp [World.setCell]; exact Nat.le_trans h.top hz1, ?_, ?_⟩
    · exact ownsRow_setCell_below (ownsRow_setCell_below (ownsRow_setCell_below hw0 h.low _) h.low _) h.low _
    · have := ownsRow_setCell_below (ownsRow_setCell_below (ownsRow_setCell_below hown (a := ⟨B, 2, none⟩) h.low (.slice ta (ws.length + 1) tc)) (a := ⟨B, 1, none⟩) h.low (.slice va 0 vc)) (a := ⟨B, 0, none⟩) h.low (.int .i64 0)
      simpa [strs] using this
  have hKp : Kp B K w w1 := ⟨hg.os, hg.tape, hg.output, hz1, fun k hk _ => hkeep k hk⟩
  have Hfin := hide hfin
  have HKp := hide hKp
  clear hfin hKp hw1 hw0 hkeep hrow
  have Hg := hide hg
  have Hown := hide hown
  have Hrun := hide hrun
  clear h hg hown hrun
  have n0 := World.new_ne w _ c2
  go_enter Tryd.func73, Tryd.ntmps73
  go_wp2_with fail
  go_region_law (refine step_append_eq (by rfl) (.tmp 6) (.tmp 12) 22 (by rfl) _ _ _ (by rfl) (by rfl) (unhide Hrun) ?_)
  all_goals
    go_wp2_with fail
    go_end0
    exact ⟨rfl, ⟨_, _, Hfin.out⟩, ((HKp.out.setCell 2 _).setCell 1 _).setCell 0 _⟩
end Go.Proofs.YthoeehgnkolgpaaDoor
