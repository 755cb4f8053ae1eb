/- Any number of Writers side by side, each with its list: what of memory is theirs. -/
import Derived.Test.YtbmdnlomhnodeabDoorPairs
import Derived.Laws.OwnMore
namespace Go.Proofs.YtbmdnlomhnodeabDoor
open Go.RowKit
set_option maxRecDepth 100000

theorem Tryd.infoW : (Tryd.prog.info? 27).map (fun i => (i.zero, i.size, i.bytes)) = some (some (.pointer none), 1, 8) := by kernel_rfl
theorem Tryd.infoR : (Tryd.prog.info? 35).map (fun i => (i.zero, i.size, i.bytes)) = some (some (.pointer none), 1, 8) := by kernel_rfl
theorem Tryd.infoB : (Tryd.prog.info? 22).map (fun i => (i.zero, i.size, i.bytes)) = some (some (.slice none 0 0), 1, 24) := by kernel_rfl

/-- append of one value onto a slice of the call's own. -/
theorem app_one {t e : TypeId} {z : Value} {bytes : Nat} (ht : Tryd.prog.underlying t = some (.slice e)) (hinfo : (Tryd.prog.info? e).map (fun i => (i.zero, i.size, i.bytes)) = some (some z, 1, bytes)) (hz : z.cells.size = 1) (hby : bytes ≤ 24)
    (w : World) (B : Nat) (v : Value) (n : Nat) (xs : List Value) (hown : w.ownsRow B e 1 v n xs) (g : Nat) (u : Value) (hc : w.cell? ⟨g, 0, none⟩ = some u) (hu : u.oneCell' = true) (hn : n ≤ 1000000) (hB : B ≤ w.heap.size) :
    ∃ v' w', (Builtin.append_ #[t, t] t #[v, .slice (some ⟨g, 0, none⟩) 1 1]).run Tryd.prog w = .ok v' w' ∧ w'.ownsRow B e 1 v' (n + 1) (xs ++ [u]) ∧ w.grownBy w' v.ownBlock ∧ (v'.ownBlock = v.ownBlock ∨ v'.ownBlock = some w.heap.size) := by
  obtain ⟨i0, hi, hz0, hz1, hz2⟩ := info_parts hinfo
  obtain ⟨v', w', hr, h1, h2, _, h5⟩ := run_append_own_at (P := Tryd.prog) w B t t e i0 z 1 bytes ht hi hz0 hz1 hz2 hz (by decide) v n _ hown ⟨g, 0, none⟩ 1 1 [u] rfl
    (fun j q hq => by
      match j with
      | 0 =>
        have : q = u := by simpa using hq.symm
        rw [this]
        simpa [Addr.add] using hc
      | j + 1 => simp at hq)
    (fun q hq => by
      have : q = u := by simpa using hq
      rw [this]; exact hu)
    (by unfold maxLen; omega) (by have : (n + 1) * bytes ≤ 1000001 * 24 := Nat.mul_le_mul (by omega) hby; omega) hB
  exact ⟨v', w', hr, h1, h2, h5⟩
theorem owns_keep {w w' : World} {B e n : Nat} {v : Value} {xs : List Value} (h : w.ownsRow B e 1 v n xs) (hk : ∀ k, v.ownBlock = some k → w'.heap[k]? = w.heap[k]?) : w'.ownsRow B e 1 v n xs := by
  refine ⟨h.1, ?_⟩
  rcases h.2 with h1 | ⟨g, cap, cur, e, hb, hh, r⟩
  · exact Or.inl h1
  · exact Or.inr ⟨g, cap, cur, e, hb, by rw [hk g (by rw [e]; rfl)]; exact hh, r⟩
theorem range_map_succ {α : Type} (f : Nat → α) (n : Nat) : (List.range (n + 1)).map f = (List.range n).map f ++ [f n] := by
  rw [List.range_succ, List.map_append]; rfl
def put {α : Type} (f : Nat → α) (k : Nat) (x : α) : Nat → α := fun i => if i = k then x else f i
theorem put_at {α : Type} (f : Nat → α) (k : Nat) (x : α) : put f k x k = x := if_pos rfl
theorem put_ne {α : Type} (f : Nat → α) (k : Nat) (x : α) {j : Nat} (h : j ≠ k) : put f k x j = f j := if_neg h
theorem map_put {α : Type} (f : Nat → α) (k n : Nat) (x : α) : (List.range n).map (put f k x) = ((List.range n).map f).set k x := by
  apply List.ext_getElem?
  intro j
  rw [List.getElem?_set]
  by_cases hj : j < n
  · by_cases e : k = j
    · subst e; simp [hj, put_at]
    · have e' : j ≠ k := fun h => e h.symm
      simp [hj, e, put_ne _ _ _ e']
  · simp [hj]
    omega
theorem map_put_ge {α : Type} (f : Nat → α) {k n : Nat} (h : n ≤ k) (x : α) : (List.range n).map (put f k x) = (List.range n).map f := by
  apply List.map_congr_left
  intro j hj
  exact put_ne _ _ _ (by have := List.mem_range.1 hj; omega)

structure Crowd (w0 w : World) (np nw nh : Nat) (P : Nat → Nat) (V H : Nat → Value) (L : Nat → List Nat) (wv hv : Value) : Prop where
  since : w0.Since w0.heap.size w
  pair : ∀ j, j < np → Pair w (P j) w0.heap.size (V j) (H j) (L j) (L j)
  apart : ∀ i j k, i < np → j < np → i ≠ j → Foot (P i) (V i) (H i) k → ¬ Foot (P j) (V j) (H j) k
  ow : w.ownsRow w0.heap.size 27 1 wv nw ((List.range nw).map fun j => .pointer (some ⟨P j, 0, none⟩))
  oh : w.ownsRow w0.heap.size 22 1 hv nh ((List.range nh).map H)
  far : ∀ i k, i < np → Foot (P i) (V i) (H i) k → wv.ownBlock ≠ some k ∧ hv.ownBlock ≠ some k
  ne : ∀ k, wv.ownBlock = some k → hv.ownBlock ≠ some k
theorem Crowd.later {w0 w w' : World} {np nw nh : Nat} {P : Nat → Nat} {V H : Nat → Value} {L : Nat → List Nat} {wv hv : Value} (h : Crowd w0 w np nw nh P V H L wv hv) (hs : w.Since w.heap.size w') : Crowd w0 w' np nw nh P V H L wv hv :=
  ⟨h.since.trans (since_mono hs h.since.size), fun j hj => ((h.pair j hj).since hs).1, h.apart, owns_keep h.ow (fun k e => hs.block k (h.ow.lt k e).2), owns_keep h.oh (fun k e => hs.block k (h.oh.lt k e).2), h.far, h.ne⟩
/-- A WRITER MORE. -/
theorem Crowd.fresh {w0 w w' : World} {n : Nat} {P : Nat → Nat} {V H : Nat → Value} {L : Nat → List Nat} {wv hv : Value} (h : Crowd w0 w n n n P V H L wv hv) (hs : w.Since w.heap.size w') (hc : w'.rowIs w.heap.size 82 1 (fun _ => .slice none 0 0)) :
    Crowd w0 w' (n + 1) n n (put P n w.heap.size) (put V n (.slice none 0 0)) (put H n (.slice none 0 0)) (put L n []) wv hv := by
  have hl := h.later hs
  have hz := h.since.size
  have hlt := hc.lt
  have hft : ∀ k, Foot w.heap.size (.slice none 0 0) (.slice none 0 0) k → k = w.heap.size := fun k hf => by
    rcases hf with e | e | e
    · exact e
    · simp [Value.ownBlock] at e
    · simp [Value.ownBlock] at e
  refine ⟨hl.since, fun j hj => ?_, fun i j k hi hj hij h1 h2 => ?_, ?_, ?_, fun i k hi hf => ?_, h.ne⟩
  · by_cases e : j = n
    · subst e
      simp only [put_at]
      exact ⟨⟨hc, own_nil _ _ _, by simp [Value.ownBlock], by omega⟩, own_nil _ _ _, by simp [Value.ownBlock], fun k e => by simp [Value.ownBlock] at e, hz⟩
    · simp only [put_ne _ _ _ e]
      exact hl.pair j (by omega)
  · by_cases ei : i = n
    · subst ei
      have ej : j ≠ i := fun e => hij e.symm
      simp only [put_at] at h1
      simp only [put_ne _ _ _ ej] at h2
      have e1 := hft k h1
      have := (h.pair j (by omega)).lt k h2
      omega
    · simp only [put_ne _ _ _ ei] at h1
      by_cases ej : j = n
      · subst ej
        simp only [put_at] at h2
        have e1 := hft k h2
        have := (h.pair i (by omega)).lt k h1
        omega
      · simp only [put_ne _ _ _ ej] at h2
        exact h.apart i j k (by omega) (by omega) hij h1 h2
  · have e : ((List.range n).map fun j => Value.pointer (some ⟨put P n w.heap.size j, 0, none⟩)) = (List.range n).map fun j => Value.pointer (some ⟨P j, 0, none⟩) := by
      apply List.map_congr_left
      intro j hj
      rw [put_ne _ _ _ (by have := List.mem_range.1 hj; omega)]
    rw [e]; exact hl.ow
  · rw [map_put_ge H (Nat.le_refl _)]; exact hl.oh
  · by_cases ei : i = n
    · subst ei
      simp only [put_at] at hf
      have e1 := hft k hf
      exact ⟨fun e => by have := (h.ow.lt k e).2; omega, fun e => by have := (h.oh.lt k e).2; omega⟩
    · simp only [put_ne _ _ _ ei] at hf
      exact h.far i k (by omega) hf
theorem Crowd.growW {w0 w w' : World} {np nw nh : Nat} {P : Nat → Nat} {V H : Nat → Value} {L : Nat → List Nat} {wv hv wv' : Value} (h : Crowd w0 w np nw nh P V H L wv hv) (ho : w'.ownsRow w0.heap.size 27 1 wv' (nw + 1) (((List.range nw).map fun j => .pointer (some ⟨P j, 0, none⟩)) ++ [.pointer (some ⟨P nw, 0, none⟩)])) (hg : w.grownBy w' wv.ownBlock) (hl : wv'.ownBlock = wv.ownBlock ∨ wv'.ownBlock = some w.heap.size) :
    Crowd w0 w' np (nw + 1) nh P V H L wv' hv := by
  have hz := h.since.size
  refine ⟨h.since.grown hg hz (fun k e => (h.ow.lt k e).1), fun j hj => (h.pair j hj).keep hg.size (fun k hf => hg.block k ((h.pair j hj).lt k hf) (fun e => (h.far j k hj hf).1 e.symm)), h.apart, ?_, owns_keep h.oh (fun k e => hg.block k (h.oh.lt k e).2 (fun e2 => h.ne k e2.symm e)), fun i k hi hf => ⟨fun e => ?_, (h.far i k hi hf).2⟩, fun k e e2 => ?_⟩
  · rw [range_map_succ]; exact ho
  · rcases hl with e3 | e3
    · rw [e3] at e; exact (h.far i k hi hf).1 e
    · rw [e3] at e; cases e; have := (h.pair i hi).lt _ hf; omega
  · rcases hl with e3 | e3
    · rw [e3] at e; exact h.ne k e e2
    · rw [e3] at e; cases e; have := (h.oh.lt _ e2).2; omega
theorem Crowd.growH {w0 w w' : World} {np nw nh : Nat} {P : Nat → Nat} {V H : Nat → Value} {L : Nat → List Nat} {wv hv hv' : Value} (h : Crowd w0 w np nw nh P V H L wv hv) (ho : w'.ownsRow w0.heap.size 22 1 hv' (nh + 1) ((List.range nh).map H ++ [H nh])) (hg : w.grownBy w' hv.ownBlock) (hl : hv'.ownBlock = hv.ownBlock ∨ hv'.ownBlock = some w.heap.size) :
    Crowd w0 w' np nw (nh + 1) P V H L wv hv' := by
  have hz := h.since.size
  refine ⟨h.since.grown hg hz (fun k e => (h.oh.lt k e).1), fun j hj => (h.pair j hj).keep hg.size (fun k hf => hg.block k ((h.pair j hj).lt k hf) (fun e => (h.far j k hj hf).2 e.symm)), h.apart, owns_keep h.ow (fun k e => hg.block k (h.ow.lt k e).2 (fun e2 => h.ne k e e2.symm)), ?_, fun i k hi hf => ⟨(h.far i k hi hf).1, fun e => ?_⟩, fun k e e2 => ?_⟩
  · rw [range_map_succ]; exact ho
  · rcases hl with e3 | e3
    · rw [e3] at e; exact (h.far i k hi hf).2 e
    · rw [e3] at e; cases e; have := (h.pair i hi).lt _ hf; omega
  · rcases hl with e3 | e3
    · rw [e3] at e2; exact h.ne k e e2
    · rw [e3] at e2; cases e2; have := (h.ow.lt _ e).2; omega
/-- ONE STEP OF THE PAIR k, its list laid back. -/
theorem Crowd.step {w0 w w' : World} {n : Nat} {P : Nat → Nat} {V H : Nat → Value} {L : Nat → List Nat} {wv : Value} {hb hc : Nat} (h : Crowd w0 w n n n P V H L wv (.slice (some ⟨hb, 0, none⟩) n hc)) {k : Nat} (hk : k < n) {v' h' : Value} {l' : List Nat} (hp : Pair w' (P k) w0.heap.size v' h' l' l') (hm : Move (P k) (V k) (H k) v' h' w w') :
    w'.cell? ⟨hb, k, none⟩ = some (H k) ∧ w'.frozen? ⟨hb, k, none⟩ = false ∧ Crowd w0 (w'.setCell ⟨hb, k, none⟩ h') n n n P (put V k v') (put H k h') (put L k l') wv (.slice (some ⟨hb, 0, none⟩) n hc) := by
  have hbo : (Value.slice (some ⟨hb, 0, none⟩) n hc).ownBlock = some hb := rfl
  have hlh := (h.oh.lt hb hbo)
  have hnf : ¬ Foot (P k) (V k) (H k) hb := fun hf => (h.far k hb hk hf).2 hbo
  have hoh : w'.ownsRow w0.heap.size 22 1 (.slice (some ⟨hb, 0, none⟩) n hc) n ((List.range n).map H) := owns_keep h.oh (fun q e => by cases e; exact hm.block hb hlh.2 hnf)
  have hset : ∀ b, b ≠ hb → (w'.setCell ⟨hb, k, none⟩ h').heap[b]? = w'.heap[b]? := fun b hb' => Below.heap_setCell _ _ _ _ hb'
  have hsz : (w'.setCell ⟨hb, k, none⟩ h').heap.size = w'.heap.size := by simp [World.setCell]
  have hfk : ∀ b, Foot (P k) v' h' b → wv.ownBlock ≠ some b ∧ b ≠ hb := fun b hf => by
    rcases hm.foot b hf with e | e
    · exact ⟨(h.far k b hk e).1, fun e2 => (h.far k b hk e).2 (by rw [hbo, e2])⟩
    · exact ⟨fun e2 => by have := (h.ow.lt b e2).2; omega, by omega⟩
  have hst := hoh.stored k h'
  refine ⟨?_, hoh.frozenAt k, ⟨?_, fun i hi => ?_, fun i j b hi hj hij hf hf2 => ?_, owns_keep h.ow (fun q e => ?_), ?_, fun i b hi hf => ?_, h.ne⟩⟩
  · rw [hoh.cellAt k (by omega)]; simp [hk]
  · have h1 : w0.Since w0.heap.size w' := ⟨hm.os.trans h.since.os, hm.tape.trans h.since.tape, hm.output.trans h.since.output, Nat.le_trans h.since.size hm.size, fun q hq => (hm.block q (Nat.lt_of_lt_of_le hq h.since.size) (fun hf => by have := (h.pair k hk).ge q hf; omega)).trans (h.since.block q hq)⟩
    exact h1.setCell (a := ⟨hb, k, none⟩) hlh.1 _
  · by_cases e : i = k
    · subst e
      simp only [put_at]
      exact hp.keep (by omega) (fun b hf => hset b (hfk b hf).2)
    · simp only [put_ne _ _ _ e]
      exact (h.pair i hi).keep (by rw [hsz]; exact hm.size) (fun b hf => (hset b (fun e2 => (h.far i b hi hf).2 (by rw [hbo, e2]))).trans (hm.block b ((h.pair i hi).lt b hf) (h.apart i k b hi hk e hf)))
  · by_cases e : i = k
    · subst e
      have e2 : j ≠ i := fun x => hij x.symm
      simp only [put_at] at hf
      simp only [put_ne _ _ _ e2] at hf2
      rcases hm.foot b hf with e3 | e3
      · exact h.apart i j b hi hj hij e3 hf2
      · have := (h.pair j hj).lt b hf2; omega
    · simp only [put_ne _ _ _ e] at hf
      by_cases e4 : j = k
      · subst e4
        simp only [put_at] at hf2
        rcases hm.foot b hf2 with e3 | e3
        · exact h.apart i j b hi hj hij hf e3
        · have := (h.pair i hi).lt b hf; omega
      · simp only [put_ne _ _ _ e4] at hf2
        exact h.apart i j b hi hj hij hf hf2
  · exact (hset q (fun e2 => h.ne q e (by rw [hbo, e2]))).trans (hm.block q (h.ow.lt q e).2 (fun hf => (h.far k q hk hf).1 e))
  · rw [map_put]; exact hst.1
  · by_cases e : i = k
    · subst e
      simp only [put_at] at hf
      exact ⟨(hfk b hf).1, fun e2 => (hfk b hf).2 (by rw [hbo] at e2; cases e2; rfl)⟩
    · simp only [put_ne _ _ _ e] at hf
      exact h.far i b hi hf
end Go.Proofs.YtbmdnlomhnodeabDoor
