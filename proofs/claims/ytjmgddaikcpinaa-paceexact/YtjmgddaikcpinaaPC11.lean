/- Twelve paces beside the document's. -/
import Derived.Test.YtjmgddaikcpinaaPC10
namespace Go.Proofs.Ytjmgddaikcpinaa
open Go.RowKit
set_option maxRecDepth 100000
set_option maxRecDepth 100000

def ptr (b : Nat) : Value := .pointer (some ⟨b, 0, none⟩)
def ptrs (n : Nat) (P : Nat → Nat) (j : Nat) : Value := if j < n then .pointer (some ⟨P j, 0, none⟩) else .pointer none
structure ES (w0 w : World) (ap aq n N : Nat) (PB QB M T : Nat → Nat) : Prop where
  rp : w.rowIs ap 38 12 (ptrs n PB)
  rq : w.rowIs aq 40 12 (ptrs n QB)
  two : ∀ j, j < n → Two w (PB j) (QB j) (M j) (T j)
  tn : ∀ j, j < n → T j ≤ N
  ge : ∀ j, j < n → w0.heap.size ≤ PB j ∧ w0.heap.size ≤ QB j
  gap : w0.heap.size ≤ ap ∧ w0.heap.size ≤ aq
  pp : ∀ j k, j < n → k < n → j ≠ k → PB j ≠ PB k ∧ QB j ≠ QB k
  below : Below w0.heap.size w0 w
def EX (w0 w : World) (ap aq n N : Nat) : Prop := ∃ PB QB M T, ES w0 w ap aq n N PB QB M T
section
variable {w0 w w' : World} {ap aq n N : Nat} {PB QB M T : Nat → Nat}
theorem ES.mono (h : ES w0 w ap aq n N PB QB M T) {N' : Nat} (hN : N ≤ N') : ES w0 w ap aq n N' PB QB M T :=
  ⟨h.rp, h.rq, h.two, fun j hj => Nat.le_trans (h.tn j hj) hN, h.ge, h.gap, h.pp, h.below⟩
theorem ES.on (h : ES w0 w ap aq n N PB QB M T) (hb : Below w.heap.size w w') : ES w0 w' ap aq n N PB QB M T :=
  ⟨h.rp.of_block (hb.block _ h.rp.lt), h.rq.of_block (hb.block _ h.rq.lt), fun j hj => (h.two j hj).later (hb.block _ (h.two j hj).p.row.lt) (hb.block _ (h.two j hj).q.row.lt), h.tn, h.ge, h.gap, h.pp, h.below.trans (hb.mono h.below.size)⟩
theorem EX.on (h : EX w0 w ap aq n N) (hb : Below w.heap.size w w') : EX w0 w' ap aq n N := by
  obtain ⟨PB, QB, M, T, h⟩ := h
  exact ⟨PB, QB, M, T, h.on hb⟩
theorem EX.mono (h : EX w0 w ap aq n N) {N' : Nat} (hN : N ≤ N') : EX w0 w ap aq n N' := by
  obtain ⟨PB, QB, M, T, h⟩ := h
  exact ⟨PB, QB, M, T, h.mono hN⟩
theorem EX.below (h : EX w0 w ap aq n N) : Below w0.heap.size w0 w := by
  obtain ⟨PB, QB, M, T, h⟩ := h
  exact h.below
theorem ES.cp (h : ES w0 w ap aq n N PB QB M T) {k : Nat} (hk : k < n) (h12 : n ≤ 12) : w.cell? ⟨ap, k, none⟩ = some (.pointer (some ⟨PB k, 0, none⟩)) := by
  have := h.rp.cell (i := k) (by omega)
  rw [this]
  unfold ptrs
  rw [if_pos hk]
theorem ES.cq (h : ES w0 w ap aq n N PB QB M T) {k : Nat} (hk : k < n) (h12 : n ≤ 12) : w.cell? ⟨aq, k, none⟩ = some (.pointer (some ⟨QB k, 0, none⟩)) := by
  have := h.rq.cell (i := k) (by omega)
  rw [this]
  unfold ptrs
  rw [if_pos hk]
theorem ES.pq (h : ES w0 w ap aq n N PB QB M T) {j k : Nat} (hj : j < n) (hk : k < n) : PB j ≠ QB k := rowIs_apart (h.two j hj).p.row (h.two k hk).q.row (by decide)
theorem ES.ap1 (h : ES w0 w ap aq n N PB QB M T) {k : Nat} (hk : k < n) : ap ≠ PB k ∧ ap ≠ QB k ∧ aq ≠ PB k ∧ aq ≠ QB k :=
  ⟨rowIs_apart h.rp (h.two k hk).p.row (by decide), rowIs_apart h.rp (h.two k hk).q.row (by decide), rowIs_apart h.rq (h.two k hk).p.row (by decide), rowIs_apart h.rq (h.two k hk).q.row (by decide)⟩
/-- One pair has turned. -/
theorem ES.step (h : ES w0 w ap aq n N PB QB M T) {k t : Nat} (hk : k < n) (hN : t ≤ N) (h2 : Two w' (PB k) (QB k) (M k) t) (hv : Mv (fun b => b = PB k ∨ b = QB k) w w') : ES w0 w' ap aq n N PB QB M (fun j => if j = k then t else T j) := by
  obtain ⟨a1, a2, a3, a4⟩ := h.ap1 hk
  refine ⟨h.rp.of_block (hv.block _ h.rp.lt (by rintro (e | e) <;> contradiction)), h.rq.of_block (hv.block _ h.rq.lt (by rintro (e | e) <;> contradiction)), fun j hj => ?_, fun j hj => ?_, h.ge, h.gap, h.pp, hv.below h.below h.below.size (fun b hb => by have := h.ge k hk; rcases hb with e | e <;> omega)⟩
  · by_cases e : j = k
    · subst e
      rw [if_pos rfl]
      exact h2
    · rw [if_neg e]
      have hp := h.pp j k hj hk e
      have hq := h.pq hj hk
      have hq2 := h.pq hk hj
      refine (h.two j hj).later (hv.block _ (h.two j hj).p.row.lt ?_) (hv.block _ (h.two j hj).q.row.lt ?_)
      · rintro (e | e)
        · exact hp.1 e
        · exact hq e
      · rintro (e | e)
        · exact hq2 e.symm
        · exact hp.2 e
  · show (if j = k then t else T j) ≤ N
    split
    · exact hN
    · exact h.tn j hj
/-- A new pair is laid in place j. -/
theorem ES.put (h : ES w0 w ap aq n N PB QB M T) {w1 : World} {pb qb m j n' : Nat} (hb : Below w.heap.size w w1) (h2 : Two w1 pb qb m 0) (hpb : w.heap.size ≤ pb) (hqb : w.heap.size ≤ qb) (hn : n' = n ∨ (n' = n + 1 ∧ j = n)) (hj : j < n') :
    EX w0 ((w1.setCell ⟨ap, j, none⟩ (.pointer (some ⟨pb, 0, none⟩))).setCell ⟨aq, j, none⟩ (.pointer (some ⟨qb, 0, none⟩))) ap aq n' N := by
  have h1 := h.on hb
  have z := h.below.size
  have la := h.rp.lt
  have lq := h.rq.lt
  have hpq : ap ≠ aq := rowIs_apart h.rp h.rq (by decide)
  have r1 := h1.rp.set j (.pointer (some ⟨pb, 0, none⟩))
  have m1 := set_mv (i := j) h1.rp (.pointer (some ⟨pb, 0, none⟩))
  have rq1 : (w1.setCell ⟨ap, j, none⟩ (.pointer (some ⟨pb, 0, none⟩))).rowIs aq 40 12 (ptrs n QB) := h1.rq.of_block (m1.block _ h1.rq.lt (fun e => hpq e.symm))
  have m2 := set_mv (i := j) rq1 (.pointer (some ⟨qb, 0, none⟩))
  have r2 := rq1.set j (.pointer (some ⟨qb, 0, none⟩))
  have r1b := r1.of_block (m2.block _ r1.lt hpq)
  have mv : Mv (fun b => b = ap ∨ b = aq) w1 _ := (m1.mono fun _ => Or.inl).trans (m2.mono fun _ => Or.inr)
  refine ⟨fun i => if i = j then pb else PB i, fun i => if i = j then qb else QB i, fun i => if i = j then m else M i, fun i => if i = j then 0 else T i, ?_⟩
  have hold : ∀ i, i < n' → i ≠ j → i < n := fun i hi e => by rcases hn with e2 | ⟨e2, e3⟩ <;> omega
  refine ⟨r1b.congr (fun i hi => ?_), r2.congr (fun i hi => ?_), fun i hi => ?_, fun i hi => ?_, fun i hi => ?_, h.gap, fun i k hi hk hne => ?_, mv.below h1.below (by have := h1.below.size; omega) (fun b hb => by have := h.gap; rcases hb with e | e <;> omega)⟩
  · by_cases e : i = j
    · subst e; simp [ptrs, hj]
    · by_cases hi2 : i < n
      · have : i < n' := by rcases hn with e2 | ⟨e2, e3⟩ <;> omega
        simp [ptrs, e, hi2, this]
      · have : ¬ i < n' := by rcases hn with e2 | ⟨e2, e3⟩ <;> omega
        simp [ptrs, e, hi2, this]
  · by_cases e : i = j
    · subst e; simp [ptrs, hj]
    · by_cases hi2 : i < n
      · have : i < n' := by rcases hn with e2 | ⟨e2, e3⟩ <;> omega
        simp [ptrs, e, hi2, this]
      · have : ¬ i < n' := by rcases hn with e2 | ⟨e2, e3⟩ <;> omega
        simp [ptrs, e, hi2, this]
  · by_cases e : i = j
    · subst e
      simp only [if_true]
      refine h2.later (mv.block _ h2.p.row.lt ?_) (mv.block _ h2.q.row.lt ?_)
      · rintro (e | e) <;> omega
      · rintro (e | e) <;> omega
    · simp only [if_neg e]
      have hi2 := hold i hi e
      obtain ⟨a1, a2, a3, a4⟩ := h1.ap1 hi2
      refine (h1.two i hi2).later (mv.block _ (h1.two i hi2).p.row.lt ?_) (mv.block _ (h1.two i hi2).q.row.lt ?_)
      · rintro (e | e)
        · exact a1 e.symm
        · exact a3 e.symm
      · rintro (e | e)
        · exact a2 e.symm
        · exact a4 e.symm
  · by_cases e : i = j
    · simp [e]
    · simp only [if_neg e]; exact h.tn i (hold i hi e)
  · by_cases e : i = j
    · simp only [if_pos e]; omega
    · simp only [if_neg e]; exact h.ge i (hold i hi e)
  · by_cases e : i = j
    · by_cases e2 : k = j
      · omega
      · simp only [if_pos e, if_neg e2]
        have := hold k hk e2
        have l1 := (h.two k this).p.row.lt
        have l2 := (h.two k this).q.row.lt
        omega
    · by_cases e2 : k = j
      · simp only [if_neg e, if_pos e2]
        have := hold i hi e
        have l1 := (h.two i this).p.row.lt
        have l2 := (h.two i this).q.row.lt
        omega
      · simp only [if_neg e, if_neg e2]
        exact h.pp i k (hold i hi e) (hold k hk e2) hne
/-- The two cells that are written. -/
theorem ES.slots (h : ES w0 w ap aq n N PB QB M T) {j pb : Nat} {Q : Prop} (hj : j < 12) (hq : Q) : ∃ vp vq : Value, w.cell? ⟨ap, j, none⟩ = some vp ∧ w.frozen? ⟨ap, j, none⟩ = false ∧ (w.setCell ⟨ap, j, none⟩ (.pointer (some ⟨pb, 0, none⟩))).cell? ⟨aq, j, none⟩ = some vq ∧ (w.setCell ⟨ap, j, none⟩ (.pointer (some ⟨pb, 0, none⟩))).frozen? ⟨aq, j, none⟩ = false ∧ Hid Q := by
  have m1 := set_mv (i := j) h.rp (.pointer (some ⟨pb, 0, none⟩))
  have hpq : ap ≠ aq := rowIs_apart h.rp h.rq (by decide)
  have rq1 := h.rq.of_block (m1.block _ h.rq.lt (fun e => hpq e.symm))
  exact ⟨_, _, h.rp.cell hj, h.rp.frozen j, rq1.cell hj, rq1.frozen j, hq⟩
/-- At the begin: no pair. -/
theorem ES.start {w0 w : World} {ap aq : Nat} (hp : w.rowIs ap 38 12 (fun _ => .pointer none)) (hq : w.rowIs aq 40 12 (fun _ => .pointer none)) (g : w0.heap.size ≤ ap ∧ w0.heap.size ≤ aq) (hb : Below w0.heap.size w0 w) : EX w0 w ap aq 0 0 :=
  ⟨fun _ => 0, fun _ => 0, fun _ => 0, fun _ => 0, hp.congr (fun i _ => rfl), hq.congr (fun i _ => rfl), fun j hj => by omega, fun j hj => by omega, fun j hj => by omega, g, fun j k hj => by omega, hb⟩

theorem EX.tick (h : EX w0 w ap aq 12 N) {k : Nat} (hk : k < 12) (hN : N < 5000) :
    ∃ (pb qb : Nat) (d : Bool), w.cell? ⟨ap, k, none⟩ = some (.pointer (some ⟨pb, 0, none⟩)) ∧ w.cell? ⟨aq, k, none⟩ = some (.pointer (some ⟨qb, 0, none⟩)) ∧
      Hid (Calls Try.prog 8 #[.pointer (some ⟨pb, 0, none⟩)] w.drew fun e w1 => e = .returned (.bool d) ∧ w1.cell? ⟨ap, k, none⟩ = some (.pointer (some ⟨pb, 0, none⟩)) ∧ w1.cell? ⟨aq, k, none⟩ = some (.pointer (some ⟨qb, 0, none⟩)) ∧
        Hid (Calls Try.prog 13 #[.pointer (some ⟨qb, 0, none⟩)] w1 fun e w2 => e = .returned (.bool d) ∧ w2.cell? ⟨ap, k, none⟩ = some (.pointer (some ⟨pb, 0, none⟩)) ∧ w2.cell? ⟨aq, k, none⟩ = some (.pointer (some ⟨qb, 0, none⟩)) ∧ Hid (EX w0 w2 ap aq 12 (N + 1)))) := by
  obtain ⟨PB, QB, M, T, h⟩ := h
  have hd := h.on ((Below.refl _ _).drew)
  have ht := h.tn k hk
  obtain ⟨d, hc⟩ := (hd.two k hk).tick (by omega)
  obtain ⟨a1, a2, a3, a4⟩ := hd.ap1 hk
  refine ⟨PB k, QB k, d, h.cp hk (by decide), h.cq hk (by decide), hc.mono fun e w1 ⟨he, hv, hc2⟩ => ⟨he, ?_, ?_, hc2.out.mono fun e w2 ⟨he2, h2, hv2⟩ => ?_⟩⟩
  · rw [World.cell?_of_block (a := ⟨ap, k, none⟩) (hv.block ap hd.rp.lt a1)]; exact hd.cp hk (by decide)
  · rw [World.cell?_of_block (a := ⟨aq, k, none⟩) (hv.block aq hd.rq.lt a3)]; exact hd.cq hk (by decide)
  · have hs := (hd.mono (Nat.le_succ N)).step (t := T k + 1) hk (by omega) h2 hv2
    exact ⟨he2, hs.cp hk (by decide), hs.cq hk (by decide), ⟨_, _, _, _, hs⟩⟩
theorem EX.reset (h : EX w0 w ap aq 12 N) {k : Nat} (hk : k < 12) :
    ∃ (pb qb : Nat), w.cell? ⟨ap, k, none⟩ = some (.pointer (some ⟨pb, 0, none⟩)) ∧
      Hid (Calls Try.prog 9 #[.pointer (some ⟨pb, 0, none⟩)] w fun e w1 => e = .returned (.tuple #[]) ∧ w1.cell? ⟨aq, k, none⟩ = some (.pointer (some ⟨qb, 0, none⟩)) ∧
        Hid (Calls Try.prog 14 #[.pointer (some ⟨qb, 0, none⟩)] w1 fun e w2 => e = .returned (.tuple #[]) ∧ Hid (EX w0 w2 ap aq 12 (N + 1)))) := by
  obtain ⟨PB, QB, M, T, h⟩ := h
  obtain ⟨a1, a2, a3, a4⟩ := h.ap1 hk
  refine ⟨PB k, QB k, h.cp hk (by decide), (h.two k hk).reset.mono fun e w1 ⟨he, hv, hc2⟩ => ⟨he, ?_, hc2.out.mono fun e w2 ⟨he2, h2, hv2⟩ => ?_⟩⟩
  · rw [World.cell?_of_block (a := ⟨aq, k, none⟩) (hv.block aq h.rq.lt a3)]; exact h.cq hk (by decide)
  · exact ⟨he2, ⟨_, _, _, _, (h.mono (Nat.le_succ N)).step (t := 0) hk (by omega) h2 hv2⟩⟩
theorem EX.wait (h : EX w0 w ap aq 12 N) {k : Nat} (hk : k < 12) :
    ∃ (pb qb l : Nat), w.cell? ⟨ap, k, none⟩ = some (.pointer (some ⟨pb, 0, none⟩)) ∧ w.cell? ⟨aq, k, none⟩ = some (.pointer (some ⟨qb, 0, none⟩)) ∧
      Hid (Calls Try.prog 10 #[.pointer (some ⟨pb, 0, none⟩)] w.drew fun e w1 => e = .returned (.int .i64 (l : Nat)) ∧ w1.cell? ⟨ap, k, none⟩ = some (.pointer (some ⟨pb, 0, none⟩)) ∧ w1.cell? ⟨aq, k, none⟩ = some (.pointer (some ⟨qb, 0, none⟩)) ∧
        Hid (Calls Try.prog 15 #[.pointer (some ⟨qb, 0, none⟩)] w1 fun e w2 => e = .returned (.int .i64 (l : Nat)) ∧ w2.cell? ⟨ap, k, none⟩ = some (.pointer (some ⟨pb, 0, none⟩)) ∧ w2.cell? ⟨aq, k, none⟩ = some (.pointer (some ⟨qb, 0, none⟩)) ∧ Hid (EX w0 w2 ap aq 12 N))) := by
  obtain ⟨PB, QB, M, T, h⟩ := h
  obtain ⟨l, c1, c2⟩ := (h.two k hk).wait
  refine ⟨PB k, QB k, l, h.cp hk (by decide), h.cq hk (by decide), (c1 w.drew rfl).mono fun e w1 ⟨he, hw⟩ => ?_⟩
  subst hw
  refine ⟨he, h.cp hk (by decide), h.cq hk (by decide), (c2 w.drew rfl).mono fun e w2 ⟨he2, q, hw2⟩ => ?_⟩
  subst hw2
  have hs := h.on (w' := w.drew.drewN q) ⟨rfl, rfl, rfl, Nat.le_refl _, fun _ _ => rfl⟩
  exact ⟨he2, hs.cp hk (by decide), hs.cq hk (by decide), ⟨_, _, _, _, hs⟩⟩
end
end Go.Proofs.Ytjmgddaikcpinaa
