/- Own texts, joined: QK4, QK5, QK5H, QK6, QK7, QK8, QK9, QK10. -/
import Derived.Test.YtcamdljlkcnikaaM5
import Derived.Deep.OwnRows

/- QuorumCounts: what an answer does, as plain data. -/
namespace Go.Proofs.Ytcamdljlkcnikaa
open Go.RowKit Go.Maps
set_option maxRecDepth 100000
set_option maxRecDepth 100000

/-- How a quorum stands while answers of one kind are counted. -/
structure KInv (k : Nat) (L : List Int) (nd : Int) (C : List Int) (d : Qd) : Prop where
  L : d.L = L
  node : d.node = nd
  shard : d.shard = 1
  ep : d.ep = 77
  k0 : k = 0 → d.ph = 1 ∧ d.begun = 0 ∧ d.done = 0 ∧ d.c1 = C
  k1 : k = 1 → d.ph = 2 ∧ d.next.te = 77 ∧ d.next.ts = 1 ∧ d.begun = 0 ∧ d.done = 0 ∧ d.c1 = C
  k2 : k = 2 → d.ph = 3 ∧ d.begun = 1 ∧ d.done = 0 ∧ d.c2 = C
/-- How it stands once a majority has answered. -/
structure KEnd (k : Nat) (L : List Int) (nd : Int) (d : Qd) : Prop where
  L : d.L = L
  node : d.node = nd
  shard : d.shard = 1
  ep : d.ep = 77
  k0 : k = 0 → d.ph = 2 ∧ d.next.te = 77 ∧ d.next.ts = 1 ∧ d.begun = 0 ∧ d.done = 0 ∧ d.c1 = []
  k1 : k = 1 → d.ph = 3 ∧ d.begun = 0 ∧ d.done = 0
  k2 : k = 2 → d.ph = 3 ∧ d.begun = 1 ∧ d.done = 1
theorem toMs_all (L : List Int) (m : Mg) : (toMs L [] m).length = L.length := by simp [toMs]
section
variable {L C : List Int} {nd : Int} {d : Qd} {k : Nat}
theorem ans_n (k : Nat) (X nd T : Int) (p : Nat) : (ansM k X nd T p).n 1 = X ∧ (ansM k X nd T p).n 2 = nd ∧ (ansM k X nd T p).n 3 = 1 := by
  unfold ansM
  split
  · exact ⟨rfl, rfl, rfl⟩
  · split <;> exact ⟨rfl, rfl, rfl⟩
theorem hear_ans (h : KInv k L nd C d) (X T : Int) (p : Nat) (hX : X ∈ L) (S : Int) : hearM d (ansM k X nd T p) S = if (ansM k X nd T p).n 0 = 2 then promM d (ansM k X nd T p) S else if (ansM k X nd T p).n 0 = 5 then (wroM d (ansM k X nd T p), []) else if (ansM k X nd T p).n 0 = 3 then (refM d (ansM k X nd T p), []) else if (ansM k X nd T p).n 0 = 7 then (betM d (ansM k X nd T p), []) else (d, []) := by
  obtain ⟨e1, e2, e3⟩ := ans_n k X nd T p
  exact if_pos ⟨by rw [e2, h.node], by rw [e3, h.shard], by rw [e1, h.L]; exact hX⟩
theorem addC_out {C : List Int} {X : Int} (h : X ∉ C) : addC C X = C ++ [X] := if_neg h
/-- Promises. -/
theorem k0_hear (h : KInv 0 L nd C d) (X T : Int) (p : Nat) (hX : X ∈ L) :
    (X ∈ C → hearM d (ansM 0 X nd T p) 6 = (d, [])) ∧ (X ∉ C → ¬ L.length < 2 * (C.length + 1) → KInv 0 L nd (C ++ [X]) (hearM d (ansM 0 X nd T p) 6).1 ∧ (hearM d (ansM 0 X nd T p) 6).2 = []) ∧
      (X ∉ C → L.length < 2 * (C.length + 1) → KEnd 0 L nd (hearM d (ansM 0 X nd T p) 6).1 ∧ (hearM d (ansM 0 X nd T p) 6).2.length = L.length) := by
  obtain ⟨hp, hb, hd, hc⟩ := h.k0 rfl
  have eH : hearM d (ansM 0 X nd T p) 6 = promM d (ansM 0 X nd T p) 6 := (hear_ans h X T p hX 6).trans (if_pos rfl)
  have e1 : (ansM 0 X nd T p).n 1 = X := rfl
  have e4 : (ansM 0 X nd T p).n 4 = 77 := rfl
  rw [eH]
  generalize ansM 0 X nd T p = m at *
  have eB : ∀ (P : Qd → Prop), P (proT d m) → P (proA d m) → P (proB d m) := fun P a b => by unfold proB; split <;> assumption
  refine ⟨fun hin => if_pos (.inr (.inr (by rw [e1, hc]; exact hin))), fun hin hm => ?_, fun hin hm => ?_⟩
  · have hno : ¬ (d.ph ≠ 1 ∨ ¬ m.n 4 = (d.ep : Nat) ∨ m.n 1 ∈ d.c1) := by rintro (q | q | q) <;> simp_all [h.ep]
    have hln : (proA d m).c1.length = C.length + 1 := by show (addC d.c1 (m.n 1)).length = _; rw [e1, hc, addC_out hin]; simp
    have eP : promM d m 6 = (proB d m, []) := by
      unfold promM
      rw [if_neg hno, hln, h.L, if_neg hm]
    rw [eP]
    refine ⟨?_, rfl⟩
    have hA : (proA d m).c1 = C ++ [X] := by show addC d.c1 (m.n 1) = _; rw [e1, hc, addC_out hin]
    exact eB (fun q => KInv 0 L nd (C ++ [X]) q) ⟨h.L, h.node, h.shard, h.ep, fun _ => ⟨hp, hb, hd, hA⟩, fun e => by omega, fun e => by omega⟩ ⟨h.L, h.node, h.shard, h.ep, fun _ => ⟨hp, hb, hd, hA⟩, fun e => by omega, fun e => by omega⟩
  · have hno : ¬ (d.ph ≠ 1 ∨ ¬ m.n 4 = (d.ep : Nat) ∨ m.n 1 ∈ d.c1) := by rintro (q | q | q) <;> simp_all [h.ep]
    have hln : (proA d m).c1.length = C.length + 1 := by show (addC d.c1 (m.n 1)).length = _; rw [e1, hc, addC_out hin]; simp
    have eP : promM d m 6 = (wrtM (proB d m) 1 (proB d m).next.v, writeMs (wrtM (proB d m) 1 (proB d m).next.v) 6) := by
      unfold promM
      rw [if_neg hno, hln, h.L, if_pos hm]
    rw [eP]
    have q1 : (proB d m).L = L ∧ (proB d m).node = nd ∧ (proB d m).shard = 1 ∧ (proB d m).ep = 77 ∧ (proB d m).begun = 0 ∧ (proB d m).done = 0 := eB (fun q => q.L = L ∧ q.node = nd ∧ q.shard = 1 ∧ q.ep = 77 ∧ q.begun = 0 ∧ q.done = 0) ⟨h.L, h.node, h.shard, h.ep, hb, hd⟩ ⟨h.L, h.node, h.shard, h.ep, hb, hd⟩
    obtain ⟨a1, a2, a3, a4, a5, a6⟩ := q1
    refine ⟨⟨a1, a2, a3, a4, fun _ => ⟨rfl, a4, rfl, a5, a6, rfl⟩, fun e => by omega, fun e => by omega⟩, ?_⟩
    show (writeMs _ 6).length = _
    unfold writeMs
    rw [List.length_map]
    show (toMs (proB d m).L [] _).length = _
    rw [toMs_all, a1]
/-- What was stored. -/
theorem k1_hear (h : KInv 1 L nd C d) (X T : Int) (p : Nat) (hX : X ∈ L) :
    (X ∈ C → hearM d (ansM 1 X nd T p) 6 = (d, [])) ∧ (X ∉ C → ¬ L.length < 2 * (C.length + 1) → KInv 1 L nd (C ++ [X]) (hearM d (ansM 1 X nd T p) 6).1 ∧ (hearM d (ansM 1 X nd T p) 6).2 = []) ∧
      (X ∉ C → L.length < 2 * (C.length + 1) → KEnd 1 L nd (hearM d (ansM 1 X nd T p) 6).1 ∧ (hearM d (ansM 1 X nd T p) 6).2.length = 0) := by
  obtain ⟨hp, ht, hs, hb, hd, hc⟩ := h.k1 rfl
  have eH : hearM d (ansM 1 X nd T p) 6 = (wroM d (ansM 1 X nd T p), []) := ((hear_ans h X T p hX 6).trans (if_neg (show ¬ (5 : Int) = 2 by decide))).trans (if_pos rfl)
  have e1 : (ansM 1 X nd T p).n 1 = X := rfl
  have e5 : (ansM 1 X nd T p).n 5 = 77 := rfl
  have e6 : (ansM 1 X nd T p).n 6 = 1 := rfl
  rw [eH]
  generalize ansM 1 X nd T p = m at *
  refine ⟨fun hin => ?_, fun hin hm => ?_, fun hin hm => ?_⟩
  · rw [show wroM d m = d from if_pos (.inr (.inr (by rw [e1, hc]; exact hin)))]
  all_goals
    have hno : ¬ (d.ph ≠ 2 ∨ ¬ (m.n 5 = (d.next.te : Nat) ∧ m.n 6 = (d.next.ts : Nat)) ∨ m.n 1 ∈ d.c1) := by rintro (q | q | q) <;> simp_all
    have hA : (wroA d m).c1 = C ++ [X] := by show addC d.c1 (m.n 1) = _; rw [e1, hc, addC_out hin]
    have hln : (wroA d m).c1.length = C.length + 1 := by rw [hA]; simp
  · have eP : wroM d m = wroA d m := by
      unfold wroM
      rw [if_neg hno, hln, h.L, if_neg hm]
    rw [eP]
    exact ⟨⟨h.L, h.node, h.shard, h.ep, fun e => by omega, fun _ => ⟨hp, ht, hs, hb, hd, hA⟩, fun e => by omega⟩, rfl⟩
  · have eP : wroM d m = { wroA d m with ph := 3, chosen := d.next, next := tv0 } := by
      unfold wroM
      rw [if_neg hno, hln, h.L, if_pos hm]
    rw [eP]
    exact ⟨⟨h.L, h.node, h.shard, h.ep, fun e => by omega, fun _ => ⟨rfl, hb, hd⟩, fun e => by omega⟩, rfl⟩
/-- A round's answers. -/
theorem k2_hear (h : KInv 2 L nd C d) (X T : Int) (p : Nat) (hX : X ∈ L) :
    (X ∈ C → hearM d (ansM 2 X nd T p) 6 = (d, [])) ∧ (X ∉ C → ¬ L.length < 2 * (C.length + 1) → KInv 2 L nd (C ++ [X]) (hearM d (ansM 2 X nd T p) 6).1 ∧ (hearM d (ansM 2 X nd T p) 6).2 = []) ∧
      (X ∉ C → L.length < 2 * (C.length + 1) → KEnd 2 L nd (hearM d (ansM 2 X nd T p) 6).1 ∧ (hearM d (ansM 2 X nd T p) 6).2.length = 0) := by
  obtain ⟨hp, hb, hd, hc⟩ := h.k2 rfl
  have eH : hearM d (ansM 2 X nd T p) 6 = (betM d (ansM 2 X nd T p), []) := ((((hear_ans h X T p hX 6).trans (if_neg (show ¬ (7 : Int) = 2 by decide))).trans (if_neg (show ¬ (7 : Int) = 5 by decide))).trans (if_neg (show ¬ (7 : Int) = 3 by decide))).trans (if_pos rfl)
  have e1 : (ansM 2 X nd T p).n 1 = X := rfl
  have e4 : (ansM 2 X nd T p).n 4 = 77 := rfl
  have e7 : (ansM 2 X nd T p).n 7 = 1 := rfl
  rw [eH]
  generalize ansM 2 X nd T p = m at *
  refine ⟨fun hin => ?_, fun hin hm => ?_, fun hin hm => ?_⟩
  · rw [show betM d m = d from if_pos (.inr (.inr (.inr (.inr (by rw [e1, hc]; exact hin)))))]
  all_goals
    have hho : holdB d := .inl hp
    have hno : ¬ (¬ holdB d ∨ d.begun = d.done ∨ ¬ m.n 4 = (d.ep : Nat) ∨ ¬ m.n 7 = (d.begun : Nat) ∨ m.n 1 ∈ d.c2) := by
      rintro (q | q | q | q | q)
      · exact q hho
      · omega
      · rw [e4, h.ep] at q; exact q rfl
      · rw [e7, hb] at q; exact q rfl
      · rw [e1, hc] at q; exact hin q
    have hA : (betA d m).c2 = C ++ [X] := by show addC d.c2 (m.n 1) = _; rw [e1, hc, addC_out hin]
    have hln : (betA d m).c2.length = C.length + 1 := by rw [hA]; simp
  · have eP : betM d m = betA d m := by
      unfold betM
      rw [if_neg hno, hln, h.L, if_neg hm]
    rw [eP]
    exact ⟨⟨h.L, h.node, h.shard, h.ep, fun e => by omega, fun e => by omega, fun _ => ⟨hp, hb, hd, hA⟩⟩, rfl⟩
  · have eP : betM d m = { betA d m with done := d.begun } := by
      unfold betM
      rw [if_neg hno, hln, h.L, if_pos hm]
    rw [eP]
    exact ⟨⟨h.L, h.node, h.shard, h.ep, fun e => by omega, fun e => by omega, fun _ => ⟨hp, hb, hb⟩⟩, rfl⟩
def outN (L C : List Int) : Nat := (L.filter (fun x => !decide (x ∈ C))).length
theorem toMs_n (L C : List Int) (m : Mg) : (toMs L C m).length = outN L C := by simp [toMs, outN]
theorem k1_tick (h : KInv 1 L nd C d) : (tickM d 6).1 = d ∧ (tickM d 6).2.length = outN L C := by
  obtain ⟨hp, ht, hs, hb, hd, hc⟩ := h.k1 rfl
  have hho : ¬ holdB d := by unfold holdB; omega
  have e : tickM d 6 = (d, preMs d 6) := if_neg hho
  rw [e]
  refine ⟨rfl, ?_⟩
  have e2 : preMs d 6 = writeMs d 6 := (if_neg (by omega)).trans (if_pos hp)
  show (preMs d 6).length = _
  rw [e2]
  unfold writeMs
  rw [List.length_map, toMs_n, h.L, hc]
theorem k2_tick (h : KInv 2 L nd C d) : (tickM d 6).1 = d ∧ (tickM d 6).2.length = outN L C := by
  obtain ⟨hp, hb, hd, hc⟩ := h.k2 rfl
  have hho : holdB d := .inl hp
  have e : tickM d 6 = ((roundM d 6).1, preMs d 6 ++ (roundM d 6).2) := if_pos hho
  have e2 : preMs d 6 = [] := (if_neg (by omega)).trans (if_neg (by omega))
  have e3 : roundM d 6 = (d, beatMs d 6) := if_neg (by omega)
  rw [e, e2, e3]
  refine ⟨rfl, ?_⟩
  show (beatMs d 6).length = _
  unfold beatMs
  rw [toMs_n, h.L, hc]
theorem k12_tick (h : KEnd 1 L nd d) : KInv 2 L nd [] (tickM d 6).1 ∧ (tickM d 6).2.length = L.length := by
  obtain ⟨hp, hb, hd⟩ := h.k1 rfl
  have hho : holdB d := .inl hp
  have e : tickM d 6 = ((roundM d 6).1, preMs d 6 ++ (roundM d 6).2) := if_pos hho
  have e2 : preMs d 6 = [] := (if_neg (by omega)).trans (if_neg (by omega))
  have e3 : roundM d 6 = (rdM d, beatMs (rdM d) 6) := (if_pos (by omega)).trans (if_neg (by omega))
  rw [e, e2, e3]
  refine ⟨⟨h.L, h.node, h.shard, h.ep, fun e => by omega, fun e => by omega, fun _ => ⟨hp, by show d.begun + 1 = 1; omega, hd, rfl⟩⟩, ?_⟩
  show (beatMs (rdM d) 6).length = _
  unfold beatMs
  show (toMs d.L [] _).length = _
  rw [toMs_all, h.L]
theorem KEnd.next (h : KEnd 0 L nd d) : KInv 1 L nd [] d := ⟨h.L, h.node, h.shard, h.ep, fun e => by omega, fun _ => h.k0 rfl, fun e => by omega⟩
/-- Who has answered, by place. -/
def Rel (A : Nat → Bool) (L C : List Int) : Prop := ∀ j, j < L.length → A j = decide (L.getD j 0 ∈ C)
theorem rel_left {A : Nat → Bool} (h : Rel A L C) : ∀ n, n ≤ L.length → leftN A n = outN (L.take n) C
  | 0, _ => rfl
  | n + 1, hn => by
    have e : L.take (n + 1) = L.take n ++ [L.getD n 0] := by
      rw [List.take_succ_eq_append_getElem hn]
      simp [List.getD, show n < L.length from hn]
    have hr := h n hn
    unfold leftN
    rw [rel_left h n (by omega), e]
    unfold outN
    rw [List.filter_append, List.length_append]
    by_cases q : L.getD n 0 ∈ C
    · rw [hr, decide_eq_true q]
      simp only [List.filter_cons, List.filter_nil, decide_eq_true q]
      simp
    · rw [hr, decide_eq_false q]
      simp only [List.filter_cons, List.filter_nil, decide_eq_false q]
      simp
theorem rel_all {A : Nat → Bool} (h : Rel A L C) : leftN A L.length = outN L C := by
  have := rel_left h L.length (Nat.le_refl _)
  rw [List.take_length] at this
  exact this
theorem rel_next {A : Nat → Bool} (h : Rel A L C) (hn : L.Nodup) {p : Nat} (hp : p < L.length) : Rel (fun j => if j = p then true else A j) L (C ++ [L.getD p 0]) := fun j hj => by
  by_cases e : j = p
  · subst e
    simp
  · have hne : L.getD j 0 ≠ L.getD p 0 := fun q => e (by
      have q' : L[j] = L[p] := by simpa [List.getD, hj, hp] using q
      rcases Nat.lt_trichotomy j p with g | g | g
      · exact absurd q' (List.pairwise_iff_getElem.1 hn j p hj hp g)
      · exact g
      · exact absurd q'.symm (List.pairwise_iff_getElem.1 hn p j hp hj g))
    simp only [if_neg e]
    rw [h j hj]
    simp only [List.mem_append, List.mem_singleton, hne, or_false]
end
end Go.Proofs.Ytcamdljlkcnikaa

/- QuorumCounts: while answers are counted. -/
namespace Go.Proofs.Ytcamdljlkcnikaa
open Go.RowKit Go.Maps
set_option maxRecDepth 100000
set_option maxRecDepth 100000

/-- A block that is none of a quorum's. -/
def Outq (p : Qp) (b : Nat) : Prop := b ≠ p.b ∧ b ≠ p.m1 ∧ b ≠ p.m2 ∧ b ≠ p.m3
/-- What is handed in lies apart from the quorum. -/
structure CB (w : World) (p : Qp) (lb lo : Nat) (L : List Int) (sa : Option Addr) (sn : Nat) (Pl At : Nat → Int) : Prop where
  ints : Ints w (some ⟨lb, lo, none⟩) L
  lout : Outq p lb
  st : StIn w sa sn Pl At
  sout : 0 < sn → ∀ q, sa = some q → Outq p q.block
structure CT (w : World) (p : Qp) (n ab nb : Nat) (many : Int) (sa : Option Addr) (sn sc : Nat) (d : Qd) (A : Nat → Bool) (W : World) : Prop where
  q : QIs W p d
  bq : Bq p w W
  row : W.rowIs ab 4 n (fun j => .bool (A j))
  n0 : W.cell? ⟨nb, 0, none⟩ = some (.int .i64 many)
  n1 : W.cell? ⟨nb, 1, none⟩ = some (.slice sa sn sc)
  ge : w.heap.size ≤ ab ∧ w.heap.size ≤ nb ∧ ab ≠ nb
  lt : p.b < w.heap.size ∧ p.cb < w.heap.size ∧ p.m1 < w.heap.size ∧ p.m2 < w.heap.size ∧ p.m3 < w.heap.size
section
variable {w W W' : World} {p : Qp} {n ab nb : Nat} {many : Int} {sa : Option Addr} {sn sc : Nat} {d d' : Qd} {A : Nat → Bool} {lb lo : Nat} {L : List Int} {Pl At : Nat → Int}
theorem CT.turn (h : CT w p n ab nb many sa sn sc d A W) (q : QIs W' p d') (b : Bq p W W') : CT w p n ab nb many sa sn sc d' A W' := by
  obtain ⟨g1, g2, g3⟩ := h.ge
  obtain ⟨l1, l2, l3, l4, l5⟩ := h.lt
  exact ⟨q, h.bq.trans b, b.row h.row (by omega) (by omega) (by omega) (by omega), b.cell h.n0 (by show nb ≠ _; omega) (by show nb ≠ _; omega) (by show nb ≠ _; omega) (by show nb ≠ _; omega), b.cell h.n1 (by show nb ≠ _; omega) (by show nb ≠ _; omega) (by show nb ≠ _; omega) (by show nb ≠ _; omega), h.ge, h.lt⟩
theorem CT.sin (h : CT w p n ab nb many sa sn sc d A W) (hs : W.Since W.heap.size W') : CT w p n ab nb many sa sn sc d A W' := h.turn (h.q.since hs) (Bq.of_since hs)
theorem CT.mark (h : CT w p n ab nb many sa sn sc d A W) (P : Nat) : CT w p n ab nb many sa sn sc d (fun j => if j = P then true else A j) (W.setCell ⟨ab, P, none⟩ (.bool true)) := by
  obtain ⟨g1, g2, g3⟩ := h.ge
  obtain ⟨l1, l2, l3, l4, l5⟩ := h.lt
  have hb : ∀ b, b ≠ ab → (W.setCell ⟨ab, P, none⟩ (.bool true)).heap[b]? = W.heap[b]? := fun b e => Below.heap_setCell _ _ _ _ e
  refine ⟨h.q.on (hb _ (by omega)) (hb _ (by omega)) (hb _ (by omega)) (hb _ (by omega)) (hb _ (by omega)), ⟨h.bq.os, h.bq.tape, h.bq.output, by have := h.bq.size; simpa [World.setCell] using this, fun k hk a b c e => (hb k (by omega)).trans (h.bq.block k hk a b c e)⟩, (h.row.set P _).congr (fun j _ => ?_), by rw [World.cell?_of_block (a := ⟨nb, 0, none⟩) (hb nb (fun e => g3 e.symm))]; exact h.n0, by rw [World.cell?_of_block (a := ⟨nb, 1, none⟩) (hb nb (fun e => g3 e.symm))]; exact h.n1, h.ge, h.lt⟩
  by_cases e : j = P
  · simp [e]
  · simp [e]
theorem CB.intsW (h : CB w p lb lo L sa sn Pl At) (b : Bq p w W) : Ints W (some ⟨lb, lo, none⟩) L := fun j hj => by
  obtain ⟨g, o, e, hc⟩ := h.ints j hj
  refine ⟨g, o, e, ?_⟩
  cases e
  exact b.cell hc h.lout.1 h.lout.2.1 h.lout.2.2.1 h.lout.2.2.2
theorem CB.stW (h : CB w p lb lo L sa sn Pl At) (b : Bq p w W) : StIn W sa sn Pl At := ⟨fun i hi => by
  obtain ⟨g, o, e, h1, h2, h3⟩ := h.st.at' i hi
  have ho := h.sout (by omega) _ e
  exact ⟨g, o, e, b.cell h1 ho.1 ho.2.1 ho.2.2.1 ho.2.2.2, b.cell h2 ho.1 ho.2.1 ho.2.2.1 ho.2.2.2, Nat.lt_of_lt_of_le h3 b.size⟩, h.st.ok⟩
theorem out_form {B : Nat} {r : Value} {ms : List Mg} (h : OutM B W r ms) : ∃ a c, r = .slice a ms.length c := by
  obtain ⟨l, ho, rfl, _⟩ := h
  obtain ⟨a, c, e⟩ := ownM_form ho
  exact ⟨a, c, by rw [e, List.length_map]⟩
theorem MgN.setN {m : Mg} (h : MgN m) (c : Nat) (v : Int) (hu : isU c = true → 0 ≤ v ∧ v < 18446744073709551616) (hi : isU c = false → -9223372036854775808 ≤ v ∧ v ≤ 9223372036854775807) : MgN (m.setN c v) := by
  refine ⟨fun j hj => ?_, fun j hj => ?_⟩
  · show 0 ≤ (if j = c then v else m.n j) ∧ (if j = c then v else m.n j) < _
    by_cases e : j = c
    · rw [if_pos e]; exact hu (e ▸ hj)
    · rw [if_neg e]; exact h.u j hj
  · show _ ≤ (if j = c then v else m.n j) ∧ (if j = c then v else m.n j) ≤ _
    by_cases e : j = c
    · rw [if_pos e]; exact hi (e ▸ hj)
    · rw [if_neg e]; exact h.i j hj
theorem anG_n {X Y : Int} (hX : I64 X) (hY : I64 Y) : MgN (anG X Y) := by
  have e : anG X Y = ((((Mg.mk (fun _ => 0) (fun _ => [])).setN 3 1).setN 2 Y).setN 1 X).setN 0 2 := Mg.ext' (fun c => rfl) (fun c => rfl)
  rw [e]
  have h0 : MgN (Mg.mk (fun _ => 0) (fun _ => [])) := ⟨fun _ _ => (by show (0 : Int) ≤ 0 ∧ (0 : Int) < 18446744073709551616; decide), fun _ _ => (by show (-9223372036854775808 : Int) ≤ 0 ∧ (0 : Int) ≤ 9223372036854775807; decide)⟩
  exact (((h0.setN 3 1 (fun e => absurd e (by decide)) (fun _ => by constructor <;> decide)).setN 2 Y (fun e => absurd e (by decide)) (fun _ => hY)).setN 1 X (fun e => absurd e (by decide)) (fun _ => hX)).setN 0 2 (fun e => absurd e (by decide)) (fun _ => by constructor <;> decide)
theorem ansM_n (k : Nat) (X Y T : Int) (pp : Nat) (hX : I64 X) (hY : I64 Y) (hT : 0 ≤ T ∧ T < 5) (hp : pp < 9) : MgN (ansM k X Y T pp) := by
  have h := anG_n hX hY
  unfold ansM
  split
  · have q := ((h.setN 4 77 (fun _ => by constructor <;> decide) (fun e => absurd e (by decide))).setN 5 T (fun _ => by omega) (fun e => absurd e (by decide))).setN 6 (pp : Nat) (fun _ => by omega) (fun e => absurd e (by decide))
    exact ⟨q.u, q.i⟩
  · split
    · exact ((h.setN 0 5 (fun e => absurd e (by decide)) (fun _ => by constructor <;> decide)).setN 5 77 (fun _ => by constructor <;> decide) (fun e => absurd e (by decide))).setN 6 1 (fun _ => by constructor <;> decide) (fun e => absurd e (by decide))
    · exact ((h.setN 0 7 (fun e => absurd e (by decide)) (fun _ => by constructor <;> decide)).setN 4 77 (fun _ => by constructor <;> decide) (fun e => absurd e (by decide))).setN 7 1 (fun _ => by constructor <;> decide) (fun e => absurd e (by decide))
/-- An answer is made, and heard. -/
theorem CT.hear (h : CT w p n ab nb many sa sn sc d A W) (k : Nat) (hI : ∀ x ∈ L, I64 x) (me P i : Nat) (hme : me < L.length) (hP : P < L.length) (hl : L.length ≤ 9) (lc : Nat)
    (HA : Calls Try.prog 33 #[.agg #[.int .i64 many, .slice sa sn sc], .slice (some ⟨lb, lo, none⟩) L.length lc, .int .i64 (me : Nat), .int .i64 (k : Nat), .int .i64 (P : Nat), .int .i64 (i : Nat)] W fun e w' => ∃ va vc, e = .returned (mgV (ansM k (L.getD P 0) (L.getD me 0) (atS sn At i % 5) P) va vc) ∧ MgA w' (ansM k (L.getD P 0) (L.getD me 0) (atS sn At i % 5) P) va vc ∧ W.Since W.heap.size w') :
    Hid (Calls Try.prog 33 #[.agg #[.int .i64 many, .slice sa sn sc], .slice (some ⟨lb, lo, none⟩) L.length lc, .int .i64 (me : Nat), .int .i64 (k : Nat), .int .i64 (P : Nat), .int .i64 (i : Nat)] W fun e w3 => ∃ MA : Array Value, e = .returned (.agg MA) ∧
      Hid (Calls Try.prog 16 #[.pointer (some ⟨p.b, 0, none⟩), .agg MA, .int .i64 6] w3 fun e w4 => ∃ a c, e = .returned (.slice a (hearM d (ansM k (L.getD P 0) (L.getD me 0) (atS sn At i % 5) P) 6).2.length c) ∧ Hid (CT w p n ab nb many sa sn sc (hearM d (ansM k (L.getD P 0) (L.getD me 0) (atS sn At i % 5) P) 6).1 A w4))) :=
  HA.mono fun e w3 ⟨va, vc, he, hA, hs⟩ => by
    have h3 := h.sin hs
    have mem : ∀ j, j < L.length → L.getD j 0 ∈ L := fun j hj => by simp [List.getD, hj]
    have hN : MgN (ansM k (L.getD P 0) (L.getD me 0) (atS sn At i % 5) P) := ansM_n _ _ _ _ _ (hI _ (mem P hP)) (hI _ (mem me hme)) (by omega) (by omega)
    refine ⟨_, he, (hear_any h3.q _ va vc hA hN 6).mono fun e w4 ⟨r, he4, ho, hq, hb⟩ => ?_⟩
    obtain ⟨a, c, er⟩ := out_form ho
    exact ⟨a, c, by rw [he4, er], h3.turn hq hb⟩
theorem CT.tick (h : CT w p n ab nb many sa sn sc d A W) : Hid (Calls Try.prog 11 #[.pointer (some ⟨p.b, 0, none⟩), .int .i64 6] W fun e w4 => ∃ a c, e = .returned (.slice a (tickM d 6).2.length c) ∧ Hid (CT w p n ab nb many sa sn sc (tickM d 6).1 A w4)) :=
  (tick_any h.q 6).mono fun e w4 ⟨r, he4, ho, hq, hb⟩ => by
    obtain ⟨a, c, er⟩ := out_form ho
    exact ⟨a, c, by rw [he4, er], h.turn hq hb⟩
end
/-- Where the counting stands. -/
structure CQ (k : Nat) (L : List Int) (nd : Int) (sn : Nat) (need i c : Nat) (d : Qd) (A : Nat → Bool) (C : List Int) : Prop where
  lt : c < need
  inv : KInv k L nd C d
  len : c = C.length
  rel : Rel A L C
  sub : Sub L C
  cov : ∀ j, sn ≤ j → j < i → A (j % L.length) = true
def CP (k : Nat) (L : List Int) (nd : Int) (sn : Nat) (need i c : Nat) (d : Qd) (A : Nat → Bool) : Prop := (∃ C, CQ k L nd sn need i c d A C) ∨ (c = need ∧ KEnd k L nd d)
theorem CP.fin {k : Nat} {L : List Int} {nd : Int} {sn need i c : Nat} {d : Qd} {A : Nat → Bool} (h : CP k L nd sn need i c d A) (hn : L.Nodup) (hl : 1 ≤ L.length) (hneed : need ≤ L.length) (hx : ¬ (i < sn + L.length ∧ c < need)) : c = need ∧ KEnd k L nd d := by
  rcases h with ⟨C, hq⟩ | h
  · exfalso
    have hi : ¬ i < sn + L.length := fun e => hx ⟨e, hq.lt⟩
    have : L.length ≤ C.length := nodup_len L C hn (fun x hx => by
      obtain ⟨j, hj, rfl⟩ := List.mem_iff_getElem.1 hx
      have hA : A j = true := by
        have key : ∃ t, sn ≤ t ∧ t < i ∧ t % L.length = j := by
          refine ⟨sn + (j + L.length - sn % L.length) % L.length, by omega, ?_, ?_⟩
          · have := Nat.mod_lt (j + L.length - sn % L.length) (show 0 < L.length by omega)
            omega
          · have h1 := Nat.mod_lt sn (show 0 < L.length by omega)
            rw [Nat.add_mod, Nat.mod_mod, ← Nat.add_mod]
            have e : sn + (j + L.length - sn % L.length) = j + L.length * (sn / L.length + 1) := by
              have := Nat.div_add_mod sn L.length
              rw [Nat.mul_add, Nat.mul_one]
              omega
            rw [e, Nat.add_mul_mod_self_left, Nat.mod_eq_of_lt hj]
        obtain ⟨t, t1, t2, t3⟩ := key
        rw [← t3]
        exact hq.cov t t1 t2
      have := hq.rel j hj
      rw [hA] at this
      have := of_decide_eq_true this.symm
      simpa [List.getD, hj] using this)
    have := hq.len
    have := hq.lt
    omega
  · exact h
end Go.Proofs.Ytcamdljlkcnikaa

/- QuorumCounts: an answer is made and heard, by name. -/
namespace Go.Proofs.Ytcamdljlkcnikaa
open Go.RowKit Go.Maps
set_option maxRecDepth 100000
set_option maxRecDepth 100000

def HearP (w : World) (p : Qp) (n ab nb : Nat) (many : Int) (sa : Option Addr) (sn sc lb lo lc me P i : Nat) (kk : Int) (d2 : Qd) (o : Nat) (A : Nat → Bool) (W : World) : Prop :=
  Calls Try.prog 33 #[.agg #[.int .i64 many, .slice sa sn sc], .slice (some ⟨lb, lo, none⟩) n lc, .int .i64 (me : Nat), .int .i64 kk, .int .i64 (P : Nat), .int .i64 (i : Nat)] W fun e w3 => ∃ MA : Array Value, e = .returned (.agg MA) ∧
      Hid (Calls Try.prog 16 #[.pointer (some ⟨p.b, 0, none⟩), .agg MA, .int .i64 6] w3 fun e w4 => ∃ a c, e = .returned (.slice a o c) ∧ Hid (CT w p n ab nb many sa sn sc d2 A w4))
section
variable {w W : World} {p : Qp} {n ab nb : Nat} {many : Int} {sa : Option Addr} {sn sc : Nat} {d d2 : Qd} {o : Nat} {A : Nat → Bool} {lb lo : Nat} {L : List Int} {Pl At : Nat → Int} {nd : Int}
theorem CT.hears_0 (hb : CB w p lb lo L sa sn Pl At) (h : CT w p n ab nb many sa sn sc d A W) (hI : ∀ x ∈ L, I64 x) (me P i lc : Nat) (hn : L.length = n) (hnd : L.getD me 0 = nd) (hme : me < n) (hP : P < n) (hl : n ≤ 9) (hsn : sn ≤ 6000000000000)
    (e1 : (hearM d (ansM 0 (L.getD P 0) nd (atS sn At i % 5) P) 6).1 = d2) (e2 : (hearM d (ansM 0 (L.getD P 0) nd (atS sn At i % 5) P) 6).2.length = o) : HearP w p n ab nb many sa sn sc lb lo lc me P i 0 d2 o A W := by
  subst hn hnd e1 e2
  exact (CT.hear h 0 hI me P i hme hP hl lc (answer_0 (hb.stW h.bq) hsn many sc (hb.intsW h.bq) me P i hme hP hl)).out
theorem CT.hears_1 (hb : CB w p lb lo L sa sn Pl At) (h : CT w p n ab nb many sa sn sc d A W) (hI : ∀ x ∈ L, I64 x) (me P i lc : Nat) (hn : L.length = n) (hnd : L.getD me 0 = nd) (hme : me < n) (hP : P < n) (hl : n ≤ 9) (hsn : sn ≤ 6000000000000)
    (e1 : (hearM d (ansM 1 (L.getD P 0) nd (atS sn At i % 5) P) 6).1 = d2) (e2 : (hearM d (ansM 1 (L.getD P 0) nd (atS sn At i % 5) P) 6).2.length = o) : HearP w p n ab nb many sa sn sc lb lo lc me P i 1 d2 o A W := by
  subst hn hnd e1 e2
  exact (CT.hear h 1 hI me P i hme hP hl lc (answer_1 (hb.stW h.bq) hsn many sc (hb.intsW h.bq) me P i hme hP hl)).out
theorem CT.hears_2 (hb : CB w p lb lo L sa sn Pl At) (h : CT w p n ab nb many sa sn sc d A W) (hI : ∀ x ∈ L, I64 x) (me P i lc : Nat) (hn : L.length = n) (hnd : L.getD me 0 = nd) (hme : me < n) (hP : P < n) (hl : n ≤ 9) (hsn : sn ≤ 6000000000000)
    (e1 : (hearM d (ansM 2 (L.getD P 0) nd (atS sn At i % 5) P) 6).1 = d2) (e2 : (hearM d (ansM 2 (L.getD P 0) nd (atS sn At i % 5) P) 6).2.length = o) : HearP w p n ab nb many sa sn sc lb lo lc me P i 2 d2 o A W := by
  subst hn hnd e1 e2
  exact (CT.hear h 2 hI me P i hme hP hl lc (answer_2 (hb.stW h.bq) hsn many sc (hb.intsW h.bq) me P i hme hP hl)).out
end
end Go.Proofs.Ytcamdljlkcnikaa

/- QuorumCounts: counts. -/
namespace Go.Proofs.Ytcamdljlkcnikaa
open Go.RowKit Go.Maps
set_option maxRecDepth 100000
set_option maxRecDepth 100000

theorem infoB : (Try.prog.info? 4).map (fun i => (i.zero, i.size, i.bytes)) = some (some (.bool false), 1, 1) := by kernel_rfl
theorem c_begin {w : World} {p : Qp} {d : Qd} {lb lo : Nat} {L : List Int} {sa : Option Addr} {sn : Nat} {Pl At : Nat → Int} (h : QIs w p d) (n : Nat) (hn : n ≤ 9) (many : Int) (sc : Nat) (_hb : CB w p lb lo L sa sn Pl At) :
    ∃ (W0 W1 : World) (nb ab : Nat), Hid (w.alloc (.cells #[.int .i64 many, .slice sa sn sc] 24) = W0) ∧ Hid (w.heap.size = nb) ∧ Hid ((Instr.makeSlice 85 (.int .i64 (n : Nat)) (.int .i64 (n : Nat))).run Try.prog W0 = .ok (.slice (some ⟨ab, 0, none⟩) n n) W1) ∧ Hid (CT w p n ab nb many sa sn sc d (fun _ => false) W1) := by
  have s0 : w.Since w.heap.size (w.alloc (.cells #[.int .i64 many, .slice sa sn sc] 24)) := (World.Since.refl _ _).alloc (Nat.le_refl _) _
  have z0 : (w.alloc (.cells #[.int .i64 many, .slice sa sn sc] 24)).heap.size = w.heap.size + 1 := by simp
  have c0 : (w.alloc (.cells #[.int .i64 many, .slice sa sn sc] 24)).cell? ⟨w.heap.size, 0, none⟩ = some (.int .i64 many) := by simp
  have c1 : (w.alloc (.cells #[.int .i64 many, .slice sa sn sc] 24)).cell? ⟨w.heap.size, 1, none⟩ = some (.slice sa sn sc) := by simp
  generalize w.alloc (.cells #[.int .i64 many, .slice sa sn sc] 24) = W0 at *
  have hmk := run_make_row' (P := Try.prog) 85 4 (.bool false) 1 Try.underlying85 infoB rfl .i64 .i64 n (by omega) (by omega) W0
  have s1 : W0.Since W0.heap.size (W0.alloc (.cells (madeCells #[.bool false] n) 4)) := (World.Since.refl _ _).alloc (Nat.le_refl _) _
  have r1 := World.rowIs_made W0 (.bool false) n 4
  have sw := s0.trans (since_mono s1 s0.size)
  exact ⟨W0, _, _, _, rfl, rfl, hmk, h.since sw, Bq.of_since sw, r1.congr (fun j hj => rfl), cell_later s1 c0, cell_later s1 c1, ⟨s0.size, Nat.le_refl _, by omega⟩, h.lts⟩
set_option maxHeartbeats 16000000 in
theorem counts_0 {w : World} {p : Qp} {d : Qd} {lb lo : Nat} {L : List Int} {sa : Option Addr} {sn : Nat} {Pl At : Nat → Int} (h : QIs w p d) (hb : CB w p lb lo L sa sn Pl At) (many : Int) (sc lc me : Nat) (hI : ∀ x ∈ L, I64 x) (hnd : L.Nodup) (hl3 : 3 ≤ L.length) (hl9 : L.length ≤ 9) (hodd : L.length % 2 = 1) (hme : me < L.length) (hsn : sn ≤ 6000000000000) (hK : KInv 0 L (L.getD me 0) [L.getD me 0] d) :
    Calls Try.prog 12 #[.agg #[.int .i64 many, .slice sa sn sc], .pointer (some ⟨p.b, 0, none⟩), .slice (some ⟨lb, lo, none⟩) L.length lc, .int .i64 (me : Nat), .int .i64 0] w fun e w' => e = .returned (.bool true) ∧ ∃ d', QIs w' p d' ∧ KEnd 0 L (L.getD me 0) d' ∧ Bq p w w' := by
  obtain ⟨W0, W1, nb, ab, HW0, Hnb, HMK, HT⟩ := c_begin h L.length hl9 many sc hb
  obtain ⟨n, hn⟩ : ∃ n, L.length = n := ⟨_, rfl⟩
  obtain ⟨need, hneed⟩ : ∃ x, n / 2 + 1 = x := ⟨_, rfl⟩
  have HB := hide hb
  have HI := hide hI
  have HND := hide hnd
  have HR0 : Hid (Rel (fun _ => false) L []) := fun j hj => by simp
  have hq2 : IntKind.i64.wrap (Int.tdiv (n : Int) 2) = ((n / 2 : Nat) : Int) := by rw [Int.tdiv_eq_ediv_of_nonneg (by omega), IntKind.wrap_i64]; omega
  have hq2' : (n : Int) / 2 = ((n / 2 : Nat) : Int) := by omega
  have hq3 : IntKind.i64.wrap (((n / 2 : Nat) : Int) + 1) = (need : Nat) := by rw [IntKind.wrap_i64]; omega
  generalize ((n / 2 : Nat) : Int) = H2 at hq2 hq2' hq3
  have hns : IntKind.i64.wrap ((sn : Int) + (n : Int)) = (sn : Int) + (n : Int) := by rw [IntKind.wrap_i64]; omega
  rw [hn] at HMK HT
  have hmn : me < n := by omega
  have HT2 := HT.out.mark me
  obtain ⟨xm, dm⟩ : ∃ x, W1.cell? ⟨ab, me, none⟩ = some x := ⟨_, HT.out.row.cell hmn⟩
  have fm : W1.frozen? ⟨ab, me, none⟩ = false := HT.out.row.frozen me
  obtain ⟨W2, HW2⟩ : ∃ W, Hid (W1.setCell ⟨ab, me, none⟩ (.bool true) = W) := ⟨_, rfl⟩
  rw [HW2.out] at HT2
  have hz1 : (me : Int) < (n : Int) := by omega
  have hz0 : (0 : Int) ≤ (me : Int) := by omega
  have HX0 : Hid (∃ d A, CT w p n ab nb many sa sn sc d A W2 ∧ CP 0 L (L.getD me 0) sn need 0 1 d A) := ⟨_, _, HT2, .inl ⟨_, by omega, hK, rfl, by have := rel_next HR0.out hnd hme; simpa using this, ⟨fun x hx => by
    obtain rfl : x = L.getD me 0 := by simpa using hx
    simp [List.getD, hme], by simp⟩, fun j h1 h2 => by omega⟩⟩
  have hme9 : me < n := by omega
  have hl99 : n ≤ 9 := by omega
  obtain ⟨nd, hnde⟩ : ∃ x, L.getD me 0 = x := ⟨_, rfl⟩
  rw [hnde] at HX0
  have HMK2 := HMK.out
  rw [hn]
  clear HT h hb hI hnd hK HR0 HMK HT2
  go_enter Try.func12, Try.ntmps12
  go_upto_region 1 with fail
  rw [HW0.out, Hnb.out]
  clear HW0 Hnb
  go_upto_region 6 with fail
  rw [HW2.out]
  clear HW2 dm fm hz1 hz0
  clear HMK2 hq2 hq2' hq3
  go_wp2_with fail
  go_loopg [13, 14] (sn + n) (fun q s13 s14 wx => ∃ (i c : Nat), i ≤ sn + n ∧ q = sn + n - i ∧ s14 = .int .i64 (i : Nat) ∧ s13 = .int .i64 (c : Nat) ∧ Hid (∃ d A, CT w p n ab nb many sa sn sc d A wx ∧ CP 0 L nd sn need i c d A))
  case atStart => exact ⟨0, 1, Nat.zero_le _, rfl, rfl, rfl, HX0⟩
  case round =>
    clear HX0
    obtain ⟨i, c, hi, rfl, rfl, rfl, HX⟩ := hrel
    obtain ⟨d, A, hCT, hCP⟩ := HX.out
    have k1 := hCT.n1
    have k10 := hCT.n0
    by_cases hgo : i < sn + n ∧ c < need
    · obtain ⟨C, hQ⟩ : ∃ C, CQ 0 L nd sn need i c d A C := by
        rcases hCP with q | ⟨q, _⟩
        · exact q
        · omega
      clear HX hCP
      have z1 : (i : Int) < (sn : Int) + (n : Int) := by omega
      have z2 : (c : Int) < (need : Int) := by omega
      have z3 : (0 : Int) ≤ (i : Int) := by omega
      have z4 : ¬ ((n : Int) = 0) := by omega
      have z5 : ((n : Int) == 0) = false := by simp; omega
      have hwi : IntKind.i64.wrap ((i : Int) + 1) = (i : Int) + 1 := by rw [IntKind.wrap_i64]; omega
      have hwc : IntKind.i64.wrap ((c : Int) + 1) = (c : Int) + 1 := by rw [IntKind.wrap_i64]; omega
      have hme2 : sn + n - (i + 1) < sn + n - i := by omega
      have hi1 : i + 1 ≤ sn + n := by omega
      obtain ⟨M, hM⟩ : ∃ M, i % n = M := ⟨_, rfl⟩
      have hMn : M < n := by rw [← hM]; exact Nat.mod_lt _ (by omega)
      have x1 : (i : Int) % (n : Int) = (M : Nat) := by rw [← hM]; exact (Int.natCast_emod i n).symm
      have x2 : IntKind.i64.wrap (Int.tmod (i : Int) (n : Int)) = (M : Nat) := by rw [Int.tmod_eq_emod_of_nonneg (by omega), x1, IntKind.wrap_i64]; omega
      have HN : ∀ P, P < n → (sn ≤ i → P = M) → (A P = true → Hid (∀ W, CT w p n ab nb many sa sn sc d A W → ∃ d A, CT w p n ab nb many sa sn sc d A W ∧ CP 0 L nd sn need (i + 1) c d A)) := fun P hP hPM hA W hW =>
        ⟨_, _, hW, .inl ⟨C, hQ.lt, hQ.inv, hQ.len, hQ.rel, hQ.sub, fun j h1 h2 => by
          by_cases e : j = i
          · subst e
            rw [hn, hM, ← hPM h1]
            exact hA
          · exact hQ.cov j h1 (by omega)⟩⟩
      have mem : ∀ j, j < n → L.getD j 0 ∈ L := fun j hj => by simp [List.getD, hn, hj]
      by_cases hs : i < sn
      · obtain ⟨sb, so, rfl, pc, _, _⟩ := (HB.out.stW hCT.bq).at' i hs
        have zs : (i : Int) < (sn : Int) := by omega
        obtain ⟨PL, hPL⟩ : ∃ x, Pl i = x := ⟨_, rfl⟩
        rw [hPL] at pc
        have hPLb : I64 PL := by rw [← hPL]; exact (HB.out.st.ok i).1
        obtain ⟨P, hPe⟩ : ∃ P : Nat, PL % (n : Int) = (P : Nat) := ⟨(PL % (n : Int)).toNat, by have := Int.emod_nonneg PL z4; omega⟩
        have hP : P < n := by have := Int.emod_lt_of_pos PL (show (0 : Int) < (n : Int) by omega); omega
        have hPM : sn ≤ i → P = M := fun e => by omega
        have HIN : Hid (∀ W, Calls Try.prog 7 #[.int .i64 PL, .int .i64 (n : Nat)] W fun e w' => e = .returned (.int .i64 (P : Nat)) ∧ W = w') := fun W => by
          have q := into_any PL n (by omega) (by omega) hPLb W
          rw [hPe] at q
          exact q
        clear hPL hPLb hPe hs
        have hX := mem P hP
        have hKH := k0_hear hQ.inv (L.getD P 0) (atS sn At i % 5) P hX
        have hAP : A P = decide (L.getD P 0 ∈ C) := hQ.rel P (by omega)
        have zP : (P : Int) < (n : Int) := by omega
        have zP0 : (0 : Int) ≤ (P : Int) := by omega
        cases hA : A P with
        | true =>
          have hin : L.getD P 0 ∈ C := of_decide_eq_true (hAP.symm.trans hA)
          have HE := hKH.1 hin
          have HANS : Hid (∀ W, CT w p n ab nb many (some ⟨sb, so, none⟩) sn sc d A W → HearP w p n ab nb many (some ⟨sb, so, none⟩) sn sc lb lo lc me P i 0 d 0 A W) := fun W hW => CT.hears_0 HB.out hW HI.out me P i lc hn hnde hme9 hP hl99 hsn (congrArg Prod.fst HE) (congrArg (fun z => z.2.length) HE)
          have HN2 := HN P hP hPM hA
          have zc : ((c : Int) == (need : Int)) = false := by simp; omega
          have zn : ((0 : Int) == (n : Int)) = false := by simp; omega
          have HAN := hide (HANS.out _ hCT)
          unfold HearP at HAN
          clear hKH hX hQ HN mem hM hCT HANS
          go_upto_region 13 with (go_at_call 7; refine (HIN.out _).mono ?_; rintro e wq ⟨rfl, rfl⟩)
          clear HIN pc zs
          go_upto_region 16 with (first
            | (go_at_call 33; refine HAN.out.mono ?_; rintro e w3 ⟨MA, rfl, HHE⟩)
            | (go_at_call 16; refine HHE.out.mono ?_; rintro e w4 ⟨ra, rc, rfl, HC4⟩))
          clear HAN HHE
          have cP : w4.cell? ⟨ab, P, none⟩ = some (.bool true) := by have := HC4.out.row.cell hP; rw [hA] at this; exact this
          have HNX := hide (HN2.out _ HC4.out)
          clear HN2 HC4
          go_wp2_with fail
          go_roundg (sn + n - (i + 1))
          case measure => go_light; exact hme2
          case rel => go_light; exact ⟨i + 1, c, hi1, rfl, by simp, rfl, HNX⟩
        | false =>
          by_cases hc1 : c + 1 < need
          · have hout : L.getD P 0 ∉ C := of_decide_eq_false (hAP.symm.trans hA)
            have hno : ¬ L.length < 2 * (C.length + 1) := by rw [← hQ.len]; omega
            obtain ⟨hK2, he0⟩ := hKH.2.1 hout hno
            have HN2 : Hid (∀ W, CT w p n ab nb many (some ⟨sb, so, none⟩) sn sc (hearM d (ansM 0 (L.getD P 0) nd (atS sn At i % 5) P) 6).1 (fun j => if j = P then true else A j) W → ∃ d A, CT w p n ab nb many (some ⟨sb, so, none⟩) sn sc d A W ∧ CP 0 L nd sn need (i + 1) (c + 1) d A) := fun W hW =>
              ⟨_, _, hW, .inl ⟨C ++ [L.getD P 0], by omega, hK2, by rw [List.length_append, ← hQ.len]; rfl, rel_next hQ.rel HND.out (by omega), ⟨fun x hx => by
                rcases List.mem_append.1 hx with q | q
                · exact hQ.sub.mem x q
                · obtain rfl : x = L.getD P 0 := by simpa using q
                  exact hX, by
                rw [List.nodup_append]
                exact ⟨hQ.sub.nd, by simp, fun a ha b hb e => by
                  obtain rfl : b = L.getD P 0 := by simpa using hb
                  exact hout (e ▸ ha)⟩⟩, fun j h1 h2 => by
                by_cases e : j = i
                · subst e
                  rw [hn, hM, ← hPM h1]
                  simp
                · have := hQ.cov j h1 (by omega)
                  show (if j % L.length = P then true else A (j % L.length)) = true
                  rw [this]
                  simp⟩⟩
            obtain ⟨d2, hd2⟩ : ∃ x, (hearM d (ansM 0 (L.getD P 0) nd (atS sn At i % 5) P) 6).1 = x := ⟨_, rfl⟩
            have HANS : Hid (∀ W, CT w p n ab nb many (some ⟨sb, so, none⟩) sn sc d A W → HearP w p n ab nb many (some ⟨sb, so, none⟩) sn sc lb lo lc me P i 0 d2 0 A W) := fun W hW => CT.hears_0 HB.out hW HI.out me P i lc hn hnde hme9 hP hl99 hsn hd2 (congrArg List.length he0)
            rw [hd2] at HN2
            clear hd2
            have zc : (((c : Int) + 1) == (need : Int)) = false := by simp; omega
            have zn : ((0 : Int) == (n : Int)) = false := by simp; omega
            have HAN := hide (HANS.out _ hCT)
            unfold HearP at HAN
            clear hKH hX hQ HN mem hM hCT HANS
            go_upto_region 13 with (go_at_call 7; refine (HIN.out _).mono ?_; rintro e wq ⟨rfl, rfl⟩)
            clear HIN pc zs
            go_upto_region 16 with (first
              | (go_at_call 33; refine HAN.out.mono ?_; rintro e w3 ⟨MA, rfl, HHE⟩)
              | (go_at_call 16; refine HHE.out.mono ?_; rintro e w4 ⟨ra, rc, rfl, HC4⟩))
            clear HAN HHE
            have cP : w4.cell? ⟨ab, P, none⟩ = some (.bool false) := by have := HC4.out.row.cell hP; rw [hA] at this; exact this
            have fP : w4.frozen? ⟨ab, P, none⟩ = false := HC4.out.row.frozen P
            have HC5 := HC4.out.mark P
            obtain ⟨W5, HW5⟩ : ∃ W, Hid (w4.setCell ⟨ab, P, none⟩ (.bool true) = W) := ⟨_, rfl⟩
            rw [HW5.out] at HC5
            have HNX := hide (HN2.out _ HC5)
            clear HN2 HC4 HC5
            go_upto_region 18 with fail
            rw [HW5.out]
            clear HW5 cP fP
            go_wp2_with fail
            go_roundg (sn + n - (i + 1))
            case measure => go_light; exact hme2
            case rel => go_light; exact ⟨i + 1, c + 1, hi1, rfl, by simp, by simp, HNX⟩
          · have hout : L.getD P 0 ∉ C := of_decide_eq_false (hAP.symm.trans hA)
            have hyes : L.length < 2 * (C.length + 1) := by rw [← hQ.len]; omega
            obtain ⟨hK2, he0⟩ := hKH.2.2 hout hyes
            have HN2 : Hid (∀ W, CT w p n ab nb many (some ⟨sb, so, none⟩) sn sc (hearM d (ansM 0 (L.getD P 0) nd (atS sn At i % 5) P) 6).1 (fun j => if j = P then true else A j) W → ∃ d A, CT w p n ab nb many (some ⟨sb, so, none⟩) sn sc d A W ∧ CP 0 L nd sn need (i + 1) (c + 1) d A) := fun W hW =>
              ⟨_, _, hW, .inr ⟨by omega, hK2⟩⟩
            obtain ⟨d2, hd2⟩ : ∃ x, (hearM d (ansM 0 (L.getD P 0) nd (atS sn At i % 5) P) 6).1 = x := ⟨_, rfl⟩
            have HANS : Hid (∀ W, CT w p n ab nb many (some ⟨sb, so, none⟩) sn sc d A W → HearP w p n ab nb many (some ⟨sb, so, none⟩) sn sc lb lo lc me P i 0 d2 n A W) := fun W hW => CT.hears_0 HB.out hW HI.out me P i lc hn hnde hme9 hP hl99 hsn hd2 (he0.trans hn)
            rw [hd2] at HN2
            clear hd2
            have zc : (((c : Int) + 1) == (need : Int)) = true := by simp; omega
            have zn : ((n : Int) == (n : Int)) = true := by simp
            have HAN := hide (HANS.out _ hCT)
            unfold HearP at HAN
            clear hKH hX hQ HN mem hM hCT HANS
            go_upto_region 13 with (go_at_call 7; refine (HIN.out _).mono ?_; rintro e wq ⟨rfl, rfl⟩)
            clear HIN pc zs
            go_upto_region 16 with (first
              | (go_at_call 33; refine HAN.out.mono ?_; rintro e w3 ⟨MA, rfl, HHE⟩)
              | (go_at_call 16; refine HHE.out.mono ?_; rintro e w4 ⟨ra, rc, rfl, HC4⟩))
            clear HAN HHE
            have cP : w4.cell? ⟨ab, P, none⟩ = some (.bool false) := by have := HC4.out.row.cell hP; rw [hA] at this; exact this
            have fP : w4.frozen? ⟨ab, P, none⟩ = false := HC4.out.row.frozen P
            have HC5 := HC4.out.mark P
            obtain ⟨W5, HW5⟩ : ∃ W, Hid (w4.setCell ⟨ab, P, none⟩ (.bool true) = W) := ⟨_, rfl⟩
            rw [HW5.out] at HC5
            have HNX := hide (HN2.out _ HC5)
            clear HN2 HC4 HC5
            go_upto_region 18 with fail
            rw [HW5.out]
            clear HW5 cP fP
            go_wp2_with fail
            go_roundg (sn + n - (i + 1))
            case measure => go_light; exact hme2
            case rel => go_light; exact ⟨i + 1, c + 1, hi1, rfl, by simp, by simp, HNX⟩
      · have hP := hMn
        have hPM : sn ≤ i → M = M := fun _ => rfl
        have zs : ¬ (i : Int) < (sn : Int) := by omega
        clear hs
        have hX := mem M hP
        have hKH := k0_hear hQ.inv (L.getD M 0) (atS sn At i % 5) M hX
        have hAP : A M = decide (L.getD M 0 ∈ C) := hQ.rel M (by omega)
        have zP : (M : Int) < (n : Int) := by omega
        have zP0 : (0 : Int) ≤ (M : Int) := by omega
        cases hA : A M with
        | true =>
          have hin : L.getD M 0 ∈ C := of_decide_eq_true (hAP.symm.trans hA)
          have HE := hKH.1 hin
          have HANS : Hid (∀ W, CT w p n ab nb many sa sn sc d A W → HearP w p n ab nb many sa sn sc lb lo lc me M i 0 d 0 A W) := fun W hW => CT.hears_0 HB.out hW HI.out me M i lc hn hnde hme9 hP hl99 hsn (congrArg Prod.fst HE) (congrArg (fun z => z.2.length) HE)
          have HN2 := HN M hP hPM hA
          have zc : ((c : Int) == (need : Int)) = false := by simp; omega
          have zn : ((0 : Int) == (n : Int)) = false := by simp; omega
          have HAN := hide (HANS.out _ hCT)
          unfold HearP at HAN
          clear hKH hX hQ HN mem hM hCT HANS
          go_upto_region 13 with fail
          clear zs
          go_upto_region 16 with (first
            | (go_at_call 33; refine HAN.out.mono ?_; rintro e w3 ⟨MA, rfl, HHE⟩)
            | (go_at_call 16; refine HHE.out.mono ?_; rintro e w4 ⟨ra, rc, rfl, HC4⟩))
          clear HAN HHE
          have cP : w4.cell? ⟨ab, M, none⟩ = some (.bool true) := by have := HC4.out.row.cell hP; rw [hA] at this; exact this
          have HNX := hide (HN2.out _ HC4.out)
          clear HN2 HC4
          go_wp2_with fail
          go_roundg (sn + n - (i + 1))
          case measure => go_light; exact hme2
          case rel => go_light; exact ⟨i + 1, c, hi1, rfl, by simp, rfl, HNX⟩
        | false =>
          by_cases hc1 : c + 1 < need
          · have hout : L.getD M 0 ∉ C := of_decide_eq_false (hAP.symm.trans hA)
            have hno : ¬ L.length < 2 * (C.length + 1) := by rw [← hQ.len]; omega
            obtain ⟨hK2, he0⟩ := hKH.2.1 hout hno
            have HN2 : Hid (∀ W, CT w p n ab nb many sa sn sc (hearM d (ansM 0 (L.getD M 0) nd (atS sn At i % 5) M) 6).1 (fun j => if j = M then true else A j) W → ∃ d A, CT w p n ab nb many sa sn sc d A W ∧ CP 0 L nd sn need (i + 1) (c + 1) d A) := fun W hW =>
              ⟨_, _, hW, .inl ⟨C ++ [L.getD M 0], by omega, hK2, by rw [List.length_append, ← hQ.len]; rfl, rel_next hQ.rel HND.out (by omega), ⟨fun x hx => by
                rcases List.mem_append.1 hx with q | q
                · exact hQ.sub.mem x q
                · obtain rfl : x = L.getD M 0 := by simpa using q
                  exact hX, by
                rw [List.nodup_append]
                exact ⟨hQ.sub.nd, by simp, fun a ha b hb e => by
                  obtain rfl : b = L.getD M 0 := by simpa using hb
                  exact hout (e ▸ ha)⟩⟩, fun j h1 h2 => by
                by_cases e : j = i
                · subst e
                  rw [hn, hM, ← hPM h1]
                  simp
                · have := hQ.cov j h1 (by omega)
                  show (if j % L.length = M then true else A (j % L.length)) = true
                  rw [this]
                  simp⟩⟩
            obtain ⟨d2, hd2⟩ : ∃ x, (hearM d (ansM 0 (L.getD M 0) nd (atS sn At i % 5) M) 6).1 = x := ⟨_, rfl⟩
            have HANS : Hid (∀ W, CT w p n ab nb many sa sn sc d A W → HearP w p n ab nb many sa sn sc lb lo lc me M i 0 d2 0 A W) := fun W hW => CT.hears_0 HB.out hW HI.out me M i lc hn hnde hme9 hP hl99 hsn hd2 (congrArg List.length he0)
            rw [hd2] at HN2
            clear hd2
            have zc : (((c : Int) + 1) == (need : Int)) = false := by simp; omega
            have zn : ((0 : Int) == (n : Int)) = false := by simp; omega
            have HAN := hide (HANS.out _ hCT)
            unfold HearP at HAN
            clear hKH hX hQ HN mem hM hCT HANS
            go_upto_region 13 with fail
            clear zs
            go_upto_region 16 with (first
              | (go_at_call 33; refine HAN.out.mono ?_; rintro e w3 ⟨MA, rfl, HHE⟩)
              | (go_at_call 16; refine HHE.out.mono ?_; rintro e w4 ⟨ra, rc, rfl, HC4⟩))
            clear HAN HHE
            have cP : w4.cell? ⟨ab, M, none⟩ = some (.bool false) := by have := HC4.out.row.cell hP; rw [hA] at this; exact this
            have fP : w4.frozen? ⟨ab, M, none⟩ = false := HC4.out.row.frozen M
            have HC5 := HC4.out.mark M
            obtain ⟨W5, HW5⟩ : ∃ W, Hid (w4.setCell ⟨ab, M, none⟩ (.bool true) = W) := ⟨_, rfl⟩
            rw [HW5.out] at HC5
            have HNX := hide (HN2.out _ HC5)
            clear HN2 HC4 HC5
            go_upto_region 18 with fail
            rw [HW5.out]
            clear HW5 cP fP
            go_wp2_with fail
            go_roundg (sn + n - (i + 1))
            case measure => go_light; exact hme2
            case rel => go_light; exact ⟨i + 1, c + 1, hi1, rfl, by simp, by simp, HNX⟩
          · have hout : L.getD M 0 ∉ C := of_decide_eq_false (hAP.symm.trans hA)
            have hyes : L.length < 2 * (C.length + 1) := by rw [← hQ.len]; omega
            obtain ⟨hK2, he0⟩ := hKH.2.2 hout hyes
            have HN2 : Hid (∀ W, CT w p n ab nb many sa sn sc (hearM d (ansM 0 (L.getD M 0) nd (atS sn At i % 5) M) 6).1 (fun j => if j = M then true else A j) W → ∃ d A, CT w p n ab nb many sa sn sc d A W ∧ CP 0 L nd sn need (i + 1) (c + 1) d A) := fun W hW =>
              ⟨_, _, hW, .inr ⟨by omega, hK2⟩⟩
            obtain ⟨d2, hd2⟩ : ∃ x, (hearM d (ansM 0 (L.getD M 0) nd (atS sn At i % 5) M) 6).1 = x := ⟨_, rfl⟩
            have HANS : Hid (∀ W, CT w p n ab nb many sa sn sc d A W → HearP w p n ab nb many sa sn sc lb lo lc me M i 0 d2 n A W) := fun W hW => CT.hears_0 HB.out hW HI.out me M i lc hn hnde hme9 hP hl99 hsn hd2 (he0.trans hn)
            rw [hd2] at HN2
            clear hd2
            have zc : (((c : Int) + 1) == (need : Int)) = true := by simp; omega
            have zn : ((n : Int) == (n : Int)) = true := by simp
            have HAN := hide (HANS.out _ hCT)
            unfold HearP at HAN
            clear hKH hX hQ HN mem hM hCT HANS
            go_upto_region 13 with fail
            clear zs
            go_upto_region 16 with (first
              | (go_at_call 33; refine HAN.out.mono ?_; rintro e w3 ⟨MA, rfl, HHE⟩)
              | (go_at_call 16; refine HHE.out.mono ?_; rintro e w4 ⟨ra, rc, rfl, HC4⟩))
            clear HAN HHE
            have cP : w4.cell? ⟨ab, M, none⟩ = some (.bool false) := by have := HC4.out.row.cell hP; rw [hA] at this; exact this
            have fP : w4.frozen? ⟨ab, M, none⟩ = false := HC4.out.row.frozen M
            have HC5 := HC4.out.mark M
            obtain ⟨W5, HW5⟩ : ∃ W, Hid (w4.setCell ⟨ab, M, none⟩ (.bool true) = W) := ⟨_, rfl⟩
            rw [HW5.out] at HC5
            have HNX := hide (HN2.out _ HC5)
            clear HN2 HC4 HC5
            go_upto_region 18 with fail
            rw [HW5.out]
            clear HW5 cP fP
            go_wp2_with fail
            go_roundg (sn + n - (i + 1))
            case measure => go_light; exact hme2
            case rel => go_light; exact ⟨i + 1, c + 1, hi1, rfl, by simp, by simp, HNX⟩
    · have hfin := hCP.fin HND.out (by omega) (by omega) (by rw [hn]; exact hgo)
      obtain ⟨hc, hE⟩ := hfin
      have zc : (i : Int) < (sn : Int) + (n : Int) → ¬ (c : Int) < (need : Int) := fun _ => by omega
      have z0 : ¬ (c : Int) < (need : Int) := by omega
      have HRD : Hid (Calls Try.prog 34 #[.pointer (some ⟨p.b, 0, none⟩)] wr fun e w' => e = .returned (.tuple #[.int .u64 (d.begun : Nat), .int .u64 (d.done : Nat)]) ∧ Hid (QIs w' p d ∧ Bq p w w')) := (roundQ_any hCT.q).mono fun e w' ⟨he, m, hw⟩ => by
        subst hw
        exact ⟨he, hCT.q.since (drewN_since wr m), hCT.bq.sin (drewN_since wr m)⟩
      have HPH : Hid (∀ W, QIs W p d → Calls Try.prog 13 #[.pointer (some ⟨p.b, 0, none⟩)] W fun e w' => e = .returned (.int .i64 d.ph) ∧ W = w') := fun W hW => phaseQ_any hW
      have HHO : Hid (∀ W, QIs W p d → Calls Try.prog 30 #[.pointer (some ⟨p.b, 0, none⟩)] W fun e w' => e = .returned (.bool (decide (holdB d))) ∧ W = w') := fun W hW => holdsQ_any hW
      have e1 : d.ph = 2 := (hE.k0 rfl).1
      rw [e1] at HPH
      have HE := hide hE
      clear HX hCT hCP hE hgo
      by_cases z1 : (i : Int) < (sn : Int) + (n : Int)
      · go_wp2_with (first
          | (go_at_call 34; refine HRD.out.mono ?_; rintro e w5 ⟨rfl, HQ5⟩)
          | (go_at_call 13; refine (HPH.out _ HQ5.out.1).mono ?_; rintro e w6 ⟨rfl, rfl⟩)
          | (go_at_call 30; refine (HHO.out _ HQ5.out.1).mono ?_; rintro e w6 ⟨rfl, rfl⟩))
        go_ret
        exact ⟨rfl, d, HQ5.out.1, by rw [hnde]; exact HE.out, HQ5.out.2⟩
      · go_wp2_with (first
          | (go_at_call 34; refine HRD.out.mono ?_; rintro e w5 ⟨rfl, HQ5⟩)
          | (go_at_call 13; refine (HPH.out _ HQ5.out.1).mono ?_; rintro e w6 ⟨rfl, rfl⟩)
          | (go_at_call 30; refine (HHO.out _ HQ5.out.1).mono ?_; rintro e w6 ⟨rfl, rfl⟩))
        go_ret
        exact ⟨rfl, d, HQ5.out.1, by rw [hnde]; exact HE.out, HQ5.out.2⟩
end Go.Proofs.Ytcamdljlkcnikaa

/- QuorumCounts: counts, kind 1. -/
namespace Go.Proofs.Ytcamdljlkcnikaa
open Go.RowKit Go.Maps
set_option maxRecDepth 100000
set_option maxRecDepth 100000

set_option maxHeartbeats 16000000 in
theorem counts_1 {w : World} {p : Qp} {d : Qd} {lb lo : Nat} {L : List Int} {sa : Option Addr} {sn : Nat} {Pl At : Nat → Int} (h : QIs w p d) (hb : CB w p lb lo L sa sn Pl At) (many : Int) (sc lc me : Nat) (hI : ∀ x ∈ L, I64 x) (hnd : L.Nodup) (hl3 : 3 ≤ L.length) (hl9 : L.length ≤ 9) (hodd : L.length % 2 = 1) (hme : me < L.length) (hsn : sn ≤ 6000000000000) (hK : KInv 1 L (L.getD me 0) [] d) :
    Calls Try.prog 12 #[.agg #[.int .i64 many, .slice sa sn sc], .pointer (some ⟨p.b, 0, none⟩), .slice (some ⟨lb, lo, none⟩) L.length lc, .int .i64 (me : Nat), .int .i64 1] w fun e w' => e = .returned (.bool true) ∧ ∃ d', QIs w' p d' ∧ KEnd 1 L (L.getD me 0) d' ∧ Bq p w w' := by
  obtain ⟨W0, W1, nb, ab, HW0, Hnb, HMK, HT⟩ := c_begin h L.length hl9 many sc hb
  obtain ⟨n, hn⟩ : ∃ n, L.length = n := ⟨_, rfl⟩
  obtain ⟨need, hneed⟩ : ∃ x, n / 2 + 1 = x := ⟨_, rfl⟩
  have HB := hide hb
  have HI := hide hI
  have HND := hide hnd
  have HR0 : Hid (Rel (fun _ => false) L []) := fun j hj => by simp
  have hq2 : IntKind.i64.wrap (Int.tdiv (n : Int) 2) = ((n / 2 : Nat) : Int) := by rw [Int.tdiv_eq_ediv_of_nonneg (by omega), IntKind.wrap_i64]; omega
  have hq2' : (n : Int) / 2 = ((n / 2 : Nat) : Int) := by omega
  have hq3 : IntKind.i64.wrap (((n / 2 : Nat) : Int) + 1) = (need : Nat) := by rw [IntKind.wrap_i64]; omega
  generalize ((n / 2 : Nat) : Int) = H2 at hq2 hq2' hq3
  have hns : IntKind.i64.wrap ((sn : Int) + (n : Int)) = (sn : Int) + (n : Int) := by rw [IntKind.wrap_i64]; omega
  rw [hn] at HMK HT
  have HX0 : Hid (∃ d A, CT w p n ab nb many sa sn sc d A W1 ∧ CP 1 L (L.getD me 0) sn need 0 0 d A) := ⟨_, _, HT.out, .inl ⟨_, by omega, hK, rfl, HR0.out, Sub.nil _, fun j h1 h2 => by omega⟩⟩
  have hme9 : me < n := by omega
  have hl99 : n ≤ 9 := by omega
  obtain ⟨nd, hnde⟩ : ∃ x, L.getD me 0 = x := ⟨_, rfl⟩
  rw [hnde] at HX0
  have HMK2 := HMK.out
  rw [hn]
  clear HT h hb hI hnd hK HR0 HMK
  go_enter Try.func12, Try.ntmps12
  go_upto_region 1 with fail
  rw [HW0.out, Hnb.out]
  clear HW0 Hnb
  go_upto_region 7 with fail
  clear HMK2 hq2 hq2' hq3
  go_wp2_with fail
  go_loopg [13, 14] (sn + n) (fun q s13 s14 wx => ∃ (i c : Nat), i ≤ sn + n ∧ q = sn + n - i ∧ s14 = .int .i64 (i : Nat) ∧ s13 = .int .i64 (c : Nat) ∧ Hid (∃ d A, CT w p n ab nb many sa sn sc d A wx ∧ CP 1 L nd sn need i c d A))
  case atStart => exact ⟨0, 0, Nat.zero_le _, rfl, rfl, rfl, HX0⟩
  case round =>
    clear HX0
    obtain ⟨i, c, hi, rfl, rfl, rfl, HX⟩ := hrel
    obtain ⟨d, A, hCT, hCP⟩ := HX.out
    have k1 := hCT.n1
    have k10 := hCT.n0
    by_cases hgo : i < sn + n ∧ c < need
    · obtain ⟨C, hQ⟩ : ∃ C, CQ 1 L nd sn need i c d A C := by
        rcases hCP with q | ⟨q, _⟩
        · exact q
        · omega
      clear HX hCP
      have z1 : (i : Int) < (sn : Int) + (n : Int) := by omega
      have z2 : (c : Int) < (need : Int) := by omega
      have z3 : (0 : Int) ≤ (i : Int) := by omega
      have z4 : ¬ ((n : Int) = 0) := by omega
      have z5 : ((n : Int) == 0) = false := by simp; omega
      have hwi : IntKind.i64.wrap ((i : Int) + 1) = (i : Int) + 1 := by rw [IntKind.wrap_i64]; omega
      have hwc : IntKind.i64.wrap ((c : Int) + 1) = (c : Int) + 1 := by rw [IntKind.wrap_i64]; omega
      have hme2 : sn + n - (i + 1) < sn + n - i := by omega
      have hi1 : i + 1 ≤ sn + n := by omega
      obtain ⟨M, hM⟩ : ∃ M, i % n = M := ⟨_, rfl⟩
      have hMn : M < n := by rw [← hM]; exact Nat.mod_lt _ (by omega)
      have x1 : (i : Int) % (n : Int) = (M : Nat) := by rw [← hM]; exact (Int.natCast_emod i n).symm
      have x2 : IntKind.i64.wrap (Int.tmod (i : Int) (n : Int)) = (M : Nat) := by rw [Int.tmod_eq_emod_of_nonneg (by omega), x1, IntKind.wrap_i64]; omega
      have HN : ∀ P, P < n → (sn ≤ i → P = M) → (A P = true → Hid (∀ W, CT w p n ab nb many sa sn sc d A W → ∃ d A, CT w p n ab nb many sa sn sc d A W ∧ CP 1 L nd sn need (i + 1) c d A)) := fun P hP hPM hA W hW =>
        ⟨_, _, hW, .inl ⟨C, hQ.lt, hQ.inv, hQ.len, hQ.rel, hQ.sub, fun j h1 h2 => by
          by_cases e : j = i
          · subst e
            rw [hn, hM, ← hPM h1]
            exact hA
          · exact hQ.cov j h1 (by omega)⟩⟩
      have mem : ∀ j, j < n → L.getD j 0 ∈ L := fun j hj => by simp [List.getD, hn, hj]
      by_cases hs : i < sn
      · obtain ⟨sb, so, rfl, pc, _, _⟩ := (HB.out.stW hCT.bq).at' i hs
        have zs : (i : Int) < (sn : Int) := by omega
        obtain ⟨PL, hPL⟩ : ∃ x, Pl i = x := ⟨_, rfl⟩
        rw [hPL] at pc
        have hPLb : I64 PL := by rw [← hPL]; exact (HB.out.st.ok i).1
        obtain ⟨P, hPe⟩ : ∃ P : Nat, PL % (n : Int) = (P : Nat) := ⟨(PL % (n : Int)).toNat, by have := Int.emod_nonneg PL z4; omega⟩
        have hP : P < n := by have := Int.emod_lt_of_pos PL (show (0 : Int) < (n : Int) by omega); omega
        have hPM : sn ≤ i → P = M := fun e => by omega
        have HIN : Hid (∀ W, Calls Try.prog 7 #[.int .i64 PL, .int .i64 (n : Nat)] W fun e w' => e = .returned (.int .i64 (P : Nat)) ∧ W = w') := fun W => by
          have q := into_any PL n (by omega) (by omega) hPLb W
          rw [hPe] at q
          exact q
        clear hPL hPLb hPe hs
        have hX := mem P hP
        have hKH := k1_hear hQ.inv (L.getD P 0) (atS sn At i % 5) P hX
        have hAP : A P = decide (L.getD P 0 ∈ C) := hQ.rel P (by omega)
        have zP : (P : Int) < (n : Int) := by omega
        have zP0 : (0 : Int) ≤ (P : Int) := by omega
        obtain HTI := hCT.tick
        obtain ⟨t1, t2⟩ := k1_tick hQ.inv
        rw [t1, t2] at HTI
        have HLF : Hid (∀ W, CT w p n ab nb many (some ⟨sb, so, none⟩) sn sc d A W → Calls Try.prog 32 #[.slice (some ⟨ab, 0, none⟩) n n] W fun e w' => e = .returned (.int .i64 (outN L C : Nat)) ∧ W = w') := fun W hW => by
          have q := left_any hW.row (by omega) n
          rw [show leftN A n = outN L C by rw [← hn]; exact rel_all hQ.rel] at q
          exact q
        generalize outN L C = Q at *
        cases hA : A P with
        | true =>
          have hin : L.getD P 0 ∈ C := of_decide_eq_true (hAP.symm.trans hA)
          have HE := hKH.1 hin
          have HANS : Hid (∀ W, CT w p n ab nb many (some ⟨sb, so, none⟩) sn sc d A W → HearP w p n ab nb many (some ⟨sb, so, none⟩) sn sc lb lo lc me P i 1 d 0 A W) := fun W hW => CT.hears_1 HB.out hW HI.out me P i lc hn hnde hme9 hP hl99 hsn (congrArg Prod.fst HE) (congrArg (fun z => z.2.length) HE)
          have HN2 := HN P hP hPM hA
          have zc : ((c : Int) == (need : Int)) = false := by simp; omega
          have zn : ((0 : Int) == (n : Int)) = false := by simp; omega
          clear hKH hX hQ HN mem hM hCT
          go_upto_region 13 with (go_at_call 7; refine (HIN.out _).mono ?_; rintro e wq ⟨rfl, rfl⟩)
          clear HIN pc zs
          go_upto_region 15 with (first
            | (go_at_call 11; refine HTI.out.mono ?_; rintro e w2 ⟨ta, tc, rfl, HC2⟩)
            | (go_at_call 32; refine (HLF.out _ HC2.out).mono ?_; rintro e w9 ⟨rfl, rfl⟩))
          have HAN := hide (HANS.out _ HC2.out)
          unfold HearP at HAN
          have k2 := HC2.out.n1
          have k20 := HC2.out.n0
          clear HANS HTI HLF HC2
          go_upto_region 16 with (first
            | (go_at_call 33; refine HAN.out.mono ?_; rintro e w3 ⟨MA, rfl, HHE⟩)
            | (go_at_call 16; refine HHE.out.mono ?_; rintro e w4 ⟨ra, rc, rfl, HC4⟩))
          clear HAN HHE k2 k20
          have cP : w4.cell? ⟨ab, P, none⟩ = some (.bool true) := by have := HC4.out.row.cell hP; rw [hA] at this; exact this
          have HNX := hide (HN2.out _ HC4.out)
          clear HN2 HC4
          go_wp2_with fail
          go_roundg (sn + n - (i + 1))
          case measure => go_light; exact hme2
          case rel => go_light; exact ⟨i + 1, c, hi1, rfl, by simp, rfl, HNX⟩
        | false =>
          by_cases hc1 : c + 1 < need
          · have hout : L.getD P 0 ∉ C := of_decide_eq_false (hAP.symm.trans hA)
            have hno : ¬ L.length < 2 * (C.length + 1) := by rw [← hQ.len]; omega
            obtain ⟨hK2, he0⟩ := hKH.2.1 hout hno
            have HN2 : Hid (∀ W, CT w p n ab nb many (some ⟨sb, so, none⟩) sn sc (hearM d (ansM 1 (L.getD P 0) nd (atS sn At i % 5) P) 6).1 (fun j => if j = P then true else A j) W → ∃ d A, CT w p n ab nb many (some ⟨sb, so, none⟩) sn sc d A W ∧ CP 1 L nd sn need (i + 1) (c + 1) d A) := fun W hW =>
              ⟨_, _, hW, .inl ⟨C ++ [L.getD P 0], by omega, hK2, by rw [List.length_append, ← hQ.len]; rfl, rel_next hQ.rel HND.out (by omega), ⟨fun x hx => by
                rcases List.mem_append.1 hx with q | q
                · exact hQ.sub.mem x q
                · obtain rfl : x = L.getD P 0 := by simpa using q
                  exact hX, by
                rw [List.nodup_append]
                exact ⟨hQ.sub.nd, by simp, fun a ha b hb e => by
                  obtain rfl : b = L.getD P 0 := by simpa using hb
                  exact hout (e ▸ ha)⟩⟩, fun j h1 h2 => by
                by_cases e : j = i
                · subst e
                  rw [hn, hM, ← hPM h1]
                  simp
                · have := hQ.cov j h1 (by omega)
                  show (if j % L.length = P then true else A (j % L.length)) = true
                  rw [this]
                  simp⟩⟩
            obtain ⟨d2, hd2⟩ : ∃ x, (hearM d (ansM 1 (L.getD P 0) nd (atS sn At i % 5) P) 6).1 = x := ⟨_, rfl⟩
            have HANS : Hid (∀ W, CT w p n ab nb many (some ⟨sb, so, none⟩) sn sc d A W → HearP w p n ab nb many (some ⟨sb, so, none⟩) sn sc lb lo lc me P i 1 d2 0 A W) := fun W hW => CT.hears_1 HB.out hW HI.out me P i lc hn hnde hme9 hP hl99 hsn hd2 (congrArg List.length he0)
            rw [hd2] at HN2
            clear hd2
            have zc : (((c : Int) + 1) == (need : Int)) = false := by simp; omega
            have zn : ((0 : Int) == (n : Int)) = false := by simp; omega
            clear hKH hX hQ HN mem hM hCT
            go_upto_region 13 with (go_at_call 7; refine (HIN.out _).mono ?_; rintro e wq ⟨rfl, rfl⟩)
            clear HIN pc zs
            go_upto_region 15 with (first
              | (go_at_call 11; refine HTI.out.mono ?_; rintro e w2 ⟨ta, tc, rfl, HC2⟩)
              | (go_at_call 32; refine (HLF.out _ HC2.out).mono ?_; rintro e w9 ⟨rfl, rfl⟩))
            have HAN := hide (HANS.out _ HC2.out)
            unfold HearP at HAN
            have k2 := HC2.out.n1
            have k20 := HC2.out.n0
            clear HANS HTI HLF HC2
            go_upto_region 16 with (first
              | (go_at_call 33; refine HAN.out.mono ?_; rintro e w3 ⟨MA, rfl, HHE⟩)
              | (go_at_call 16; refine HHE.out.mono ?_; rintro e w4 ⟨ra, rc, rfl, HC4⟩))
            clear HAN HHE k2 k20
            have cP : w4.cell? ⟨ab, P, none⟩ = some (.bool false) := by have := HC4.out.row.cell hP; rw [hA] at this; exact this
            have fP : w4.frozen? ⟨ab, P, none⟩ = false := HC4.out.row.frozen P
            have HC5 := HC4.out.mark P
            obtain ⟨W5, HW5⟩ : ∃ W, Hid (w4.setCell ⟨ab, P, none⟩ (.bool true) = W) := ⟨_, rfl⟩
            rw [HW5.out] at HC5
            have HNX := hide (HN2.out _ HC5)
            clear HN2 HC4 HC5
            go_upto_region 18 with fail
            rw [HW5.out]
            clear HW5 cP fP
            go_wp2_with fail
            go_roundg (sn + n - (i + 1))
            case measure => go_light; exact hme2
            case rel => go_light; exact ⟨i + 1, c + 1, hi1, rfl, by simp, by simp, HNX⟩
          · have hout : L.getD P 0 ∉ C := of_decide_eq_false (hAP.symm.trans hA)
            have hyes : L.length < 2 * (C.length + 1) := by rw [← hQ.len]; omega
            obtain ⟨hK2, he0⟩ := hKH.2.2 hout hyes
            have HN2 : Hid (∀ W, CT w p n ab nb many (some ⟨sb, so, none⟩) sn sc (hearM d (ansM 1 (L.getD P 0) nd (atS sn At i % 5) P) 6).1 (fun j => if j = P then true else A j) W → ∃ d A, CT w p n ab nb many (some ⟨sb, so, none⟩) sn sc d A W ∧ CP 1 L nd sn need (i + 1) (c + 1) d A) := fun W hW =>
              ⟨_, _, hW, .inr ⟨by omega, hK2⟩⟩
            obtain ⟨d2, hd2⟩ : ∃ x, (hearM d (ansM 1 (L.getD P 0) nd (atS sn At i % 5) P) 6).1 = x := ⟨_, rfl⟩
            have HANS : Hid (∀ W, CT w p n ab nb many (some ⟨sb, so, none⟩) sn sc d A W → HearP w p n ab nb many (some ⟨sb, so, none⟩) sn sc lb lo lc me P i 1 d2 0 A W) := fun W hW => CT.hears_1 HB.out hW HI.out me P i lc hn hnde hme9 hP hl99 hsn hd2 he0
            rw [hd2] at HN2
            clear hd2
            have zc : (((c : Int) + 1) == (need : Int)) = true := by simp; omega
            have zn : ((n : Int) == (n : Int)) = true := by simp
            clear hKH hX hQ HN mem hM hCT
            go_upto_region 13 with (go_at_call 7; refine (HIN.out _).mono ?_; rintro e wq ⟨rfl, rfl⟩)
            clear HIN pc zs
            go_upto_region 15 with (first
              | (go_at_call 11; refine HTI.out.mono ?_; rintro e w2 ⟨ta, tc, rfl, HC2⟩)
              | (go_at_call 32; refine (HLF.out _ HC2.out).mono ?_; rintro e w9 ⟨rfl, rfl⟩))
            have HAN := hide (HANS.out _ HC2.out)
            unfold HearP at HAN
            have k2 := HC2.out.n1
            have k20 := HC2.out.n0
            clear HANS HTI HLF HC2
            go_upto_region 16 with (first
              | (go_at_call 33; refine HAN.out.mono ?_; rintro e w3 ⟨MA, rfl, HHE⟩)
              | (go_at_call 16; refine HHE.out.mono ?_; rintro e w4 ⟨ra, rc, rfl, HC4⟩))
            clear HAN HHE k2 k20
            have cP : w4.cell? ⟨ab, P, none⟩ = some (.bool false) := by have := HC4.out.row.cell hP; rw [hA] at this; exact this
            have fP : w4.frozen? ⟨ab, P, none⟩ = false := HC4.out.row.frozen P
            have HC5 := HC4.out.mark P
            obtain ⟨W5, HW5⟩ : ∃ W, Hid (w4.setCell ⟨ab, P, none⟩ (.bool true) = W) := ⟨_, rfl⟩
            rw [HW5.out] at HC5
            have HNX := hide (HN2.out _ HC5)
            clear HN2 HC4 HC5
            go_upto_region 18 with fail
            rw [HW5.out]
            clear HW5 cP fP
            go_wp2_with fail
            go_roundg (sn + n - (i + 1))
            case measure => go_light; exact hme2
            case rel => go_light; exact ⟨i + 1, c + 1, hi1, rfl, by simp, by simp, HNX⟩
      · have hP := hMn
        have hPM : sn ≤ i → M = M := fun _ => rfl
        have zs : ¬ (i : Int) < (sn : Int) := by omega
        clear hs
        have hX := mem M hP
        have hKH := k1_hear hQ.inv (L.getD M 0) (atS sn At i % 5) M hX
        have hAP : A M = decide (L.getD M 0 ∈ C) := hQ.rel M (by omega)
        have zP : (M : Int) < (n : Int) := by omega
        have zP0 : (0 : Int) ≤ (M : Int) := by omega
        obtain HTI := hCT.tick
        obtain ⟨t1, t2⟩ := k1_tick hQ.inv
        rw [t1, t2] at HTI
        have HLF : Hid (∀ W, CT w p n ab nb many sa sn sc d A W → Calls Try.prog 32 #[.slice (some ⟨ab, 0, none⟩) n n] W fun e w' => e = .returned (.int .i64 (outN L C : Nat)) ∧ W = w') := fun W hW => by
          have q := left_any hW.row (by omega) n
          rw [show leftN A n = outN L C by rw [← hn]; exact rel_all hQ.rel] at q
          exact q
        generalize outN L C = Q at *
        cases hA : A M with
        | true =>
          have hin : L.getD M 0 ∈ C := of_decide_eq_true (hAP.symm.trans hA)
          have HE := hKH.1 hin
          have HANS : Hid (∀ W, CT w p n ab nb many sa sn sc d A W → HearP w p n ab nb many sa sn sc lb lo lc me M i 1 d 0 A W) := fun W hW => CT.hears_1 HB.out hW HI.out me M i lc hn hnde hme9 hP hl99 hsn (congrArg Prod.fst HE) (congrArg (fun z => z.2.length) HE)
          have HN2 := HN M hP hPM hA
          have zc : ((c : Int) == (need : Int)) = false := by simp; omega
          have zn : ((0 : Int) == (n : Int)) = false := by simp; omega
          clear hKH hX hQ HN mem hM hCT
          go_upto_region 13 with fail
          clear zs
          go_upto_region 15 with (first
            | (go_at_call 11; refine HTI.out.mono ?_; rintro e w2 ⟨ta, tc, rfl, HC2⟩)
            | (go_at_call 32; refine (HLF.out _ HC2.out).mono ?_; rintro e w9 ⟨rfl, rfl⟩))
          have HAN := hide (HANS.out _ HC2.out)
          unfold HearP at HAN
          have k2 := HC2.out.n1
          have k20 := HC2.out.n0
          clear HANS HTI HLF HC2
          go_upto_region 16 with (first
            | (go_at_call 33; refine HAN.out.mono ?_; rintro e w3 ⟨MA, rfl, HHE⟩)
            | (go_at_call 16; refine HHE.out.mono ?_; rintro e w4 ⟨ra, rc, rfl, HC4⟩))
          clear HAN HHE k2 k20
          have cP : w4.cell? ⟨ab, M, none⟩ = some (.bool true) := by have := HC4.out.row.cell hP; rw [hA] at this; exact this
          have HNX := hide (HN2.out _ HC4.out)
          clear HN2 HC4
          go_wp2_with fail
          go_roundg (sn + n - (i + 1))
          case measure => go_light; exact hme2
          case rel => go_light; exact ⟨i + 1, c, hi1, rfl, by simp, rfl, HNX⟩
        | false =>
          by_cases hc1 : c + 1 < need
          · have hout : L.getD M 0 ∉ C := of_decide_eq_false (hAP.symm.trans hA)
            have hno : ¬ L.length < 2 * (C.length + 1) := by rw [← hQ.len]; omega
            obtain ⟨hK2, he0⟩ := hKH.2.1 hout hno
            have HN2 : Hid (∀ W, CT w p n ab nb many sa sn sc (hearM d (ansM 1 (L.getD M 0) nd (atS sn At i % 5) M) 6).1 (fun j => if j = M then true else A j) W → ∃ d A, CT w p n ab nb many sa sn sc d A W ∧ CP 1 L nd sn need (i + 1) (c + 1) d A) := fun W hW =>
              ⟨_, _, hW, .inl ⟨C ++ [L.getD M 0], by omega, hK2, by rw [List.length_append, ← hQ.len]; rfl, rel_next hQ.rel HND.out (by omega), ⟨fun x hx => by
                rcases List.mem_append.1 hx with q | q
                · exact hQ.sub.mem x q
                · obtain rfl : x = L.getD M 0 := by simpa using q
                  exact hX, by
                rw [List.nodup_append]
                exact ⟨hQ.sub.nd, by simp, fun a ha b hb e => by
                  obtain rfl : b = L.getD M 0 := by simpa using hb
                  exact hout (e ▸ ha)⟩⟩, fun j h1 h2 => by
                by_cases e : j = i
                · subst e
                  rw [hn, hM, ← hPM h1]
                  simp
                · have := hQ.cov j h1 (by omega)
                  show (if j % L.length = M then true else A (j % L.length)) = true
                  rw [this]
                  simp⟩⟩
            obtain ⟨d2, hd2⟩ : ∃ x, (hearM d (ansM 1 (L.getD M 0) nd (atS sn At i % 5) M) 6).1 = x := ⟨_, rfl⟩
            have HANS : Hid (∀ W, CT w p n ab nb many sa sn sc d A W → HearP w p n ab nb many sa sn sc lb lo lc me M i 1 d2 0 A W) := fun W hW => CT.hears_1 HB.out hW HI.out me M i lc hn hnde hme9 hP hl99 hsn hd2 (congrArg List.length he0)
            rw [hd2] at HN2
            clear hd2
            have zc : (((c : Int) + 1) == (need : Int)) = false := by simp; omega
            have zn : ((0 : Int) == (n : Int)) = false := by simp; omega
            clear hKH hX hQ HN mem hM hCT
            go_upto_region 13 with fail
            clear zs
            go_upto_region 15 with (first
              | (go_at_call 11; refine HTI.out.mono ?_; rintro e w2 ⟨ta, tc, rfl, HC2⟩)
              | (go_at_call 32; refine (HLF.out _ HC2.out).mono ?_; rintro e w9 ⟨rfl, rfl⟩))
            have HAN := hide (HANS.out _ HC2.out)
            unfold HearP at HAN
            have k2 := HC2.out.n1
            have k20 := HC2.out.n0
            clear HANS HTI HLF HC2
            go_upto_region 16 with (first
              | (go_at_call 33; refine HAN.out.mono ?_; rintro e w3 ⟨MA, rfl, HHE⟩)
              | (go_at_call 16; refine HHE.out.mono ?_; rintro e w4 ⟨ra, rc, rfl, HC4⟩))
            clear HAN HHE k2 k20
            have cP : w4.cell? ⟨ab, M, none⟩ = some (.bool false) := by have := HC4.out.row.cell hP; rw [hA] at this; exact this
            have fP : w4.frozen? ⟨ab, M, none⟩ = false := HC4.out.row.frozen M
            have HC5 := HC4.out.mark M
            obtain ⟨W5, HW5⟩ : ∃ W, Hid (w4.setCell ⟨ab, M, none⟩ (.bool true) = W) := ⟨_, rfl⟩
            rw [HW5.out] at HC5
            have HNX := hide (HN2.out _ HC5)
            clear HN2 HC4 HC5
            go_upto_region 18 with fail
            rw [HW5.out]
            clear HW5 cP fP
            go_wp2_with fail
            go_roundg (sn + n - (i + 1))
            case measure => go_light; exact hme2
            case rel => go_light; exact ⟨i + 1, c + 1, hi1, rfl, by simp, by simp, HNX⟩
          · have hout : L.getD M 0 ∉ C := of_decide_eq_false (hAP.symm.trans hA)
            have hyes : L.length < 2 * (C.length + 1) := by rw [← hQ.len]; omega
            obtain ⟨hK2, he0⟩ := hKH.2.2 hout hyes
            have HN2 : Hid (∀ W, CT w p n ab nb many sa sn sc (hearM d (ansM 1 (L.getD M 0) nd (atS sn At i % 5) M) 6).1 (fun j => if j = M then true else A j) W → ∃ d A, CT w p n ab nb many sa sn sc d A W ∧ CP 1 L nd sn need (i + 1) (c + 1) d A) := fun W hW =>
              ⟨_, _, hW, .inr ⟨by omega, hK2⟩⟩
            obtain ⟨d2, hd2⟩ : ∃ x, (hearM d (ansM 1 (L.getD M 0) nd (atS sn At i % 5) M) 6).1 = x := ⟨_, rfl⟩
            have HANS : Hid (∀ W, CT w p n ab nb many sa sn sc d A W → HearP w p n ab nb many sa sn sc lb lo lc me M i 1 d2 0 A W) := fun W hW => CT.hears_1 HB.out hW HI.out me M i lc hn hnde hme9 hP hl99 hsn hd2 he0
            rw [hd2] at HN2
            clear hd2
            have zc : (((c : Int) + 1) == (need : Int)) = true := by simp; omega
            have zn : ((n : Int) == (n : Int)) = true := by simp
            clear hKH hX hQ HN mem hM hCT
            go_upto_region 13 with fail
            clear zs
            go_upto_region 15 with (first
              | (go_at_call 11; refine HTI.out.mono ?_; rintro e w2 ⟨ta, tc, rfl, HC2⟩)
              | (go_at_call 32; refine (HLF.out _ HC2.out).mono ?_; rintro e w9 ⟨rfl, rfl⟩))
            have HAN := hide (HANS.out _ HC2.out)
            unfold HearP at HAN
            have k2 := HC2.out.n1
            have k20 := HC2.out.n0
            clear HANS HTI HLF HC2
            go_upto_region 16 with (first
              | (go_at_call 33; refine HAN.out.mono ?_; rintro e w3 ⟨MA, rfl, HHE⟩)
              | (go_at_call 16; refine HHE.out.mono ?_; rintro e w4 ⟨ra, rc, rfl, HC4⟩))
            clear HAN HHE k2 k20
            have cP : w4.cell? ⟨ab, M, none⟩ = some (.bool false) := by have := HC4.out.row.cell hP; rw [hA] at this; exact this
            have fP : w4.frozen? ⟨ab, M, none⟩ = false := HC4.out.row.frozen M
            have HC5 := HC4.out.mark M
            obtain ⟨W5, HW5⟩ : ∃ W, Hid (w4.setCell ⟨ab, M, none⟩ (.bool true) = W) := ⟨_, rfl⟩
            rw [HW5.out] at HC5
            have HNX := hide (HN2.out _ HC5)
            clear HN2 HC4 HC5
            go_upto_region 18 with fail
            rw [HW5.out]
            clear HW5 cP fP
            go_wp2_with fail
            go_roundg (sn + n - (i + 1))
            case measure => go_light; exact hme2
            case rel => go_light; exact ⟨i + 1, c + 1, hi1, rfl, by simp, by simp, HNX⟩
    · have hfin := hCP.fin HND.out (by omega) (by omega) (by rw [hn]; exact hgo)
      obtain ⟨hc, hE⟩ := hfin
      have zc : (i : Int) < (sn : Int) + (n : Int) → ¬ (c : Int) < (need : Int) := fun _ => by omega
      have z0 : ¬ (c : Int) < (need : Int) := by omega
      have HRD : Hid (Calls Try.prog 34 #[.pointer (some ⟨p.b, 0, none⟩)] wr fun e w' => e = .returned (.tuple #[.int .u64 (d.begun : Nat), .int .u64 (d.done : Nat)]) ∧ Hid (QIs w' p d ∧ Bq p w w')) := (roundQ_any hCT.q).mono fun e w' ⟨he, m, hw⟩ => by
        subst hw
        exact ⟨he, hCT.q.since (drewN_since wr m), hCT.bq.sin (drewN_since wr m)⟩
      have HPH : Hid (∀ W, QIs W p d → Calls Try.prog 13 #[.pointer (some ⟨p.b, 0, none⟩)] W fun e w' => e = .returned (.int .i64 d.ph) ∧ W = w') := fun W hW => phaseQ_any hW
      have HHO : Hid (∀ W, QIs W p d → Calls Try.prog 30 #[.pointer (some ⟨p.b, 0, none⟩)] W fun e w' => e = .returned (.bool (decide (holdB d))) ∧ W = w') := fun W hW => holdsQ_any hW
      have e1 : d.ph = 3 := (hE.k1 rfl).1
      rw [decide_eq_true (show holdB d from .inl e1)] at HHO
      have HE := hide hE
      clear HX hCT hCP hE hgo
      by_cases z1 : (i : Int) < (sn : Int) + (n : Int)
      · go_wp2_with (first
          | (go_at_call 34; refine HRD.out.mono ?_; rintro e w5 ⟨rfl, HQ5⟩)
          | (go_at_call 13; refine (HPH.out _ HQ5.out.1).mono ?_; rintro e w6 ⟨rfl, rfl⟩)
          | (go_at_call 30; refine (HHO.out _ HQ5.out.1).mono ?_; rintro e w6 ⟨rfl, rfl⟩))
        go_ret
        exact ⟨rfl, d, HQ5.out.1, by rw [hnde]; exact HE.out, HQ5.out.2⟩
      · go_wp2_with (first
          | (go_at_call 34; refine HRD.out.mono ?_; rintro e w5 ⟨rfl, HQ5⟩)
          | (go_at_call 13; refine (HPH.out _ HQ5.out.1).mono ?_; rintro e w6 ⟨rfl, rfl⟩)
          | (go_at_call 30; refine (HHO.out _ HQ5.out.1).mono ?_; rintro e w6 ⟨rfl, rfl⟩))
        go_ret
        exact ⟨rfl, d, HQ5.out.1, by rw [hnde]; exact HE.out, HQ5.out.2⟩
end Go.Proofs.Ytcamdljlkcnikaa

/- QuorumCounts: counts, kind 2. -/
namespace Go.Proofs.Ytcamdljlkcnikaa
open Go.RowKit Go.Maps
set_option maxRecDepth 100000
set_option maxRecDepth 100000

set_option maxHeartbeats 16000000 in
theorem counts_2 {w : World} {p : Qp} {d : Qd} {lb lo : Nat} {L : List Int} {sa : Option Addr} {sn : Nat} {Pl At : Nat → Int} (h : QIs w p d) (hb : CB w p lb lo L sa sn Pl At) (many : Int) (sc lc me : Nat) (hI : ∀ x ∈ L, I64 x) (hnd : L.Nodup) (hl3 : 3 ≤ L.length) (hl9 : L.length ≤ 9) (hodd : L.length % 2 = 1) (hme : me < L.length) (hsn : sn ≤ 6000000000000) (hK : KInv 2 L (L.getD me 0) [] d) :
    Calls Try.prog 12 #[.agg #[.int .i64 many, .slice sa sn sc], .pointer (some ⟨p.b, 0, none⟩), .slice (some ⟨lb, lo, none⟩) L.length lc, .int .i64 (me : Nat), .int .i64 2] w fun e w' => e = .returned (.bool true) ∧ ∃ d', QIs w' p d' ∧ KEnd 2 L (L.getD me 0) d' ∧ Bq p w w' := by
  obtain ⟨W0, W1, nb, ab, HW0, Hnb, HMK, HT⟩ := c_begin h L.length hl9 many sc hb
  obtain ⟨n, hn⟩ : ∃ n, L.length = n := ⟨_, rfl⟩
  obtain ⟨need, hneed⟩ : ∃ x, n / 2 + 1 = x := ⟨_, rfl⟩
  have HB := hide hb
  have HI := hide hI
  have HND := hide hnd
  have HR0 : Hid (Rel (fun _ => false) L []) := fun j hj => by simp
  have hq2 : IntKind.i64.wrap (Int.tdiv (n : Int) 2) = ((n / 2 : Nat) : Int) := by rw [Int.tdiv_eq_ediv_of_nonneg (by omega), IntKind.wrap_i64]; omega
  have hq2' : (n : Int) / 2 = ((n / 2 : Nat) : Int) := by omega
  have hq3 : IntKind.i64.wrap (((n / 2 : Nat) : Int) + 1) = (need : Nat) := by rw [IntKind.wrap_i64]; omega
  generalize ((n / 2 : Nat) : Int) = H2 at hq2 hq2' hq3
  have hns : IntKind.i64.wrap ((sn : Int) + (n : Int)) = (sn : Int) + (n : Int) := by rw [IntKind.wrap_i64]; omega
  rw [hn] at HMK HT
  have HX0 : Hid (∃ d A, CT w p n ab nb many sa sn sc d A W1 ∧ CP 2 L (L.getD me 0) sn need 0 0 d A) := ⟨_, _, HT.out, .inl ⟨_, by omega, hK, rfl, HR0.out, Sub.nil _, fun j h1 h2 => by omega⟩⟩
  have hme9 : me < n := by omega
  have hl99 : n ≤ 9 := by omega
  obtain ⟨nd, hnde⟩ : ∃ x, L.getD me 0 = x := ⟨_, rfl⟩
  rw [hnde] at HX0
  have HMK2 := HMK.out
  rw [hn]
  clear HT h hb hI hnd hK HR0 HMK
  go_enter Try.func12, Try.ntmps12
  go_upto_region 1 with fail
  rw [HW0.out, Hnb.out]
  clear HW0 Hnb
  go_upto_region 7 with fail
  clear HMK2 hq2 hq2' hq3
  go_wp2_with fail
  go_loopg [13, 14] (sn + n) (fun q s13 s14 wx => ∃ (i c : Nat), i ≤ sn + n ∧ q = sn + n - i ∧ s14 = .int .i64 (i : Nat) ∧ s13 = .int .i64 (c : Nat) ∧ Hid (∃ d A, CT w p n ab nb many sa sn sc d A wx ∧ CP 2 L nd sn need i c d A))
  case atStart => exact ⟨0, 0, Nat.zero_le _, rfl, rfl, rfl, HX0⟩
  case round =>
    clear HX0
    obtain ⟨i, c, hi, rfl, rfl, rfl, HX⟩ := hrel
    obtain ⟨d, A, hCT, hCP⟩ := HX.out
    have k1 := hCT.n1
    have k10 := hCT.n0
    by_cases hgo : i < sn + n ∧ c < need
    · obtain ⟨C, hQ⟩ : ∃ C, CQ 2 L nd sn need i c d A C := by
        rcases hCP with q | ⟨q, _⟩
        · exact q
        · omega
      clear HX hCP
      have z1 : (i : Int) < (sn : Int) + (n : Int) := by omega
      have z2 : (c : Int) < (need : Int) := by omega
      have z3 : (0 : Int) ≤ (i : Int) := by omega
      have z4 : ¬ ((n : Int) = 0) := by omega
      have z5 : ((n : Int) == 0) = false := by simp; omega
      have hwi : IntKind.i64.wrap ((i : Int) + 1) = (i : Int) + 1 := by rw [IntKind.wrap_i64]; omega
      have hwc : IntKind.i64.wrap ((c : Int) + 1) = (c : Int) + 1 := by rw [IntKind.wrap_i64]; omega
      have hme2 : sn + n - (i + 1) < sn + n - i := by omega
      have hi1 : i + 1 ≤ sn + n := by omega
      obtain ⟨M, hM⟩ : ∃ M, i % n = M := ⟨_, rfl⟩
      have hMn : M < n := by rw [← hM]; exact Nat.mod_lt _ (by omega)
      have x1 : (i : Int) % (n : Int) = (M : Nat) := by rw [← hM]; exact (Int.natCast_emod i n).symm
      have x2 : IntKind.i64.wrap (Int.tmod (i : Int) (n : Int)) = (M : Nat) := by rw [Int.tmod_eq_emod_of_nonneg (by omega), x1, IntKind.wrap_i64]; omega
      have HN : ∀ P, P < n → (sn ≤ i → P = M) → (A P = true → Hid (∀ W, CT w p n ab nb many sa sn sc d A W → ∃ d A, CT w p n ab nb many sa sn sc d A W ∧ CP 2 L nd sn need (i + 1) c d A)) := fun P hP hPM hA W hW =>
        ⟨_, _, hW, .inl ⟨C, hQ.lt, hQ.inv, hQ.len, hQ.rel, hQ.sub, fun j h1 h2 => by
          by_cases e : j = i
          · subst e
            rw [hn, hM, ← hPM h1]
            exact hA
          · exact hQ.cov j h1 (by omega)⟩⟩
      have mem : ∀ j, j < n → L.getD j 0 ∈ L := fun j hj => by simp [List.getD, hn, hj]
      by_cases hs : i < sn
      · obtain ⟨sb, so, rfl, pc, _, _⟩ := (HB.out.stW hCT.bq).at' i hs
        have zs : (i : Int) < (sn : Int) := by omega
        obtain ⟨PL, hPL⟩ : ∃ x, Pl i = x := ⟨_, rfl⟩
        rw [hPL] at pc
        have hPLb : I64 PL := by rw [← hPL]; exact (HB.out.st.ok i).1
        obtain ⟨P, hPe⟩ : ∃ P : Nat, PL % (n : Int) = (P : Nat) := ⟨(PL % (n : Int)).toNat, by have := Int.emod_nonneg PL z4; omega⟩
        have hP : P < n := by have := Int.emod_lt_of_pos PL (show (0 : Int) < (n : Int) by omega); omega
        have hPM : sn ≤ i → P = M := fun e => by omega
        have HIN : Hid (∀ W, Calls Try.prog 7 #[.int .i64 PL, .int .i64 (n : Nat)] W fun e w' => e = .returned (.int .i64 (P : Nat)) ∧ W = w') := fun W => by
          have q := into_any PL n (by omega) (by omega) hPLb W
          rw [hPe] at q
          exact q
        clear hPL hPLb hPe hs
        have hX := mem P hP
        have hKH := k2_hear hQ.inv (L.getD P 0) (atS sn At i % 5) P hX
        have hAP : A P = decide (L.getD P 0 ∈ C) := hQ.rel P (by omega)
        have zP : (P : Int) < (n : Int) := by omega
        have zP0 : (0 : Int) ≤ (P : Int) := by omega
        obtain HTI := hCT.tick
        obtain ⟨t1, t2⟩ := k2_tick hQ.inv
        rw [t1, t2] at HTI
        have HLF : Hid (∀ W, CT w p n ab nb many (some ⟨sb, so, none⟩) sn sc d A W → Calls Try.prog 32 #[.slice (some ⟨ab, 0, none⟩) n n] W fun e w' => e = .returned (.int .i64 (outN L C : Nat)) ∧ W = w') := fun W hW => by
          have q := left_any hW.row (by omega) n
          rw [show leftN A n = outN L C by rw [← hn]; exact rel_all hQ.rel] at q
          exact q
        generalize outN L C = Q at *
        cases hA : A P with
        | true =>
          have hin : L.getD P 0 ∈ C := of_decide_eq_true (hAP.symm.trans hA)
          have HE := hKH.1 hin
          have HANS : Hid (∀ W, CT w p n ab nb many (some ⟨sb, so, none⟩) sn sc d A W → HearP w p n ab nb many (some ⟨sb, so, none⟩) sn sc lb lo lc me P i 2 d 0 A W) := fun W hW => CT.hears_2 HB.out hW HI.out me P i lc hn hnde hme9 hP hl99 hsn (congrArg Prod.fst HE) (congrArg (fun z => z.2.length) HE)
          have HN2 := HN P hP hPM hA
          have zc : ((c : Int) == (need : Int)) = false := by simp; omega
          have zn : ((0 : Int) == (n : Int)) = false := by simp; omega
          clear hKH hX hQ HN mem hM hCT
          go_upto_region 13 with (go_at_call 7; refine (HIN.out _).mono ?_; rintro e wq ⟨rfl, rfl⟩)
          clear HIN pc zs
          go_upto_region 15 with (first
            | (go_at_call 11; refine HTI.out.mono ?_; rintro e w2 ⟨ta, tc, rfl, HC2⟩)
            | (go_at_call 32; refine (HLF.out _ HC2.out).mono ?_; rintro e w9 ⟨rfl, rfl⟩))
          have HAN := hide (HANS.out _ HC2.out)
          unfold HearP at HAN
          have k2 := HC2.out.n1
          have k20 := HC2.out.n0
          clear HANS HTI HLF HC2
          go_upto_region 16 with (first
            | (go_at_call 33; refine HAN.out.mono ?_; rintro e w3 ⟨MA, rfl, HHE⟩)
            | (go_at_call 16; refine HHE.out.mono ?_; rintro e w4 ⟨ra, rc, rfl, HC4⟩))
          clear HAN HHE k2 k20
          have cP : w4.cell? ⟨ab, P, none⟩ = some (.bool true) := by have := HC4.out.row.cell hP; rw [hA] at this; exact this
          have HNX := hide (HN2.out _ HC4.out)
          clear HN2 HC4
          go_wp2_with fail
          go_roundg (sn + n - (i + 1))
          case measure => go_light; exact hme2
          case rel => go_light; exact ⟨i + 1, c, hi1, rfl, by simp, rfl, HNX⟩
        | false =>
          by_cases hc1 : c + 1 < need
          · have hout : L.getD P 0 ∉ C := of_decide_eq_false (hAP.symm.trans hA)
            have hno : ¬ L.length < 2 * (C.length + 1) := by rw [← hQ.len]; omega
            obtain ⟨hK2, he0⟩ := hKH.2.1 hout hno
            have HN2 : Hid (∀ W, CT w p n ab nb many (some ⟨sb, so, none⟩) sn sc (hearM d (ansM 2 (L.getD P 0) nd (atS sn At i % 5) P) 6).1 (fun j => if j = P then true else A j) W → ∃ d A, CT w p n ab nb many (some ⟨sb, so, none⟩) sn sc d A W ∧ CP 2 L nd sn need (i + 1) (c + 1) d A) := fun W hW =>
              ⟨_, _, hW, .inl ⟨C ++ [L.getD P 0], by omega, hK2, by rw [List.length_append, ← hQ.len]; rfl, rel_next hQ.rel HND.out (by omega), ⟨fun x hx => by
                rcases List.mem_append.1 hx with q | q
                · exact hQ.sub.mem x q
                · obtain rfl : x = L.getD P 0 := by simpa using q
                  exact hX, by
                rw [List.nodup_append]
                exact ⟨hQ.sub.nd, by simp, fun a ha b hb e => by
                  obtain rfl : b = L.getD P 0 := by simpa using hb
                  exact hout (e ▸ ha)⟩⟩, fun j h1 h2 => by
                by_cases e : j = i
                · subst e
                  rw [hn, hM, ← hPM h1]
                  simp
                · have := hQ.cov j h1 (by omega)
                  show (if j % L.length = P then true else A (j % L.length)) = true
                  rw [this]
                  simp⟩⟩
            obtain ⟨d2, hd2⟩ : ∃ x, (hearM d (ansM 2 (L.getD P 0) nd (atS sn At i % 5) P) 6).1 = x := ⟨_, rfl⟩
            have HANS : Hid (∀ W, CT w p n ab nb many (some ⟨sb, so, none⟩) sn sc d A W → HearP w p n ab nb many (some ⟨sb, so, none⟩) sn sc lb lo lc me P i 2 d2 0 A W) := fun W hW => CT.hears_2 HB.out hW HI.out me P i lc hn hnde hme9 hP hl99 hsn hd2 (congrArg List.length he0)
            rw [hd2] at HN2
            clear hd2
            have zc : (((c : Int) + 1) == (need : Int)) = false := by simp; omega
            have zn : ((0 : Int) == (n : Int)) = false := by simp; omega
            clear hKH hX hQ HN mem hM hCT
            go_upto_region 13 with (go_at_call 7; refine (HIN.out _).mono ?_; rintro e wq ⟨rfl, rfl⟩)
            clear HIN pc zs
            go_upto_region 15 with (first
              | (go_at_call 11; refine HTI.out.mono ?_; rintro e w2 ⟨ta, tc, rfl, HC2⟩)
              | (go_at_call 32; refine (HLF.out _ HC2.out).mono ?_; rintro e w9 ⟨rfl, rfl⟩))
            have HAN := hide (HANS.out _ HC2.out)
            unfold HearP at HAN
            have k2 := HC2.out.n1
            have k20 := HC2.out.n0
            clear HANS HTI HLF HC2
            go_upto_region 16 with (first
              | (go_at_call 33; refine HAN.out.mono ?_; rintro e w3 ⟨MA, rfl, HHE⟩)
              | (go_at_call 16; refine HHE.out.mono ?_; rintro e w4 ⟨ra, rc, rfl, HC4⟩))
            clear HAN HHE k2 k20
            have cP : w4.cell? ⟨ab, P, none⟩ = some (.bool false) := by have := HC4.out.row.cell hP; rw [hA] at this; exact this
            have fP : w4.frozen? ⟨ab, P, none⟩ = false := HC4.out.row.frozen P
            have HC5 := HC4.out.mark P
            obtain ⟨W5, HW5⟩ : ∃ W, Hid (w4.setCell ⟨ab, P, none⟩ (.bool true) = W) := ⟨_, rfl⟩
            rw [HW5.out] at HC5
            have HNX := hide (HN2.out _ HC5)
            clear HN2 HC4 HC5
            go_upto_region 18 with fail
            rw [HW5.out]
            clear HW5 cP fP
            go_wp2_with fail
            go_roundg (sn + n - (i + 1))
            case measure => go_light; exact hme2
            case rel => go_light; exact ⟨i + 1, c + 1, hi1, rfl, by simp, by simp, HNX⟩
          · have hout : L.getD P 0 ∉ C := of_decide_eq_false (hAP.symm.trans hA)
            have hyes : L.length < 2 * (C.length + 1) := by rw [← hQ.len]; omega
            obtain ⟨hK2, he0⟩ := hKH.2.2 hout hyes
            have HN2 : Hid (∀ W, CT w p n ab nb many (some ⟨sb, so, none⟩) sn sc (hearM d (ansM 2 (L.getD P 0) nd (atS sn At i % 5) P) 6).1 (fun j => if j = P then true else A j) W → ∃ d A, CT w p n ab nb many (some ⟨sb, so, none⟩) sn sc d A W ∧ CP 2 L nd sn need (i + 1) (c + 1) d A) := fun W hW =>
              ⟨_, _, hW, .inr ⟨by omega, hK2⟩⟩
            obtain ⟨d2, hd2⟩ : ∃ x, (hearM d (ansM 2 (L.getD P 0) nd (atS sn At i % 5) P) 6).1 = x := ⟨_, rfl⟩
            have HANS : Hid (∀ W, CT w p n ab nb many (some ⟨sb, so, none⟩) sn sc d A W → HearP w p n ab nb many (some ⟨sb, so, none⟩) sn sc lb lo lc me P i 2 d2 0 A W) := fun W hW => CT.hears_2 HB.out hW HI.out me P i lc hn hnde hme9 hP hl99 hsn hd2 he0
            rw [hd2] at HN2
            clear hd2
            have zc : (((c : Int) + 1) == (need : Int)) = true := by simp; omega
            have zn : ((n : Int) == (n : Int)) = true := by simp
            clear hKH hX hQ HN mem hM hCT
            go_upto_region 13 with (go_at_call 7; refine (HIN.out _).mono ?_; rintro e wq ⟨rfl, rfl⟩)
            clear HIN pc zs
            go_upto_region 15 with (first
              | (go_at_call 11; refine HTI.out.mono ?_; rintro e w2 ⟨ta, tc, rfl, HC2⟩)
              | (go_at_call 32; refine (HLF.out _ HC2.out).mono ?_; rintro e w9 ⟨rfl, rfl⟩))
            have HAN := hide (HANS.out _ HC2.out)
            unfold HearP at HAN
            have k2 := HC2.out.n1
            have k20 := HC2.out.n0
            clear HANS HTI HLF HC2
            go_upto_region 16 with (first
              | (go_at_call 33; refine HAN.out.mono ?_; rintro e w3 ⟨MA, rfl, HHE⟩)
              | (go_at_call 16; refine HHE.out.mono ?_; rintro e w4 ⟨ra, rc, rfl, HC4⟩))
            clear HAN HHE k2 k20
            have cP : w4.cell? ⟨ab, P, none⟩ = some (.bool false) := by have := HC4.out.row.cell hP; rw [hA] at this; exact this
            have fP : w4.frozen? ⟨ab, P, none⟩ = false := HC4.out.row.frozen P
            have HC5 := HC4.out.mark P
            obtain ⟨W5, HW5⟩ : ∃ W, Hid (w4.setCell ⟨ab, P, none⟩ (.bool true) = W) := ⟨_, rfl⟩
            rw [HW5.out] at HC5
            have HNX := hide (HN2.out _ HC5)
            clear HN2 HC4 HC5
            go_upto_region 18 with fail
            rw [HW5.out]
            clear HW5 cP fP
            go_wp2_with fail
            go_roundg (sn + n - (i + 1))
            case measure => go_light; exact hme2
            case rel => go_light; exact ⟨i + 1, c + 1, hi1, rfl, by simp, by simp, HNX⟩
      · have hP := hMn
        have hPM : sn ≤ i → M = M := fun _ => rfl
        have zs : ¬ (i : Int) < (sn : Int) := by omega
        clear hs
        have hX := mem M hP
        have hKH := k2_hear hQ.inv (L.getD M 0) (atS sn At i % 5) M hX
        have hAP : A M = decide (L.getD M 0 ∈ C) := hQ.rel M (by omega)
        have zP : (M : Int) < (n : Int) := by omega
        have zP0 : (0 : Int) ≤ (M : Int) := by omega
        obtain HTI := hCT.tick
        obtain ⟨t1, t2⟩ := k2_tick hQ.inv
        rw [t1, t2] at HTI
        have HLF : Hid (∀ W, CT w p n ab nb many sa sn sc d A W → Calls Try.prog 32 #[.slice (some ⟨ab, 0, none⟩) n n] W fun e w' => e = .returned (.int .i64 (outN L C : Nat)) ∧ W = w') := fun W hW => by
          have q := left_any hW.row (by omega) n
          rw [show leftN A n = outN L C by rw [← hn]; exact rel_all hQ.rel] at q
          exact q
        generalize outN L C = Q at *
        cases hA : A M with
        | true =>
          have hin : L.getD M 0 ∈ C := of_decide_eq_true (hAP.symm.trans hA)
          have HE := hKH.1 hin
          have HANS : Hid (∀ W, CT w p n ab nb many sa sn sc d A W → HearP w p n ab nb many sa sn sc lb lo lc me M i 2 d 0 A W) := fun W hW => CT.hears_2 HB.out hW HI.out me M i lc hn hnde hme9 hP hl99 hsn (congrArg Prod.fst HE) (congrArg (fun z => z.2.length) HE)
          have HN2 := HN M hP hPM hA
          have zc : ((c : Int) == (need : Int)) = false := by simp; omega
          have zn : ((0 : Int) == (n : Int)) = false := by simp; omega
          clear hKH hX hQ HN mem hM hCT
          go_upto_region 13 with fail
          clear zs
          go_upto_region 15 with (first
            | (go_at_call 11; refine HTI.out.mono ?_; rintro e w2 ⟨ta, tc, rfl, HC2⟩)
            | (go_at_call 32; refine (HLF.out _ HC2.out).mono ?_; rintro e w9 ⟨rfl, rfl⟩))
          have HAN := hide (HANS.out _ HC2.out)
          unfold HearP at HAN
          have k2 := HC2.out.n1
          have k20 := HC2.out.n0
          clear HANS HTI HLF HC2
          go_upto_region 16 with (first
            | (go_at_call 33; refine HAN.out.mono ?_; rintro e w3 ⟨MA, rfl, HHE⟩)
            | (go_at_call 16; refine HHE.out.mono ?_; rintro e w4 ⟨ra, rc, rfl, HC4⟩))
          clear HAN HHE k2 k20
          have cP : w4.cell? ⟨ab, M, none⟩ = some (.bool true) := by have := HC4.out.row.cell hP; rw [hA] at this; exact this
          have HNX := hide (HN2.out _ HC4.out)
          clear HN2 HC4
          go_wp2_with fail
          go_roundg (sn + n - (i + 1))
          case measure => go_light; exact hme2
          case rel => go_light; exact ⟨i + 1, c, hi1, rfl, by simp, rfl, HNX⟩
        | false =>
          by_cases hc1 : c + 1 < need
          · have hout : L.getD M 0 ∉ C := of_decide_eq_false (hAP.symm.trans hA)
            have hno : ¬ L.length < 2 * (C.length + 1) := by rw [← hQ.len]; omega
            obtain ⟨hK2, he0⟩ := hKH.2.1 hout hno
            have HN2 : Hid (∀ W, CT w p n ab nb many sa sn sc (hearM d (ansM 2 (L.getD M 0) nd (atS sn At i % 5) M) 6).1 (fun j => if j = M then true else A j) W → ∃ d A, CT w p n ab nb many sa sn sc d A W ∧ CP 2 L nd sn need (i + 1) (c + 1) d A) := fun W hW =>
              ⟨_, _, hW, .inl ⟨C ++ [L.getD M 0], by omega, hK2, by rw [List.length_append, ← hQ.len]; rfl, rel_next hQ.rel HND.out (by omega), ⟨fun x hx => by
                rcases List.mem_append.1 hx with q | q
                · exact hQ.sub.mem x q
                · obtain rfl : x = L.getD M 0 := by simpa using q
                  exact hX, by
                rw [List.nodup_append]
                exact ⟨hQ.sub.nd, by simp, fun a ha b hb e => by
                  obtain rfl : b = L.getD M 0 := by simpa using hb
                  exact hout (e ▸ ha)⟩⟩, fun j h1 h2 => by
                by_cases e : j = i
                · subst e
                  rw [hn, hM, ← hPM h1]
                  simp
                · have := hQ.cov j h1 (by omega)
                  show (if j % L.length = M then true else A (j % L.length)) = true
                  rw [this]
                  simp⟩⟩
            obtain ⟨d2, hd2⟩ : ∃ x, (hearM d (ansM 2 (L.getD M 0) nd (atS sn At i % 5) M) 6).1 = x := ⟨_, rfl⟩
            have HANS : Hid (∀ W, CT w p n ab nb many sa sn sc d A W → HearP w p n ab nb many sa sn sc lb lo lc me M i 2 d2 0 A W) := fun W hW => CT.hears_2 HB.out hW HI.out me M i lc hn hnde hme9 hP hl99 hsn hd2 (congrArg List.length he0)
            rw [hd2] at HN2
            clear hd2
            have zc : (((c : Int) + 1) == (need : Int)) = false := by simp; omega
            have zn : ((0 : Int) == (n : Int)) = false := by simp; omega
            clear hKH hX hQ HN mem hM hCT
            go_upto_region 13 with fail
            clear zs
            go_upto_region 15 with (first
              | (go_at_call 11; refine HTI.out.mono ?_; rintro e w2 ⟨ta, tc, rfl, HC2⟩)
              | (go_at_call 32; refine (HLF.out _ HC2.out).mono ?_; rintro e w9 ⟨rfl, rfl⟩))
            have HAN := hide (HANS.out _ HC2.out)
            unfold HearP at HAN
            have k2 := HC2.out.n1
            have k20 := HC2.out.n0
            clear HANS HTI HLF HC2
            go_upto_region 16 with (first
              | (go_at_call 33; refine HAN.out.mono ?_; rintro e w3 ⟨MA, rfl, HHE⟩)
              | (go_at_call 16; refine HHE.out.mono ?_; rintro e w4 ⟨ra, rc, rfl, HC4⟩))
            clear HAN HHE k2 k20
            have cP : w4.cell? ⟨ab, M, none⟩ = some (.bool false) := by have := HC4.out.row.cell hP; rw [hA] at this; exact this
            have fP : w4.frozen? ⟨ab, M, none⟩ = false := HC4.out.row.frozen M
            have HC5 := HC4.out.mark M
            obtain ⟨W5, HW5⟩ : ∃ W, Hid (w4.setCell ⟨ab, M, none⟩ (.bool true) = W) := ⟨_, rfl⟩
            rw [HW5.out] at HC5
            have HNX := hide (HN2.out _ HC5)
            clear HN2 HC4 HC5
            go_upto_region 18 with fail
            rw [HW5.out]
            clear HW5 cP fP
            go_wp2_with fail
            go_roundg (sn + n - (i + 1))
            case measure => go_light; exact hme2
            case rel => go_light; exact ⟨i + 1, c + 1, hi1, rfl, by simp, by simp, HNX⟩
          · have hout : L.getD M 0 ∉ C := of_decide_eq_false (hAP.symm.trans hA)
            have hyes : L.length < 2 * (C.length + 1) := by rw [← hQ.len]; omega
            obtain ⟨hK2, he0⟩ := hKH.2.2 hout hyes
            have HN2 : Hid (∀ W, CT w p n ab nb many sa sn sc (hearM d (ansM 2 (L.getD M 0) nd (atS sn At i % 5) M) 6).1 (fun j => if j = M then true else A j) W → ∃ d A, CT w p n ab nb many sa sn sc d A W ∧ CP 2 L nd sn need (i + 1) (c + 1) d A) := fun W hW =>
              ⟨_, _, hW, .inr ⟨by omega, hK2⟩⟩
            obtain ⟨d2, hd2⟩ : ∃ x, (hearM d (ansM 2 (L.getD M 0) nd (atS sn At i % 5) M) 6).1 = x := ⟨_, rfl⟩
            have HANS : Hid (∀ W, CT w p n ab nb many sa sn sc d A W → HearP w p n ab nb many sa sn sc lb lo lc me M i 2 d2 0 A W) := fun W hW => CT.hears_2 HB.out hW HI.out me M i lc hn hnde hme9 hP hl99 hsn hd2 he0
            rw [hd2] at HN2
            clear hd2
            have zc : (((c : Int) + 1) == (need : Int)) = true := by simp; omega
            have zn : ((n : Int) == (n : Int)) = true := by simp
            clear hKH hX hQ HN mem hM hCT
            go_upto_region 13 with fail
            clear zs
            go_upto_region 15 with (first
              | (go_at_call 11; refine HTI.out.mono ?_; rintro e w2 ⟨ta, tc, rfl, HC2⟩)
              | (go_at_call 32; refine (HLF.out _ HC2.out).mono ?_; rintro e w9 ⟨rfl, rfl⟩))
            have HAN := hide (HANS.out _ HC2.out)
            unfold HearP at HAN
            have k2 := HC2.out.n1
            have k20 := HC2.out.n0
            clear HANS HTI HLF HC2
            go_upto_region 16 with (first
              | (go_at_call 33; refine HAN.out.mono ?_; rintro e w3 ⟨MA, rfl, HHE⟩)
              | (go_at_call 16; refine HHE.out.mono ?_; rintro e w4 ⟨ra, rc, rfl, HC4⟩))
            clear HAN HHE k2 k20
            have cP : w4.cell? ⟨ab, M, none⟩ = some (.bool false) := by have := HC4.out.row.cell hP; rw [hA] at this; exact this
            have fP : w4.frozen? ⟨ab, M, none⟩ = false := HC4.out.row.frozen M
            have HC5 := HC4.out.mark M
            obtain ⟨W5, HW5⟩ : ∃ W, Hid (w4.setCell ⟨ab, M, none⟩ (.bool true) = W) := ⟨_, rfl⟩
            rw [HW5.out] at HC5
            have HNX := hide (HN2.out _ HC5)
            clear HN2 HC4 HC5
            go_upto_region 18 with fail
            rw [HW5.out]
            clear HW5 cP fP
            go_wp2_with fail
            go_roundg (sn + n - (i + 1))
            case measure => go_light; exact hme2
            case rel => go_light; exact ⟨i + 1, c + 1, hi1, rfl, by simp, by simp, HNX⟩
    · have hfin := hCP.fin HND.out (by omega) (by omega) (by rw [hn]; exact hgo)
      obtain ⟨hc, hE⟩ := hfin
      have zc : (i : Int) < (sn : Int) + (n : Int) → ¬ (c : Int) < (need : Int) := fun _ => by omega
      have z0 : ¬ (c : Int) < (need : Int) := by omega
      have HRD : Hid (Calls Try.prog 34 #[.pointer (some ⟨p.b, 0, none⟩)] wr fun e w' => e = .returned (.tuple #[.int .u64 (d.begun : Nat), .int .u64 (d.done : Nat)]) ∧ Hid (QIs w' p d ∧ Bq p w w')) := (roundQ_any hCT.q).mono fun e w' ⟨he, m, hw⟩ => by
        subst hw
        exact ⟨he, hCT.q.since (drewN_since wr m), hCT.bq.sin (drewN_since wr m)⟩
      have HPH : Hid (∀ W, QIs W p d → Calls Try.prog 13 #[.pointer (some ⟨p.b, 0, none⟩)] W fun e w' => e = .returned (.int .i64 d.ph) ∧ W = w') := fun W hW => phaseQ_any hW
      have HHO : Hid (∀ W, QIs W p d → Calls Try.prog 30 #[.pointer (some ⟨p.b, 0, none⟩)] W fun e w' => e = .returned (.bool (decide (holdB d))) ∧ W = w') := fun W hW => holdsQ_any hW
      have e1 : d.ph = 3 := (hE.k2 rfl).1
      rw [decide_eq_true (show holdB d from .inl e1)] at HHO
      have e2 : d.done = 1 := (hE.k2 rfl).2.2
      rw [e2] at HRD
      have HE := hide hE
      clear HX hCT hCP hE hgo
      by_cases z1 : (i : Int) < (sn : Int) + (n : Int)
      · go_wp2_with (first
          | (go_at_call 34; refine HRD.out.mono ?_; rintro e w5 ⟨rfl, HQ5⟩)
          | (go_at_call 13; refine (HPH.out _ HQ5.out.1).mono ?_; rintro e w6 ⟨rfl, rfl⟩)
          | (go_at_call 30; refine (HHO.out _ HQ5.out.1).mono ?_; rintro e w6 ⟨rfl, rfl⟩))
        go_ret
        exact ⟨rfl, d, HQ5.out.1, by rw [hnde]; exact HE.out, HQ5.out.2⟩
      · go_wp2_with (first
          | (go_at_call 34; refine HRD.out.mono ?_; rintro e w5 ⟨rfl, HQ5⟩)
          | (go_at_call 13; refine (HPH.out _ HQ5.out.1).mono ?_; rintro e w6 ⟨rfl, rfl⟩)
          | (go_at_call 30; refine (HHO.out _ HQ5.out.1).mono ?_; rintro e w6 ⟨rfl, rfl⟩))
        go_ret
        exact ⟨rfl, d, HQ5.out.1, by rw [hnde]; exact HE.out, HQ5.out.2⟩
end Go.Proofs.Ytcamdljlkcnikaa

/- QuorumCounts: the law. -/
namespace Go.Proofs.Ytcamdljlkcnikaa
open Go.RowKit Go.Maps
set_option maxRecDepth 100000
set_option maxRecDepth 100000

/-- Where the law's loop stands. -/
structure QZ (w6 : World) (p : Qp) (L : List Int) (nd : Int) (k : Nat) (wx : World) : Prop where
  ex : ∃ d, QIs wx p d ∧ (k = 0 → KInv 0 L nd [nd] d) ∧ (k = 1 → KInv 1 L nd [] d) ∧ (k = 2 → KEnd 1 L nd d) ∧ (k = 3 → KEnd 2 L nd d) ∧ (k = 4 → KInv 2 L nd [] d)
  bq : Bq p w6 wx
theorem CB.turn {w w' : World} {p : Qp} {lb lo : Nat} {L : List Int} {sa : Option Addr} {sn : Nat} {Pl At : Nat → Int} (h : CB w p lb lo L sa sn Pl At) (b : Bq p w w') : CB w' p lb lo L sa sn Pl At := ⟨h.intsW b, h.lout, h.stW b, h.sout⟩
section
variable {w6 wx : World} {p : Qp} {lb lo : Nat} {L : List Int} {sa : Option Addr} {sn : Nat} {Pl At : Nat → Int} {me n : Nat} {nd : Int}
theorem QZ.count0 (h : QZ w6 p L nd 0 wx) (hb : CB w6 p lb lo L sa sn Pl At) (many : Int) (sc lc : Nat) (hI : ∀ x ∈ L, I64 x) (hnd : L.Nodup) (hn : L.length = n) (hl3 : 3 ≤ n) (hl9 : n ≤ 9) (hodd : n % 2 = 1) (hme : me < n) (hsn : sn ≤ 6000000000000) (hN : L.getD me 0 = nd) :
    Calls Try.prog 12 #[.agg #[.int .i64 many, .slice sa sn sc], .pointer (some ⟨p.b, 0, none⟩), .slice (some ⟨lb, lo, none⟩) n lc, .int .i64 (me : Nat), .int .i64 0] wx fun e w' => e = .returned (.bool true) ∧ Hid (QZ w6 p L nd 1 w') := by
  obtain ⟨d, hq, h0, h1, h2, h3, h4⟩ := h.ex
  subst hn hN
  exact (counts_0 hq (hb.turn h.bq) many sc lc me hI hnd hl3 hl9 hodd hme hsn (h0 rfl)).mono fun e w' ⟨he, d2, hq2, hE, hbq⟩ => ⟨he, ⟨⟨d2, hq2, fun e => by omega, fun _ => hE.next, fun e => by omega, fun e => by omega, fun e => by omega⟩, h.bq.trans hbq⟩⟩
theorem QZ.count1 (h : QZ w6 p L nd 1 wx) (hb : CB w6 p lb lo L sa sn Pl At) (many : Int) (sc lc : Nat) (hI : ∀ x ∈ L, I64 x) (hnd : L.Nodup) (hn : L.length = n) (hl3 : 3 ≤ n) (hl9 : n ≤ 9) (hodd : n % 2 = 1) (hme : me < n) (hsn : sn ≤ 6000000000000) (hN : L.getD me 0 = nd) :
    Calls Try.prog 12 #[.agg #[.int .i64 many, .slice sa sn sc], .pointer (some ⟨p.b, 0, none⟩), .slice (some ⟨lb, lo, none⟩) n lc, .int .i64 (me : Nat), .int .i64 1] wx fun e w' => e = .returned (.bool true) ∧ Hid (QZ w6 p L nd 2 w') := by
  obtain ⟨d, hq, h0, h1, h2, h3, h4⟩ := h.ex
  subst hn hN
  exact (counts_1 hq (hb.turn h.bq) many sc lc me hI hnd hl3 hl9 hodd hme hsn (h1 rfl)).mono fun e w' ⟨he, d2, hq2, hE, hbq⟩ => ⟨he, ⟨⟨d2, hq2, fun e => by omega, fun e => by omega, fun _ => hE, fun e => by omega, fun e => by omega⟩, h.bq.trans hbq⟩⟩
theorem QZ.count2 (h : QZ w6 p L nd 4 wx) (hb : CB w6 p lb lo L sa sn Pl At) (many : Int) (sc lc : Nat) (hI : ∀ x ∈ L, I64 x) (hnd : L.Nodup) (hn : L.length = n) (hl3 : 3 ≤ n) (hl9 : n ≤ 9) (hodd : n % 2 = 1) (hme : me < n) (hsn : sn ≤ 6000000000000) (hN : L.getD me 0 = nd) :
    Calls Try.prog 12 #[.agg #[.int .i64 many, .slice sa sn sc], .pointer (some ⟨p.b, 0, none⟩), .slice (some ⟨lb, lo, none⟩) n lc, .int .i64 (me : Nat), .int .i64 2] wx fun e w' => e = .returned (.bool true) ∧ Hid (QZ w6 p L nd 3 w') := by
  obtain ⟨d, hq, h0, h1, h2, h3, h4⟩ := h.ex
  subst hn hN
  exact (counts_2 hq (hb.turn h.bq) many sc lc me hI hnd hl3 hl9 hodd hme hsn (h4 rfl)).mono fun e w' ⟨he, d2, hq2, hE, hbq⟩ => ⟨he, ⟨⟨d2, hq2, fun e => by omega, fun e => by omega, fun e => by omega, fun _ => hE, fun e => by omega⟩, h.bq.trans hbq⟩⟩
theorem QZ.tick (h : QZ w6 p L nd 2 wx) (hn : L.length = n) : Calls Try.prog 11 #[.pointer (some ⟨p.b, 0, none⟩), .int .i64 6] wx fun e w' => ∃ a c, e = .returned (.slice a n c) ∧ Hid (QZ w6 p L nd 4 w') := by
  obtain ⟨d, hq, h0, h1, h2, h3, h4⟩ := h.ex
  obtain ⟨hK, hlen⟩ := k12_tick (h2 rfl)
  exact (tick_any hq 6).mono fun e w' ⟨r, he, ho, hq2, hb⟩ => by
    obtain ⟨a, c, er⟩ := out_form ho
    exact ⟨a, c, by rw [he, er, hlen, hn], ⟨⟨_, hq2, fun e => by omega, fun e => by omega, fun e => by omega, fun e => by omega, fun _ => hK⟩, h.bq.trans hb⟩⟩
theorem QZ.phase (h : QZ w6 p L nd 3 wx) : Calls Try.prog 13 #[.pointer (some ⟨p.b, 0, none⟩)] wx fun e w' => e = .returned (.int .i64 3) ∧ wx = w' := by
  obtain ⟨d, hq, h0, h1, h2, h3, h4⟩ := h.ex
  have q := phaseQ_any hq
  rw [((h3 rfl).k2 rfl).1] at q
  exact q
end
theorem outN_one (L : List Int) (nd : Int) (h : L.Nodup) (hm : nd ∈ L) : outN L [nd] = L.length - 1 := by
  unfold outN
  have e : (L.filter (fun x => !decide (x ∈ [nd]))) = L.erase nd := by
    rw [h.erase_eq_filter]
    exact List.filter_congr fun x _ => by
      by_cases q : x = nd
      · subst q; simp
      · simp [q]
  rw [e, List.length_erase_of_mem hm]
/-- What the law's Start leaves. -/
theorem start_counts (L : List Int) (nd : Int) (t : Tv) (hn : L.Nodup) (hm : nd ∈ L) (h : 2 ≤ L.length) : (startM (newD nd 1 L) 77 t 6).2.length = L.length - 1 ∧ KInv 0 L nd [nd] (startM (newD nd 1 L) 77 t 6).1 := by
  have e : startM (newD nd 1 L) 77 t 6 = (begM (newD nd 1 L) 77 t, prepMs (begM (newD nd 1 L) 77 t)) := if_neg (show ¬ L.length < 2 by omega)
  rw [e]
  refine ⟨?_, ⟨rfl, rfl, rfl, rfl, fun _ => ⟨rfl, rfl, rfl, rfl⟩, fun e => by omega, fun e => by omega⟩⟩
  show (toMs L [nd] _).length = _
  rw [toMs_n, outN_one L nd hn hm]
theorem start_alone (L : List Int) (nd : Int) (t : Tv) (h : L.length = 1) : (startM (newD nd 1 L) 77 t 6).2.length = 1 := by
  have e : startM (newD nd 1 L) 77 t 6 = (wrtM (begM (newD nd 1 L) 77 t) 1 t.v, writeMs (wrtM (begM (newD nd 1 L) 77 t) 1 t.v) 6) := if_pos (show L.length < 2 by omega)
  rw [e]
  show (writeMs _ 6).length = 1
  unfold writeMs
  rw [List.length_map]
  show (toMs L [] _).length = 1
  rw [toMs_all, h]
def ownW (w : World) : World := w.alloc (.cells #[.int .u8 111, .int .u8 119, .int .u8 110] 5 (3, 4))
def ownX (j : Nat) : Nat := if j = 0 then 111 else if j = 1 then 119 else 110
theorem ownW_since (w : World) : w.Since w.heap.size (ownW w) := (World.Since.refl _ _).alloc (Nat.le_refl _) _
theorem ownW_byt (w : World) : Byt (ownW w) (some ⟨w.heap.size, 0, none⟩) 3 ownX := fun j hj => ⟨_, _, rfl, by
  unfold ownW
  rw [World.cell?_alloc_mark]
  match j, hj with
  | 0, _ => rfl
  | 1, _ => rfl
  | 2, _ => rfl
  | n + 3, hh => exact absurd hh (by omega)⟩
theorem conv_own (w : World) : (convert 36 36 (.slice (some ⟨w.heap.size, 0, none⟩) 3 3)).run Try.prog (w.alloc (.cells #[.int .u8 111, .int .u8 119, .int .u8 110] 5)) = .ok (.slice (some ⟨w.heap.size, 0, none⟩) 3 3) (ownW w) :=
  Lib.run_convert_bytes_const (P := Try.prog) w 36 5 #[.int .u8 111, .int .u8 119, .int .u8 110] 3 3 Try.underlying36 Try.underlying5
end Go.Proofs.Ytcamdljlkcnikaa

/- QuorumCounts: the law's walk. -/
namespace Go.Proofs.Ytcamdljlkcnikaa
open Go.RowKit Go.Maps
set_option maxRecDepth 100000
set_option maxRecDepth 100000

set_option maxHeartbeats 16000000 in
theorem quorumCounts_any {w : World} {sa : Option Addr} {sn : Nat} {Pl At : Nat → Int} (many : Int) (sc : Nat) (hm : I64 many) (hst : StIn w sa sn Pl At) (hsn : sn ≤ 6000000000000) :
    Calls Try.prog 3 #[.agg #[.int .i64 many, .slice sa sn sc]] w fun e w' => e = .returned (.bool true) ∧ w.Since w.heap.size w' := by
  obtain ⟨W0, HW0⟩ : ∃ W, Hid (w.alloc (.cells #[.int .i64 many, .slice sa sn sc] 24) = W) := ⟨_, rfl⟩
  have s0 : w.Since w.heap.size W0 := by rw [← HW0.out]; exact (World.Since.refl _ _).alloc (Nat.le_refl _) _
  have z0 : W0.heap.size = w.heap.size + 1 := by rw [← HW0.out]; simp
  have a0 : W0.cell? ⟨w.heap.size, 0, none⟩ = some (.int .i64 many) := by rw [← HW0.out]; simp
  have a1 : W0.cell? ⟨w.heap.size, 1, none⟩ = some (.slice sa sn sc) := by rw [← HW0.out]; simp
  obtain ⟨nb, hnb⟩ : ∃ x, w.heap.size = x := ⟨_, rfl⟩
  have HNB := hide hnb
  obtain ⟨L, hL⟩ : ∃ L, cpL (manyN many) = L := ⟨_, rfl⟩
  obtain ⟨n, hn⟩ : ∃ n, L.length = n := ⟨_, rfl⟩
  have hln : manyN many = n := by rw [← hn, ← hL, cpL_len]
  have hml := manyN_le many
  have hodd : n % 2 = 1 := by rw [← hln]; unfold manyN; omega
  have hI : ∀ x ∈ L, I64 x := fun x hx => by
    have := cpL_i64 (manyN many) x (by rw [hL]; exact hx)
    exact ⟨by omega, by omega⟩
  have hnd : L.Nodup := by rw [← hL]; exact cpL_nodup _ (by omega)
  have h1n : 1 ≤ n := by omega
  have h7n : n ≤ 7 := by omega
  obtain ⟨me, hme⟩ : ∃ me : Nat, sn % n = me := ⟨_, rfl⟩
  have hmn : me < n := by rw [← hme]; exact Nat.mod_lt _ (by omega)
  obtain ⟨nd, hN⟩ : ∃ x, L.getD me 0 = x := ⟨_, rfl⟩
  have hnm : nd ∈ L := by rw [← hN]; simp [List.getD, hn, hmn]
  obtain ⟨o, ho⟩ : ∃ o, (if n = 1 then 1 else n - 1) = o := ⟨_, rfl⟩
  have HIN : Hid (∀ W, Calls Try.prog 7 #[.int .i64 (sn : Nat), .int .i64 (n : Nat)] W fun e w' => e = .returned (.int .i64 (me : Nat)) ∧ W = w') := fun W => by
    have q := into_any (sn : Nat) n h1n (by omega) ⟨by omega, by omega⟩ W
    rw [show ((sn : Int) % (n : Int)) = (me : Nat) by rw [← hme]; exact (Int.natCast_emod sn n).symm] at q
    exact q
  have HC : Hid (Calls Try.prog 6 #[.int .i64 many] W0 fun e w1 => ∃ g cap : Nat, e = .returned (.slice (some ⟨g, 0, none⟩) n cap) ∧ w1.cell? ⟨nb, 1, none⟩ = some (.slice sa sn sc) ∧ w1.cell? ⟨g, me, none⟩ = some (.int .i64 nd) ∧
      Hid (Calls Try.prog 8 #[.int .i64 nd, .int .i64 1, .slice (some ⟨g, 0, none⟩) n cap] w1 fun e w2 => ∃ p : Qp, e = .returned (.pointer (some ⟨p.b, 0, none⟩)) ∧
        Hid (Calls Try.prog 9 #[] w2 fun e w3 => e = .returned (.bool true) ∧ ∃ W4 xb W5, Hid (w3.alloc (.cells #[.int .u8 111, .int .u8 119, .int .u8 110] 5) = W4) ∧ Hid (w3.heap.size = xb) ∧ Hid ((convert 36 36 (.slice (some ⟨xb, 0, none⟩) 3 3)).run Try.prog W4 = .ok (.slice (some ⟨xb, 0, none⟩) 3 3) W5) ∧
          Hid (Calls Try.prog 10 #[.pointer (some ⟨p.b, 0, none⟩), .int .u64 77, .agg #[.int .u64 77, .int .u64 3, .int .u64 4, .slice (some ⟨xb, 0, none⟩) 3 3], .int .i64 6] W5 fun e w6 => ∃ a c, e = .returned (.slice a o c) ∧ Hid ((3 ≤ n → QZ w6 p L nd 0 w6 ∧ CB w6 p g 0 L sa sn Pl At ∧ w6.cell? ⟨nb, 0, none⟩ = some (.int .i64 many) ∧ w6.cell? ⟨nb, 1, none⟩ = some (.slice sa sn sc)) ∧ p.ge (nb + 1) ∧ w.Since nb w6 ∧ nb < w6.heap.size))))) := by
    subst hnb
    refine (copiesOf_any many hm W0).mono fun e w1 ⟨v, he, hown, hs1⟩ => ?_
    rw [hL] at hown
    obtain ⟨g, cap, f, ev, hg, hcap, hr, hf⟩ := ownI_at hown (by omega)
    have hi1 : Ints w1 (some ⟨g, 0, none⟩) L := fun j hj => ⟨g, 0, rfl, by rw [Nat.zero_add, hr.cell (by omega), hf j hj]⟩
    refine ⟨g, cap, by rw [he, ev, hn], cell_later hs1 a1, ?_, ?_⟩
    · obtain ⟨g', o', e', hc⟩ := hi1 me (by omega)
      cases e'
      rw [Nat.zero_add, hN] at hc
      exact hc
    have hnew := new_any (c := cap) hi1 hI (by omega) (by omega) nd 1 hnm ⟨by decide, by decide⟩
    rw [hn] at hnew
    refine hnew.mono fun e w2 ⟨p, he2, hq2, hge, hs2⟩ => ⟨p, he2, ?_⟩
    refine (wakes_any w2).mono fun e w3 ⟨he3, hs3⟩ => ⟨he3, _, _, ownW w3, rfl, rfl, conv_own w3, ?_⟩
    have sb := ownW_since w3
    have zg := World.block_lt_of_cell? _ _ (show w1.cell? ⟨g, 0, none⟩ = some _ from by
      obtain ⟨g', o', e', hc⟩ := hi1 0 (by omega)
      cases e'
      exact hc)
    have zg' : g < w1.heap.size := zg
    have q5 := (hq2.since hs3).since sb
    refine (start_any q5 77 (by decide) 77 3 4 (by decide) (by decide) (some ⟨w3.heap.size, 0, none⟩) 3 3 ownX (ownW_byt w3) (fun j => by unfold ownX; split <;> first | decide | (split <;> decide)) (fun e => by cases e) (by decide) 6).mono fun e w6 ⟨r, he6, hout, hq6, hb6⟩ => ?_
    obtain ⟨a, c, er⟩ := out_form hout
    have hol : (startM (newD nd 1 L) 77 ⟨3, 4, (List.range 3).map ownX⟩ 6).2.length = o := by
      rw [← ho]
      by_cases e1 : n = 1
      · rw [if_pos e1]
        exact start_alone L nd _ (by omega)
      · rw [if_neg e1, (start_counts L nd _ hnd hnm (by omega)).1, hn]
    refine ⟨a, c, by rw [he6, er, hol], ?_, ?_, ?_, ?_⟩
    · intro h3
      have l1 := hge.b
      have l2 := hge.m1
      have l3 := hge.m2
      have l4 := hge.m3
      have y1 := hs1.size
      have hsa : w1.Since w1.heap.size (ownW w3) := (hs2.trans (since_mono hs3 hs2.size)).trans (since_mono sb (Nat.le_trans hs2.size hs3.size))
      have hall : w.Since w.heap.size (ownW w3) := (s0.trans (since_mono hs1 s0.size)).trans (since_mono hsa (by omega))
      have cb5 : CB (ownW w3) p g 0 L sa sn Pl At := ⟨hi1.since hsa, ⟨by omega, by omega, by omega, by omega⟩, hst.since hall, fun h0 q e => by
        obtain ⟨b, o, e2, _, _, hb⟩ := hst.at' 0 h0
        rw [e] at e2
        obtain rfl := Option.some.inj e2
        exact ⟨by show b ≠ _; omega, by show b ≠ _; omega, by show b ≠ _; omega, by show b ≠ _; omega⟩⟩
      have k0 := cell_later hsa (cell_later hs1 a0)
      have k1 := cell_later hsa (cell_later hs1 a1)
      exact ⟨⟨⟨_, hq6, fun _ => (start_counts L nd _ hnd hnm (by omega)).2, fun e => by omega, fun e => by omega, fun e => by omega, fun e => by omega⟩, Bq.refl _ _⟩, cb5.turn hb6, hb6.cell k0 (by show w.heap.size ≠ _; omega) (by show w.heap.size ≠ _; omega) (by show w.heap.size ≠ _; omega) (by show w.heap.size ≠ _; omega), hb6.cell k1 (by show w.heap.size ≠ _; omega) (by show w.heap.size ≠ _; omega) (by show w.heap.size ≠ _; omega) (by show w.heap.size ≠ _; omega)⟩
    · have y1 := hs1.size
      exact ⟨by have := hge.b; omega, by have := hge.cb; omega, by have := hge.m1; omega, by have := hge.m2; omega, by have := hge.m3; omega⟩
    · have hg0 := hge.b
      have hg2 := hge.m1
      have hg3 := hge.m2
      have hg4 := hge.m3
      have y1 := hs1.size
      have hsa : w1.Since w1.heap.size (ownW w3) := (hs2.trans (since_mono hs3 hs2.size)).trans (since_mono sb (Nat.le_trans hs2.size hs3.size))
      have hall : w.Since w.heap.size (ownW w3) := (s0.trans (since_mono hs1 s0.size)).trans (since_mono hsa (by omega))
      have ya := hall.size
      exact ⟨hb6.os.trans hall.os, hb6.tape.trans hall.tape, hb6.output.trans hall.output, Nat.le_trans hall.size hb6.size, fun k hk => (hb6.block k (by omega) (by omega) (by omega) (by omega) (by omega)).trans (hall.block k hk)⟩
    · have := hs1.size
      have := hs2.size
      have := hs3.size
      have := sb.size
      have := hb6.size
      omega
  have HI := hide hI
  have HND := hide hnd
  have HNB2 := hide hnb
  have zme : (me : Int) < (n : Int) := by omega
  have zme0 : (0 : Int) ≤ (me : Int) := by omega
  rw [hnb] at a0 a1
  clear hst hI hnd hnm s0 z0 hL hln hml hm hnb hme
  go_enter Try.func3, Try.ntmps3
  go_upto_region 1 with fail
  rw [HW0.out, HNB.out]
  clear HW0 HNB
  go_upto_region 3 with (first
    | (go_at_call 6; refine HC.out.mono ?_; rintro e w1 ⟨g, cap, rfl, b1, bg, HN1⟩)
    | (go_at_call 7; refine (HIN.out _).mono ?_; rintro e wq ⟨rfl, rfl⟩))
  clear HC HIN a0 a1
  go_upto_region 6 with (first
    | (go_at_call 8; refine HN1.out.mono ?_; rintro e w2 ⟨p, rfl, HWK⟩)
    | (go_at_call 9; refine HWK.out.mono ?_; rintro e w3 ⟨rfl, W4, xb, W5, HW4, Hxb, HCV, HST⟩))
  have hcv := HCV.out
  rw [← HW4.out] at hcv
  rw [← Hxb.out] at hcv HST
  clear HW4 Hxb HCV HN1 HWK bg b1
  go_upto_region 7 with (go_at_call 10; refine HST.out.mono ?_; rintro e w6 ⟨fa, fc, rfl, HE⟩)
  clear hcv HST
  by_cases e1 : n = 1
  · have zn : ((n : Int) == 1) = true := by simp; omega
    rw [if_pos e1] at ho
    have zo : ((o : Int) == 1) = true := by simp; omega
    clear ho e1
    go_wp2_with fail
    go_ret
    exact ⟨by simp, by rw [HNB2.out]; exact HE.out.2.2.1⟩
  · have zn : ((n : Int) == 1) = false := by simp; omega
    rw [if_neg e1] at ho
    have hw : IntKind.i64.wrap ((n : Int) - 1) = (o : Nat) := by rw [IntKind.wrap_i64]; omega
    have zo : ((o : Int) == (o : Int)) = true := by simp
    have h3n : 3 ≤ n := by omega
    obtain ⟨hZ, hCB, k0, k1⟩ := HE.out.1 h3n
    have HGE := hide HE.out.2.1
    have HBL := hide HE.out.2.2.1
    have hnl := HE.out.2.2.2
    have HCB := hide hCB
    have hb0 := HGE.out.b
    have hb2 := HGE.out.m1
    have hb3 := HGE.out.m2
    have hb4 := HGE.out.m3
    clear ho e1 hCB HE
    have HZ := hide hZ
    clear hZ
    have NC : Hid (∀ W, Bq p w6 W → W.cell? ⟨nb, 0, none⟩ = some (.int .i64 many) ∧ W.cell? ⟨nb, 1, none⟩ = some (.slice sa sn sc)) := fun W b =>
      ⟨b.cell k0 (by show nb ≠ _; omega) (by show nb ≠ _; omega) (by show nb ≠ _; omega) (by show nb ≠ _; omega), b.cell k1 (by show nb ≠ _; omega) (by show nb ≠ _; omega) (by show nb ≠ _; omega) (by show nb ≠ _; omega)⟩
    have zn2 : ((n : Int) == (n : Int)) = true := by simp
    clear k0 k1 hb0 hb2 hb3 hb4
    go_upto_region 12 with fail
    clear zo hw
    go_wp2_with fail
    go_loopg [7] 3 (fun q s7 wx => ∃ (k : Nat) (K : Int), q = 3 - k ∧ s7 = .int .i64 K ∧ ((k = 0 ∧ K = 0) ∨ (k = 1 ∧ K = 1) ∨ (k = 2 ∧ K = 2) ∨ (k = 3 ∧ K = 3)) ∧ Hid (QZ w6 p L nd k wx))
    case atStart => exact ⟨0, 0, rfl, rfl, .inl ⟨rfl, rfl⟩, HZ⟩
    case round =>
      clear HZ
      obtain ⟨k, K, rfl, rfl, hk, HX⟩ := hrel
      rcases hk with ⟨rfl, rfl⟩ | ⟨rfl, rfl⟩ | ⟨rfl, rfl⟩ | ⟨rfl, rfl⟩
      · obtain ⟨c0, c1⟩ := NC.out _ HX.out.bq
        have HCO := hide (HX.out.count0 HCB.out many sc cap HI.out HND.out hn h3n (by omega) hodd hmn hsn hN)
        clear HX
        go_wp2_with (go_at_call 12; refine HCO.out.mono ?_; rintro e w7 ⟨rfl, HY⟩)
        go_roundg 2
        case measure => go_light; decide
        case rel => go_light; exact ⟨1, 1, rfl, by first | rfl | decide, .inr (.inl ⟨rfl, rfl⟩), HY⟩
      · obtain ⟨c0, c1⟩ := NC.out _ HX.out.bq
        have HCO := hide (HX.out.count1 HCB.out many sc cap HI.out HND.out hn h3n (by omega) hodd hmn hsn hN)
        clear HX
        go_wp2_with (go_at_call 12; refine HCO.out.mono ?_; rintro e w7 ⟨rfl, HY⟩)
        go_roundg 1
        case measure => go_light; decide
        case rel => go_light; exact ⟨2, 2, rfl, by first | rfl | decide, .inr (.inr (.inl ⟨rfl, rfl⟩)), HY⟩
      · obtain ⟨c0, c1⟩ := NC.out _ HX.out.bq
        have HTK := hide (HX.out.tick hn)
        clear HX
        go_upto_region 16 with (go_at_call 11; refine HTK.out.mono ?_; rintro e w8 ⟨ta, tc, rfl, HT⟩)
        obtain ⟨c2, c3⟩ := NC.out _ HT.out.bq
        have HCO := hide (HT.out.count2 HCB.out many sc cap HI.out HND.out hn h3n (by omega) hodd hmn hsn hN)
        clear HTK HT c0 c1
        go_wp2_with (go_at_call 12; refine HCO.out.mono ?_; rintro e w7 ⟨rfl, HY⟩)
        go_roundg 0
        case measure => go_light; decide
        case rel => go_light; exact ⟨3, 3, rfl, by first | rfl | decide, .inr (.inr (.inr ⟨rfl, rfl⟩)), HY⟩
      · have HPH := hide HX.out.phase
        have HFIN : Hid (w.Since w.heap.size wr) := by
          have hb := HX.out.bq
          have h1 := HBL.out
          have h2 := HGE.out
          have l1 := h2.b
          have l2 := h2.m1
          have l3 := h2.m2
          have l4 := h2.m3
          rw [HNB2.out]
          exact ⟨hb.os.trans h1.os, hb.tape.trans h1.tape, hb.output.trans h1.output, Nat.le_trans h1.size hb.size, fun k hk => (hb.block k (by omega) (by omega) (by omega) (by omega) (by omega)).trans (h1.block k hk)⟩
        clear HX
        go_wp2_with (go_at_call 13; refine HPH.out.mono ?_; rintro e w7 ⟨rfl, rfl⟩)
        go_ret
        exact ⟨by simp, HFIN.out⟩
end Go.Proofs.Ytcamdljlkcnikaa
