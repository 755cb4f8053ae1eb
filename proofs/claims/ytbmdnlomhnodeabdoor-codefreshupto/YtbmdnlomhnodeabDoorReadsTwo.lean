/- Two Readers in turns, each beside the document's: what of memory is theirs. -/
import Derived.Test.YtbmdnlomhnodeabDoorReadsWalk
import Derived.Test.YtbmdnlomhnodeabDoorLend
namespace Go.Proofs.YtbmdnlomhnodeabDoor
open Go.RowKit
set_option maxRecDepth 100000

def up {α : Type} (f : Nat → α) (k : Nat) (x : α) : Nat → α := fun i => if i = k then x else f i
theorem up_at {α : Type} (f : Nat → α) (k : Nat) (x : α) : up f k x k = x := if_pos rfl
theorem up_ne {α : Type} (f : Nat → α) (k : Nat) (x : α) {j : Nat} (h : j ≠ k) : up f k x j = f j := if_neg h
/-- Four blocks that lie from lo on, below hi. -/
structure Span (lo hi R HB E HE : Nat) : Prop where
  r1 : lo ≤ R
  r2 : R < hi
  h1 : lo ≤ HB
  h2 : HB < hi
  e1 : lo ≤ E
  e2 : E < hi
  f1 : lo ≤ HE
  f2 : HE < hi
structure Duo2 (w1 w : World) (K aR aE : Nat) (R HB E HE n at' bad Lo Hi : Nat → Nat) (zz : Nat → Nat → Nat) : Prop where
  since : w1.Since w1.heap.size w
  arrR : w.rowIs aR 46 2 (fun j => if j < K then .pointer (some ⟨R j, 0, none⟩) else .pointer none)
  arrE : w.rowIs aE 48 2 (fun j => if j < K then .pointer (some ⟨E j, 0, none⟩) else .pointer none)
  re : ∀ j, j < K → RE w (R j) (HB j) (E j) (HE j) (n j) (zz j) (at' j) (bad j)
  sp : ∀ j, j < K → Span (Lo j) (Hi j) (R j) (HB j) (E j) (HE j)
  base : ∀ j, j < K → aE < Lo j
  ord : ∀ i j, i < j → j < K → Hi i ≤ Lo j
  top : ∀ j, j < K → Hi j ≤ w.heap.size
  ar : aR < aE
  lo : w1.heap.size ≤ aR
theorem re_keep {w w' : World} {R HB E HE n at' bad : Nat} {z : Nat → Nat} (h : RE w R HB E HE n z at' bad) (hk : ∀ k, k = R ∨ k = HB ∨ k = E ∨ k = HE → w'.heap[k]? = w.heap[k]?) : RE w' R HB E HE n z at' bad :=
  ⟨⟨h.rd.rd.of_block (hk _ (Or.inl rfl)), h.rd.row.of_block (hk _ (Or.inr (Or.inl rfl))), h.rd.ne, h.rd.byte, h.rd.le, h.rd.room⟩, ⟨h.ey.rd.of_block (hk _ (Or.inr (Or.inr (Or.inl rfl)))), h.ey.row.of_block (hk _ (Or.inr (Or.inr (Or.inr rfl)))), h.ey.ne, h.ey.byte, h.ey.le, h.ey.room⟩, h.n1, h.n2, h.n3⟩
theorem Duo2.later {w1 w w' : World} {K aR aE : Nat} {R HB E HE n at' bad Lo Hi : Nat → Nat} {zz : Nat → Nat → Nat} (h : Duo2 w1 w K aR aE R HB E HE n at' bad Lo Hi zz) (hs : w.Since w.heap.size w') : Duo2 w1 w' K aR aE R HB E HE n at' bad Lo Hi zz :=
  ⟨h.since.trans (since_mono hs h.since.size), row_since h.arrR hs, row_since h.arrE hs, fun j hj => (h.re j hj).later hs, h.sp, h.base, h.ord, fun j hj => Nat.le_trans (h.top j hj) hs.size, h.ar, h.lo⟩
/-- ONE CALL ON THE PAIR k. -/
theorem Duo2.step {w1 w w' : World} {K aR aE : Nat} {R HB E HE n at' bad Lo Hi : Nat → Nat} {zz : Nat → Nat → Nat} (h : Duo2 w1 w K aR aE R HB E HE n at' bad Lo Hi zz) {k : Nat} (hk : k < K) (hg : Gone w w' (R k) (HB k) (E k) (HE k) (n k) (zz k)) :
    ∃ at2 bad2, Duo2 w1 w' K aR aE R HB E HE n (up at' k at2) (up bad k bad2) Lo Hi zz := by
  obtain ⟨at2, bad2, hre, hb⟩ := hg
  have s := h.sp k hk
  have b := h.base k hk
  have t := h.top k hk
  have ar := h.ar
  have lo := h.lo
  have := s.r1
  have := s.e1
  have := s.r2
  have := s.e2
  refine ⟨at2, bad2, hb.since h.since (by omega) (by omega) (Nat.le_trans h.since.size (Nat.le_refl _)), h.arrR.of_block (hb.block aR h.arrR.lt (by omega) (by omega)), h.arrE.of_block (hb.block aE h.arrE.lt (by omega) (by omega)), fun j hj => ?_, h.sp, h.base, h.ord, fun j hj => Nat.le_trans (h.top j hj) hb.size, h.ar, h.lo⟩
  by_cases e : j = k
  · subst e
    rw [up_at, up_at]; exact hre
  · rw [up_ne _ _ _ e, up_ne _ _ _ e]
    have sj := h.sp j hj
    have tj := h.top j hj
    have := sj.r1
    have := sj.r2
    have := sj.h1
    have := sj.h2
    have := sj.e1
    have := sj.e2
    have := sj.f1
    have := sj.f2
    have o : Hi j ≤ Lo k ∨ Hi k ≤ Lo j := by
      rcases Nat.lt_or_gt_of_ne e with l | l
      · exact Or.inl (h.ord j k l hk)
      · exact Or.inr (h.ord k j l hj)
    refine re_keep (h.re j hj) (fun q hq => hb.block q ?_ ?_ ?_)
    · rcases hq with e | e | e | e <;> omega
    · rcases hq with e | e | e | e <;> omega
    · rcases hq with e | e | e | e <;> omega
/-- A PAIR MORE. -/
theorem Duo2.add {w1 w w' : World} {k aR aE : Nat} {R HB E HE n at' bad Lo Hi : Nat → Nat} {zz : Nat → Nat → Nat} (h : Duo2 w1 w k aR aE R HB E HE n at' bad Lo Hi zz) (hb : But2 aR aE w w') {rb hb' eb he : Nat}
    (hR : w'.rowIs aR 46 2 (fun j => if j = k then .pointer (some ⟨rb, 0, none⟩) else if j < k then .pointer (some ⟨R j, 0, none⟩) else .pointer none))
    (hE : w'.rowIs aE 48 2 (fun j => if j = k then .pointer (some ⟨eb, 0, none⟩) else if j < k then .pointer (some ⟨E j, 0, none⟩) else .pointer none))
    (hre : RE w' rb hb' eb he (n k) (zz k) 0 0) (hsp : Span w.heap.size w'.heap.size rb hb' eb he) :
    Duo2 w1 w' (k + 1) aR aE (up R k rb) (up HB k hb') (up E k eb) (up HE k he) n (up at' k 0) (up bad k 0) (up Lo k w.heap.size) (up Hi k w'.heap.size) zz := by
  have haE := h.arrE.lt
  have haR := h.arrR.lt
  have ar := h.ar
  have lo := h.lo
  refine ⟨hb.since h.since (by omega) (by omega) h.since.size, hR.congr (fun j hj => ?_), hE.congr (fun j hj => ?_), fun j hj => ?_, fun j hj => ?_, fun j hj => ?_, fun i j hij hj => ?_, fun j hj => ?_, h.ar, h.lo⟩
  · by_cases e : j = k
    · subst e; rw [if_pos rfl, if_pos (Nat.lt_succ_self _), up_at]
    · rw [if_neg e]
      by_cases l : j < k
      · rw [if_pos l, if_pos (by omega), up_ne _ _ _ e]
      · rw [if_neg l, if_neg (by omega)]
  · by_cases e : j = k
    · subst e; rw [if_pos rfl, if_pos (Nat.lt_succ_self _), up_at]
    · rw [if_neg e]
      by_cases l : j < k
      · rw [if_pos l, if_pos (by omega), up_ne _ _ _ e]
      · rw [if_neg l, if_neg (by omega)]
  · by_cases e : j = k
    · subst e; simp only [up_at]; exact hre
    · simp only [up_ne _ _ _ e]
      have hjk : j < k := by omega
      have sj := h.sp j hjk
      have tj := h.top j hjk
      have bj := h.base j hjk
      have := sj.r1
      have := sj.r2
      have := sj.h1
      have := sj.h2
      have := sj.e1
      have := sj.e2
      have := sj.f1
      have := sj.f2
      refine re_keep (h.re j hjk) (fun q hq => hb.block q ?_ ?_ ?_)
      · rcases hq with e | e | e | e <;> omega
      · rcases hq with e | e | e | e <;> omega
      · rcases hq with e | e | e | e <;> omega
  · by_cases e : j = k
    · subst e; simp only [up_at]; exact hsp
    · simp only [up_ne _ _ _ e]; exact h.sp j (by omega)
  · by_cases e : j = k
    · subst e; simp only [up_at]; exact haE
    · simp only [up_ne _ _ _ e]; exact h.base j (by omega)
  · by_cases e : j = k
    · subst e
      rw [up_at, up_ne _ _ _ (by omega)]
      exact h.top i hij
    · rw [up_ne _ _ _ e, up_ne _ _ _ (by omega)]; exact h.ord i j hij (by omega)
  · by_cases e : j = k
    · subst e; rw [up_at]; exact Nat.le_refl _
    · rw [up_ne _ _ _ e]; exact Nat.le_trans (h.top j (by omega)) hb.size
end Go.Proofs.YtbmdnlomhnodeabDoor
