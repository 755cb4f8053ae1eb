/- held: what is kept in memory. -/
import Derived.Test.YtgpmoakfbhcidaaYB1

namespace Go.Proofs.Ytgpmoakfbhcidaa
open Go.RowKit
set_option maxRecDepth 100000
set_option maxRecDepth 100000

/-- One of four has turned: the others are as they were, and apart. -/
theorem fam_mv {w w' : World} {fam : Nat → Nat → Prop} {k : Nat} {G' : Nat → Prop} (dis : ∀ i j q, i < 4 → j < 4 → i ≠ j → fam i q → ¬ fam j q) (lt : ∀ i q, i < 4 → fam i q → q < w.heap.size) (hk : k < 4) (hM : Mv (fam k) G' w w') :
    (∀ i, i < 4 → i ≠ k → ∀ q, fam i q → w'.heap[q]? = w.heap[q]?) ∧ ∀ i j q, i < 4 → j < 4 → i ≠ j → upd fam k G' i q → ¬ upd fam k G' j q := by
  refine ⟨fun i hi hne q hq => hM.block q (lt i q hi hq) (fun e => dis i k q hi hk hne hq e), fun i j q hi hj hne hq hq' => ?_⟩
  by_cases e : i = k
  · subst e
    rw [upd_at] at hq
    rw [upd_ne _ _ _ (Ne.symm hne)] at hq'
    rcases hM.foot q hq with e2 | e2
    · exact dis i j q hi hj hne e2 hq'
    · have := lt j q hj hq'; omega
  · rw [upd_ne _ _ _ e] at hq
    by_cases e2 : j = k
    · subst e2
      rw [upd_at] at hq'
      rcases hM.foot q hq' with e3 | e3
      · exact dis i j q hi hj hne hq e3
      · have := lt i q hi hq; omega
    · rw [upd_ne _ _ _ e2] at hq'
      exact dis i j q hi hj hne hq hq'
/-- The whole state; fam: what of memory is the stage's, the Shelf's, the Place's, the other nets'. -/
structure HdS (W0 w : World) (sb bk xb pb L T lo m : Nat) (ov : Value) (P : Nat → Option PM) (nv vv : Nat → Value) (F : Nat → Nat → Prop) (fam : Nat → Nat → Prop) : Prop where
  st : StIs w W0.heap.size sb bk false P nv vv F
  ls : LostLe P L
  sh : ShIs w W0.heap.size xb T (fam 1)
  pl : PlcIs w W0.heap.size pb (fam 2)
  ot : OtIs w W0.heap.size ov lo m (fam 3)
  f0 : ∀ q, fam 0 q ↔ SFt sb F q
  dis : ∀ i j q, i < 4 → j < 4 → i ≠ j → fam i q → ¬ fam j q
  below : Below W0.heap.size W0 w
/-- The same, whatever it holds. -/
def HdX (W0 w : World) (sb bk xb pb L T lo m : Nat) (ov : Value) : Prop := ∃ P nv vv F fam, HdS W0 w sb bk xb pb L T lo m ov P nv vv F fam
section
variable {W0 w w' : World} {sb bk xb pb L T lo m : Nat} {ov : Value} {P : Nat → Option PM} {nv vv : Nat → Value} {F : Nat → Nat → Prop} {fam : Nat → Nat → Prop}
theorem HdS.x (h : HdS W0 w sb bk xb pb L T lo m ov P nv vv F fam) : HdX W0 w sb bk xb pb L T lo m ov := ⟨P, nv, vv, F, fam, h⟩
theorem HdS.ge (h : HdS W0 w sb bk xb pb L T lo m ov P nv vv F fam) : ∀ i q, i < 4 → fam i q → W0.heap.size ≤ q ∧ q < w.heap.size := fun i q hi hq => by
  match i, hi with
  | 0, _ => exact h.st.ge q ((h.f0 q).1 hq)
  | 1, _ => exact h.sh.ge q hq
  | 2, _ => exact h.pl.ge q hq
  | 3, _ => exact h.ot.ge q hq
theorem HdS.on (h : HdS W0 w sb bk xb pb L T lo m ov P nv vv F fam) (hb : Below w.heap.size w w') : HdS W0 w' sb bk xb pb L T lo m ov P nv vv F fam :=
  ⟨h.st.on hb, h.ls, h.sh.on hb, h.pl.later (fun q hq => hb.block q (h.pl.ge q hq).2), h.ot.later (fun q hq => hb.block q (h.ot.ge q hq).2), h.f0, h.dis, h.below.trans (hb.mono h.below.size)⟩
/-- The stage has turned. -/
theorem HdS.stage {P' : Nat → Option PM} {nv' vv' : Nat → Value} {F' : Nat → Nat → Prop} {L' : Nat} (h : HdS W0 w sb bk xb pb L T lo m ov P nv vv F fam) (hs : StIs w' W0.heap.size sb bk false P' nv' vv' F') (hl : LostLe P' L') (hM : Mv (SFt sb F) (SFt sb F') w w') : HdS W0 w' sb bk xb pb L' T lo m ov P' nv' vv' F' (upd fam 0 (SFt sb F')) := by
  have hM2 : Mv (fam 0) (SFt sb F') w w' := ⟨hM.os, hM.tape, hM.output, hM.size, fun q hq hn => hM.block q hq (fun e => hn ((h.f0 q).2 e)), fun q hq => (hM.foot q hq).imp_left (fun e => (h.f0 q).2 e)⟩
  obtain ⟨k1, k2⟩ := fam_mv h.dis (fun i q hi hq => (h.ge i q hi hq).2) (by decide) hM2
  exact ⟨hs, hl, by rw [upd_ne _ _ _ (by decide)]; exact h.sh.later (k1 1 (by decide) (by decide)), by rw [upd_ne _ _ _ (by decide)]; exact h.pl.later (k1 2 (by decide) (by decide)), by rw [upd_ne _ _ _ (by decide)]; exact h.ot.later (k1 3 (by decide) (by decide)), fun q => by rw [upd_at], k2, hM2.below h.below h.below.size (fun q hq => (h.ge 0 q (by decide) hq).1)⟩
/-- The Shelf has turned. -/
theorem HdS.shelf {G' : Nat → Prop} {T' : Nat} (h : HdS W0 w sb bk xb pb L T lo m ov P nv vv F fam) (hs : ShIs w' W0.heap.size xb T' G') (hM : Mv (fam 1) G' w w') : HdS W0 w' sb bk xb pb L T' lo m ov P nv vv F (upd fam 1 G') := by
  obtain ⟨k1, k2⟩ := fam_mv h.dis (fun i q hi hq => (h.ge i q hi hq).2) (by decide) hM
  exact ⟨h.st.later (fun q hq => k1 0 (by decide) (by decide) q ((h.f0 q).2 hq)), h.ls, by rw [upd_at]; exact hs, by rw [upd_ne _ _ _ (by decide)]; exact h.pl.later (k1 2 (by decide) (by decide)), by rw [upd_ne _ _ _ (by decide)]; exact h.ot.later (k1 3 (by decide) (by decide)), fun q => by rw [upd_ne _ _ _ (by decide)]; exact h.f0 q, k2, hM.below h.below h.below.size (fun q hq => (h.ge 1 q (by decide) hq).1)⟩
/-- The Place has turned. -/
theorem HdS.place {G' : Nat → Prop} (h : HdS W0 w sb bk xb pb L T lo m ov P nv vv F fam) (hs : PlcIs w' W0.heap.size pb G') (hM : Mv (fam 2) G' w w') : HdS W0 w' sb bk xb pb L T lo m ov P nv vv F (upd fam 2 G') := by
  obtain ⟨k1, k2⟩ := fam_mv h.dis (fun i q hi hq => (h.ge i q hi hq).2) (by decide) hM
  exact ⟨h.st.later (fun q hq => k1 0 (by decide) (by decide) q ((h.f0 q).2 hq)), h.ls, by rw [upd_ne _ _ _ (by decide)]; exact h.sh.later (k1 1 (by decide) (by decide)), by rw [upd_at]; exact hs, by rw [upd_ne _ _ _ (by decide)]; exact h.ot.later (k1 3 (by decide) (by decide)), fun q => by rw [upd_ne _ _ _ (by decide)]; exact h.f0 q, k2, hM.below h.below h.below.size (fun q hq => (h.ge 2 q (by decide) hq).1)⟩
/-- The other nets have turned. -/
theorem HdS.nets {G' : Nat → Prop} {ov' : Value} {lo' m' : Nat} (h : HdS W0 w sb bk xb pb L T lo m ov P nv vv F fam) (hs : OtIs w' W0.heap.size ov' lo' m' G') (hM : Mv (fam 3) G' w w') : HdS W0 w' sb bk xb pb L T lo' m' ov' P nv vv F (upd fam 3 G') := by
  obtain ⟨k1, k2⟩ := fam_mv h.dis (fun i q hi hq => (h.ge i q hi hq).2) (by decide) hM
  exact ⟨h.st.later (fun q hq => k1 0 (by decide) (by decide) q ((h.f0 q).2 hq)), h.ls, by rw [upd_ne _ _ _ (by decide)]; exact h.sh.later (k1 1 (by decide) (by decide)), by rw [upd_ne _ _ _ (by decide)]; exact h.pl.later (k1 2 (by decide) (by decide)), by rw [upd_at]; exact hs, fun q => by rw [upd_ne _ _ _ (by decide)]; exact h.f0 q, k2, hM.below h.below h.below.size (fun q hq => (h.ge 3 q (by decide) hq).1)⟩
/-- plays. -/
theorem HdX.plays (h : HdX W0 w sb bk xb pb L T lo m ov) (hl1 : L ≤ 1000) (o : NOp) (ho : o.ok W0) :
    Calls Try.prog 7 #[.pointer (some ⟨sb, 0, none⟩), .agg #[.int .i64 o.dd, .int .i64 o.wh, .int .i64 o.at', .int .i64 o.to', .slice o.ba o.bl o.bc]] w fun e w' => e = .returned (.bool true) ∧ HdX W0 w' sb bk xb pb (L + 1) T lo m ov := by
  obtain ⟨P, nv, vv, F, fam, h⟩ := h
  exact (plays_any h.st h.below h.ls hl1 o.dd o.wh o.at' o.to' o.ba o.bl o.bc o.y ho.1 ho.2.1 ho.2.2.1 ho.2.2.2).mono fun e w' ⟨he, P', nv', vv', F', h1, h2, h3⟩ => ⟨he, (h.stage h1 h3 h2).x⟩
/-- The Shelf takes bytes that are new. -/
theorem HdS.bytes (h : HdS W0 w sb bk xb pb L T lo m ov P nv vv F fam) (hT : T ≤ 2000) (hb : Below w.heap.size w w') (a : Option Addr) (n c : Nat) (y : Nat → Nat) (ho : OwnZ w' W0.heap.size (.slice a n c) n y) (hfree : ∀ ad, a = some ad → w.heap.size ≤ ad.block) (hmax : n ≤ 140737488351232) :
    Calls Try.prog 17 #[.pointer (some ⟨xb, 0, none⟩), .slice a n c] w' fun e w2 => e = .returned (.tuple #[]) ∧ ∃ G', HdS W0 w2 sb bk xb pb L (T + 1) lo m ov P nv vv F (upd fam 1 G') ∧ Mv (fun k => fam 1 k ∨ ∃ ad, a = some ad ∧ ad.block = k) G' w' w2 := by
  have h' := h.on hb
  refine (h'.sh.bytes h'.below.size hT a n c y ho (fun ad e hf => by have := (h.ge 1 _ (by decide) hf).2; have := hfree ad e; omega) hmax).mono fun e w2 ⟨he, G', h1, h2⟩ => ⟨he, G', ?_, h2⟩
  have hM : Mv (fam 1) G' w w2 := by
    have z1 := hb.size
    have z2 := h2.size
    refine ⟨h2.os.trans hb.os, h2.tape.trans hb.tape, h2.output.trans hb.output, by omega, fun q hq hn => (h2.block q (by omega) (fun e => ?_)).trans (hb.block q hq), fun q hf => ?_⟩
    · rcases e with e | ⟨ad, e1, e2⟩
      · exact hn e
      · have := hfree ad e1; omega
    · rcases h2.foot q hf with (e | ⟨ad, e1, e2⟩) | e
      · exact .inl e
      · exact .inr (by have := hfree ad e1; omega)
      · exact .inr (by omega)
  exact h.shelf h1 hM
end
end Go.Proofs.Ytgpmoakfbhcidaa
