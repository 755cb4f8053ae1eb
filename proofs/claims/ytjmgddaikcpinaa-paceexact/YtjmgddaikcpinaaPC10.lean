/- A pace and the document's side by side: made, and each call on both. -/
import Derived.Test.YtjmgddaikcpinaaPC9
namespace Go.Proofs.Ytjmgddaikcpinaa
open Go.RowKit
set_option maxRecDepth 100000
set_option maxRecDepth 100000

/-- The pace at pb and the document's at qb stand alike: both behind t ticks. -/
structure Two (w : World) (pb qb m t : Nat) : Prop where
  p : PcIs w pb (if t = 0 then 0 else (tmS m t).2.1 - t) (tmS m t).2.2 m
  q : RpIs w qb m t
  ne : pb ≠ qb
theorem Two.later {w w' : World} {pb qb m t : Nat} (h : Two w pb qb m t) (h1 : w'.heap[pb]? = w.heap[pb]?) (h2 : w'.heap[qb]? = w.heap[qb]?) : Two w' pb qb m t := ⟨h.p.later h1, h.q.later h2, h.ne⟩
theorem rowIs_apart {w : World} {b b' t t' n n' : Nat} {f f' : Nat → Value} (h : w.rowIs b t n f) (h' : w.rowIs b' t' n' f') (ht : t ≠ t') : b ≠ b' := by
  rintro rfl
  obtain ⟨c, h1, _⟩ := h
  obtain ⟨c', h2, _⟩ := h'
  rw [h1] at h2
  simp only [Option.some.injEq, Obj.cells.injEq] at h2
  exact ht h2.2.1

/-- What a step at a pair leaves. -/
def Tn (pb qb : Nat) (w w' : World) : Prop := Mv (fun k => k = pb ∨ k = qb) w w'
theorem tick_math {m t : Nat} (hm : 1 ≤ m) : decide ((if t = 0 then 0 else (tmS m t).2.1 - t) ≤ 1) = decide (¬ t + 1 < (tmS m t).2.1) ∧ tkL (if t = 0 then 0 else (tmS m t).2.1 - t) (tmS m t).2.2 = (if t + 1 = 0 then 0 else (tmS m (t + 1)).2.1 - (t + 1)) ∧ tkG (if t = 0 then 0 else (tmS m t).2.1 - t) (tmS m t).2.2 m = (tmS m (t + 1)).2.2 := by
  have h := tm_ok hm t
  obtain ⟨h1, h2, h3, h4, h5⟩ := h
  rw [tm_succ, if_neg (show ¬ t + 1 = 0 by omega)]
  by_cases h0 : t = 0
  · subst h0
    refine ⟨rfl, ?_, ?_⟩
    · show tkL 0 1 = _
      rfl
    · show tkG 0 1 m = _
      rfl
  · rw [if_neg h0]
    unfold tkL tkG
    by_cases hc : t + 1 < (tmS m t).2.1
    · rw [if_pos hc, if_pos (by omega), if_pos (by omega)]
      refine ⟨?_, by omega, rfl⟩
      rw [decide_eq_decide]; omega
    · rw [if_neg hc, if_neg (by omega), if_neg (by omega)]
      refine ⟨?_, ?_, rfl⟩
      · rw [decide_eq_decide]; omega
      · show _ = (tmS m t).2.1 + (tmS m t).2.2 - (t + 1)
        omega
/-- Tick of both, the program's first. -/
theorem Two.tick {w : World} {pb qb m t : Nat} (h : Two w pb qb m t) (ht : t < 5000) :
    ∃ d : Bool, Calls Try.prog 8 #[.pointer (some ⟨pb, 0, none⟩)] w fun e w' => e = .returned (.bool d) ∧ Mv (fun k => k = pb) w w' ∧
      Hid (Calls Try.prog 13 #[.pointer (some ⟨qb, 0, none⟩)] w' fun e w'' => e = .returned (.bool d) ∧ Two w'' pb qb m (t + 1) ∧ Mv (fun k => k = pb ∨ k = qb) w w'') := by
  obtain ⟨e1, e2, e3⟩ := tick_math (t := t) h.q.h1
  refine ⟨decide (¬ t + 1 < (tmS m t).2.1), (tick_any h.p).mono fun e w' ⟨he, hp, hv⟩ => ⟨by rw [he, e1], hv, ?_⟩⟩
  rw [e2, e3] at hp
  have hq : RpIs w' qb m t := h.q.later (hv.block qb h.q.row.lt (fun e => h.ne e.symm))
  exact (rtick_any hq ht).mono fun e w'' ⟨he2, hp2, hv2⟩ => ⟨he2, ⟨hp.later (hv2.block pb hp.row.lt h.ne), hp2, h.ne⟩, (hv.mono fun _ => Or.inl).trans (hv2.mono fun _ => Or.inr)⟩
theorem Two.reset {w : World} {pb qb m t : Nat} (h : Two w pb qb m t) :
    Calls Try.prog 9 #[.pointer (some ⟨pb, 0, none⟩)] w fun e w' => e = .returned (.tuple #[]) ∧ Mv (fun k => k = pb) w w' ∧
      Hid (Calls Try.prog 14 #[.pointer (some ⟨qb, 0, none⟩)] w' fun e w'' => e = .returned (.tuple #[]) ∧ Two w'' pb qb m 0 ∧ Mv (fun k => k = pb ∨ k = qb) w w'') := by
  refine (reset_any h.p).mono fun e w' ⟨he, hp, hv⟩ => ⟨he, hv, ?_⟩
  have hq : RpIs w' qb m t := h.q.later (hv.block qb h.q.row.lt (fun e => h.ne e.symm))
  exact (rreset_any hq).mono fun e w'' ⟨he2, hp2, hv2⟩ => ⟨he2, ⟨hp.later (hv2.block pb hp.row.lt h.ne), hp2, h.ne⟩, (hv.mono fun _ => Or.inl).trans (hv2.mono fun _ => Or.inr)⟩
theorem Two.wait {w : World} {pb qb m t : Nat} (h : Two w pb qb m t) :
    ∃ l : Nat, (∀ W, W.heap = w.heap → Calls Try.prog 10 #[.pointer (some ⟨pb, 0, none⟩)] W fun e w' => e = .returned (.int .i64 (l : Nat)) ∧ w' = W) ∧
      ∀ W, W.heap = w.heap → Calls Try.prog 15 #[.pointer (some ⟨qb, 0, none⟩)] W fun e w' => e = .returned (.int .i64 (l : Nat)) ∧ ∃ q, w' = W.drewN q :=
  ⟨_, fun W hW => (wait_any (h.p.later (by rw [hW]))).mono fun e w' ⟨h1, h2⟩ => ⟨h1, h2.symm⟩, fun W hW => rwait_any (h.q.later (by rw [hW]))⟩

/-- made, of a cap that may be. -/
theorem made_any (n : Nat) (h1 : 1 ≤ n) (h2 : n ≤ 64) (w : World) :
    Calls Try.prog 12 #[.int .i64 (n : Nat)] w fun e w' => ∃ pb qb, e = .returned (.tuple #[.pointer (some ⟨pb, 0, none⟩), .pointer (some ⟨qb, 0, none⟩), .bool true]) ∧ Hid (Two w' pb qb n 0 ∧ w.heap.size ≤ pb ∧ w.heap.size ≤ qb ∧ Below w.heap.size w w') := by
  have HN : Hid (Calls Try.prog 7 #[.int .i64 (n : Nat)] w fun e w' => e = .returned (.tuple #[.pointer (some ⟨w.heap.size, 0, none⟩), .int .i64 0]) ∧ ∃ qb, Hid (Calls Try.prog 17 #[.int .i64 (n : Nat)] w' fun e w'' => e = .returned (.tuple #[.pointer (some ⟨qb, 0, none⟩), .int .i64 0]) ∧ Hid (Two w'' w.heap.size qb n 0 ∧ w.heap.size ≤ w.heap.size ∧ w.heap.size ≤ qb ∧ Below w.heap.size w w''))) :=
    (new_any n h1 h2 w).mono fun e w' ⟨he, hp, hb, hz⟩ => ⟨he, w'.heap.size, (rnew_any n h1 h2 w').mono fun e w'' ⟨he2, hq, hb2⟩ => ⟨he2, ⟨hp.on hb2, hq, by omega⟩, Nat.le_refl _, hb.size, hb.trans (hb2.mono hb.size)⟩⟩
  generalize w.heap.size = z at *
  have HZ : Hid (∀ (w'' : World) qb, (Two w'' z qb n 0 ∧ z ≤ z ∧ z ≤ qb ∧ Below z w w'') → (Two w'' z qb n 0 ∧ z ≤ z ∧ z ≤ qb ∧ Below z w w'')) := fun _ _ h => h
  clear h1 h2 HZ
  go_enter Try.func12, Try.ntmps12
  go_wp2_with (first
    | (go_at_call 7; refine HN.out.mono ?_; rintro e w2 ⟨rfl, qb, HR⟩)
    | (go_at_call 17; refine HR.out.mono ?_; rintro e w3 ⟨rfl, HK⟩))
  go_ret3
  exact ⟨z, qb, rfl, HK⟩
theorem made_not (n : Int) (h : n < 1 ∨ 64 < n) (w : World) :
    Calls Try.prog 12 #[.int .i64 n] w fun e w' => e = .returned (.tuple #[.pointer none, .pointer none, .bool true]) ∧ w = w' := by
  have HN : Hid (Calls Try.prog 7 #[.int .i64 n] w fun e w' => e = .returned (.tuple #[.pointer none, .int .i64 70]) ∧ w = w') := (new_not n h w).mono fun e w' ⟨h1, h2⟩ => ⟨h1, h2.symm⟩
  have HR : Hid (Calls Try.prog 17 #[.int .i64 n] w fun e w' => e = .returned (.tuple #[.pointer none, .int .i64 70]) ∧ w = w') := rnew_not n h w
  clear h
  go_enter Try.func12, Try.ntmps12
  go_wp2_with (first
    | (go_at_call 7; refine HN.out.mono ?_; rintro e w2 ⟨rfl, rfl⟩)
    | (go_at_call 17; refine HR.out.mono ?_; rintro e w3 ⟨rfl, rfl⟩))
  go_ret3
  exact ⟨rfl, rfl⟩
end Go.Proofs.Ytjmgddaikcpinaa
