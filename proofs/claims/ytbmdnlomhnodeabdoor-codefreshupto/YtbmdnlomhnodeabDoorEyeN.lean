/- The document's Reader over no bytes at all (a nil list), and over whatever list. -/
import Derived.Test.YtbmdnlomhnodeabDoorEyeG2
namespace Go.Proofs.YtbmdnlomhnodeabDoor
open Go.RowKit
set_option maxRecDepth 100000

/-- A call of a Go function by its contract, as one step of a region that draws. -/
theorem step_call_eq {P : Program} {ops : Array Oper} {o : Oper} {a : Act} {w : World} {K : Act → World → Prop} {Q : Exit → Act → World → Prop} {E : Prop} (hgd : o.guard = none) (f : FuncId) (args : Array Value) (hrun : (execOp a.eval o).run P w = .ok (.enter f args) w) {Post : Ending → World → Prop} (hc : Calls P f args w Post)
    (h : ∀ e w', Post e w' → ∃ v, e = .returned v ∧ K (a.put o.dst v) w') : if Region.wanted o (yielded ops a.tmps) = true then Oper.wp P o a w K Q else E := by
  have hw : Region.wanted o (yielded ops a.tmps) = true := by simp [Region.wanted, hgd]
  rw [if_pos hw]
  unfold Oper.wp
  rw [hrun, Oper.upon_enter]
  refine hc.mono fun e w'' hh => ?_
  obtain ⟨v, rfl, hk⟩ := h e w'' hh
  exact hk
def nCell (ea : Option Addr) (bad : Nat) (i : Nat) : Value := if i = 0 then .slice ea 0 0 else if i = 1 then .int .i64 0 else .int .i64 (bad : Nat)
def IsN (w : World) (eb : Nat) (ea : Option Addr) (bad : Nat) : Prop := w.rowIs eb 51 3 (nCell ea bad)
theorem IsN.setBad {w : World} {eb : Nat} {ea : Option Addr} {bad : Nat} (h : IsN w eb ea bad) (q : Nat) : IsN (w.setCell ⟨eb, 2, none⟩ (.int .i64 q)) eb ea q :=
  (World.rowIs.set h 2 _).congr (fun i hi => by
      match i, hi with
      | 0, _ => rfl
      | 1, _ => rfl
      | 2, _ => rfl)
theorem IsN.setAt {w : World} {eb : Nat} {ea : Option Addr} {bad : Nat} (h : IsN w eb ea bad) : IsN (w.setCell ⟨eb, 1, none⟩ (.int .i64 0)) eb ea bad :=
  (World.rowIs.set h 1 _).congr (fun i hi => by
      match i, hi with
      | 0, _ => rfl
      | 1, _ => rfl
      | 2, _ => rfl)
theorem IsN.c0 {w : World} {eb : Nat} {ea : Option Addr} {bad : Nat} (h : IsN w eb ea bad) : w.cell? ⟨eb, 0, none⟩ = some (.slice ea 0 0) := World.rowIs.cell h (i := 0) (by decide)
theorem IsN.c1 {w : World} {eb : Nat} {ea : Option Addr} {bad : Nat} (h : IsN w eb ea bad) : w.cell? ⟨eb, 1, none⟩ = some (.int .i64 0) := World.rowIs.cell h (i := 1) (by decide)
theorem IsN.c2 {w : World} {eb : Nat} {ea : Option Addr} {bad : Nat} (h : IsN w eb ea bad) : w.cell? ⟨eb, 2, none⟩ = some (.int .i64 bad) := World.rowIs.cell h (i := 2) (by decide)
theorem rowN0 {w w' : World} {eb : Nat} {ea : Option Addr} {bad : Nat} (h : IsN w eb ea bad) (hs : w.Since w.heap.size w') : IsN w' eb ea bad := row_since h hs
theorem nLeft (eb : Nat) (ea : Option Addr) (bad : Nat) (w : World) (h : IsN w eb ea bad) : Calls Tryd.prog 57 #[.pointer (some ⟨eb, 0, none⟩)] w fun e w' => e = .returned (.int .i64 0) ∧ ∃ m, w' = w.drewN m := by
  have c1 := h.c1
  have c0 := h.c0
  go_enter Tryd.func57, Tryd.ntmps57
  go_wp2_with fail
  go_quiet (fail)
  go_wp2
  go_ret
  exact ⟨rfl, nq, rfl⟩
theorem nLast (eb : Nat) (ea : Option Addr) (bad : Nat) (w : World) (h : IsN w eb ea bad) : Calls Tryd.prog 69 #[.pointer (some ⟨eb, 0, none⟩)] w fun e w' => e = .returned (.int .i64 (-1)) ∧ ∃ m, w' = w.drewN m := by
  have c1 := h.c1
  have c0 := h.c0
  go_enter Tryd.func69, Tryd.ntmps69
  go_wp2_with fail
  go_loopg [3] 0 (fun q s3 wx => q = 0 ∧ s3 = .int .i64 0 ∧ w = wx)
  case atStart => exact ⟨rfl, rfl, rfl⟩
  case round =>
    obtain ⟨rfl, rfl, rfl⟩ := hrel
    go_wp2_with fail
    go_quiet (fail)
    go_wp2_with fail
    go_ret
    exact ⟨rfl, nq, rfl⟩
set_option maxHeartbeats 1600000 in
set_option maxRecDepth 100000 in
theorem nRaw (eb : Nat) (ea : Option Addr) (bad : Nat) (k : Int) (w : World) (h : IsN w eb ea bad) (hm : k ≤ 9223372036854775807) (hk : 0 ≤ k) :
    Calls Tryd.prog 40 #[.pointer (some ⟨eb, 0, none⟩), .int .i64 k] w fun e w' => (∃ ta, e = .returned (.slice ta 0 0) ∧ Txt w.heap.size w' ta 0 (fun _ => 0)) ∧ But eb w w' ∧ IsN w' eb ea (if bad = 0 ∧ 0 < k then 10 else bad) := by
  have c2 := h.c2
  by_cases hbad : bad = 0
  · subst hbad
    have hlf := nLeft eb ea 0 w h
    have hk0 : ¬ (k < 0) := by omega
    by_cases hp : 0 < k
    · rw [if_pos ⟨rfl, hp⟩]
      go_enter Tryd.func40, Tryd.ntmps40
      go_wp2_with fail
      refine hlf.mono ?_
      rintro e w1 ⟨rfl, m1, rfl⟩
      have hs1 := since_drewN' (World.Since.refl w.heap.size w) m1
      have h1 : IsN (w.drewN m1) eb ea 0 := row_since h hs1
      have f2 := World.rowIs.frozen h1 2
      have c3 := h1.c2
      have hI := h1.setBad 10
      have hB : But eb w ((w.drewN m1).setCell ⟨eb, 2, none⟩ (.int .i64 10)) := (But.of_since hs1).setCell 2 _
      generalize w.drewN m1 = w1 at *
      clear hlf
      go_wp2_with fail
      go_ret
      exact ⟨⟨none, rfl, txt_none _ _ _ _ rfl⟩, hB, hI⟩
    · obtain rfl : k = 0 := by omega
      rw [if_neg (by omega)]
      go_enter Tryd.func40, Tryd.ntmps40
      go_wp2_with fail
      refine hlf.mono ?_
      rintro e w1 ⟨rfl, m1, rfl⟩
      have hs1 := since_drewN' (World.Since.refl w.heap.size w) m1
      have h1 : IsN (w.drewN m1) eb ea 0 := row_since h hs1
      have d0 := h1.c0
      have d1 := h1.c1
      have hcp : ∀ W, (w.drewN m1).Since (w.drewN m1).heap.size W → Calls Tryd.prog 24 #[.slice ea 0 0] W fun e w' => ∃ g, e = .returned (.slice (some ⟨g, 0, none⟩) 0 0) ∧ w.heap.size ≤ g ∧ (w.drewN m1).Since (w.drewN m1).heap.size w' ∧ w'.rowIs g 5 0 (fun _ => .int .u8 ((0 : Nat) : Int)) := fun W hs => (copy_any ea 0 0 (fun _ => 0) W (by decide) (fun j hj => absurd hj (Nat.not_lt_zero _))).mono fun e w' ⟨h1, h2, _, h4⟩ => ⟨_, h1, by have := hs.size; exact this, hs.trans (since_mono h2 hs.size), h4⟩
      have hlt := World.rowIs.lt h
      have HC := hide hcp
      clear hlf hcp c2
      generalize hw1 : w.drewN m1 = w1 at *
      clear hw1
      have hw0 : IntKind.i64.wrap 0 = 0 := by rw [IntKind.wrap_i64]; decide
      cases ea
      all_goals
       go_upto_region 9 with fail
       go_region_law (refine step_call_eq (by rfl) 24 _ ?_ ((unhide HC) _ (World.Since.refl _ _).drew) ?_; kernel_rfl; rintro e w2 ⟨g, rfl, hg, hs2, hr2⟩; refine ⟨_, rfl, ?_⟩)
       all_goals
         have h2 := rowN0 h1 hs2
         have t1 := h2.c1
         have tf := World.rowIs.frozen h2 1
         have hI := h2.setAt
         have hsw := hs1.trans (since_mono hs2 hs1.size)
         have hB : But eb w (w2.setCell ⟨eb, 1, none⟩ (.int .i64 0)) := (But.of_since hsw).setCell 1 _
         have hge : g ≠ eb := fun e => by subst e; omega
         have hT : Txt w.heap.size (w2.setCell ⟨eb, 1, none⟩ (.int .i64 0)) (some ⟨g, 0, none⟩) 0 (fun _ => 0) := Or.inr ⟨g, rfl, hg, hr2.setOther (by show g ≠ eb; exact hge) _⟩
         clear HC d0 d1
         go_wp2_with fail
         go_ret
         exact ⟨⟨_, rfl, hT⟩, hB, hI⟩
  · rw [if_neg (fun e => hbad e.1)]
    have hq : ((bad : Int) != 0) = true := by simp; omega
    go_enter Tryd.func40, Tryd.ntmps40
    go_wp2_with fail
    go_ret
    exact ⟨⟨none, rfl, txt_none _ _ _ _ rfl⟩, But.of_since (World.Since.refl _ _), h⟩
set_option maxHeartbeats 1600000 in
set_option maxRecDepth 100000 in
theorem nVar (eb : Nat) (ea : Option Addr) (bad : Nat) (most : Int) (w : World) (h : IsN w eb ea bad) :
    Calls Tryd.prog 56 #[.pointer (some ⟨eb, 0, none⟩), .int .u64 most] w fun e w' => e = .returned (.int .u64 0) ∧ But eb w w' ∧ IsN w' eb ea (if bad = 0 then 10 else bad) := by
  have c2 := h.c2
  by_cases hbad : bad = 0
  · subst hbad
    rw [if_pos rfl]
    have hla := nLast eb ea 0 w h
    go_enter Tryd.func56, Tryd.ntmps56
    go_wp2_with fail
    refine hla.mono ?_
    rintro e w1 ⟨rfl, m1, rfl⟩
    have hs1 := since_drewN' (World.Since.refl w.heap.size w) m1
    have h1 : IsN (w.drewN m1) eb ea 0 := row_since h hs1
    have f2 := World.rowIs.frozen h1 2
    have c3 := h1.c2
    have hI := h1.setBad 11
    have hB : But eb w ((w.drewN m1).setCell ⟨eb, 2, none⟩ (.int .i64 11)) := (But.of_since hs1).setCell 2 _
    have hlf := nLeft eb ea 11 _ hI
    generalize w.drewN m1 = w1 at *
    clear hla
    go_wp2_with fail
    refine hlf.mono ?_
    rintro e w2 ⟨rfl, m2, rfl⟩
    have hs2 := since_drewN' (World.Since.refl (w1.setCell ⟨eb, 2, none⟩ (.int .i64 11)).heap.size (w1.setCell ⟨eb, 2, none⟩ (.int .i64 11))) m2
    have h2 := rowN0 hI hs2
    have f3 := World.rowIs.frozen h2 2
    have c4 := h2.c2
    have hJ := h2.setBad 10
    have hB2 : But eb w (((w1.setCell ⟨eb, 2, none⟩ (.int .i64 11)).drewN m2).setCell ⟨eb, 2, none⟩ (.int .i64 10)) := (hB.trans (But.of_since hs2)).setCell 2 _
    generalize (w1.setCell ⟨eb, 2, none⟩ (.int .i64 11)).drewN m2 = w3 at *
    clear hlf
    go_wp2_with fail
    go_ret
    exact ⟨rfl, hB2, hJ⟩
  · rw [if_neg hbad]
    have hq : ((bad : Int) != 0) = true := by simp; omega
    go_enter Tryd.func56, Tryd.ntmps56
    go_wp2_with fail
    go_ret
    exact ⟨rfl, But.of_since (World.Since.refl _ _), h⟩
set_option maxHeartbeats 1600000 in
set_option maxRecDepth 100000 in
theorem nText (eb : Nat) (ea : Option Addr) (bad : Nat) (most : Int) (w : World) (h : IsN w eb ea bad) :
    Calls Tryd.prog 39 #[.pointer (some ⟨eb, 0, none⟩), .int .i64 most] w fun e w' => e = .returned (.slice none 0 0) ∧ But eb w w' ∧ IsN w' eb ea (if bad = 0 then 10 else bad) := by
  have c1 := h.c1
  have hv : ∀ X, _ := fun X => nVar eb ea bad X w h
  obtain ⟨b2, hb2, hb0⟩ : ∃ b2, (if bad = 0 then 10 else bad) = b2 ∧ b2 ≠ 0 := ⟨_, rfl, by split <;> omega⟩
  rw [hb2] at hv ⊢
  clear hb2
  have hq : ((b2 : Int) != 0) = true := by simp; omega
  by_cases hm : most < 0
  all_goals
    go_enter Tryd.func39, Tryd.ntmps39
    go_wp2_with fail
    refine (hv _).mono ?_
    rintro e w1 ⟨rfl, hB1, h1⟩
    have hr := nRaw eb ea b2 0 w1 h1 (by decide) (by decide)
    rw [if_neg (fun e => hb0 e.1)] at hr
    clear hv
    go_wp2_with fail
    refine hr.mono ?_
    rintro e w2 ⟨⟨ta, rfl, _⟩, hB2, h2⟩
    have d2 := h2.c2
    have d1 := h2.c1
    have f1 := World.rowIs.frozen h2 1
    have hI := h2.setAt
    have hB := (hB1.trans hB2).setCell 1 (.int .i64 0)
    clear hr
    go_wp2_with fail
    go_ret
    exact ⟨rfl, hB, hI⟩
/-- The document's Reader over whatever list. -/
def EY (w : World) (eb : Nat) (ea : Option Addr) (hc n : Nat) (z : Nat → Nat) (at' bad : Nat) : Prop := (∃ hb ho, ea = some ⟨hb, ho, none⟩ ∧ IsG w eb hb ho hc n z at' bad) ∨ (n = 0 ∧ hc = 0 ∧ at' = 0 ∧ IsN w eb ea bad)
theorem EY.lt {w : World} {eb : Nat} {ea : Option Addr} {hc n : Nat} {z : Nat → Nat} {at' bad : Nat} (h : EY w eb ea hc n z at' bad) : eb < w.heap.size ∧ (0 < n → ∀ ad, ea = some ad → ad.block < w.heap.size) := by
  rcases h with ⟨hb, ho, rfl, h⟩ | ⟨rfl, _, _, h⟩
  · exact ⟨h.rd.lt, fun hp ad e => by cases e; exact h.hlt hp⟩
  · exact ⟨World.rowIs.lt h, fun hp => absurd hp (Nat.lt_irrefl _)⟩
theorem EY.later {w w' : World} {eb : Nat} {ea : Option Addr} {hc n : Nat} {z : Nat → Nat} {at' bad : Nat} (h : EY w eb ea hc n z at' bad) (h1 : w'.heap[eb]? = w.heap[eb]?) (h2 : 0 < n → ∀ ad, ea = some ad → w'.heap[ad.block]? = w.heap[ad.block]?) : EY w' eb ea hc n z at' bad := by
  rcases h with ⟨hb, ho, rfl, h⟩ | ⟨rfl, a, b, h⟩
  · exact Or.inl ⟨hb, ho, rfl, h.later h1 (fun hp => h2 hp _ rfl)⟩
  · exact Or.inr ⟨rfl, a, b, World.rowIs.of_block h h1⟩
theorem yText (eb : Nat) (ea : Option Addr) (hc n at' bad : Nat) (most : Int) (z : Nat → Nat) (w : World) (h : EY w eb ea hc n z at' bad) (hm : most ≤ 9223372036854775807) (hn : n ≤ 140737488351232) :
    Calls Tryd.prog 39 #[.pointer (some ⟨eb, 0, none⟩), .int .i64 most] w fun e w' => (∃ ta, e = .returned (.slice ta (bytesAns z n most.toNat at' bad).1 (bytesAns z n most.toNat at' bad).1) ∧ Txt w.heap.size w' ta (bytesAns z n most.toNat at' bad).1 (fun j => z ((bytesAns z n most.toNat at' bad).2.1 + j))) ∧ But eb w w' ∧ EY w' eb ea hc n z (bytesAns z n most.toNat at' bad).2.2.1 (bytesAns z n most.toNat at' bad).2.2.2 := by
  rcases h with ⟨hb, ho, rfl, h⟩ | ⟨rfl, rfl, rfl, h⟩
  · exact (gText eb hb ho hc n at' bad most z w h hm hn).mono (fun e w' ⟨h1, h2, h3⟩ => ⟨h1, h2, Or.inl ⟨hb, ho, rfl, h3⟩⟩)
  · have hA : bytesAns z 0 most.toNat 0 bad = (0, 0, 0, if bad = 0 then 10 else bad) := by
      unfold bytesAns
      by_cases hb : bad = 0
      · subst hb; simp [blook, vlook, vres]
      · simp [hb]
    rw [hA]
    exact (nText eb ea bad most w h).mono (fun e w' ⟨h1, h2, h3⟩ => ⟨⟨none, h1, Or.inl ⟨rfl, rfl⟩⟩, h2, Or.inr ⟨rfl, rfl, rfl, h3⟩⟩)
theorem yRaw (eb : Nat) (ea : Option Addr) (hc n at' bad : Nat) (k : Nat) (z : Nat → Nat) (w : World) (h : EY w eb ea hc n z at' bad) (hm : k ≤ 1000) :
    Calls Tryd.prog 40 #[.pointer (some ⟨eb, 0, none⟩), .int .i64 (k : Int)] w fun e w' => (∃ ta, e = .returned (.slice ta (rawAns n k at' bad).1 (rawAns n k at' bad).1) ∧ Txt w.heap.size w' ta (rawAns n k at' bad).1 (fun j => z ((rawAns n k at' bad).2.1 + j))) ∧ But eb w w' ∧ EY w' eb ea hc n z (rawAns n k at' bad).2.2.1 (rawAns n k at' bad).2.2.2 := by
  rcases h with ⟨hb, ho, rfl, h⟩ | ⟨rfl, rfl, rfl, h⟩
  · exact (gRaw eb hb ho hc n at' bad k z w h (by omega)).mono (fun e w' ⟨h1, h2, h3⟩ => ⟨h1, h2, Or.inl ⟨hb, ho, rfl, h3⟩⟩)
  · have hA : rawAns 0 (k : Int) 0 bad = (0, 0, 0, if bad = 0 ∧ 0 < (k : Int) then 10 else bad) := by
      unfold rawAns rlook
      by_cases hb : bad = 0
      · subst hb
        by_cases hk : 0 < k
        · simp [hk]
        · obtain rfl : k = 0 := by omega
          simp
      · simp [hb]
    rw [hA]
    exact (nRaw eb ea bad k w h (by omega) (by omega)).mono (fun e w' ⟨⟨ta, h1, ht⟩, h2, h3⟩ => ⟨⟨ta, h1, by
      rcases ht with q | ⟨t, q1, q2, q3⟩
      · exact Or.inl q
      · exact Or.inr ⟨t, q1, q2, q3.congr (fun j hj => absurd hj (Nat.not_lt_zero _))⟩⟩, h2, Or.inr ⟨rfl, rfl, rfl, h3⟩⟩)
end Go.Proofs.YtbmdnlomhnodeabDoor
