/- The walks of Book.grow and Book.Look. -/
import Derived.Test.YtgpmoakfbhcidaaBZ7
import Derived.BigQuiet
namespace Go.Proofs.Ytgpmoakfbhcidaa
open Go.RowKit
set_option maxRecDepth 100000

theorem BookIs.same {w : World} {B bk n lo hi : Nat} {A : Nat → Option Addr} {ln C M : Nat → Nat} {bv ov : Value} {at' turn done used : Nat} (h : BookIs w B bk n lo hi A ln C M bv ov at' turn done used) (c : Nat) (h3 : c % 3 = 2) (h5 : 5 ≤ c) (h35 : c ≤ 35) :
    BookIs (w.setCell ⟨bk, c, none⟩ (.int .i64 0)) B bk n lo hi A ln C M bv ov at' turn done used ∧ Mv (BF bk n A bv ov) (BF bk n A bv ov) w (w.setCell ⟨bk, c, none⟩ (.int .i64 0)) :=
  h.setNum c (.int .i64 0) (Nat.le_refl _) (fun i _ => by
    by_cases e : i = c
    · subst e
      rw [if_pos rfl]
      unfold bookCell
      rw [if_neg (by omega), if_neg (by omega), if_neg (by omega), if_neg (by omega), if_neg (by omega), if_neg (by omega), if_pos h3]
    · rw [if_neg e])
/-- What grow leaves. -/
structure Grown (w w' : World) (B bk n : Nat) (A : Nat → Option Addr) (ln C M : Nat → Nat) (bv ov : Value) (turn done used : Nat) (F : Nat → Prop) : Prop where
  is : BookIs w' B bk n n n A ln C M bv ov n turn done used
  mv : Mv F (BF bk n A bv ov) w w'
theorem Grown.step {w w' : World} {B bk n : Nat} {A : Nat → Option Addr} {ln C M : Nat → Nat} {bv ov : Value} {turn done used : Nat} {F : Nat → Prop} (h : Grown w w' B bk n A ln C M bv ov turn done used F) (c : Nat) (h3 : c % 3 = 2) (h5 : 5 ≤ c) (h35 : c ≤ 35) : Grown w (w'.setCell ⟨bk, c, none⟩ (.int .i64 0)) B bk n A ln C M bv ov turn done used F := by
  obtain ⟨a, b⟩ := h.is.same c h3 h5 h35
  exact ⟨a, h.mv.trans b⟩

set_option maxHeartbeats 3200000 in
set_option maxRecDepth 100000 in
theorem book_grow {w : World} {B bk n : Nat} {A : Nat → Option Addr} {ln C M : Nat → Nat} {bv ov : Value} {at' turn done used : Nat} (h : BookIs w B bk n at' n A ln C M bv ov at' turn done used) (hB : B ≤ w.heap.size) (ht : turn ≤ 1000000000) (hat : at' ≤ n) (hU : n * 120 + (n - at') * 1080 ≤ used) (hu : used ≤ 16777216)
    (hln : ∀ i, i < n → ln i ≤ 1099511627872) (hln2 : ∀ i, at' ≤ i → i < n → ln i ≤ 1099511627776) :
    Calls Try.prog 38 #[.pointer (some ⟨bk, 0, none⟩)] w fun e w' => e = .returned (.tuple #[]) ∧ ∃ n' A' ln' C' M' bv' ov', BookIs w' B bk n' n' n' A' ln' C' M' bv' ov' n' turn turn used ∧ n' * 120 ≤ used ∧ (∀ i, i < n' → ln' i ≤ 1099511627872) ∧ Mv (BF bk n A bv ov) (BF bk n' A' bv' ov') w w' := by
  have hg := book_growBytes h hB ht hat hU hu hln hln2
  generalize BF bk n A bv ov = F0 at *
  clear h hB hln hln2
  go_enter Try.func38, Try.ntmps38
  go_wp2_with fail
  refine hg.mono ?_
  rintro e w1 ⟨rfl, n', A', ln', C', M', bv', ov', h1, hU1, hl1, mv1, _⟩
  have g1 : Grown w w1 B bk n' A' ln' C' M' bv' ov' turn done used F0 := ⟨h1, mv1⟩
  clear hg h1 mv1
  have q0 := book_growRows bk _ _ g1.is.row rfl rfl
  have g2 := g1.step 5 (by decide) (by decide) (by decide)
  generalize hw2 : World.setCell _ ⟨bk, 5, none⟩ (.int .i64 0) = w2 at q0 g2
  go_wp2_with fail
  refine q0.mono ?_
  rintro e w2' ⟨rfl, rfl⟩
  clear q0 hw2 g1
  have q1 := book_growTexts bk _ _ g2.is.row rfl rfl
  have g3 := g2.step 8 (by decide) (by decide) (by decide)
  generalize hw3 : World.setCell _ ⟨bk, 8, none⟩ (.int .i64 0) = w3 at q1 g3
  go_wp2_with fail
  refine q1.mono ?_
  rintro e w3' ⟨rfl, rfl⟩
  clear q1 hw3 g2
  have q2 := book_growInts bk _ _ g3.is.row rfl rfl
  have g4 := g3.step 11 (by decide) (by decide) (by decide)
  generalize hw4 : World.setCell _ ⟨bk, 11, none⟩ (.int .i64 0) = w4 at q2 g4
  go_wp2_with fail
  refine q2.mono ?_
  rintro e w4' ⟨rfl, rfl⟩
  clear q2 hw4 g3
  have q3 := book_growWords bk _ _ g4.is.row rfl rfl
  have g5 := g4.step 14 (by decide) (by decide) (by decide)
  generalize hw5 : World.setCell _ ⟨bk, 14, none⟩ (.int .i64 0) = w5 at q3 g5
  go_wp2_with fail
  refine q3.mono ?_
  rintro e w5' ⟨rfl, rfl⟩
  clear q3 hw5 g4
  have q4 := book_growDones bk _ _ g5.is.row rfl rfl
  have g6 := g5.step 17 (by decide) (by decide) (by decide)
  generalize hw6 : World.setCell _ ⟨bk, 17, none⟩ (.int .i64 0) = w6 at q4 g6
  go_wp2_with fail
  refine q4.mono ?_
  rintro e w6' ⟨rfl, rfl⟩
  clear q4 hw6 g5
  have q5 := book_growAccts bk _ _ g6.is.row rfl rfl
  have g7 := g6.step 20 (by decide) (by decide) (by decide)
  generalize hw7 : World.setCell _ ⟨bk, 20, none⟩ (.int .i64 0) = w7 at q5 g7
  go_wp2_with fail
  refine q5.mono ?_
  rintro e w7' ⟨rfl, rfl⟩
  clear q5 hw7 g6
  have q6 := book_growQueue bk _ _ g7.is.row rfl rfl
  have g8 := g7.step 23 (by decide) (by decide) (by decide)
  generalize hw8 : World.setCell _ ⟨bk, 23, none⟩ (.int .i64 0) = w8 at q6 g8
  go_wp2_with fail
  refine q6.mono ?_
  rintro e w8' ⟨rfl, rfl⟩
  clear q6 hw8 g7
  have q7 := book_growSlots bk _ _ g8.is.row rfl rfl
  have g9 := g8.step 26 (by decide) (by decide) (by decide)
  generalize hw9 : World.setCell _ ⟨bk, 26, none⟩ (.int .i64 0) = w9 at q7 g9
  go_wp2_with fail
  refine q7.mono ?_
  rintro e w9' ⟨rfl, rfl⟩
  clear q7 hw9 g8
  have q8 := book_growMsgs bk _ _ g9.is.row rfl rfl
  have g10 := g9.step 29 (by decide) (by decide) (by decide)
  generalize hw10 : World.setCell _ ⟨bk, 29, none⟩ (.int .i64 0) = w10 at q8 g10
  go_wp2_with fail
  refine q8.mono ?_
  rintro e w10' ⟨rfl, rfl⟩
  clear q8 hw10 g9
  have q9 := book_growFlights bk _ _ g10.is.row rfl rfl
  have g11 := g10.step 32 (by decide) (by decide) (by decide)
  generalize hw11 : World.setCell _ ⟨bk, 32, none⟩ (.int .i64 0) = w11 at q9 g11
  go_wp2_with fail
  refine q9.mono ?_
  rintro e w11' ⟨rfl, rfl⟩
  clear q9 hw11 g10
  have q10 := book_growFiles bk _ _ g11.is.row rfl rfl
  have g12 := g11.step 35 (by decide) (by decide) (by decide)
  generalize hw12 : World.setCell _ ⟨bk, 35, none⟩ (.int .i64 0) = w12 at q10 g12
  go_wp2_with fail
  refine q10.mono ?_
  rintro e w12' ⟨rfl, rfl⟩
  clear q10 hw12 g11
  have d36 := g12.is.row.cell (i := 36) (by decide)
  have d37 := g12.is.row.cell (i := 37) (by decide)
  have f37 := g12.is.row.frozen 37
  obtain ⟨h3, mv3⟩ := g12.is.setNum (at2 := n') (turn2 := turn) (done2 := turn) (used2 := used) 37 (.int .i64 (turn : Nat)) (Nat.le_refl _) (fun i hi => by
    unfold bookCell
    by_cases e : i = 37
    · subst e; rfl
    · rw [if_neg e, if_neg e, if_neg e])
  have mvf := g12.mv.trans mv3
  clear g12
  have e36 : bookCell bv' ov' n' turn done used 36 = .int .i64 (turn : Nat) := rfl
  have e37 : bookCell bv' ov' n' turn done used 37 = .int .i64 (done : Nat) := rfl
  rw [e36] at d36
  rw [e37] at d37
  clear e36 e37
  go_wp2_with fail
  go_end0
  exact ⟨rfl, n', A', ln', C', M', bv', ov', h3, hU1, hl1, mvf⟩

/-- A Book as it is between two calls. -/
structure BookOk (w : World) (B bk n : Nat) (A : Nat → Option Addr) (ln C M : Nat → Nat) (bv ov : Value) (at' turn done used : Nat) : Prop where
  is : BookIs w B bk n at' n A ln C M bv ov at' turn done used
  hat : at' ≤ n
  hU : n * 120 + (n - at') * 1080 ≤ used
  hu : used ≤ 16777216
  hl : ∀ i, i < n → ln i ≤ 1099511627872
  hl2 : ∀ i, at' ≤ i → i < n → ln i ≤ 1099511627776

set_option maxHeartbeats 3200000 in
set_option maxRecDepth 100000 in
theorem book_look {w : World} {B bk n : Nat} {A : Nat → Option Addr} {ln C M : Nat → Nat} {bv ov : Value} {at' turn done used : Nat} (h : BookOk w B bk n A ln C M bv ov at' turn done used) (hB : B ≤ w.heap.size) (ht : turn ≤ 1000000000) :
    Calls Try.prog 8 #[.pointer (some ⟨bk, 0, none⟩)] w fun e w' => e = .returned (.bool true) ∧ ∃ n' A' ln' C' M' bv' ov' at2 done2, BookOk w' B bk n' A' ln' C' M' bv' ov' at2 turn done2 used ∧ Mv (BF bk n A bv ov) (BF bk n' A' bv' ov') w w' := by
  have hnb : n ≤ 1000000 := by have := h.hU; have := h.hu; omega
  have hh := book_holds h.is ht hnb (fun i hi => by have := h.hl i hi; omega)
  have hd : ∀ m, w.Since w.heap.size (w.drewN m) := fun m => since_drewN' (World.Since.refl _ _) m
  have d36 : ∀ m, (w.drewN m).cell? ⟨bk, 36, none⟩ = some (.int .i64 (turn : Nat)) := fun m => h.is.row.cell (i := 36) (by decide)
  have d37 : ∀ m, (w.drewN m).cell? ⟨bk, 37, none⟩ = some (.int .i64 (done : Nat)) := fun m => h.is.row.cell (i := 37) (by decide)
  have hok : ∀ m, BookOk (w.drewN m) B bk n A ln C M bv ov at' turn done used := fun m => ⟨h.is.since (hd m), h.hat, h.hU, h.hu, h.hl, h.hl2⟩
  have hgr : ∀ m, _ := fun m => book_grow (hok m).is hB ht h.hat h.hU h.hu h.hl h.hl2
  have hmv : ∀ m, Mv (BF bk n A bv ov) (BF bk n A bv ov) w (w.drewN m) := fun m => Mv.of_since (hd m)
  have hu := h.hu
  clear h
  go_enter Try.func8, Try.ntmps8
  go_wp2_with fail
  refine hh.mono ?_
  rintro e w1 ⟨rfl, m, rfl⟩
  have c36 := d36 m
  have c37 := d37 m
  by_cases hdt : done = turn
  · subst hdt
    have HD : Hid (∀ n, (w.drewN m).drewN n = w.drewN (m + n)) := fun n => World.drewN_drewN _ _ _
    generalize w.drewN m = wd at *
    clear hh hgr
    go_wp2_with fail
    go_quiet (fail)
    go_wp2_with fail
    go_ret
    refine ⟨rfl, n, A, ln, C, M, bv, ov, at', done, ?_, ?_⟩
    · rw [unhide HD]; exact hok _
    · rw [unhide HD]; exact hmv _
  · have hdb : ((done : Int) == (turn : Int)) = false := by
      have : ¬ ((done : Int) = (turn : Int)) := by omega
      simpa using this
    have HG := hide hgr
    have HV := hide hmv
    have HD : Hid (∀ n, (w.drewN m).drewN n = w.drewN (m + n)) := fun n => World.drewN_drewN _ _ _
    clear hh hgr hmv hok d36 d37 hd
    generalize w.drewN m = wd at *
    go_wp2_with fail
    go_quiet (fail)
    go_wp2_with fail
    rw [unhide HD]
    refine ((unhide HG) _).mono ?_
    rintro e w2 ⟨rfl, n', A', ln', C', M', bv', ov', h2, hU2, hl2, mv2⟩
    have hh2 := book_holds h2 ht (by omega) (fun i hi => by have := hl2 i hi; omega)
    have mvf := ((unhide HV) _).trans mv2
    clear HG HV HD mv2
    go_wp2_with fail
    refine hh2.mono ?_
    rintro e w3 ⟨rfl, m3, rfl⟩
    clear hh2
    go_wp2_with fail
    go_ret
    refine ⟨rfl, n', A', ln', C', M', bv', ov', n', turn, ⟨h2.since (since_drewN' (World.Since.refl _ _) m3), Nat.le_refl _, by omega, hu, hl2, fun i h1 h2 => by omega⟩, mvf.trans (Mv.of_since (since_drewN' (World.Since.refl _ _) m3))⟩
end Go.Proofs.Ytgpmoakfbhcidaa
