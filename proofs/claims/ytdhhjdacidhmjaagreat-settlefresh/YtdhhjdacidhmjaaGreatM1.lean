/- Own texts, joined: PC1, PC2, PC3, FamB, CL, Kit, Lend, MgB. -/
import Derived.Test.YtdhhjdacidhmjaaGreatRows
import Derived.WalkKit
import Derived.Laws.BitsAllLaws
import Derived.Deep.LoopGhost
import Derived.Deep.OwnRows
import Derived.Deep.Cut
import Derived.Deep.Light
import Derived.Deep.CutRange
import Derived.CellFam
import Derived.BigGuard
import Derived.BigQuiet
import Derived.BigRegion
import Derived.Deep.RegionWith
import Derived.Deep.QuietTactic
import Derived.Deep.RegionLaw
import Derived.Deep.RegionHeld3
import Derived.Laws.EntriesVeiled
import Derived.Laws.ByValue
import Derived.Laws.ResultCell
import Derived.Laws.NewBlocks
import Derived.Laws.Rows
import Derived.Below
import Derived.Test.YtdhhjdacidhmjaaGreatProg
import Derived.OwnWalk
import Derived.Deep.Onto
import Derived.Deep.DeepAppendWide
import Derived.Deep.MidRow
import Derived.Maps.AppendAt
import Derived.Lib.SlBytesConst
import Derived.Laws.IdiomCopy
import Derived.Deep.AppendLies
import Derived.Laws.AppendOwnNone
import Derived.Laws.BytesArg
import Derived.Lib.ConvBytes
import Derived.Lib.Bytes

/- Package pace: a pace in memory, its calls. -/
namespace Go.Proofs.YtdhhjdacidhmjaaGreat
open Go.RowKit
set_option maxRecDepth 100000
set_option maxRecDepth 100000

/-- What a step leaves: nothing outside F has turned. -/
structure Mv (F : Nat → Prop) (w w' : World) : Prop where
  os : w'.os = w.os
  tape : w'.tape = w.tape
  output : w'.output = w.output
  size : w.heap.size ≤ w'.heap.size
  block : ∀ k, k < w.heap.size → ¬ F k → w'.heap[k]? = w.heap[k]?
theorem Mv.trans {F : Nat → Prop} {a b c : World} (h : Mv F a b) (k : Mv F b c) : Mv F a c :=
  ⟨k.os.trans h.os, k.tape.trans h.tape, k.output.trans h.output, Nat.le_trans h.size k.size, fun q hq hn => (k.block q (Nat.lt_of_lt_of_le hq h.size) hn).trans (h.block q hq hn)⟩
theorem Mv.refl (F : Nat → Prop) (w : World) : Mv F w w := ⟨rfl, rfl, rfl, Nat.le_refl _, fun _ _ _ => rfl⟩
theorem Mv.of_below {F : Nat → Prop} {w w' : World} (h : Below w.heap.size w w') : Mv F w w' := ⟨h.os, h.tape, h.output, h.size, fun k hk _ => h.block k hk⟩
theorem Mv.below {F : Nat → Prop} {w0 w w' : World} {B : Nat} (h0 : Below B w0 w) (hB : B ≤ w.heap.size) (hF : ∀ k, F k → B ≤ k) (h : Mv F w w') : Below B w0 w' :=
  h0.trans ⟨h.os, h.tape, h.output, h.size, fun k hk => h.block k (Nat.lt_of_lt_of_le hk hB) (fun hf => by have := hF k hf; omega)⟩
theorem Mv.mono {F G : Nat → Prop} {w w' : World} (h : Mv F w w') (hG : ∀ k, F k → G k) : Mv G w w' := ⟨h.os, h.tape, h.output, h.size, fun k hk hn => h.block k hk (fun hf => hn (hG k hf))⟩
theorem Mv.drewN {F : Nat → Prop} {w w' : World} (h : Mv F w w') (q : Nat) : Mv F (w.drewN q) w' := ⟨h.os, h.tape, h.output, h.size, h.block⟩

/-- The cells of a pace: left, gap, and the doubling up to a cap. -/
def pcCell (l g m : Nat) (i : Nat) : Value := if i = 0 then .int .i64 (l : Nat) else if i = 1 then .int .i64 (g : Nat) else .func (.func 70) #[.int .i64 (m : Nat)] #[]
structure PcIs (w : World) (b l g m : Nat) : Prop where
  row : w.rowIs b 139 3 (pcCell l g m)
  hm : m ≤ 64
  h1 : 1 ≤ g
  hg : g ≤ m
  hl : l ≤ m
theorem PcIs.later {w w' : World} {b l g m : Nat} (h : PcIs w b l g m) (hb : w'.heap[b]? = w.heap[b]?) : PcIs w' b l g m := ⟨h.row.of_block hb, h.hm, h.h1, h.hg, h.hl⟩
theorem PcIs.on {w w' : World} {b l g m : Nat} (h : PcIs w b l g m) (hb : Below w.heap.size w w') : PcIs w' b l g m := h.later (hb.block b h.row.lt)
theorem PcIs.c0 {w : World} {b l g m : Nat} (h : PcIs w b l g m) : w.cell? ⟨b, 0, none⟩ = some (.int .i64 (l : Nat)) := h.row.cell (i := 0) (by decide)
theorem PcIs.c1 {w : World} {b l g m : Nat} (h : PcIs w b l g m) : w.cell? ⟨b, 1, none⟩ = some (.int .i64 (g : Nat)) := h.row.cell (i := 1) (by decide)
theorem PcIs.c2 {w : World} {b l g m : Nat} (h : PcIs w b l g m) : w.cell? ⟨b, 2, none⟩ = some (.func (.func 70) #[.int .i64 (m : Nat)] #[]) := h.row.cell (i := 2) (by decide)

/-- One cell of a row is written. -/
theorem set_mv {w : World} {b t n i : Nat} {f : Nat → Value} (_ : w.rowIs b t n f) (v : Value) : Mv (fun k => k = b) w (w.setCell ⟨b, i, none⟩ v) :=
  ⟨rfl, rfl, rfl, by simp [World.setCell], fun k _ hn => Below.heap_setCell _ _ _ _ hn⟩

theorem PcIs.reset {w : World} {b l g m : Nat} (h : w.rowIs b 139 3 (pcCell l g m)) (hm : m ≤ 64) (h1 : 1 ≤ m) : PcIs ((w.setCell ⟨b, 0, none⟩ (.int .i64 0)).setCell ⟨b, 1, none⟩ (.int .i64 1)) b 0 1 m ∧ Mv (fun k => k = b) w ((w.setCell ⟨b, 0, none⟩ (.int .i64 0)).setCell ⟨b, 1, none⟩ (.int .i64 1)) := by
  have r1 := h.set 0 (.int .i64 0)
  refine ⟨⟨?_, hm, Nat.le_refl _, h1, Nat.zero_le _⟩, (set_mv h _).trans (set_mv r1 _)⟩
  refine (r1.set 1 (.int .i64 1)).congr (fun i hi => ?_)
  match i, hi with
  | 0, _ => rfl
  | 1, _ => rfl
  | 2, _ => rfl
theorem reset_row {w : World} {b l g m : Nat} (h : w.rowIs b 139 3 (pcCell l g m)) (hm : m ≤ 64) (h1 : 1 ≤ m) : Calls Tryz.prog 42 #[.pointer (some ⟨b, 0, none⟩)] w fun e w' => e = .returned (.tuple #[]) ∧ PcIs w' b 0 1 m ∧ Mv (fun k => k = b) w w' := by
  have H := PcIs.reset h hm h1
  have c0 : w.cell? ⟨b, 0, none⟩ = some (.int .i64 (l : Nat)) := h.cell (i := 0) (by decide)
  have f0 : w.frozen? ⟨b, 0, none⟩ = false := h.frozen 0
  have r1 := h.set 0 (.int .i64 0)
  obtain ⟨W1, HW1⟩ : ∃ W, Hid (w.setCell ⟨b, 0, none⟩ (.int .i64 0) = W) := ⟨_, rfl⟩
  rw [HW1.out] at H r1
  have c1 : W1.cell? ⟨b, 1, none⟩ = some (.int .i64 (g : Nat)) := r1.cell (i := 1) (by decide)
  have f1 : W1.frozen? ⟨b, 1, none⟩ = false := r1.frozen 1
  have HK : Hid (PcIs (W1.setCell ⟨b, 1, none⟩ (.int .i64 1)) b 0 1 m ∧ Mv (fun k => k = b) w (W1.setCell ⟨b, 1, none⟩ (.int .i64 1))) := H
  obtain ⟨W2, HW2⟩ : ∃ W, Hid (W1.setCell ⟨b, 1, none⟩ (.int .i64 1) = W) := ⟨_, rfl⟩
  rw [HW2.out] at HK
  have HE := HW1.out
  clear H r1 h
  subst HE
  go_enter Tryz.func42, Tryz.ntmps42
  go_wp2
  rw [HW2.out]
  go_end0
  exact ⟨rfl, HK.out⟩
theorem reset_any {w : World} {b l g m : Nat} (h : PcIs w b l g m) : Calls Tryz.prog 42 #[.pointer (some ⟨b, 0, none⟩)] w fun e w' => e = .returned (.tuple #[]) ∧ PcIs w' b 0 1 m ∧ Mv (fun k => k = b) w w' := reset_row h.row h.hm (by have := h.h1; have := h.hg; omega)

theorem double_any (m g : Nat) (hg : g ≤ 64) (w : World) : Calls Tryz.prog 70 #[.int .i64 (m : Nat), .int .i64 (g : Nat)] w fun e w' => e = .returned (.int .i64 ((min (2 * g) m : Nat) : Int)) ∧ w' = w := by
  obtain ⟨k, hk, hk2⟩ : ∃ k : Nat, 2 * (g : Int) = (k : Int) ∧ k = 2 * g := ⟨2 * g, by omega, rfl⟩
  have hw : IntKind.i64.wrap (k : Int) = (k : Int) := by rw [IntKind.wrap_i64]; omega
  rw [← hk2]
  by_cases hc : k ≤ m
  · have e1 : min k m = k := Nat.min_eq_left hc
    have e2 : min (k : Int) (m : Int) = (k : Int) := by omega
    have hz : ¬ (m : Int) < (k : Int) := by omega
    rw [e1]
    clear hk2
    go_enter Tryz.func70, Tryz.ntmps70
    go_wp2
    go_ret
    exact ⟨rfl, rfl⟩
  · have e1 : min k m = m := Nat.min_eq_right (by omega)
    have e2 : min (k : Int) (m : Int) = (m : Int) := by omega
    have hz : (m : Int) < (k : Int) := by omega
    rw [e1]
    clear hk2
    go_enter Tryz.func70, Tryz.ntmps70
    go_wp2
    go_ret
    exact ⟨rfl, rfl⟩
end Go.Proofs.YtdhhjdacidhmjaaGreat

/- Package pace: Tick, New. -/
namespace Go.Proofs.YtdhhjdacidhmjaaGreat
open Go.RowKit
set_option maxRecDepth 100000
set_option maxRecDepth 100000

def tkL (l g : Nat) : Nat := if 1 < l then l - 1 else g
def tkG (l g m : Nat) : Nat := if 1 < l then g else min (2 * g) m
theorem PcIs.late {w : World} {b l g m : Nat} (h : PcIs w b l g m) (l' g' : Nat) (h1 : 1 ≤ g') (hg : g' ≤ m) (hl : l' ≤ m) : PcIs ((w.setCell ⟨b, 0, none⟩ (.int .i64 (l' : Nat))).setCell ⟨b, 1, none⟩ (.int .i64 (g' : Nat))) b l' g' m ∧ Mv (fun k => k = b) w ((w.setCell ⟨b, 0, none⟩ (.int .i64 (l' : Nat))).setCell ⟨b, 1, none⟩ (.int .i64 (g' : Nat))) := by
  have r1 := h.row.set 0 (.int .i64 (l' : Nat))
  refine ⟨⟨?_, h.hm, h1, hg, hl⟩, (set_mv h.row _).trans (set_mv r1 _)⟩
  refine (r1.set 1 (.int .i64 (g' : Nat))).congr (fun i hi => ?_)
  match i, hi with
  | 0, _ => rfl
  | 1, _ => rfl
  | 2, _ => rfl
theorem PcIs.drew {w : World} {b l g m : Nat} (h : PcIs w b l g m) : PcIs w.drew b l g m := h.later rfl

theorem tick_no {w : World} {b l g m : Nat} (h : PcIs w b l g m) (hl : 1 < l) : Calls Tryz.prog 45 #[.pointer (some ⟨b, 0, none⟩)] w fun e w' => e = .returned (.bool false) ∧ PcIs w' b (l - 1) g m ∧ Mv (fun k => k = b) w w' := by
  have c0 := h.c0
  have f0 : w.frozen? ⟨b, 0, none⟩ = false := h.row.frozen 0
  have hl2 := h.hl
  have hm2 := h.hm
  obtain ⟨k, hk, hk2⟩ : ∃ k : Nat, (l : Int) - 1 = (k : Int) ∧ k = l - 1 := ⟨l - 1, by omega, rfl⟩
  have hw : IntKind.i64.wrap (k : Int) = (k : Int) := by rw [IntKind.wrap_i64]; omega
  rw [← hk2]
  obtain ⟨W, HW⟩ : ∃ W, Hid (w.setCell ⟨b, 0, none⟩ (.int .i64 (k : Nat)) = W) := ⟨_, rfl⟩
  have HK : Hid (PcIs W b k g m ∧ Mv (fun k => k = b) w W) := by
    rw [← HW.out]
    refine ⟨⟨(h.row.set 0 _).congr (fun i hi => ?_), h.hm, h.h1, h.hg, by omega⟩, set_mv h.row _⟩
    match i, hi with
    | 0, _ => rfl
    | 1, _ => rfl
    | 2, _ => rfl
  have hz : (l : Int) > 1 := by omega
  clear h hk2
  go_enter Tryz.func45, Tryz.ntmps45
  go_wp2
  rw [HW.out]
  go_ret
  exact ⟨rfl, HK.out⟩
set_option maxHeartbeats 4000000 in
theorem tick_yes {w : World} {b l g m : Nat} (h : PcIs w b l g m) (hl : ¬ 1 < l) : Calls Tryz.prog 45 #[.pointer (some ⟨b, 0, none⟩)] w fun e w' => e = .returned (.bool true) ∧ PcIs w' b g (min (2 * g) m) m ∧ Mv (fun k => k = b) w w' := by
  have HD : Hid (∀ W, Calls Tryz.prog 70 #[.int .i64 (m : Nat), .int .i64 (g : Nat)] W fun e w' => e = .returned (.int .i64 ((min (2 * g) m : Nat) : Int)) ∧ w' = W) := fun W => double_any m g (by have := h.hm; have := h.hg; omega) W
  have c0 := h.c0
  have c1 := h.c1
  have c2 := h.c2
  have hg1 : 1 ≤ min (2 * g) m := by have := h.h1; have := h.hg; omega
  have hg2 : min (2 * g) m ≤ m := by omega
  have HK : Hid (∀ q, PcIs (((w.drewN q).setCell ⟨b, 0, none⟩ (.int .i64 (g : Nat))).setCell ⟨b, 1, none⟩ (.int .i64 ((min (2 * g) m : Nat) : Int))) b g (min (2 * g) m) m ∧ Mv (fun k => k = b) w (((w.drewN q).setCell ⟨b, 0, none⟩ (.int .i64 (g : Nat))).setCell ⟨b, 1, none⟩ (.int .i64 ((min (2 * g) m : Nat) : Int)))) := fun q => by
    have hq : PcIs (w.drewN q) b l g m := h.later rfl
    obtain ⟨p1, p2⟩ := hq.late g (min (2 * g) m) hg1 hg2 h.hg
    exact ⟨p1, ⟨p2.os, p2.tape, p2.output, p2.size, p2.block⟩⟩
  have f0 : w.frozen? ⟨b, 0, none⟩ = false := h.row.frozen 0
  have f1 : w.frozen? ⟨b, 1, none⟩ = false := h.row.frozen 1
  have hz : ¬ (l : Int) > 1 := by omega
  generalize min (2 * g) m = d at *
  have c0d : w.drew.cell? ⟨b, 0, none⟩ = some (.int .i64 (l : Nat)) := c0
  have c1d : w.drew.cell? ⟨b, 1, none⟩ = some (.int .i64 (g : Nat)) := c1
  have c2d : w.drew.cell? ⟨b, 2, none⟩ = some (.func (.func 70) #[.int .i64 (m : Nat)] #[]) := c2
  have f0d : w.drew.frozen? ⟨b, 0, none⟩ = false := f0
  have f1d : w.drew.frozen? ⟨b, 1, none⟩ = false := f1
  clear h
  go_enter Tryz.func45, Tryz.ntmps45
  go_upto_region 4 with fail
  go_region_law (first
    | (go_simp; go_at_call 70; refine (HD.out _).mono ?_; rintro e w2 ⟨rfl, rfl⟩))
  all_goals
    go_wp2_with fail
    go_ret
    exact ⟨rfl, HK.out _⟩
end Go.Proofs.YtdhhjdacidhmjaaGreat

/- Package pace: New; a pace's ticks. -/
namespace Go.Proofs.YtdhhjdacidhmjaaGreat
open Go.RowKit
set_option maxRecDepth 100000
set_option maxRecDepth 100000

theorem tick_any {w : World} {b l g m : Nat} (h : PcIs w b l g m) : Calls Tryz.prog 45 #[.pointer (some ⟨b, 0, none⟩)] w fun e w' => e = .returned (.bool (decide (l ≤ 1))) ∧ PcIs w' b (tkL l g) (tkG l g m) m ∧ Mv (fun k => k = b) w w' := by
  by_cases hl : 1 < l
  · have e1 : tkL l g = l - 1 := if_pos hl
    have e2 : tkG l g m = g := if_pos hl
    have e3 : decide (l ≤ 1) = false := by simp; omega
    rw [e1, e2, e3]
    exact tick_no h hl
  · have e1 : tkL l g = g := if_neg hl
    have e2 : tkG l g m = min (2 * g) m := if_neg hl
    have e3 : decide (l ≤ 1) = true := by simp; omega
    rw [e1, e2, e3]
    exact tick_yes h hl

theorem new_any (n : Nat) (h1 : 1 ≤ n) (h2 : n ≤ 64) (w : World) :
    Calls Tryz.prog 34 #[.int .i64 (n : Nat)] w fun e w' => e = .returned (.tuple #[.pointer (some ⟨w.heap.size, 0, none⟩), .int .i64 0]) ∧ PcIs w' w.heap.size 0 1 n ∧ Below w.heap.size w w' ∧ w.heap.size < w'.heap.size := by
  obtain ⟨W, HW⟩ : ∃ W, Hid (w.alloc (.cells #[.int .i64 0, .int .i64 0, .func (.func 70) #[.int .i64 (n : Nat)] #[]] 139) = W) := ⟨_, rfl⟩
  have hr : W.rowIs w.heap.size 139 3 (pcCell 0 0 n) := by
    rw [← HW.out]
    refine World.rowIs_alloc w _ _ _ (fun i hi => ?_)
    match i, hi with
    | 0, _ => rfl
    | 1, _ => rfl
    | 2, _ => rfl
  have hb : Below w.heap.size w W := by rw [← HW.out]; exact (Below.refl _ _).alloc (Nat.le_refl _) _
  have hlt := hr.lt
  have HR : Hid (Calls Tryz.prog 42 #[.pointer (some ⟨w.heap.size, 0, none⟩)] W fun e w' => e = .returned (.tuple #[]) ∧ Hid (PcIs w' w.heap.size 0 1 n ∧ Below w.heap.size w w' ∧ w.heap.size < w'.heap.size)) :=
    (reset_row hr h2 h1).mono fun e w' ⟨he, hp, hm⟩ => ⟨he, hp, hm.below hb (by omega) (fun k hk => by omega), by have := hm.size; omega⟩
  have hz1 : ¬ (n : Int) < 1 := by omega
  have hz2 : ¬ (n : Int) > 64 := by omega
  clear hr hb hlt
  go_enter Tryz.func34, Tryz.ntmps34
  go_upto_region 4 with fail
  rw [HW.out]
  go_wp2_with (go_at_call 42; refine HR.out.mono ?_; rintro e w2 ⟨rfl, HK⟩)
  go_ret2
  exact ⟨rfl, HK.out⟩
theorem new_not (n : Int) (h : n < 1 ∨ 64 < n) (w : World) :
    Calls Tryz.prog 34 #[.int .i64 n] w fun e w' => e = .returned (.tuple #[.pointer none, .int .i64 70]) ∧ w' = w := by
  by_cases hz1 : n < 1
  · go_enter Tryz.func34, Tryz.ntmps34
    go_wp2
    go_ret2
    exact ⟨rfl, rfl⟩
  · have hz2 : n > 64 := by omega
    go_enter Tryz.func34, Tryz.ntmps34
    go_wp2
    go_ret2
    exact ⟨rfl, rfl⟩
end Go.Proofs.YtdhhjdacidhmjaaGreat

/- Lists side by side, of elements of one cell: what an append of one leaves of all others. -/
namespace Go.Proofs.YtdhhjdacidhmjaaGreat
open Go.RowKit
set_option maxRecDepth 100000

/-- Cell j of block b, a row of elements of type e, holds x. -/
def Cel (e : TypeId) (w : World) (b j : Nat) (x : Value) : Prop := ∃ cur, w.heap[b]? = some (.cells cur e (0, 0)) ∧ cur[j]? = some x
theorem Cel.cell {e : TypeId} {w : World} {b j : Nat} {x : Value} (h : Cel e w b j x) : w.cell? ⟨b, j, none⟩ = some x := by
  obtain ⟨cur, h1, h2⟩ := h
  simp [World.cell?, h1, h2]
theorem Cel.lt {e : TypeId} {w : World} {b j : Nat} {x : Value} (h : Cel e w b j x) : b < w.heap.size := by
  obtain ⟨cur, h1, _⟩ := h
  exact (Array.getElem?_eq_some_iff.1 h1).1
theorem Cel.of_block {e : TypeId} {w w' : World} {b j : Nat} {x : Value} (h : Cel e w b j x) (hb : w'.heap[b]? = w.heap[b]?) : Cel e w' b j x := by
  obtain ⟨cur, h1, h2⟩ := h
  exact ⟨cur, hb.trans h1, h2⟩
theorem Cel.apart {e e' : TypeId} {w : World} {b b' j j' : Nat} {x x' : Value} (h : Cel e w b j x) (h' : Cel e' w b' j' x') (hne : e ≠ e') : b ≠ b' := by
  rintro rfl
  obtain ⟨cur, h1, _⟩ := h
  obtain ⟨cur', h1', _⟩ := h'
  rw [h1] at h1'
  simp only [Option.some.injEq, Obj.cells.injEq] at h1'
  exact hne h1'.2.1
theorem fown_cel {w : World} {K : Nat} {e : TypeId} {v : Value} {n : Nat} {xs : List Value} (h : w.ownsRow K e 1 v n xs) {b j : Nat} {x : Value} (hb : v.ownBlock = some b) (hx : xs[j]? = some x) : Cel e w b j x := by
  rcases h.2 with ⟨rfl, _⟩ | ⟨g, cap, cur, rfl, _, hq, _, _, _, htake⟩
  · cases hb
  · obtain rfl : g = b := by simpa [Value.ownBlock] using hb
    refine ⟨cur, hq, ?_⟩
    have hj : j < xs.length := (List.getElem?_eq_some_iff.1 hx).1
    rw [← htake] at hx
    rw [List.getElem?_take] at hx
    split at hx
    · simpa using hx
    · cases hx
/-- The block of a row that is not empty. -/
theorem fown_some {w : World} {K : Nat} {e : TypeId} {v : Value} {n : Nat} {xs : List Value} (h : w.ownsRow K e 1 v n xs) (hn : 0 < n) : ∃ b c, v = .slice (some ⟨b, 0, none⟩) n c ∧ v.ownBlock = some b ∧ K ≤ b ∧ b < w.heap.size ∧ n ≤ c := by
  rcases h.2 with ⟨_, rfl⟩ | ⟨g, cap, cur, rfl, hk, hq, hc, _⟩
  · omega
  · exact ⟨g, cap, rfl, rfl, hk, (Array.getElem?_eq_some_iff.1 hq).1, hc⟩
theorem fown_slice {w : World} {K : Nat} {e : TypeId} {v : Value} {n : Nat} {xs : List Value} (h : w.ownsRow K e 1 v n xs) : ∃ a c, v = .slice a n c ∧ n ≤ c ∧ (∀ b, v.ownBlock = some b → a = some ⟨b, 0, none⟩) := by
  rcases h.2 with ⟨rfl, rfl⟩ | ⟨g, cap, cur, rfl, _, _, hc, _⟩
  · exact ⟨none, 0, rfl, Nat.le_refl _, fun b h => by cases h⟩
  · exact ⟨_, cap, rfl, hc, fun b h => by simp [Value.ownBlock] at h; rw [h]⟩
theorem fown_apart {w : World} {K K' : Nat} {e e' : TypeId} {v v' : Value} {n n' : Nat} {xs xs' : List Value} (h : w.ownsRow K e 1 v n xs) (h' : w.ownsRow K' e' 1 v' n' xs') (hne : e ≠ e') : ∀ b, v.ownBlock = some b → v'.ownBlock ≠ some b := by
  intro b hb hb'
  rcases h.2 with ⟨rfl, _⟩ | ⟨g, cap, cur, rfl, _, hq, _⟩
  · cases hb
  · rcases h'.2 with ⟨rfl, _⟩ | ⟨g', cap', cur', rfl, _, hq', _⟩
    · cases hb'
    · obtain rfl : g = b := by simpa [Value.ownBlock] using hb
      obtain rfl : g' = g := by simpa [Value.ownBlock] using hb'
      rw [hq] at hq'
      simp only [Option.some.injEq, Obj.cells.injEq] at hq'
      exact hne hq'.2.1
theorem fown_block {w w' : World} {K : Nat} {e : TypeId} {v : Value} {n : Nat} {xs : List Value} (h : w.ownsRow K e 1 v n xs) (hb : ∀ b, v.ownBlock = some b → w'.heap[b]? = w.heap[b]?) : w'.ownsRow K e 1 v n xs := by
  refine ⟨h.1, ?_⟩
  rcases h.2 with ⟨rfl, h0⟩ | ⟨g, cap, cur, rfl, hk, hq, hr⟩
  · exact .inl ⟨rfl, h0⟩
  · exact .inr ⟨g, cap, cur, rfl, hk, (hb g rfl).trans hq, hr⟩

/-- From w to w' only the block g has been written, from its cell n on, and the block f; all else that was there is as it was. -/
structure Grew (e : TypeId) (w w' : World) (g : Option Nat) (n : Nat) (f : Option Nat) : Prop where
  os : w'.os = w.os
  tape : w'.tape = w.tape
  output : w'.output = w.output
  size : w.heap.size ≤ w'.heap.size
  block : ∀ b, b < w.heap.size → g ≠ some b → f ≠ some b → w'.heap[b]? = w.heap[b]?
  cell : ∀ b j x, g = some b → f ≠ some b → j < n → Cel e w b j x → Cel e w' b j x

theorem Grew.refl (e : TypeId) (w : World) (g : Option Nat) (n : Nat) (f : Option Nat) : Grew e w w g n f := ⟨rfl, rfl, rfl, Nat.le_refl _, fun _ _ _ _ => rfl, fun _ _ _ _ _ _ h => h⟩

theorem Grew.of_below {w w' : World} (h : Below w.heap.size w w') (e : TypeId) (g : Option Nat) (n : Nat) (f : Option Nat) : Grew e w w' g n f :=
  ⟨h.os, h.tape, h.output, h.size, fun b hb _ _ => h.block b hb, fun b _ _ _ _ _ hc => hc.of_block (h.block b hc.lt)⟩

theorem Grew.below {e : TypeId} {w w' : World} {g : Option Nat} {n : Nat} {f : Option Nat} (h : Grew e w w' g n f) (K : Nat) (hK : K ≤ w.heap.size) (hg : ∀ b, g = some b → K ≤ b) (hf : ∀ b, f = some b → K ≤ b) : Below K w w' :=
  ⟨h.os, h.tape, h.output, h.size, fun b hb => h.block b (by omega) (fun e => by have := hg b e; omega) (fun e => by have := hf b e; omega)⟩

/-- A row elsewhere is as it was. -/
theorem Grew.own {e : TypeId} {w w' : World} {g f : Option Nat} {m : Nat} (k : Grew e w w' g m f) {K : Nat} {e' : TypeId} {v : Value} {n : Nat} {xs : List Value} (h : w.ownsRow K e' 1 v n xs) (hg : ∀ b, v.ownBlock = some b → g ≠ some b) (hf : ∀ b, v.ownBlock = some b → f ≠ some b) : w'.ownsRow K e' 1 v n xs :=
  fown_block h (fun b hb => k.block b (h.lt b hb).2 (hg b hb) (hf b hb))

/-- One more step: the list under way lies where it began, or in new memory; so does the other row. -/
theorem Grew.trans {e : TypeId} {w w1 w2 : World} {g g1 f f1 : Option Nat} {n n1 : Nat} (h : Grew e w w1 g n f) (k : Grew e w1 w2 g1 n1 f1) (hg : g1 = g ∧ n ≤ n1 ∨ ∀ b, g1 = some b → w.heap.size ≤ b) (hf : f1 = f ∨ ∀ b, f1 = some b → w.heap.size ≤ b) : Grew e w w2 g n f := by
  have ne1 : ∀ b, b < w.heap.size → g ≠ some b → g1 ≠ some b := fun b hb hn e => by
    rcases hg with ⟨rfl, _⟩ | hg
    · exact hn e
    · have := hg b e; omega
  have nf1 : ∀ b, b < w.heap.size → f ≠ some b → f1 ≠ some b := fun b hb hn e => by
    rcases hf with rfl | hf
    · exact hn e
    · have := hf b e; omega
  refine ⟨k.os.trans h.os, k.tape.trans h.tape, k.output.trans h.output, Nat.le_trans h.size k.size, fun b hb h1 h2 => ?_, fun b j x eg hfb hj hc => ?_⟩
  · rw [k.block b (Nat.lt_of_lt_of_le hb h.size) (ne1 b hb h1) (nf1 b hb h2)]
    exact h.block b hb h1 h2
  · have hb := hc.lt
    have hc1 := h.cell b j x eg hfb hj hc
    by_cases e1 : g1 = some b
    · rcases hg with ⟨_, hn⟩ | hg
      · exact k.cell b j x e1 (nf1 b hb hfb) (by omega) hc1
      · have := hg b e1; omega
    · exact hc1.of_block (k.block b (Nat.lt_of_lt_of_le hb h.size) e1 (nf1 b hb hfb))

/-- append of one, whatever the element's type. -/
theorem fapp_one {P : Program} {w : World} {K n bytes : Nat} {v z y : Value} {xs : List Value} {t ty e : TypeId} (ht : P.underlying t = some (.slice e)) (hinfo : (P.info? e).map (fun i => (i.zero, i.size, i.bytes)) = some (some z, 1, bytes)) (hzc : z.cells.size = 1)
    (h : w.ownsRow K e 1 v n xs) (hy : y.oneCell' = true) (hb : ((n + 1) + (n + 1) / 4 + 192) * bytes ≤ 281474976710656) (hn : n + 1 ≤ 140737488355328) (hK : K ≤ w.heap.size) :
    ∃ v' w', (Builtin.append_ #[t, t] ty #[v, .slice (some ⟨w.heap.size, 0, none⟩) 1 1]).run P (w.alloc (.cells #[y] e)) = .ok v' w' ∧ w'.ownsRow K e 1 v' (n + 1) (xs ++ [y]) ∧ Grew e w w' v.ownBlock n none ∧ (v'.ownBlock = v.ownBlock ∨ ∃ b, v'.ownBlock = some b ∧ w.heap.size ≤ b) := by
  obtain ⟨i0, hi, hz0, hz1, hz2⟩ : ∃ i, P.info? e = some i ∧ i.zero = some z ∧ i.size = 1 ∧ i.bytes = bytes := by
    obtain ⟨i, hi, hh⟩ := Option.map_eq_some_iff.1 hinfo
    simp only [Prod.mk.injEq] at hh
    exact ⟨i, hi, hh.1, hh.2.1, hh.2.2⟩
  have hnews : ∀ j u, [y][j]? = some u → (w.alloc (.cells #[y] e)).cell? ((⟨w.heap.size, 0, none⟩ : Addr).add j) = some u := fun j u hj => by
    obtain ⟨hj1, hj2⟩ := List.getElem?_eq_some_iff.1 hj
    have : j = 0 := by simpa using hj1
    subst this
    rw [← hj2]
    simp [Addr.add]
  have hwf : ∀ u, u ∈ [y] → u.oneCell' = true := fun u hu => by rw [show u = y by simpa using hu]; exact hy
  have hml : maxLen = 9223372036854775807 := rfl
  have ho := h.alloc (.cells #[y] e)
  have hz : (w.alloc (.cells #[y] e)).heap.size = w.heap.size + 1 := by simp
  obtain ⟨v', w', h1, h2, h3, _⟩ := run_append_own_wide (P := P) (w.alloc (.cells #[y] e)) K t ty e i0 z 1 bytes ht hi hz0 hz1 hz2 hzc (by decide) v n xs ho ⟨w.heap.size, 0, none⟩ 1 1 [y] rfl hnews hwf (by omega) hb (by omega)
  have hlt := h.lt
  refine ⟨v', w', h1, h2, ⟨h3.os, h3.tape, h3.output, by have := h3.size; omega, fun b hb hg _ => ?_, fun b j x hg _ hj hc => ?_⟩, ?_⟩
  · rw [h3.block b (by omega) (fun e => hg e.symm)]
    exact Below.heap_alloc _ _ _ hb
  · rcases ho.2 with ⟨rfl, hn0⟩ | ⟨q, cap, cur, rfl, hbg, hq, hnc, hcm, hcs, htake⟩
    · omega
    · obtain rfl : q = b := by simpa [Value.ownBlock] using hg
      have hqb := (hlt q rfl).2
      have hxs : xs[j]? = some x := by
        rw [← h.cellAt j (by omega)]
        exact hc.cell
      by_cases hroom : n + 1 ≤ cap
      · have hr2 := run_append_room (P := P) (w.alloc (.cells #[y] e)) t ty e i0 ht hi q n cap cur hq ⟨w.heap.size, 0, none⟩ 1 1 [y] (by rw [hz1]; rfl) hnews hwf hroom (by rw [hz1, hcs]; show n * 1 + 1 ≤ cap * 1; omega)
        rw [hr2] at h1
        injection h1 with e1 e2
        subst e1
        exact fown_cel h2 rfl (by rw [List.getElem?_append_left (by rw [h.1]; omega)]; exact hxs)
      · have hr2 := run_append_grow (P := P) (w.alloc (.cells #[y] e)) t ty e i0 z ht hi hz0 ⟨q, 0, none⟩ n cap xs (by rw [hz1]; exact ho.1) (ho.cells (g := q) rfl) ⟨w.heap.size, 0, none⟩ 1 1 [y] (by rw [hz1]; rfl) hnews (by omega) (by omega) (by rw [hz2]; exact growslice_fits_wide (by omega) hb)
        rw [hr2] at h1
        injection h1 with e1 e2
        subst e2
        refine (hc.of_block (Below.heap_alloc _ (.cells #[y] e) _ hqb)).of_block ?_
        exact heap_alloc_old (w.alloc (.cells #[y] e)).drew _ (by simp; omega)
  · rcases ho.2 with ⟨rfl, hn0⟩ | ⟨q, cap, cur, rfl, hbg, hq, hnc, hcm, hcs, htake⟩
    · subst hn0
      have hr2 := run_append_nil (P := P) (w.alloc (.cells #[y] e)) t ty e i0 z ht hi hz0 ⟨w.heap.size, 0, none⟩ 1 1 [y] (by rw [hz1]; rfl) hnews (by omega) (by omega) (by rw [hz2]; omega)
      rw [hr2] at h1
      injection h1 with e1 e2
      subst e1
      exact .inr ⟨_, rfl, by show w.heap.size ≤ (w.alloc (.cells #[y] e)).heap.size; omega⟩
    · by_cases hroom : n + 1 ≤ cap
      · have hr2 := run_append_room (P := P) (w.alloc (.cells #[y] e)) t ty e i0 ht hi q n cap cur hq ⟨w.heap.size, 0, none⟩ 1 1 [y] (by rw [hz1]; rfl) hnews hwf hroom (by rw [hz1, hcs]; show n * 1 + 1 ≤ cap * 1; omega)
        rw [hr2] at h1
        injection h1 with e1 e2
        subst e1
        exact .inl rfl
      · have hr2 := run_append_grow (P := P) (w.alloc (.cells #[y] e)) t ty e i0 z ht hi hz0 ⟨q, 0, none⟩ n cap xs (by rw [hz1]; exact ho.1) (ho.cells (g := q) rfl) ⟨w.heap.size, 0, none⟩ 1 1 [y] (by rw [hz1]; rfl) hnews (by omega) (by omega) (by rw [hz2]; exact growslice_fits_wide (by omega) hb)
        rw [hr2] at h1
        injection h1 with e1 e2
        subst e1
        exact .inr ⟨_, rfl, by show w.heap.size ≤ (w.alloc (.cells #[y] e)).heap.size; omega⟩
end Go.Proofs.YtdhhjdacidhmjaaGreat

/- Whose each block is: a colour for each block; rows and lists by their colour. -/
namespace Go.Proofs.YtdhhjdacidhmjaaGreat
open Go.RowKit
set_option maxRecDepth 100000
set_option maxRecDepth 100000

/-- A step that turns nothing but what is of colour x (and keeps the colours that were). -/
structure Ch (x : Nat) (O O' : Nat → Nat) (w w' : World) : Prop where
  os : w'.os = w.os
  tape : w'.tape = w.tape
  output : w'.output = w.output
  size : w.heap.size ≤ w'.heap.size
  col : ∀ k, k < w.heap.size → O' k = O k
  block : ∀ k, k < w.heap.size → O k ≠ x → w'.heap[k]? = w.heap[k]?
section
variable {x y c : Nat} {O O' O'' : Nat → Nat} {w w' w'' : World}
theorem Ch.refl : Ch x O O w w := ⟨rfl, rfl, rfl, Nat.le_refl _, fun _ _ => rfl, fun _ _ _ => rfl⟩
theorem Ch.since (h : w.Since w.heap.size w') : Ch x O O w w' := ⟨h.os, h.tape, h.output, h.size, fun _ _ => rfl, fun k hk _ => h.block k hk⟩
theorem Ch.trans (h : Ch x O O' w w') (k : Ch x O' O'' w' w'') : Ch x O O'' w w'' :=
  ⟨k.os.trans h.os, k.tape.trans h.tape, k.output.trans h.output, Nat.le_trans h.size k.size, fun i hi => (k.col i (Nat.lt_of_lt_of_le hi h.size)).trans (h.col i hi), fun i hi hn => (k.block i (Nat.lt_of_lt_of_le hi h.size) (by rw [h.col i hi]; exact hn)).trans (h.block i hi hn)⟩
theorem Ch.sinceL (h : w.Since w.heap.size w') (k : Ch x O O' w' w'') : Ch x O O' w w'' := (Ch.since h).trans k
/-- What is of no colour stands since the beginning. -/
theorem Ch.base {w0 : World} (h0 : w0.Since w0.heap.size w) (hO : ∀ k, k < w0.heap.size → O k = 0) (hx : x ≠ 0) (h : Ch x O O' w w') : w0.Since w0.heap.size w' ∧ ∀ k, k < w0.heap.size → O' k = 0 :=
  ⟨⟨h.os.trans h0.os, h.tape.trans h0.tape, h.output.trans h0.output, Nat.le_trans h0.size h.size, fun k hk => (h.block k (Nat.lt_of_lt_of_le hk h0.size) (by rw [hO k hk]; exact fun e => hx e.symm)).trans (h0.block k hk)⟩, fun k hk => (h.col k (Nat.lt_of_lt_of_le hk h0.size)).trans (hO k hk)⟩
/-- A row of a colour. -/
def RowC (O : Nat → Nat) (c : Nat) (w : World) (b t n : Nat) (f : Nat → Value) : Prop := w.rowIs b t n f ∧ O b = c
theorem RowC.keep {b t n : Nat} {f : Nat → Value} (h : RowC O c w b t n f) (k : Ch x O O' w w') (hx : c ≠ x) : RowC O' c w' b t n f :=
  ⟨h.1.of_block (k.block b h.1.lt (by rw [h.2]; exact hx)), (k.col b h.1.lt).trans h.2⟩
theorem Ch.set {b : Nat} (hb : O b = x) (i : Nat) (v : Value) : Ch x O O w (w.setCell ⟨b, i, none⟩ v) :=
  ⟨rfl, rfl, rfl, by simp [World.setCell], fun _ _ => rfl, fun k _ hn => Below.heap_setCell _ _ _ _ (fun e => hn (by rw [e]; exact hb))⟩
theorem Ch.sets {b : Nat} (hb : O b = x) : ∀ (vs : List Value) (o : Nat) (w : World), Ch x O O w (w.setCells b o vs)
  | [], _, _ => Ch.refl
  | v :: vs, o, _ => (Ch.set hb o v).trans (Ch.sets hb vs (o + 1) _)
theorem RowC.set {b t n : Nat} {f : Nat → Value} (h : RowC O c w b t n f) (i : Nat) (v : Value) : RowC O c (w.setCell ⟨b, i, none⟩ v) b t n (fun j => if j = i then v else f j) := ⟨h.1.set i v, h.2⟩
/-- A list of a colour: its cells, up to its length. -/
def Li (O : Nat → Nat) (c : Nat) (w : World) (t sz : Nat) (v : Value) (n : Nat) (f : Nat → Value) : Prop := w.ownsRow 0 t sz v n ((List.range (n * sz)).map f) ∧ ∀ k, v.ownBlock = some k → O k = c
variable {t sz n : Nat} {v : Value} {f g : Nat → Value}
theorem Li.keep (h : Li O c w t sz v n f) (k : Ch x O O' w w') (hx : c ≠ x) : Li O' c w' t sz v n f := by
  obtain ⟨⟨h1, h2⟩, h3⟩ := h
  rcases h2 with ⟨hv, hn⟩ | ⟨b, cap, cur, hv, h4, h5, h6⟩
  · exact ⟨⟨h1, .inl ⟨hv, hn⟩⟩, fun b hb => by rw [hv] at hb; cases hb⟩
  · have hlt : b < w.heap.size := (Array.getElem?_eq_some_iff.1 h5).1
    have hc := h3 b (by rw [hv]; rfl)
    exact ⟨⟨h1, .inr ⟨b, cap, cur, hv, h4, (k.block b hlt (by rw [hc]; exact hx)).trans h5, h6⟩⟩, fun b' hb => by
      rw [hv] at hb
      obtain rfl : b = b' := Option.some.inj hb
      exact (k.col b hlt).trans hc⟩
theorem Li.nil (O : Nat → Nat) (c : Nat) (w : World) (t sz : Nat) (f : Nat → Value) : Li O c w t sz (.slice none 0 0) 0 f := ⟨⟨by simp, .inl ⟨rfl, rfl⟩⟩, fun k hk => by cases hk⟩
theorem Li.congr (h : Li O c w t sz v n f) (e : ∀ j, j < n * sz → f j = g j) : Li O c w t sz v n g := by
  have : (List.range (n * sz)).map f = (List.range (n * sz)).map g := List.map_congr_left fun j hj => e j (List.mem_range.1 hj)
  exact ⟨this ▸ h.1, h.2⟩
theorem Li.form (h : Li O c w t sz v n f) : ∃ a cap, v = .slice a n cap := by
  rcases h.1.2 with ⟨hv, hn⟩ | ⟨b, cap, _, hv, _⟩
  · exact ⟨none, 0, by rw [hv, hn]⟩
  · exact ⟨_, cap, hv⟩
theorem Li.at' (h : Li O c w t sz v n f) (hn : 0 < n) : ∃ b cap F, v = .slice (some ⟨b, 0, none⟩) n cap ∧ n ≤ cap ∧ cap ≤ maxLen ∧ RowC O c w b t (cap * sz) F ∧ ∀ j, j < n * sz → F j = f j := by
  rcases h.1.2 with ⟨_, h0⟩ | ⟨b, cap, cur, hv, _, h5, h6, h7, h8, h9⟩
  · omega
  · refine ⟨b, cap, fun i => cur.getD i undef, hv, h6, h7, ⟨⟨cur, h5, h8, fun i hi => ?_⟩, h.2 b (by rw [hv]; rfl)⟩, fun j hj => ?_⟩
    · show cur[i]? = some (cur.getD i undef)
      rw [Array.getD_eq_getD_getElem?, Array.getElem?_eq_getElem (by omega)]
      rfl
    · have hjc : j < cur.size := by rw [h8]; exact Nat.lt_of_lt_of_le hj (Nat.mul_le_mul_right _ h6)
      have e : (cur.toList.take (n * sz))[j]? = ((List.range (n * sz)).map f)[j]? := by rw [h9]
      rw [List.getElem?_take_of_lt hj, List.getElem?_map, List.getElem?_range hj, Array.getElem?_toList, Array.getElem?_eq_getElem hjc] at e
      show cur.getD j undef = f j
      rw [Array.getD_eq_getD_getElem?, Array.getElem?_eq_getElem hjc]
      exact Option.some.inj e
theorem Li.of_row {b cap : Nat} {F : Nat → Value} (h : RowC O c w b t (cap * sz) F) (hn : n ≤ cap) (hm : cap ≤ maxLen) (e : ∀ j, j < n * sz → F j = f j) : Li O c w t sz (.slice (some ⟨b, 0, none⟩) n cap) n f := by
  obtain ⟨⟨cur, h5, h8, h9⟩, hc⟩ := h
  refine ⟨⟨by simp, .inr ⟨b, cap, cur, rfl, Nat.zero_le _, h5, hn, hm, h8, ?_⟩⟩, fun k hk => by
    obtain rfl : b = k := Option.some.inj hk
    exact hc⟩
  apply List.ext_getElem?
  intro j
  by_cases hj : j < n * sz
  · have hjc : j < cap * sz := Nat.lt_of_lt_of_le hj (Nat.mul_le_mul_right _ hn)
    rw [List.getElem?_take_of_lt hj, List.getElem?_map, List.getElem?_range hj, Array.getElem?_toList, h9 j hjc, e j hj]
    rfl
  · rw [List.getElem?_eq_none (by simp; omega), List.getElem?_eq_none (by simp; omega)]
/-- A cell of a list is written. -/
theorem Li.set (h : Li O c w t sz v n f) (hn : 0 < n) (b cap : Nat) (hv : v = .slice (some ⟨b, 0, none⟩) n cap) (i : Nat) (u : Value) : Li O c (w.setCell ⟨b, i, none⟩ u) t sz v n (fun j => if j = i then u else f j) := by
  obtain ⟨b', cap', F, hv', h1, h2, h3, h4⟩ := h.at' hn
  rw [hv] at hv'
  injection hv' with e1 _ e2
  obtain rfl : b = b' := congrArg Addr.block (Option.some.inj e1)
  subst e2
  rw [hv]
  exact Li.of_row (h3.set i u) h1 h2 (fun j hj => by
    show (if j = i then u else F j) = (if j = i then u else f j)
    rw [h4 j hj])
/-- One element is appended. -/
theorem Li.app {P : Program} {bytes : Nat} {z : Value} {ty : TypeId} (ht : P.underlying ty = some (.slice t)) (hinfo : (P.info? t).map (fun i => (i.zero, i.size, i.bytes)) = some (some z, sz, bytes)) (hzc : z.cells.size = sz) (hsz : 0 < sz)
    (h : Li O c w t sz v n f) (ys : List Value) (hy : ys.length = sz) (h1 : ∀ u ∈ ys, u.oneCell' = true) (hb : (n + 1) * bytes ≤ 140737488355328) (hn : n + 1 ≤ 140737488355328) :
    ∃ v' w', (Builtin.append_ #[ty, ty] ty #[v, .slice (some ⟨w.heap.size, 0, none⟩) 1 1]).run P (w.alloc (.cells ys.toArray t)) = .ok v' w' ∧ Ch c O (fun k => if k < w.heap.size then O k else c) w w' ∧ Li (fun k => if k < w.heap.size then O k else c) c w' t sz v' (n + 1) (fun j => if j < n * sz then f j else ys.getD (j - n * sz) undef) := by
  obtain ⟨i0, hi, hz0, hz1, hz2⟩ : ∃ i, P.info? t = some i ∧ i.zero = some z ∧ i.size = sz ∧ i.bytes = bytes := by
    obtain ⟨i, hi, hh⟩ := Option.map_eq_some_iff.1 hinfo
    simp only [Prod.mk.injEq] at hh
    exact ⟨i, hi, hh.1, hh.2.1, hh.2.2⟩
  have hnews : ∀ j u, ys[j]? = some u → (w.alloc (.cells ys.toArray t)).cell? ((⟨w.heap.size, 0, none⟩ : Addr).add j) = some u := fun j u hj => by
    have e : ((⟨w.heap.size, 0, none⟩ : Addr).add j) = ⟨w.heap.size, j, none⟩ := by rw [Addr.add_mid, Nat.zero_add]
    rw [e]
    refine (World.cell?_alloc_at (w := w) _ _ _ j rfl).trans ?_
    rw [List.getElem?_toArray]
    exact hj
  have hml : maxLen = 9223372036854775807 := rfl
  obtain ⟨v', w', e1, e2, e3, _, e5⟩ := run_append_own_at (P := P) (w.alloc (.cells ys.toArray t)) 0 ty ty t i0 _ sz bytes ht hi hz0 hz1 hz2 hzc hsz v n _ (World.ownsRow.alloc h.1 _) ⟨w.heap.size, 0, none⟩ 1 1 ys (by omega) hnews h1 (by omega) hb (Nat.zero_le _)
  have hsz' : (w.alloc (.cells ys.toArray t)).heap.size = w.heap.size + 1 := by simp
  have hcol : ∀ k, v.ownBlock = some k → k < w.heap.size := fun k hk => by
    rcases h.1.2 with ⟨hv, _⟩ | ⟨b, cap, cur, hv, _, h5, _⟩
    · rw [hv] at hk; cases hk
    · rw [hv] at hk
      obtain rfl : b = k := Option.some.inj hk
      exact (Array.getElem?_eq_some_iff.1 h5).1
  refine ⟨v', w', e1, ⟨e3.os, e3.tape, e3.output, by have := e3.size; omega, fun k hk => if_pos hk, fun k hk hne => ?_⟩, ?_, fun k hk => ?_⟩
  · exact (e3.block k (by omega) (fun e => hne (h.2 k e.symm))).trans (Below.heap_alloc _ _ _ hk)
  · have e : (List.range ((n + 1) * sz)).map (fun j => if j < n * sz then f j else ys.getD (j - n * sz) undef) = (List.range (n * sz)).map f ++ ys := by
      apply List.ext_getElem?
      intro j
      have hm : (n + 1) * sz = n * sz + sz := Nat.succ_mul _ _
      by_cases hj : j < n * sz
      · rw [List.getElem?_append_left (by simpa using hj), List.getElem?_map, List.getElem?_map, List.getElem?_range hj, List.getElem?_range (by omega)]
        show some (if j < n * sz then f j else _) = some (f j)
        rw [if_pos hj]
      · rw [List.getElem?_append_right (by simpa using hj)]
        by_cases hj2 : j < n * sz + sz
        · rw [List.getElem?_map, List.getElem?_range (by omega)]
          show some (if j < n * sz then f j else _) = _
          rw [if_neg hj, List.length_map, List.length_range, List.getD_eq_getElem?_getD, List.getElem?_eq_getElem (show j - n * sz < ys.length by omega)]
          rfl
        · rw [List.getElem?_eq_none (by simp; omega), List.getElem?_eq_none (by simp; omega)]
    rw [e]
    exact e2
  · show (if k < w.heap.size then O k else c) = c
    rcases e5 with e5 | e5
    · rw [e5] at hk
      rw [if_pos (hcol k hk)]
      exact h.2 k hk
    · rw [e5] at hk
      have := Option.some.inj hk
      rw [if_neg (by omega)]
end
end Go.Proofs.YtdhhjdacidhmjaaGreat

/- Small laws on rows of bytes that the walks of this seat share; the walk of tallyref0.Copy. -/
namespace Go.Proofs.YtdhhjdacidhmjaaGreat
open Go.RowKit
set_option maxRecDepth 100000

theorem hide {p : Prop} (h : p) : Hid p := h
theorem unhide {p : Prop} (h : Hid p) : p := h
theorem since_mono {B B' : Nat} {w w' : World} (h : w.Since B w') (hB : B' ≤ B) : w.Since B' w' := ⟨h.os, h.tape, h.output, h.size, fun k hk => h.block k (by omega)⟩
theorem Tryz.info5 : (Tryz.prog.info? 5).map (fun i => (i.zero, i.size, i.bytes)) = some (some (.int .u8 0), 1, 1) := by kernel_rfl
theorem Tryz.size5 : (Tryz.prog.info? 5).map (·.size) = some 1 := by kernel_rfl

/-- A slice's cells hold these bytes. -/
def Byt (w : World) (a : Option Addr) (len : Nat) (x : Nat → Nat) : Prop := ∀ j, j < len → ∃ b off, a = some ⟨b, off, none⟩ ∧ w.cell? ⟨b, off + j, none⟩ = some (.int .u8 (x j : Nat))

theorem Byt.since {w w' : World} {a : Option Addr} {len : Nat} {x : Nat → Nat} (h : Byt w a len x) (hs : w.Since w.heap.size w') : Byt w' a len x := fun j hj => by
  obtain ⟨b, off, e, hc⟩ := h j hj
  exact ⟨b, off, e, by rw [hs.cell (a := ⟨b, off + j, none⟩) (World.block_lt_of_cell? _ _ hc)]; exact hc⟩
theorem Byt.of_row {w : World} {b t n : Nat} {x : Nat → Nat} (h : w.rowIs b t n (fun j => .int .u8 (x j : Nat))) : Byt w (some ⟨b, 0, none⟩) n x := fun j hj =>
  ⟨b, 0, rfl, by have := h.cell hj; simpa using this⟩
theorem Byt.drewN {w : World} {a : Option Addr} {len : Nat} {x : Nat → Nat} (h : Byt w a len x) (n : Nat) : Byt (w.drewN n) a len x := fun j hj => h j hj
theorem Byt.le {w : World} {a : Option Addr} {len m : Nat} {x : Nat → Nat} (h : Byt w a len x) (hm : m ≤ len) : Byt w a m x := fun j hj => h j (by omega)

theorem getD_range_map (f : Nat → Nat) (n j : Nat) (h : j < n) : ((List.range n).map f).getD j 0 = f j := by
  simp [List.getD, h]
theorem lt_range_map (f : Nat → Nat) (n j : Nat) (h : ∀ i, f i < 256) : ((List.range n).map f).getD j 0 < 256 := by
  by_cases hj : j < n
  · rw [getD_range_map f n j hj]; exact h j
  · simp [List.getD, hj]
theorem since_setCells {B b : Nat} {w : World} (hb : B ≤ b) : ∀ (vs : List Value) (o : Nat) (w' : World), w.Since B w' → w.Since B (w'.setCells b o vs)
  | [], _, _, h => h
  | v :: r, o, _, h => since_setCells hb r (o + 1) _ (h.setCell (a := ⟨b, o, none⟩) hb v)
theorem size_setCells (b : Nat) : ∀ (vs : List Value) (o : Nat) (w : World), (w.setCells b o vs).heap.size = w.heap.size
  | [], _, _ => rfl
  | v :: r, o, w => by rw [World.setCells, size_setCells b r (o + 1)]; simp [World.setCell]
theorem rowIs_setCells {b t n : Nat} : ∀ (vs : List Value) (o : Nat) (w : World) (f : Nat → Value), w.rowIs b t n f → (w.setCells b o vs).rowIs b t n (fun j => if o ≤ j ∧ j < o + vs.length then vs.getD (j - o) undef else f j)
  | [], o, w, f, h => h.congr (fun i _ => by simp; omega)
  | v :: r, o, w, f, h => by
    refine (rowIs_setCells r (o + 1) _ _ (h.set o v)).congr (fun i _ => ?_)
    by_cases e : i = o
    · subst e
      rw [if_neg (by omega), if_pos rfl, if_pos (by simp)]; simp
    · by_cases hin : o + 1 ≤ i ∧ i < o + 1 + r.length
      · rw [if_pos hin, if_pos (by simp; omega)]
        rw [show i - o = (i - (o + 1)) + 1 by omega]; simp
      · rw [if_neg hin, if_neg e, if_neg (by simp; omega)]

end Go.Proofs.YtdhhjdacidhmjaaGreat

/- The walks of tallylaw1's Lend and Intact: bytes lent with marks behind them. -/
namespace Go.Proofs.YtdhhjdacidhmjaaGreat
open Go.RowKit
set_option maxRecDepth 100000
set_option maxRecDepth 100000

/-- Bytes as cells. -/
def cellsOf (n : Nat) (x : Nat → Nat) : List Value := (List.range n).map fun j => .int .u8 (x j : Nat)
theorem length_cellsOf (n : Nat) (x : Nat → Nat) : (cellsOf n x).length = n := by simp [cellsOf]
theorem get_cellsOf {n j : Nat} {x : Nat → Nat} (h : j < n) : (cellsOf n x)[j]? = some (.int .u8 (x j : Nat)) := by simp [cellsOf, h]
def cat (x : Nat → Nat) (n : Nat) (y : Nat → Nat) : Nat → Nat := fun j => if j < n then x j else y (j - n)
theorem cat_ge {x : Nat → Nat} {n : Nat} {y : Nat → Nat} {j : Nat} (h : n ≤ j) : cat x n y j = y (j - n) := if_neg (by omega)
theorem cellsOf_cat (n m : Nat) (x y : Nat → Nat) : cellsOf n x ++ cellsOf m y = cellsOf (n + m) (cat x n y) := by
  apply List.ext_getElem?
  intro j
  rcases Nat.lt_or_ge j n with h | h
  · rw [List.getElem?_append_left (by rw [length_cellsOf]; exact h), get_cellsOf h, get_cellsOf (by omega)]; simp [cat, h]
  · rw [List.getElem?_append_right (by rw [length_cellsOf]; exact h), length_cellsOf]
    rcases Nat.lt_or_ge (j - n) m with g | g
    · rw [get_cellsOf g, get_cellsOf (by omega)]; simp [cat, Nat.not_lt.2 h]
    · rw [List.getElem?_eq_none (by rw [length_cellsOf]; exact g), List.getElem?_eq_none (by rw [length_cellsOf]; omega)]
theorem one_cellsOf (n : Nat) (x : Nat → Nat) : ∀ u ∈ cellsOf n x, u.oneCell' = true := fun u hu => by
  obtain ⟨j, _, rfl⟩ := List.mem_map.1 hu; rfl

/-- A slice of bytes of the call's own. -/
def Own (w : World) (B : Nat) (v : Value) (n : Nat) (x : Nat → Nat) : Prop := w.ownsRow B 5 1 v n (cellsOf n x)
theorem own_nil (w : World) (B : Nat) (x : Nat → Nat) : Own w B (.slice none 0 0) 0 x := ⟨rfl, Or.inl ⟨rfl, rfl⟩⟩
/-- append OF ANY BYTES ONTO SUCH A SLICE. -/
theorem app_own (w : World) (B : Nat) (v : Value) (n : Nat) (x : Nat → Nat) (hown : Own w B v n x) (a : Option Addr) (m c : Nat) (y : Nat → Nat) (hb : Byt w a m y) (ha : a = none → m = 0 ∧ c = 0) (hmax : n + m ≤ 140737488355328) (hB : B ≤ w.heap.size) :
    ∃ v' w', (Builtin.append_ #[103, 103] 103 #[v, .slice a m c]).run Tryz.prog w = .ok v' w' ∧ Own w' B v' (n + m) (cat x n y) ∧ w.grownBy w' v.ownBlock := by
  obtain ⟨i0, hi, hz0, hz1, hz2⟩ := info_parts Tryz.info5
  cases a with
  | none =>
    obtain ⟨rfl, rfl⟩ := ha rfl
    refine ⟨v, w, run_append_owned_none w B 103 103 5 i0 1 Tryz.underlying103 hi v n _ hown, ?_, ⟨rfl, rfl, rfl, Nat.le_refl _, fun _ _ _ => rfl⟩⟩
    have e : cellsOf (n + 0) (cat x n y) = cellsOf n x := by rw [← cellsOf_cat]; simp [cellsOf]
    show w.ownsRow B 5 1 v (n + 0) (cellsOf (n + 0) (cat x n y))
    rw [e]; exact hown
  | some ad =>
    obtain ⟨v', w', hr, h1, h2, _⟩ := run_append_own (P := Tryz.prog) w B 103 103 5 i0 (.int .u8 0) 1 1 Tryz.underlying103 hi hz0 hz1 hz2 rfl (by decide) v n _ hown ad m c (cellsOf m y) (by rw [length_cellsOf, Nat.mul_one])
      (fun j u hu => by
        have hj : j < m := by have := (List.getElem?_eq_some_iff.1 hu).1; rwa [length_cellsOf] at this
        rw [get_cellsOf hj] at hu
        obtain ⟨b, off, e, hc⟩ := hb j hj
        obtain rfl : ad = ⟨b, off, none⟩ := by simpa using e
        rw [show (⟨b, off, none⟩ : Addr).add j = ⟨b, off + j, none⟩ by simp [Addr.add], hc]; exact hu)
      (one_cellsOf m y) (by unfold maxLen; omega) (by omega) hB
    exact ⟨v', w', hr, by rw [cellsOf_cat] at h1; exact h1, h2⟩
theorem grown_since {B : Nat} {w0 w w' : World} {row : Option Nat} (h : w0.Since B w) (hg : w.grownBy w' row) (hB : B ≤ w.heap.size) (hr : ∀ k, row = some k → B ≤ k) : w0.Since B w' := h.grown hg hB hr
theorem own_block {w : World} {B : Nat} {v : Value} {n : Nat} {x : Nat → Nat} (h : Own w B v n x) : ∀ k, v.ownBlock = some k → B ≤ k := fun k hk => by
  rcases h.2 with ⟨rfl, _⟩ | ⟨g, cap, cur, rfl, hb, _⟩
  · simp [Value.ownBlock] at hk
  · obtain rfl : g = k := by simpa [Value.ownBlock] using hk
    exact hb
theorem own_row {w : World} {B : Nat} {v : Value} {n : Nat} {x : Nat → Nat} (h : Own w B v n x) (hn : 0 < n) : ∃ g cap f, v = .slice (some ⟨g, 0, none⟩) n cap ∧ B ≤ g ∧ n ≤ cap ∧ w.rowIs g 5 cap f ∧ ∀ j, j < n → f j = .int .u8 (x j : Nat) := by
  rcases h.2 with ⟨rfl, h0⟩ | ⟨g, cap, cur, rfl, hb, hh, hnc, hm, hsz, htk⟩
  · omega
  · refine ⟨g, cap, fun j => cur[j]?.getD undef, rfl, hb, hnc, ⟨cur, hh, by omega, fun i hi => by show cur[i]? = some (cur[i]?.getD undef); rw [Array.getElem?_eq_getElem (by omega)]; rfl⟩, fun j hj => ?_⟩
    have h2 := congrArg (fun l : List Value => l[j]?) htk
    simp only [Nat.mul_one] at h2
    rw [List.getElem?_take_of_lt hj, get_cellsOf hj, Array.getElem?_toList] at h2
    show cur[j]?.getD undef = _
    rw [h2]; rfl

/-- append, by its run: at the operation. -/
theorem wpList_append_eq {P : Program} {w w' : World} {ops : Array Oper} {rest : List Oper} {o : Oper} {a : Act} {Q : Exit → Act → World → Prop} (hgd : o.guard = none) (s x : Operand) (t : TypeId)
    (ho : o.op = .call { callee := .builtin .append, args := #[s, x], argTypes := #[t, t] }) (v u v' : Value) (hs : a.eval s = v) (hx : a.eval x = u)
    (hrun : (Builtin.append_ #[t, t] o.type #[v, u]).run P w = .ok v' w') (h : wpList P ops Q rest (a.put o.dst v') w') : wpList P ops Q (o :: rest) a w := by
  refine wpList_plain hgd fun K hK => ?_
  unfold Oper.wp
  simp [execOp, ho, resolve, invoke, builtin, hs, hx, hrun, Result.andThen]
  exact hK _ _ h

/-- What is lent: the bytes, three marks behind them. -/
structure Lent (w : World) (g len cap : Nat) (x : Nat → Nat) (f : Nat → Value) : Prop where
  row : w.rowIs g 5 cap f
  room : len + 3 ≤ cap
  cap : cap ≤ 9223372036854775807
  byte : ∀ j, j < len → f j = .int .u8 (x j : Nat)
  k0 : f len = .int .u8 165
  k1 : f (len + 1) = .int .u8 90
  k2 : f (len + 2) = .int .u8 165

/-- Bytes as a string. -/
def strOf (n : Nat) (x : Nat → Nat) : ByteArray := strOfNums ((List.range n).map fun j => (x j : Int))
theorem str_byt (a : Option Addr) (len cap : Nat) (x : Nat → Nat) (w : World) (hb : Byt w a len x) (ha : a = none → len = 0) : (convert 103 9 (.slice a len cap)).run Tryz.prog w = .ok (.string (strOf len x)) w := by
  rcases Nat.eq_zero_or_pos len with rfl | hp
  · cases a with
    | none =>
      rw [run_convert_bytes_nil (P := Tryz.prog) w 103 5 Tryz.underlying103 Tryz.underlying5 0 cap 9 Tryz.underlying9]; rfl
    | some ad =>
      have hl : (loadCells ad 0).run Tryz.prog w = .ok (([] : List Int).map (Value.int .u8)).toArray w := by simpa using run_loadCells_list (P := Tryz.prog) w ad [] (by simp)
      rw [run_convert_bytes_string (P := Tryz.prog) w 103 9 5 _ 0 cap Tryz.underlying103 Tryz.underlying5 Tryz.underlying9, run_bytesToString w ad 0 cap [] hl]; rfl
  · obtain ⟨b, off, rfl, _⟩ := hb 0 hp
    exact run_convert_bytes_arg (P := Tryz.prog) w 103 5 Tryz.underlying103 Tryz.underlying5 b off len cap _ (by simp) (fun i hi => by
      obtain ⟨b', off', e, hc⟩ := hb i hi
      cases e
      rw [hc]; simp [List.getD, hi]) 9 Tryz.underlying9

theorem Lent.byt {w : World} {g len cap : Nat} {x : Nat → Nat} {f : Nat → Value} (h : Lent w g len cap x f) : Byt w (some ⟨g, 0, none⟩) len x := fun j hj =>
  ⟨g, 0, rfl, by rw [Nat.zero_add, h.row.cell (by have := h.room; omega), h.byte j hj]⟩
theorem Lent.since {w w' : World} {g len cap : Nat} {x : Nat → Nat} {f : Nat → Value} (h : Lent w g len cap x f) (hs : w.Since w.heap.size w') : Lent w' g len cap x f :=
  ⟨h.row.of_block (hs.block g h.row.lt), h.room, h.cap, h.byte, h.k0, h.k1, h.k2⟩
theorem Lent.drewN {w : World} {g len cap : Nat} {x : Nat → Nat} {f : Nat → Value} (h : Lent w g len cap x f) (n : Nat) : Lent (w.drewN n) g len cap x f := ⟨h.row, h.room, h.cap, h.byte, h.k0, h.k1, h.k2⟩

end Go.Proofs.YtdhhjdacidhmjaaGreat

/- Messages in memory, apart from how they are written. -/
namespace Go.Proofs.YtdhhjdacidhmjaaGreat
open Go.RowKit
set_option maxRecDepth 100000
set_option maxRecDepth 100000

/-- A message: its numbers and its texts, by the cell in which they lie. -/
structure Mg where
  n : Nat → Int
  s : Nat → List Nat
def mg0 : Mg := ⟨fun _ => 0, fun _ => []⟩
def Mg.setN (m : Mg) (c : Nat) (v : Int) : Mg := ⟨fun i => if i = c then v else m.n i, m.s⟩
def Mg.setS (m : Mg) (c : Nat) (l : List Nat) : Mg := ⟨m.n, fun i => if i = c then l else m.s i⟩
theorem Mg.ext' {a b : Mg} (h1 : ∀ c, a.n c = b.n c) (h2 : ∀ c, a.s c = b.s c) : a = b := by
  obtain ⟨n1, s1⟩ := a
  obtain ⟨n2, s2⟩ := b
  have e1 : n1 = n2 := funext h1
  have e2 : s1 = s2 := funext h2
  rw [e1, e2]
def strL (l : List Nat) : ByteArray := strOfNums (l.map fun v : Nat => (v : Int))
def isU (i : Nat) : Bool := i == 4 || i == 5 || i == 6 || i == 7 || i == 9 || i == 12 || i == 15 || i == 16 || i == 17
/-- The cells of a message; va, vc: where its Value lies, and its room. -/
def mgCell (m : Mg) (va : Option Addr) (vc : Nat) (i : Nat) : Value :=
  if i = 10 then .slice va (m.s 10).length vc else if i = 13 ∨ i = 14 then .string (strL (m.s i)) else if isU i = true then .int .u64 (m.n i) else .int .i64 (m.n i)
theorem mgCell_u {m : Mg} {va : Option Addr} {vc i : Nat} (h : isU i = true) : mgCell m va vc i = .int .u64 (m.n i) := by
  have h10 : i ≠ 10 := fun e => by rw [e] at h; exact absurd h (by decide)
  have h13 : ¬ (i = 13 ∨ i = 14) := fun e => by rcases e with e | e <;> (rw [e] at h; exact absurd h (by decide))
  unfold mgCell
  rw [if_neg h10, if_neg h13, if_pos h]
theorem mgCell_i {m : Mg} {va : Option Addr} {vc i : Nat} (h : isU i = false) (h10 : i ≠ 10) (h13 : i ≠ 13) (h14 : i ≠ 14) : mgCell m va vc i = .int .i64 (m.n i) := by
  unfold mgCell
  rw [if_neg h10, if_neg (by omega), if_neg (by rw [h]; decide)]
def mgNum (c : Nat) (v : Int) : Value := if isU c = true then .int .u64 v else .int .i64 v
theorem mgCell_setN (m : Mg) (va : Option Addr) (vc c : Nat) (v : Int) (h10 : c ≠ 10) (h13 : c ≠ 13) (h14 : c ≠ 14) (i : Nat) : mgCell (m.setN c v) va vc i = if i = c then mgNum c v else mgCell m va vc i := by
  by_cases e : i = c
  · subst e
    rw [if_pos rfl]
    unfold mgCell mgNum
    rw [if_neg h10, if_neg (by omega)]
    simp [Mg.setN]
  · rw [if_neg e]
    unfold mgCell
    simp [Mg.setN, e]
theorem mgCell_setS (m : Mg) (va : Option Addr) (vc c : Nat) (l : List Nat) (h : c = 13 ∨ c = 14) (i : Nat) : mgCell (m.setS c l) va vc i = if i = c then .string (strL l) else mgCell m va vc i := by
  by_cases e : i = c
  · subst e
    rw [if_pos rfl]
    unfold mgCell
    rw [if_neg (by omega), if_pos h]
    simp [Mg.setS]
  · rw [if_neg e]
    unfold mgCell
    have : (10 : Nat) ≠ c := by omega
    simp [Mg.setS, e, this]
theorem mgCell_setV (m : Mg) (va ta : Option Addr) (vc k : Nat) (l : List Nat) (i : Nat) : mgCell (m.setS 10 l) ta k i = if i = 10 then .slice ta l.length k else mgCell m va vc i := by
  by_cases e : i = 10
  · subst e
    rw [if_pos rfl]
    unfold mgCell
    simp [Mg.setS]
  · rw [if_neg e]
    unfold mgCell
    simp [Mg.setS, e]
/-- The bytes of a string. -/
def bx (s : ByteArray) (j : Nat) : Nat := (s.data.toList.getD j 0).toNat
theorem bx_lt (s : ByteArray) (j : Nat) : bx s j < 256 := (s.data.toList.getD j 0).toNat_lt
/-- Block g is what []byte(s) made: the bytes, then zeros, c in all. -/
structure FlB (w : World) (g c : Nat) (s : ByteArray) : Prop where
  blk : ∃ cs, w.heap[g]? = some (.cells cs 5 (c, c + 1)) ∧ cs.size = c ∧ (∀ j, j < s.size → cs[j]? = some (.int .u8 (bx s j : Nat))) ∧ ∀ j, j < c → ∃ q : Nat, cs[j]? = some (.int .u8 (q : Nat))
  le : s.size ≤ c
theorem FlB.on {w w' : World} {g c : Nat} {s : ByteArray} (h : FlB w g c s) (e : w'.heap[g]? = w.heap[g]?) : FlB w' g c s := by
  obtain ⟨cs, h1, h2⟩ := h.blk
  exact ⟨⟨cs, e.trans h1, h2⟩, h.le⟩
theorem FlB.lt {w : World} {g c : Nat} {s : ByteArray} (h : FlB w g c s) : g < w.heap.size := by
  obtain ⟨cs, h1, h2⟩ := h.blk
  exact (Array.getElem?_eq_some_iff.1 h1).1
theorem FlB.cell {w : World} {g c : Nat} {s : ByteArray} (h : FlB w g c s) (j : Nat) (hj : j < s.size) : w.cell? ⟨g, j, none⟩ = some (.int .u8 (bx s j : Nat)) := by
  obtain ⟨cs, h1, h2, h3, _⟩ := h.blk
  simp [World.cell?, h1, h3 j hj]
theorem FlB.byt {w : World} {g c : Nat} {s : ByteArray} (h : FlB w g c s) : Byt w (some ⟨g, 0, none⟩) s.size (bx s) := fun j hj => ⟨g, 0, rfl, by rw [Nat.zero_add]; exact h.cell j hj⟩
theorem flb_new (w : World) (s : ByteArray) : FlB (Lib.bytesWorld w 5 s) w.heap.size (grownCap w s.size 0 5) s := by
  have hc := grownCap_ge w s.size 0 5
  have hds : s.data.size = s.size := rfl
  have hsz : (Lib.bytesCells w 5 s).size = grownCap w s.size 0 5 := by
    unfold Lib.bytesCells
    rw [Array.size_append, Array.size_map, Array.size_replicate]
    omega
  refine ⟨⟨Lib.bytesCells w 5 s, ?_, hsz, fun j hj => ?_, fun j hj => ?_⟩, hc⟩
  · rw [Lib.bytesWorld_at_new, hsz]
  · unfold Lib.bytesCells bx
    rw [Array.getElem?_append_left (by rw [Array.size_map]; omega), Array.getElem?_map, Array.getElem?_eq_getElem (by omega)]
    simp only [List.getD, Array.getElem?_toList, Option.map_some]
    rw [Array.getElem?_eq_getElem (by omega)]
    rfl
  · unfold Lib.bytesCells
    by_cases h : j < s.data.size
    · rw [Array.getElem?_append_left (by rw [Array.size_map]; omega), Array.getElem?_map, Array.getElem?_eq_getElem h]
      exact ⟨s.data[j].toNat, rfl⟩
    · rw [Array.getElem?_append_right (by rw [Array.size_map]; omega), Array.getElem?_replicate, Array.size_map, if_pos (by omega)]
      exact ⟨0, rfl⟩
theorem since_bytes (w : World) (s : ByteArray) : w.Since w.heap.size (Lib.bytesWorld w 5 s) :=
  ⟨rfl, rfl, rfl, by rw [Lib.bytesWorld_size]; omega, fun k hk => Lib.bytesWorld_at_old w _ s k hk⟩
theorem strL_size (l : List Nat) : (strL l).size = l.length := by unfold strL; rw [strOfNums_size]; simp
theorem bx_strL {l : List Nat} (h : ∀ v ∈ l, v < 256) (j : Nat) : bx (strL l) j = l.getD j 0 := by
  unfold bx strL
  rw [strOfNums_data]
  by_cases hj : j < l.length
  · have hv := h l[j] (List.getElem_mem hj)
    have e : (l.map fun v : Nat => (v : Int)).map (fun n => UInt8.ofNat n.toNat) = l.map fun v => UInt8.ofNat v := by
      rw [List.map_map]
      exact List.map_congr_left fun v _ => by simp
    rw [e]
    simp only [List.getD, List.getElem?_map, List.getElem?_eq_getElem hj, Option.map_some, Option.getD_some]
    rw [UInt8.toNat_ofNat']
    omega
  · simp [List.getD, hj]
theorem strOf_strL (n : Nat) (x : Nat → Nat) : strOf n x = strL ((List.range n).map x) := by
  unfold strOf strL
  rw [List.map_map]
  rfl
theorem strL_inj {a b : List Nat} (ha : ∀ v ∈ a, v < 256) (hb : ∀ v ∈ b, v < 256) (h : strL a = strL b) : a = b := by
  have hl : a.length = b.length := by rw [← strL_size a, ← strL_size b, h]
  refine List.ext_getElem hl (fun j h1 h2 => ?_)
  have := congrArg (fun s => bx s j) h
  simp only [bx_strL ha, bx_strL hb] at this
  simpa [List.getD, h1, h2] using this
/-- The bytes of a string as a list. -/
def listS (s : ByteArray) : List Nat := s.data.toList.map (·.toNat)
theorem listS_len (s : ByteArray) : (listS s).length = s.size := by unfold listS; rw [List.length_map, Array.length_toList]; rfl
theorem listS_byte (s : ByteArray) : ∀ v ∈ listS s, v < 256 := fun v hv => by
  obtain ⟨u, _, rfl⟩ := List.mem_map.1 hv
  exact u.toNat_lt
theorem strL_listS (s : ByteArray) : strL (listS s) = s := by
  unfold strL listS strOfNums
  rw [List.map_map, List.map_map]
  have : (((fun n : Int => UInt8.ofNat n.toNat) ∘ fun v : Nat => (v : Int)) ∘ fun x : UInt8 => x.toNat) = id := by
    funext u
    simp
  rw [this]
  simp
/-- Nothing that was there has turned but block r. -/
structure But (r : Nat) (w w' : World) : Prop where
  os : w'.os = w.os
  tape : w'.tape = w.tape
  output : w'.output = w.output
  size : w.heap.size ≤ w'.heap.size
  block : ∀ k, k < w.heap.size → k ≠ r → w'.heap[k]? = w.heap[k]?
theorem But.of_since {r : Nat} {w w' : World} (h : w.Since w.heap.size w') : But r w w' := ⟨h.os, h.tape, h.output, h.size, fun k hk _ => h.block k hk⟩
theorem But.trans {r : Nat} {a b c : World} (h : But r a b) (k : But r b c) : But r a c :=
  ⟨k.os.trans h.os, k.tape.trans h.tape, k.output.trans h.output, Nat.le_trans h.size k.size, fun i hi hr => (k.block i (Nat.lt_of_lt_of_le hi h.size) hr).trans (h.block i hi hr)⟩
theorem But.setCell {r : Nat} {w w' : World} (h : But r w w') (i : Nat) (v : Value) : But r w (w'.setCell ⟨r, i, none⟩ v) :=
  ⟨h.os, h.tape, h.output, by have := h.size; simpa [World.setCell] using this, fun k hk hr => by rw [Below.heap_setCell _ _ _ _ hr]; exact h.block k hk hr⟩
theorem But.drew {r : Nat} {w w' : World} (h : But r w w') : But r w w'.drew := ⟨h.os, h.tape, h.output, h.size, h.block⟩
theorem But.since {r B : Nat} {w0 w w' : World} (h0 : w0.Since B w) (hB : B ≤ r) (hB2 : B ≤ w.heap.size) (h : But r w w') : w0.Since B w' :=
  ⟨h.os.trans h0.os, h.tape.trans h0.tape, h.output.trans h0.output, Nat.le_trans h0.size h.size, fun k hk => (h.block k (by omega) (by omega)).trans (h0.block k hk)⟩
theorem But.row {r b t n : Nat} {w w' : World} {f : Nat → Value} (h : But r w w') (hr : w.rowIs b t n f) (hb : b ≠ r) : w'.rowIs b t n f := hr.of_block (h.block b hr.lt hb)
theorem But.setNew {r : Nat} {w w' : World} (h : But r w w') {a : Addr} (ha : w.heap.size ≤ a.block) (v : Value) : But r w (w'.setCell a v) :=
  ⟨h.os, h.tape, h.output, by have := h.size; simpa [World.setCell] using this, fun k hk hr => by rw [Below.heap_setCell _ _ _ _ (by omega)]; exact h.block k hk hr⟩
theorem But.range {r : Nat} {w w' : World} (h : But r w w') {b : Nat} {cs : List Value} (hb : b ≠ r) (hl : b < w.heap.size) (hr : w.rangeAt b 0 cs) : w'.rangeAt b 0 cs := fun j v hv => by
  rw [World.cell?_of_block (a := ⟨b, 0 + j, none⟩) (h.block b hl hb)]
  exact hr j v hv
theorem But.sin {r : Nat} {w w1 w2 : World} (h : But r w w1) (k : w1.Since w1.heap.size w2) : But r w w2 := h.trans (But.of_since k)
theorem row_since {w w' : World} {b t n : Nat} {f : Nat → Value} (h : w.rowIs b t n f) (hs : w.Since w.heap.size w') : w'.rowIs b t n f := h.of_block (hs.block b h.lt)
def mgL (m : Mg) (va : Option Addr) (vc : Nat) : List Value := (List.range 22).map (mgCell m va vc)
def mgV (m : Mg) (va : Option Addr) (vc : Nat) : Value := .agg (mgL m va vc).toArray
theorem mgL_len (m : Mg) (va : Option Addr) (vc : Nat) : (mgL m va vc).length = 22 := by simp [mgL]
theorem infoMg : (Tryz.prog.info? 108).map (·.size) = some 22 := by kernel_rfl
theorem infoMg' (m : Mg) (va : Option Addr) (vc : Nat) : (Tryz.prog.info? 108).map (·.size) = some (mgL m va vc).length := by rw [mgL_len]; exact infoMg
theorem mgCell_one (m : Mg) (va : Option Addr) (vc i : Nat) : (mgCell m va vc i).oneCell' = true := by
  unfold mgCell
  split
  · rfl
  · split
    · rfl
    · split <;> rfl
theorem mgL_one (m : Mg) (va : Option Addr) (vc : Nat) : ∀ v ∈ mgL m va vc, v.oneCell' = true := fun v hv => by
  obtain ⟨i, _, rfl⟩ := List.mem_map.1 hv
  exact mgCell_one m va vc i
theorem mgL_range {w : World} {mb : Nat} {m : Mg} {va : Option Addr} {vc : Nat} (h : w.rowIs mb 108 22 (mgCell m va vc)) : w.rangeAt mb 0 (mgL m va vc) := fun j v hv => by
  have hj : j < 22 := by have := (List.getElem?_eq_some_iff.1 hv).1; rwa [mgL_len] at this
  have : v = mgCell m va vc j := by
    unfold mgL at hv
    rw [List.getElem?_map, List.getElem?_range hj] at hv
    exact (Option.some.inj hv).symm
  rw [this, Nat.zero_add]
  exact h.cell hj
theorem row_there {w : World} {b t k : Nat} {f : Nat → Value} (h : w.rowIs b t k f) : w.there b 0 k := fun j hj => ⟨by rw [Nat.zero_add, h.cell hj]; rfl, by rw [Nat.zero_add]; exact h.frozen j⟩
/-- A message of nothing. -/
def mgZ : Obj := .cells #[.int .i64 0, .int .i64 0, .int .i64 0, .int .i64 0, .int .u64 0, .int .u64 0, .int .u64 0, .int .u64 0, .int .i64 0, .int .u64 0, .slice none 0 0, .int .i64 0, .int .u64 0, .string ⟨#[]⟩, .string ⟨#[]⟩, .int .u64 0, .int .u64 0, .int .u64 0, .int .i64 0, .int .i64 0, .int .i64 0, .int .i64 0] 108
theorem mgZ_row (w : World) : (w.alloc mgZ).rowIs w.heap.size 108 22 (mgCell mg0 none 0) :=
  World.rowIs_alloc w _ _ _ (fun i hi => by
    have hi' : i < 22 := hi
    have : ∀ j : Fin 22, (#[Value.int .i64 0, .int .i64 0, .int .i64 0, .int .i64 0, .int .u64 0, .int .u64 0, .int .u64 0, .int .u64 0, .int .i64 0, .int .u64 0, .slice none 0 0, .int .i64 0, .int .u64 0, .string ⟨#[]⟩, .string ⟨#[]⟩, .int .u64 0, .int .u64 0, .int .u64 0, .int .i64 0, .int .i64 0, .int .i64 0, .int .i64 0] : Array Value)[j.val]? = some (mgCell mg0 none 0 j.val) := by
      intro j
      match j with
      | ⟨0, _⟩ => rfl
      | ⟨1, _⟩ => rfl
      | ⟨2, _⟩ => rfl
      | ⟨3, _⟩ => rfl
      | ⟨4, _⟩ => rfl
      | ⟨5, _⟩ => rfl
      | ⟨6, _⟩ => rfl
      | ⟨7, _⟩ => rfl
      | ⟨8, _⟩ => rfl
      | ⟨9, _⟩ => rfl
      | ⟨10, _⟩ => rfl
      | ⟨11, _⟩ => rfl
      | ⟨12, _⟩ => rfl
      | ⟨13, _⟩ => rfl
      | ⟨14, _⟩ => rfl
      | ⟨15, _⟩ => rfl
      | ⟨16, _⟩ => rfl
      | ⟨17, _⟩ => rfl
      | ⟨18, _⟩ => rfl
      | ⟨19, _⟩ => rfl
      | ⟨20, _⟩ => rfl
      | ⟨21, _⟩ => rfl
      | ⟨n + 22, h⟩ => exact absurd h (by omega)
    exact this ⟨i, hi'⟩)
theorem op_run {P : Program} {o : Oper} {a : Act} {w : World} {K : Act → World → Prop} {Q : Exit → Act → World → Prop} (v : Value) (hrun : (execOp a.eval o).run P w = .ok (.value v) w) (h : K (a.put o.dst v) w) : Oper.wp P o a w K Q := by
  unfold Oper.wp
  rw [hrun]
  exact h
theorem op_runW {P : Program} {o : Oper} {a : Act} {w w' : World} {K : Act → World → Prop} {Q : Exit → Act → World → Prop} (v : Value) (hrun : (execOp a.eval o).run P w = .ok (.value v) w') (h : K (a.put o.dst v) w') : Oper.wp P o a w K Q := by
  unfold Oper.wp
  rw [hrun]
  exact h
theorem mgV_zero : mgV mg0 none 0 = .agg #[.int .i64 0, .int .i64 0, .int .i64 0, .int .i64 0, .int .u64 0, .int .u64 0, .int .u64 0, .int .u64 0, .int .i64 0, .int .u64 0, .slice none 0 0, .int .i64 0, .int .u64 0, .string ⟨#[]⟩, .string ⟨#[]⟩, .int .u64 0, .int .u64 0, .int .u64 0, .int .i64 0, .int .i64 0, .int .i64 0, .int .i64 0] := rfl
theorem mg_all (m : Mg) (va : Option Addr) (vc : Nat) : (mgL m va vc).toArray.all (·.oneCell') = true := all_oneCell_toArray (mgL_one m va vc)
theorem infoMgA (m : Mg) (va : Option Addr) (vc : Nat) : (Tryz.prog.info? 108).map (·.size) = some (mgL m va vc).toArray.size := by rw [List.size_toArray]; exact infoMg' m va vc
theorem row_heap {w : World} {b : Nat} {t : TypeId} {n : Nat} {f : Nat → Value} (h : w.rowIs b t n f) : w.heap[b]? = some (.cells ((List.range n).map f).toArray t (0, 0)) := by
  obtain ⟨c, h1, h2, h3⟩ := h
  have : c = ((List.range n).map f).toArray := by
    refine Array.ext (by simp [h2]) (fun i i1 i2 => ?_)
    have := h3 i (by omega)
    rw [Array.getElem?_eq_getElem i1] at this
    rw [Option.some.inj this]
    simp
  rw [h1, this]
/-- A message stored whole. -/
theorem mg_stored {W : World} {qb : Nat} {f : Nat → Value} (h : W.rowIs qb 108 22 f) (m : Mg) (va : Option Addr) (vc : Nat) : ∃ W1, Hid (W.setCells qb 0 (mgL m va vc) = W1) ∧ W1.rowIs qb 108 22 (mgCell m va vc) ∧ W1.heap[qb]? = some (.cells (mgL m va vc).toArray 108 (0, 0)) ∧ W1.heap.size = W.heap.size ∧ (∀ k, k ≠ qb → W1.heap[k]? = W.heap[k]?) ∧ W1.os = W.os ∧ W1.tape = W.tape ∧ W1.output = W.output := by
  have hr := rowIs_setCells (mgL m va vc) 0 W f h
  have hr2 : (W.setCells qb 0 (mgL m va vc)).rowIs qb 108 22 (mgCell m va vc) := hr.congr (fun j hj => by
    rw [if_pos ⟨Nat.zero_le _, by rw [mgL_len]; omega⟩, Nat.sub_zero]
    simp [mgL, List.getD, hj])
  have hk : ∀ (vs : List Value) (o : Nat) (W : World), (∀ k, k ≠ qb → (W.setCells qb o vs).heap[k]? = W.heap[k]?) ∧ (W.setCells qb o vs).os = W.os ∧ (W.setCells qb o vs).tape = W.tape ∧ (W.setCells qb o vs).output = W.output := by
    intro vs
    induction vs with
    | nil => intro o W; exact ⟨fun _ _ => rfl, rfl, rfl, rfl⟩
    | cons v r ih =>
      intro o W
      obtain ⟨i1, i2, i3, i4⟩ := ih (o + 1) (W.setCell ⟨qb, o, none⟩ v)
      exact ⟨fun k hk => (i1 k hk).trans (Below.heap_setCell _ _ _ _ hk), i2, i3, i4⟩
  obtain ⟨h1, h2, h3, h4⟩ := hk (mgL m va vc) 0 W
  exact ⟨_, rfl, hr2, row_heap hr2, size_setCells _ _ _ _, h1, h2, h3, h4⟩
theorem step_callW {P : Program} {ops : Array Oper} {o : Oper} {a : Act} {w : World} {K : Act → World → Prop} {Q : Exit → Act → World → Prop} {E : Prop} (hw : Region.wanted o (yielded ops a.tmps) = true) (f : FuncId) (args : Array Value) (hrun : (execOp a.eval o).run P w = .ok (.enter f args) w) {Post : Ending → World → Prop} (hc : Calls P f args w Post)
    (h : ∀ e w', Post e w' → ∃ v, e = .returned v ∧ K (a.put o.dst v) w') : if Region.wanted o (yielded ops a.tmps) = true then Oper.wp P o a w K Q else E := by
  rw [if_pos hw]
  unfold Oper.wp
  rw [hrun, Oper.upon_enter]
  refine hc.mono fun e w'' hh => ?_
  obtain ⟨v, rfl, hk⟩ := h e w'' hh
  exact hk
theorem step_storeM {P : Program} {ops : Array Oper} {o : Oper} {a : Act} {w : World} {K : Act → World → Prop} {Q : Exit → Act → World → Prop} {E : Prop} (hw : Region.wanted o (yielded ops a.tmps) = true) (h : Oper.wp P o a w K Q) : if Region.wanted o (yielded ops a.tmps) = true then Oper.wp P o a w K Q else E := by
  rw [if_pos hw]
  exact h
/-- A message that is handed in: its Value lies in memory. -/
structure MgA (w : World) (m : Mg) (va : Option Addr) (vc : Nat) : Prop where
  val : Byt w va (m.s 10).length (fun j => (m.s 10).getD j 0)
  nil : va = none → (m.s 10).length = 0 ∧ vc = 0
  lt : ∀ q, va = some q → 0 < (m.s 10).length → q.block < w.heap.size
  len : ∀ c, (m.s c).length ≤ 140737488351232
  byte : ∀ c, ∀ v ∈ m.s c, v < 256
theorem MgA.since {w w' : World} {m : Mg} {va : Option Addr} {vc : Nat} (h : MgA w m va vc) (hs : w.Since w.heap.size w') : MgA w' m va vc :=
  ⟨h.val.since hs, h.nil, fun q e h0 => Nat.lt_of_lt_of_le (h.lt q e h0) hs.size, h.len, h.byte⟩
theorem mg_row (w : World) (m : Mg) (va : Option Addr) (vc : Nat) : (w.alloc (.cells (mgL m va vc).toArray 108)).rowIs w.heap.size 108 22 (mgCell m va vc) := by
  have := World.rowIs_alloc w (mgL m va vc).toArray 108 (mgCell m va vc) (fun i hi => by
    have hi : i < 22 := by rw [List.size_toArray, mgL_len] at hi; exact hi
    rw [List.getElem?_toArray]
    unfold mgL
    rw [List.getElem?_map, List.getElem?_range hi]
    rfl)
  have e : (mgL m va vc).toArray.size = 22 := by rw [List.size_toArray, mgL_len]
  rw [e] at this
  exact this
theorem getD_byte {l : List Nat} (h : ∀ v ∈ l, v < 256) (j : Nat) : l.getD j 0 < 256 := by
  by_cases hj : j < l.length
  · have := h l[j] (List.getElem_mem hj)
    simpa [List.getD, hj] using this
  · simp [List.getD, hj]
theorem row_setN {W : World} {kb : Nat} {m : Mg} {va : Option Addr} {vc : Nat} (h : W.rowIs kb 108 22 (mgCell m va vc)) (c : Nat) (v : Int) (h10 : c ≠ 10) (h13 : c ≠ 13) (h14 : c ≠ 14) : (W.setCell ⟨kb, c, none⟩ (mgNum c v)).rowIs kb 108 22 (mgCell (m.setN c v) va vc) :=
  (h.set c _).congr (fun i _ => (mgCell_setN m va vc c v h10 h13 h14 i).symm)
theorem row_setS {W : World} {kb : Nat} {m : Mg} {va : Option Addr} {vc : Nat} (h : W.rowIs kb 108 22 (mgCell m va vc)) (c : Nat) (l : List Nat) (hc : c = 13 ∨ c = 14) : (W.setCell ⟨kb, c, none⟩ (.string (strL l))).rowIs kb 108 22 (mgCell (m.setS c l) va vc) :=
  (h.set c _).congr (fun i _ => (mgCell_setS m va vc c l hc i).symm)
theorem row_setV {W : World} {kb : Nat} {m : Mg} {va : Option Addr} {vc : Nat} (h : W.rowIs kb 108 22 (mgCell m va vc)) (l : List Nat) (ta : Option Addr) (k : Nat) : (W.setCell ⟨kb, 10, none⟩ (.slice ta l.length k)).rowIs kb 108 22 (mgCell (m.setS 10 l) ta k) :=
  (h.set 10 _).congr (fun i _ => (mgCell_setV m va ta vc k l i).symm)
theorem range_getD (l : List Nat) : (List.range l.length).map (fun j => l.getD j 0) = l := by
  apply List.ext_getElem?
  intro j
  by_cases h : j < l.length
  · simp [h]
  · simp [h]
theorem cell_later {w w' : World} {b i : Nat} {v : Value} (hs : w.Since w.heap.size w') (h : w.cell? ⟨b, i, none⟩ = some v) : w'.cell? ⟨b, i, none⟩ = some v := by
  rw [World.cell?_of_block (a := ⟨b, i, none⟩) (hs.block _ (World.block_lt_of_cell? _ _ h))]; exact h
theorem wpList_load_rowG {P : Program} {ops : Array Oper} {rest : List Oper} {o : Oper} {a : Act} {w : World} {Q : Exit → Act → World → Prop} (hw : Region.wanted o (yielded ops a.tmps) = true) (ty : TypeId) (x : Operand) (ho : o.op = .load ty x)
    (g : Nat) (hx : a.eval x = .pointer (some ⟨g, 0, none⟩)) (t : TypeId) (cs : Array Value) (fr : Nat × Nat) (d : TypeDesc) (hg : w.heap[g]? = some (.cells cs t fr))
    (hu : P.underlying ty = some d) (hd : (match d with | .struct _ | .array _ _ => true | _ => false) = true) (hi : (P.info? ty).map (·.size) = some cs.size)
    (h : wpList P ops Q rest (a.put o.dst (.agg cs)) w) : wpList P ops Q (o :: rest) a w :=
  wpList_step fun _ hK => by
    rw [if_pos hw]
    exact wp_load_row ty x ho g hx t cs fr d hg hu hd hi (hK _ _ h)
/-- A message is laid into new memory. -/
theorem mg_put (w : World) (m : Mg) (va : Option Addr) (vc : Nat) : ∃ (W : World) (MA : Array Value), Hid (mgV m va vc = .agg MA) ∧ Hid ((w.alloc (.cells #[.int .i64 0, .int .i64 0, .int .i64 0, .int .i64 0, .int .u64 0, .int .u64 0, .int .u64 0, .int .u64 0, .int .i64 0, .int .u64 0, .slice none 0 0, .int .i64 0, .int .u64 0, .string ⟨#[]⟩, .string ⟨#[]⟩, .int .u64 0, .int .u64 0, .int .u64 0, .int .i64 0, .int .i64 0, .int .i64 0, .int .i64 0] 108)).there w.heap.size 0 MA.size) ∧ Hid ((w.alloc (.cells #[.int .i64 0, .int .i64 0, .int .i64 0, .int .i64 0, .int .u64 0, .int .u64 0, .int .u64 0, .int .u64 0, .int .i64 0, .int .u64 0, .slice none 0 0, .int .i64 0, .int .u64 0, .string ⟨#[]⟩, .string ⟨#[]⟩, .int .u64 0, .int .u64 0, .int .u64 0, .int .i64 0, .int .i64 0, .int .i64 0, .int .i64 0] 108)).setCells w.heap.size 0 MA.toList = W) ∧ Hid ((Tryz.prog.info? 108).map (·.size) = some MA.size) ∧ Hid (MA.all (·.oneCell') = true) ∧ Hid (∀ W', W.Since W.heap.size W' → W'.heap[w.heap.size]? = some (.cells MA 108 (0, 0))) ∧ Hid (w.Since w.heap.size W) := by
  have r6 : (w.alloc mgZ).rowIs w.heap.size 108 22 (mgCell mg0 none 0) := mgZ_row w
  obtain ⟨W, HW, r7, h7, z7, b7, o7, t7, p7⟩ := mg_stored r6 m va vc
  have s6 : w.Since w.heap.size (w.alloc mgZ) := (World.Since.refl _ _).alloc (Nat.le_refl _) _
  have hms : (mgL m va vc).toArray.size = 22 := by rw [List.size_toArray, mgL_len]
  refine ⟨W, (mgL m va vc).toArray, rfl, ?_, HW, infoMgA _ _ _, mg_all _ _ _, fun W' hW => ?_, o7.trans s6.os, t7.trans s6.tape, p7.trans s6.output, by rw [z7]; exact s6.size, fun k hk => (b7 k (by omega)).trans (s6.block k hk)⟩
  · show World.there _ _ _ _
    rw [hms]
    exact row_there r6
  · rw [hW.block w.heap.size (by rw [z7]; exact r6.lt)]
    exact h7
end Go.Proofs.YtdhhjdacidhmjaaGreat
