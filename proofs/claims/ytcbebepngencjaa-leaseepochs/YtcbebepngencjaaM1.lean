/- Own texts, joined: LS1, LS2, LS3, LS4, LS5, LS6, FamB, LS15. -/
import Derived.Test.YtcbebepngencjaaRows
import Derived.WalkKit
import Derived.Laws.BitsAllLaws
import Derived.Deep.LoopGhost
import Derived.Deep.OwnRows
import Derived.Deep.Cut
import Derived.Deep.Light
import Derived.Deep.CutRange
import Derived.CellFam
import Derived.BigGuard
import Derived.BigQuiet
import Derived.BigRegion
import Derived.Deep.RegionWith
import Derived.Deep.QuietTactic
import Derived.Deep.RegionLaw
import Derived.Deep.RegionHeld3
import Derived.Laws.EntriesVeiled
import Derived.Laws.ByValue
import Derived.Laws.ResultCell
import Derived.Laws.NewBlocks
import Derived.Laws.Rows
import Derived.Below
import Derived.Test.YtcbebepngencjaaProg
import Derived.OwnWalk
import Derived.Deep.Onto
import Derived.Deep.DeepAppendWide
import Derived.Deep.CutBlock

/- Package lease: a lease in memory, its small calls. -/
namespace Go.Proofs.Ytcbebepngencjaa
open Go.RowKit
set_option maxRecDepth 100000
set_option maxRecDepth 100000

/-- What a step leaves: nothing outside F has turned. -/
structure Mv (F : Nat → Prop) (w w' : World) : Prop where
  os : w'.os = w.os
  tape : w'.tape = w.tape
  output : w'.output = w.output
  size : w.heap.size ≤ w'.heap.size
  block : ∀ k, k < w.heap.size → ¬ F k → w'.heap[k]? = w.heap[k]?
theorem Mv.trans {F : Nat → Prop} {a b c : World} (h : Mv F a b) (k : Mv F b c) : Mv F a c :=
  ⟨k.os.trans h.os, k.tape.trans h.tape, k.output.trans h.output, Nat.le_trans h.size k.size, fun q hq hn => (k.block q (Nat.lt_of_lt_of_le hq h.size) hn).trans (h.block q hq hn)⟩
theorem Mv.refl (F : Nat → Prop) (w : World) : Mv F w w := ⟨rfl, rfl, rfl, Nat.le_refl _, fun _ _ _ => rfl⟩
theorem Mv.of_below {F : Nat → Prop} {w w' : World} (h : Below w.heap.size w w') : Mv F w w' := ⟨h.os, h.tape, h.output, h.size, fun k hk _ => h.block k hk⟩
theorem Mv.below {F : Nat → Prop} {w0 w w' : World} {B : Nat} (h0 : Below B w0 w) (hB : B ≤ w.heap.size) (hF : ∀ k, F k → B ≤ k) (h : Mv F w w') : Below B w0 w' :=
  h0.trans ⟨h.os, h.tape, h.output, h.size, fun k hk => h.block k (Nat.lt_of_lt_of_le hk hB) (fun hf => by have := hF k hf; omega)⟩
theorem Mv.mono {F G : Nat → Prop} {w w' : World} (h : Mv F w w') (hG : ∀ k, F k → G k) : Mv G w w' := ⟨h.os, h.tape, h.output, h.size, fun k hk hn => h.block k hk (fun hf => hn (hG k hf))⟩
theorem Mv.drewN {F : Nat → Prop} {w w' : World} (h : Mv F w w') (q : Nat) : Mv F (w.drewN q) w' := ⟨h.os, h.tape, h.output, h.size, h.block⟩


theorem set_mv {w : World} {b t n i : Nat} {f : Nat → Value} (_ : w.rowIs b t n f) (v : Value) : Mv (fun k => k = b) w (w.setCell ⟨b, i, none⟩ v) :=
  ⟨rfl, rfl, rfl, by simp [World.setCell], fun k _ hn => Below.heap_setCell _ _ _ _ hn⟩

/-- A lease as plain data. -/
structure Ls where
  left : Nat
  since : Nat
  quiet : Nat
  place : Nat
  copies : Nat
  most : Nat
  seen : Nat
  pat : Nat
structure Ls.Ok (s : Ls) : Prop where
  hl : s.left ≤ 9223372036854775807
  hs : s.since ≤ 9223372036854775807
  hq : s.quiet ≤ 9223372036854775807
  hp : s.place < s.copies
  hc : s.copies ≤ 9223372036854775807
  hm : s.most ≤ 9223372036854775807
  he : s.seen < 18446744073709551616
  h4 : 4 ≤ s.pat
  hpm : s.pat ≤ s.most
def lsCell (s : Ls) (i : Nat) : Value := if i = 0 then .int .i64 (s.left : Nat) else if i = 1 then .int .i64 (s.since : Nat) else if i = 2 then .int .i64 (s.quiet : Nat) else if i = 3 then .int .u64 (s.place : Nat) else if i = 4 then .int .u64 (s.copies : Nat) else if i = 5 then .int .i64 (s.most : Nat) else if i = 6 then .int .u64 (s.seen : Nat) else .int .i64 (s.pat : Nat)
structure LsIs (w : World) (b : Nat) (s : Ls) : Prop where
  row : w.rowIs b 57 8 (lsCell s)
  ok : s.Ok
theorem LsIs.later {w w' : World} {b : Nat} {s : Ls} (h : LsIs w b s) (hb : w'.heap[b]? = w.heap[b]?) : LsIs w' b s := ⟨h.row.of_block hb, h.ok⟩
theorem LsIs.on {w w' : World} {b : Nat} {s : Ls} (h : LsIs w b s) (hb : Below w.heap.size w w') : LsIs w' b s := h.later (hb.block b h.row.lt)
theorem LsIs.lt {w : World} {b : Nat} {s : Ls} (h : LsIs w b s) : b < w.heap.size := h.row.lt
section
variable {w : World} {b : Nat} {s : Ls}
theorem LsIs.c0 (h : LsIs w b s) : w.cell? ⟨b, 0, none⟩ = some (.int .i64 (s.left : Nat)) := h.row.cell (i := 0) (by decide)
theorem LsIs.c1 (h : LsIs w b s) : w.cell? ⟨b, 1, none⟩ = some (.int .i64 (s.since : Nat)) := h.row.cell (i := 1) (by decide)
theorem LsIs.c2 (h : LsIs w b s) : w.cell? ⟨b, 2, none⟩ = some (.int .i64 (s.quiet : Nat)) := h.row.cell (i := 2) (by decide)
theorem LsIs.c3 (h : LsIs w b s) : w.cell? ⟨b, 3, none⟩ = some (.int .u64 (s.place : Nat)) := h.row.cell (i := 3) (by decide)
theorem LsIs.c4 (h : LsIs w b s) : w.cell? ⟨b, 4, none⟩ = some (.int .u64 (s.copies : Nat)) := h.row.cell (i := 4) (by decide)
theorem LsIs.c5 (h : LsIs w b s) : w.cell? ⟨b, 5, none⟩ = some (.int .i64 (s.most : Nat)) := h.row.cell (i := 5) (by decide)
theorem LsIs.c6 (h : LsIs w b s) : w.cell? ⟨b, 6, none⟩ = some (.int .u64 (s.seen : Nat)) := h.row.cell (i := 6) (by decide)
theorem LsIs.c7 (h : LsIs w b s) : w.cell? ⟨b, 7, none⟩ = some (.int .i64 (s.pat : Nat)) := h.row.cell (i := 7) (by decide)
theorem LsIs.fz (h : LsIs w b s) (i : Nat) : w.frozen? ⟨b, i, none⟩ = false := h.row.frozen i
/-- One cell of a lease is written. -/
theorem LsIs.put (h : LsIs w b s) (i : Nat) (v : Value) (s' : Ls) (hv : ∀ j, j < 8 → (if j = i then v else lsCell s j) = lsCell s' j) (ok : s'.Ok) : LsIs (w.setCell ⟨b, i, none⟩ v) b s' ∧ Mv (fun k => k = b) w (w.setCell ⟨b, i, none⟩ v) :=
  ⟨⟨(h.row.set i v).congr hv, ok⟩, set_mv h.row v⟩
end
theorem left_any {w : World} {b : Nat} {s : Ls} (h : LsIs w b s) : Calls Try.prog 11 #[.pointer (some ⟨b, 0, none⟩)] w fun e w' => e = .returned (.int .i64 (s.left : Nat)) ∧ w = w' := by
  have c := h.c0
  clear h
  generalize s.left = x at *
  go_enter Try.func11, Try.ntmps11
  go_wp2
  go_ret
  exact ⟨rfl, rfl⟩
theorem seen_any {w : World} {b : Nat} {s : Ls} (h : LsIs w b s) : Calls Try.prog 16 #[.pointer (some ⟨b, 0, none⟩)] w fun e w' => e = .returned (.int .u64 (s.seen : Nat)) ∧ w = w' := by
  have c := h.c6
  clear h
  generalize s.seen = x at *
  go_enter Try.func16, Try.ntmps16
  go_wp2
  go_ret
  exact ⟨rfl, rfl⟩
theorem patience_any {w : World} {b : Nat} {s : Ls} (h : LsIs w b s) : Calls Try.prog 13 #[.pointer (some ⟨b, 0, none⟩)] w fun e w' => e = .returned (.int .i64 (s.pat : Nat)) ∧ w = w' := by
  have c := h.c7
  clear h
  generalize s.pat = x at *
  go_enter Try.func13, Try.ntmps13
  go_wp2
  go_ret
  exact ⟨rfl, rfl⟩

def satM (a b : Nat) : Nat := if 9223372036854775807 - b < a then 9223372036854775807 else a + b
theorem satM_le {a b : Nat} (hb : b ≤ 9223372036854775807) : satM a b ≤ 9223372036854775807 := by unfold satM; split <;> omega
theorem sum_any (a b : Nat) (hb : b ≤ 9223372036854775807) (w : World) : Calls Try.prog 29 #[.int .i64 (a : Nat), .int .i64 (b : Nat)] w fun e w' => e = .returned (.int .i64 (satM a b : Nat)) ∧ w = w' := by
  obtain ⟨k, hk, hk2⟩ : ∃ k : Nat, 9223372036854775807 - (b : Int) = (k : Int) ∧ k = 9223372036854775807 - b := ⟨9223372036854775807 - b, by omega, rfl⟩
  have hw : IntKind.i64.wrap (k : Int) = (k : Int) := by rw [IntKind.wrap_i64]; omega
  unfold satM
  rw [← hk2]
  by_cases hc : k < a
  · rw [if_pos hc]
    have z : (a : Int) > (k : Int) := by omega
    clear hk2
    go_enter Try.func29, Try.ntmps29
    go_wp2
    go_ret
    exact ⟨rfl, rfl⟩
  · rw [if_neg hc]
    have z : ¬ (a : Int) > (k : Int) := by omega
    obtain ⟨m, hm, hm2⟩ : ∃ m : Nat, (a : Int) + (b : Int) = (m : Int) ∧ m = a + b := ⟨a + b, by omega, rfl⟩
    have hw2 : IntKind.i64.wrap (m : Int) = (m : Int) := by rw [IntKind.wrap_i64]; omega
    rw [← hm2]
    clear hk2 hm2
    go_enter Try.func29, Try.ntmps29
    go_wp2
    go_ret
    exact ⟨rfl, rfl⟩
theorem span_any {w : World} {b : Nat} {s : Ls} (h : LsIs w b s) : Calls Try.prog 17 #[.pointer (some ⟨b, 0, none⟩)] w fun e w' => e = .returned (.int .i64 (satM s.pat 1 : Nat)) ∧ w = w' := by
  have c := h.c7
  have H : Hid (Calls Try.prog 29 #[.int .i64 (s.pat : Nat), .int .i64 1] w fun e w' => e = .returned (.int .i64 (satM s.pat 1 : Nat)) ∧ w = w') := sum_any s.pat 1 (by decide) w
  clear h
  generalize s.pat = x at *
  generalize satM x 1 = y at *
  go_enter Try.func17, Try.ntmps17
  go_wp2_with (go_at_call 29; refine H.out.mono ?_; rintro e w2 ⟨rfl, rfl⟩)
  go_ret
  exact ⟨rfl, rfl⟩
theorem rest_any {w : World} {b : Nat} {s : Ls} (h : LsIs w b s) : Calls Try.prog 14 #[.pointer (some ⟨b, 0, none⟩)] w fun e w' => e = .returned (.tuple #[]) ∧ LsIs w' b { s with left := s.pat } ∧ Mv (fun k => k = b) w w' := by
  have ct := h.c0
  have fz := h.fz 0
  have cf := h.c7
  obtain ⟨W, HW⟩ : ∃ W, Hid (w.setCell ⟨b, 0, none⟩ (.int .i64 (s.pat : Nat)) = W) := ⟨_, rfl⟩
  have HK : Hid (LsIs W b { s with left := s.pat } ∧ Mv (fun k => k = b) w W) := by
    rw [← HW.out]
    exact h.put 0 _ _ (fun j hj => by match j, hj with | 0, _ | 1, _ | 2, _ | 3, _ | 4, _ | 5, _ | 6, _ | 7, _ => rfl) ⟨Nat.le_trans h.ok.hpm h.ok.hm, h.ok.hs, h.ok.hq, h.ok.hp, h.ok.hc, h.ok.hm, h.ok.he, h.ok.h4, h.ok.hpm⟩
  clear h
  go_enter Try.func14, Try.ntmps14
  go_wp2
  rw [HW.out]
  go_end0
  exact ⟨rfl, HK.out⟩
theorem begunL_any {w : World} {b : Nat} {s : Ls} (h : LsIs w b s) : Calls Try.prog 18 #[.pointer (some ⟨b, 0, none⟩)] w fun e w' => e = .returned (.tuple #[]) ∧ LsIs w' b { s with since := 0 } ∧ Mv (fun k => k = b) w w' := by
  have ct := h.c1
  have fz := h.fz 1
  obtain ⟨W, HW⟩ : ∃ W, Hid (w.setCell ⟨b, 1, none⟩ (.int .i64 0) = W) := ⟨_, rfl⟩
  have HK : Hid (LsIs W b { s with since := 0 } ∧ Mv (fun k => k = b) w W) := by
    rw [← HW.out]
    exact h.put 1 _ _ (fun j hj => by match j, hj with | 0, _ | 1, _ | 2, _ | 3, _ | 4, _ | 5, _ | 6, _ | 7, _ => rfl) ⟨h.ok.hl, Nat.zero_le _, h.ok.hq, h.ok.hp, h.ok.hc, h.ok.hm, h.ok.he, h.ok.h4, h.ok.hpm⟩
  clear h
  go_enter Try.func18, Try.ntmps18
  go_wp2
  rw [HW.out]
  go_end0
  exact ⟨rfl, HK.out⟩
theorem doneL_any {w : World} {b : Nat} {s : Ls} (h : LsIs w b s) : Calls Try.prog 19 #[.pointer (some ⟨b, 0, none⟩)] w fun e w' => e = .returned (.tuple #[]) ∧ LsIs w' b { s with quiet := s.since } ∧ Mv (fun k => k = b) w w' := by
  have ct := h.c2
  have fz := h.fz 2
  have cf := h.c1
  obtain ⟨W, HW⟩ : ∃ W, Hid (w.setCell ⟨b, 2, none⟩ (.int .i64 (s.since : Nat)) = W) := ⟨_, rfl⟩
  have HK : Hid (LsIs W b { s with quiet := s.since } ∧ Mv (fun k => k = b) w W) := by
    rw [← HW.out]
    exact h.put 2 _ _ (fun j hj => by match j, hj with | 0, _ | 1, _ | 2, _ | 3, _ | 4, _ | 5, _ | 6, _ | 7, _ => rfl) ⟨h.ok.hl, h.ok.hs, h.ok.hs, h.ok.hp, h.ok.hc, h.ok.hm, h.ok.he, h.ok.h4, h.ok.hpm⟩
  clear h
  go_enter Try.func19, Try.ntmps19
  go_wp2
  rw [HW.out]
  go_end0
  exact ⟨rfl, HK.out⟩

def goM (s : Ls) : Ls := { s with since := satM s.since 1, quiet := satM s.quiet 1 }
theorem goOn_any {w : World} {b : Nat} {s : Ls} (h : LsIs w b s) : Calls Try.prog 30 #[.pointer (some ⟨b, 0, none⟩)] w fun e w' => e = .returned (.tuple #[]) ∧ LsIs w' b (goM s) ∧ Mv (fun k => k = b) w w' := by
  have c1 := h.c1
  have f1 := h.fz 1
  have ok1 : Ls.Ok { s with since := satM s.since 1 } := ⟨h.ok.hl, satM_le (by decide), h.ok.hq, h.ok.hp, h.ok.hc, h.ok.hm, h.ok.he, h.ok.h4, h.ok.hpm⟩
  have ok2 : Ls.Ok (goM s) := ⟨h.ok.hl, satM_le (by decide), satM_le (by decide), h.ok.hp, h.ok.hc, h.ok.hm, h.ok.he, h.ok.h4, h.ok.hpm⟩
  have r1 := h.put 1 (.int .i64 (satM s.since 1 : Nat)) { s with since := satM s.since 1 } (fun j hj => by match j, hj with | 0, _ | 1, _ | 2, _ | 3, _ | 4, _ | 5, _ | 6, _ | 7, _ => rfl) ok1
  have H1 : Hid (Calls Try.prog 29 #[.int .i64 (s.since : Nat), .int .i64 1] w fun e w' => e = .returned (.int .i64 (satM s.since 1 : Nat)) ∧ w = w') := sum_any s.since 1 (by decide) w
  obtain ⟨W1, HW1⟩ : ∃ W, Hid (w.setCell ⟨b, 1, none⟩ (.int .i64 (satM s.since 1 : Nat)) = W) := ⟨_, rfl⟩
  rw [HW1.out] at r1
  have c2 := r1.1.c2
  have f2 := r1.1.fz 2
  have H2 : Hid (Calls Try.prog 29 #[.int .i64 (s.quiet : Nat), .int .i64 1] W1 fun e w' => e = .returned (.int .i64 (satM s.quiet 1 : Nat)) ∧ W1 = w') := sum_any s.quiet 1 (by decide) W1
  have r2 := r1.1.put 2 (.int .i64 (satM s.quiet 1 : Nat)) (goM s) (fun j hj => by match j, hj with | 0, _ | 1, _ | 2, _ | 3, _ | 4, _ | 5, _ | 6, _ | 7, _ => rfl) ok2
  obtain ⟨W2, HW2⟩ : ∃ W, Hid (W1.setCell ⟨b, 2, none⟩ (.int .i64 (satM s.quiet 1 : Nat)) = W) := ⟨_, rfl⟩
  rw [HW2.out] at r2
  have HK : Hid (LsIs W2 b (goM s) ∧ Mv (fun k => k = b) w W2) := ⟨r2.1, r1.2.trans r2.2⟩
  simp only at c2
  clear r1 r2 h ok1 ok2
  generalize satM s.since 1 = y1 at *
  generalize satM s.quiet 1 = y2 at *
  go_enter Try.func30, Try.ntmps30
  go_upto_region 1 with (go_at_call 29; refine H1.out.mono ?_; rintro e w2 ⟨rfl, rfl⟩)
  rw [HW1.out]
  go_wp2_with (go_at_call 29; refine H2.out.mono ?_; rintro e w2 ⟨rfl, rfl⟩)
  rw [HW2.out]
  go_end0
  exact ⟨rfl, HK.out⟩

theorem modulo_any (n : Int) (m : Nat) (hm : 0 < m) (hm2 : m ≤ 9223372036854775807) (w : World) : Calls Try.prog 28 #[.int .i64 n, .int .i64 (m : Nat)] w fun e w' => e = .returned (.int .i64 (((n % m).toNat : Nat) : Int)) ∧ w = w' := by
  have h1 := Int.tmod_lt_of_pos n (show (0 : Int) < (m : Int) by omega)
  have h2 := Int.lt_tmod_of_pos n (show (0 : Int) < (m : Int) by omega)
  have h0 : ¬ (m : Int) = 0 := by omega
  have h0' : ((m : Int) == 0) = false := by simp; omega
  have hmw : IntKind.i64.wrap (n.tmod m) = n.tmod m := by rw [IntKind.wrap_i64]; omega
  have he : ((n % m).toNat : Int) = n % m := Int.toNat_of_nonneg (Int.emod_nonneg _ (by omega))
  have hte := Int.tmod_eq_emod (a := n) (b := (m : Int))
  have hna : ((m : Int).natAbs : Int) = m := by omega
  have hr1 := Int.emod_nonneg n (show (m : Int) ≠ 0 by omega)
  have hr2 := Int.emod_lt_of_pos n (show (0 : Int) < (m : Int) by omega)
  by_cases hn : n.tmod m < 0
  · obtain ⟨k, hk⟩ : ∃ k : Nat, n.tmod m + (m : Int) = (k : Int) := ⟨(n.tmod m + m).toNat, by omega⟩
    have hkk : (n % m).toNat = k := by
      split at hte <;> omega
    rw [hkk]
    have hw : IntKind.i64.wrap (k : Int) = (k : Int) := by rw [IntKind.wrap_i64]; omega
    clear he hte hna hr1 hr2 hkk
    go_enter Try.func28, Try.ntmps28
    go_wp2
    go_ret
    exact ⟨rfl, rfl⟩
  · obtain ⟨k, hk⟩ : ∃ k : Nat, n.tmod m = (k : Int) := ⟨(n.tmod m).toNat, by omega⟩
    have hkk : (n % m).toNat = k := by
      split at hte <;> omega
    rw [hkk]
    rw [hk] at hmw hn
    clear he hte hna hr1 hr2 hkk
    go_enter Try.func28, Try.ntmps28
    go_wp2
    go_ret
    exact ⟨rfl, rfl⟩
end Go.Proofs.Ytcbebepngencjaa

/- Package lease: next, doubled, begin, Tick, Heard, New. -/
namespace Go.Proofs.Ytcbebepngencjaa
open Go.RowKit
set_option maxRecDepth 100000
set_option maxRecDepth 100000

theorem LsIs.drew {w : World} {b : Nat} {s : Ls} (h : LsIs w b s) : LsIs w.drew b s := h.later rfl
def nxE (s : Ls) : Nat := s.seen - s.seen % s.copies + s.place
def nxF (s : Ls) : Nat := if nxE s ≤ s.seen then nxE s + s.copies else nxE s
/-- The next epoch; 0: none. -/
def nextM (s : Ls) : Nat := if 1099511627776 ≤ s.seen then 0 else if 1099511627776 < nxF s then 0 else nxF s
def dblM (s : Ls) : Nat := if s.most / 2 < s.pat then s.most else 2 * s.pat
theorem nxF_gt {s : Ls} (h : s.Ok) : s.seen < nxF s := by
  have h1 := h.hp
  have h2 := Nat.mod_lt s.seen (show 0 < s.copies by omega)
  have h3 := Nat.mod_le s.seen s.copies
  unfold nxF nxE
  split <;> omega
theorem next_any {w : World} {b : Nat} {s : Ls} (h : LsIs w b s) : Calls Try.prog 35 #[.pointer (some ⟨b, 0, none⟩)] w fun e w' => e = .returned (.tuple #[.int .u64 (nextM s : Nat), .bool (decide (nextM s ≠ 0))]) ∧ ∃ q, w' = w.drewN q := by
  have c6 := h.c6
  have c6d := h.drew.c6
  have c3 := h.c3
  have c4 := h.c4
  have hgt := nxF_gt h.ok
  have hp := h.ok.hp
  have hc := h.ok.hc
  have he := h.ok.he
  clear h
  unfold nextM at *
  by_cases h1 : 1099511627776 ≤ s.seen
  · rw [if_pos h1]
    have z : (s.seen : Int) ≥ 1099511627776 := by omega
    generalize s.seen = sn at *
    clear hgt
    go_enter Try.func35, Try.ntmps35
    go_wp2
    go_ret2
    exact ⟨rfl, 0, rfl⟩
  · rw [if_neg h1]
    have z : ¬ (s.seen : Int) ≥ 1099511627776 := by omega
    have hml := Nat.mod_le s.seen s.copies
    have hmm : (s.seen : Int).tmod (s.copies : Int) = ((s.seen % s.copies : Nat) : Int) := (Int.ofNat_tmod _ _).symm
    have zc : ((s.copies : Int) == 0) = false := by simp; omega
    have zc' : ¬ (s.copies : Int) = 0 := by omega
    unfold nxF nxE at *
    generalize hM : s.seen % s.copies = M at *
    obtain ⟨a, ha, ha2⟩ : ∃ a : Nat, (s.seen : Int) - (M : Int) = (a : Int) ∧ a = s.seen - M := ⟨s.seen - M, by omega, rfl⟩
    rw [← ha2] at hgt ⊢
    obtain ⟨x, hx, hx2⟩ : ∃ x : Nat, (a : Int) + (s.place : Int) = (x : Int) ∧ x = a + s.place := ⟨a + s.place, by omega, rfl⟩
    rw [← hx2] at hgt ⊢
    have wM : IntKind.u64.wrap (M : Int) = (M : Int) := by rw [IntKind.wrap_u64]; omega
    have wa : IntKind.u64.wrap (a : Int) = (a : Int) := by rw [IntKind.wrap_u64]; omega
    have wx : IntKind.u64.wrap (x : Int) = (x : Int) := by rw [IntKind.wrap_u64]; omega
    by_cases h2 : x ≤ s.seen
    · rw [if_pos h2] at hgt ⊢
      have z2 : (x : Int) ≤ (s.seen : Int) := by omega
      obtain ⟨y, hy, hy2⟩ : ∃ y : Nat, (x : Int) + (s.copies : Int) = (y : Int) ∧ y = x + s.copies := ⟨x + s.copies, by omega, rfl⟩
      rw [← hy2] at hgt ⊢
      have wy : IntKind.u64.wrap (y : Int) = (y : Int) := by rw [IntKind.wrap_u64]; omega
      generalize s.seen = sn at *
      generalize s.place = pl at *
      generalize s.copies = cp at *
      by_cases h3 : 1099511627776 < y
      · rw [if_pos h3]
        have z3 : (y : Int) > 1099511627776 := by omega
        clear hgt hM ha2 hx2 hy2
        go_enter Try.func35, Try.ntmps35
        go_upto_region 3 with fail
        go_quiet (fail)
        go_wp2
        go_ret2
        exact ⟨rfl, _, rfl⟩
      · rw [if_neg h3]
        have z3 : ¬ (y : Int) > 1099511627776 := by omega
        rw [show decide (y ≠ 0) = true by simp; omega]
        clear hgt hM ha2 hx2 hy2
        go_enter Try.func35, Try.ntmps35
        go_upto_region 3 with fail
        go_quiet (fail)
        go_wp2
        go_ret2
        exact ⟨rfl, _, rfl⟩
    · rw [if_neg h2] at hgt ⊢
      have z2 : ¬ (x : Int) ≤ (s.seen : Int) := by omega
      generalize s.seen = sn at *
      generalize s.place = pl at *
      generalize s.copies = cp at *
      by_cases h3 : 1099511627776 < x
      · rw [if_pos h3]
        have z3 : (x : Int) > 1099511627776 := by omega
        clear hgt hM ha2 hx2
        go_enter Try.func35, Try.ntmps35
        go_upto_region 3 with fail
        go_quiet (fail)
        go_wp2
        go_ret2
        exact ⟨rfl, _, rfl⟩
      · rw [if_neg h3]
        have z3 : ¬ (x : Int) > 1099511627776 := by omega
        rw [show decide (x ≠ 0) = true by simp; omega]
        clear hgt hM ha2 hx2
        go_enter Try.func35, Try.ntmps35
        go_upto_region 3 with fail
        go_quiet (fail)
        go_wp2
        go_ret2
        exact ⟨rfl, _, rfl⟩

theorem doubled_any {w : World} {b : Nat} {s : Ls} (h : LsIs w b s) : Calls Try.prog 36 #[.pointer (some ⟨b, 0, none⟩)] w fun e w' => e = .returned (.int .i64 (dblM s : Nat)) ∧ ∃ q, w' = w.drewN q := by
  have c5 := h.c5
  have c7 := h.c7
  have c5d := h.drew.c5
  have c7d := h.drew.c7
  have hm := h.ok.hm
  have hpm := h.ok.hpm
  clear h
  have hd : (s.most : Int).tdiv 2 = ((s.most / 2 : Nat) : Int) := by exact Int.ofNat_tdiv s.most 2
  have wd : IntKind.i64.wrap ((s.most / 2 : Nat) : Int) = ((s.most / 2 : Nat) : Int) := by rw [IntKind.wrap_i64]; omega
  unfold dblM
  by_cases h1 : s.most / 2 < s.pat
  · rw [if_pos h1]
    have z : (s.pat : Int) > ((s.most / 2 : Nat) : Int) := by omega
    generalize s.most / 2 = d at *
    generalize s.most = mo at *
    generalize s.pat = pa at *
    go_enter Try.func36, Try.ntmps36
    go_upto_region 1 with fail
    go_quiet (fail)
    go_wp2
    go_ret
    exact ⟨rfl, _, rfl⟩
  · rw [if_neg h1]
    have z : ¬ (s.pat : Int) > ((s.most / 2 : Nat) : Int) := by omega
    obtain ⟨k, hk, hk2⟩ : ∃ k : Nat, 2 * (s.pat : Int) = (k : Int) ∧ k = 2 * s.pat := ⟨2 * s.pat, by omega, rfl⟩
    have wk : IntKind.i64.wrap (k : Int) = (k : Int) := by rw [IntKind.wrap_i64]; omega
    rw [← hk2]
    generalize s.most / 2 = d at *
    generalize s.most = mo at *
    generalize s.pat = pa at *
    clear hk2
    go_enter Try.func36, Try.ntmps36
    go_upto_region 1 with fail
    go_quiet (fail)
    go_wp2
    go_ret
    exact ⟨rfl, _, rfl⟩
end Go.Proofs.Ytcbebepngencjaa

/- Package lease: begin, Tick, Heard, New. -/
namespace Go.Proofs.Ytcbebepngencjaa
open Go.RowKit
set_option maxRecDepth 100000
set_option maxRecDepth 100000

theorem Mv.drewR {F : Nat → Prop} {w w' : World} (h : Mv F w w') (q : Nat) : Mv F w (w'.drewN q) := ⟨h.os, h.tape, h.output, h.size, h.block⟩
theorem dbl_le {s : Ls} (h : s.Ok) : dblM s ≤ s.most ∧ s.pat ≤ dblM s := by
  have := h.hpm
  unfold dblM; split <;> omega
theorem next_le {s : Ls} : nextM s ≤ 1099511627776 := by
  unfold nextM; split
  · omega
  · split <;> omega
def beginM (s : Ls) : Ls := if nextM s = 0 then { s with left := s.pat } else { s with seen := nextM s, pat := dblM s, left := dblM s }
theorem begin_any {w : World} {b : Nat} {s : Ls} (h : LsIs w b s) : Calls Try.prog 31 #[.pointer (some ⟨b, 0, none⟩)] w fun e w' => e = .returned (.int .u64 (nextM s : Nat)) ∧ LsIs w' b (beginM s) ∧ Mv (fun k => k = b) w w' := by
  unfold beginM
  by_cases h0 : nextM s = 0
  · rw [if_pos h0]
    have HN : Hid (Calls Try.prog 35 #[.pointer (some ⟨b, 0, none⟩)] w fun e w1 => e = .returned (.tuple #[.int .u64 (nextM s : Nat), .bool false]) ∧ Hid (Calls Try.prog 14 #[.pointer (some ⟨b, 0, none⟩)] w1 fun e w2 => e = .returned (.tuple #[]) ∧ Hid (LsIs w2 b { s with left := s.pat } ∧ Mv (fun k => k = b) w w2))) :=
      (next_any h).mono fun e w1 ⟨he, q, hq⟩ => ⟨by rw [he]; simp [h0], by
        subst hq
        exact (rest_any (w := w.drewN q) (h.later rfl)).mono fun e w2 ⟨he2, hl, hm⟩ => ⟨he2, hl, ⟨hm.os, hm.tape, hm.output, hm.size, hm.block⟩⟩⟩
    generalize nextM s = n at *
    clear h h0
    go_enter Try.func31, Try.ntmps31
    go_wp2_with (first
      | (go_at_call 35; refine HN.out.mono ?_; rintro e w1 ⟨rfl, HR⟩)
      | (go_at_call 14; refine HR.out.mono ?_; rintro e w2 ⟨rfl, HK⟩))
    go_ret
    exact ⟨rfl, HK.out⟩
  · rw [if_neg h0]
    have hle := next_le (s := s)
    have hdb := dbl_le h.ok
    have hm := h.ok.hm
    have h4 := h.ok.h4
    have ok1 : Ls.Ok { s with seen := nextM s } := ⟨h.ok.hl, h.ok.hs, h.ok.hq, h.ok.hp, h.ok.hc, h.ok.hm, by show nextM s < _; omega, h.ok.h4, h.ok.hpm⟩
    have ok2 : Ls.Ok { s with seen := nextM s, pat := dblM s } := ⟨h.ok.hl, h.ok.hs, h.ok.hq, h.ok.hp, h.ok.hc, h.ok.hm, by show nextM s < _; omega, by show 4 ≤ dblM s; omega, hdb.1⟩
    have HN : Hid (Calls Try.prog 35 #[.pointer (some ⟨b, 0, none⟩)] w fun e w1 => e = .returned (.tuple #[.int .u64 (nextM s : Nat), .bool true]) ∧ w1.cell? ⟨b, 6, none⟩ = some (.int .u64 (s.seen : Nat)) ∧ w1.frozen? ⟨b, 6, none⟩ = false ∧ ∃ W2, Hid (w1.setCell ⟨b, 6, none⟩ (.int .u64 (nextM s : Nat)) = W2) ∧
        Hid (Calls Try.prog 36 #[.pointer (some ⟨b, 0, none⟩)] W2 fun e w3 => e = .returned (.int .i64 (dblM s : Nat)) ∧ w3.cell? ⟨b, 7, none⟩ = some (.int .i64 (s.pat : Nat)) ∧ w3.frozen? ⟨b, 7, none⟩ = false ∧ ∃ W4, Hid (w3.setCell ⟨b, 7, none⟩ (.int .i64 (dblM s : Nat)) = W4) ∧
          Hid (Calls Try.prog 14 #[.pointer (some ⟨b, 0, none⟩)] W4 fun e w5 => e = .returned (.tuple #[]) ∧ Hid (LsIs w5 b { s with seen := nextM s, pat := dblM s, left := dblM s } ∧ Mv (fun k => k = b) w w5)))) := by
      refine (next_any h).mono fun e w1 ⟨he, q, hq⟩ => ⟨by rw [he]; simp [h0], ?_⟩
      have h1 : LsIs w1 b s := by subst hq; exact h.later rfl
      have m1 : Mv (fun k => k = b) w w1 := by subst hq; exact (Mv.refl _ _).drewR q
      obtain ⟨h2, m2⟩ := h1.put 6 (.int .u64 (nextM s : Nat)) { s with seen := nextM s } (fun j hj => by match j, hj with | 0, _ | 1, _ | 2, _ | 3, _ | 4, _ | 5, _ | 6, _ | 7, _ => rfl) ok1
      refine ⟨h1.c6, h1.fz 6, _, rfl, (doubled_any h2).mono fun e w3 ⟨he3, q3, hq3⟩ => ⟨he3, ?_⟩⟩
      have h3 : LsIs w3 b { s with seen := nextM s } := by subst hq3; exact h2.later rfl
      have m3 := m1.trans m2
      have m4 : Mv (fun k => k = b) w w3 := by subst hq3; exact m3.drewR q3
      obtain ⟨h5, m5⟩ := h3.put 7 (.int .i64 (dblM s : Nat)) { s with seen := nextM s, pat := dblM s } (fun j hj => by match j, hj with | 0, _ | 1, _ | 2, _ | 3, _ | 4, _ | 5, _ | 6, _ | 7, _ => rfl) ok2
      exact ⟨h3.c7, h3.fz 7, _, rfl, (rest_any h5).mono fun e w5 ⟨he5, h6, m6⟩ => ⟨he5, h6, (m4.trans m5).trans m6⟩⟩
    generalize nextM s = n at *
    generalize dblM s = d at *
    clear h h0 hle hdb hm h4 ok1 ok2
    go_enter Try.func31, Try.ntmps31
    go_upto_region 4 with (go_at_call 35; refine HN.out.mono ?_; rintro e w1 ⟨rfl, d1, d2, W2, HW2, HD⟩)
    rw [HW2.out]
    go_upto_region 5 with (go_at_call 36; refine HD.out.mono ?_; rintro e w3 ⟨rfl, d3, d4, W4, HW4, HR⟩)
    rw [HW4.out]
    go_wp2_with (go_at_call 14; refine HR.out.mono ?_; rintro e w5 ⟨rfl, HK⟩)
    go_ret
    exact ⟨rfl, HK.out⟩

def lowM (s : Ls) : Ls := { goM s with left := s.left - 1 }
/-- What a tick makes of a lease: what it is then, the epoch, whether it ends. -/
def tickM (s : Ls) (ph : Int) (hd fr : Bool) : Ls × Nat × Bool :=
  if hd = true then (goM s, 0, decide (s.pat ≤ (goM s).quiet))
  else if ph = 0 then (if s.left - 1 = 0 ∧ fr = true then (beginM (lowM s), nextM (lowM s), false) else (lowM s, 0, false))
  else (goM s, 0, false)
theorem tick_hold {w : World} {b : Nat} {s : Ls} (h : LsIs w b s) (ph : Int) (fr : Bool) : Calls Try.prog 12 #[.pointer (some ⟨b, 0, none⟩), .int .i64 ph, .bool true, .bool fr] w fun e w' => e = .returned (.tuple #[.int .u64 0, .bool (decide (s.pat ≤ (goM s).quiet))]) ∧ LsIs w' b (goM s) ∧ Mv (fun k => k = b) w w' := by
  have HG : Hid (Calls Try.prog 30 #[.pointer (some ⟨b, 0, none⟩)] w fun e w1 => e = .returned (.tuple #[]) ∧ w1.cell? ⟨b, 2, none⟩ = some (.int .i64 ((goM s).quiet : Nat)) ∧ w1.cell? ⟨b, 7, none⟩ = some (.int .i64 (s.pat : Nat)) ∧ Hid (∀ q, LsIs (w1.drewN q) b (goM s) ∧ Mv (fun k => k = b) w (w1.drewN q))) :=
    (goOn_any h).mono fun e w1 ⟨he, h1, m1⟩ => ⟨he, h1.c2, h1.c7, fun q => ⟨h1.later rfl, m1.drewR q⟩⟩
  clear h
  obtain ⟨s', hs'⟩ : ∃ s', Hid (goM s = s') := ⟨_, rfl⟩
  rw [hs'.out] at HG ⊢
  clear hs'
  go_enter Try.func12, Try.ntmps12
  go_upto_region 3 with (go_at_call 30; refine HG.out.mono ?_; rintro e w1 ⟨rfl, c2, c7, HK⟩)
  go_quiet (fail)
  go_wp2
  go_ret2
  exact ⟨by simp, HK.out _⟩
theorem tick_not {w : World} {b : Nat} {s : Ls} (h : LsIs w b s) (ph : Int) (hp : ph ≠ 0) (fr : Bool) : Calls Try.prog 12 #[.pointer (some ⟨b, 0, none⟩), .int .i64 ph, .bool false, .bool fr] w fun e w' => e = .returned (.tuple #[.int .u64 0, .bool false]) ∧ LsIs w' b (goM s) ∧ Mv (fun k => k = b) w w' := by
  have HG : Hid (Calls Try.prog 30 #[.pointer (some ⟨b, 0, none⟩)] w fun e w1 => e = .returned (.tuple #[]) ∧ Hid (LsIs w1 b (goM s) ∧ Mv (fun k => k = b) w w1)) := (goOn_any h).mono fun e w1 ⟨he, h1, m1⟩ => ⟨he, h1, m1⟩
  have z : (ph != 0) = true := by simpa using hp
  have z' : ¬ ph = 0 := hp
  clear h hp
  go_enter Try.func12, Try.ntmps12
  go_wp2_with (go_at_call 30; refine HG.out.mono ?_; rintro e w1 ⟨rfl, HK⟩)
  go_ret2
  exact ⟨rfl, HK.out⟩
theorem tick_idle {w : World} {b : Nat} {s : Ls} (h : LsIs w b s) (fr : Bool) : Calls Try.prog 12 #[.pointer (some ⟨b, 0, none⟩), .int .i64 0, .bool false, .bool fr] w fun e w' => e = .returned (.tuple #[.int .u64 ((if s.left - 1 = 0 ∧ fr = true then (beginM (lowM s), nextM (lowM s), false) else (lowM s, 0, false)).2.1 : Nat), .bool false]) ∧ LsIs w' b (if s.left - 1 = 0 ∧ fr = true then (beginM (lowM s), nextM (lowM s), false) else (lowM s, 0, false)).1 ∧ Mv (fun k => k = b) w w' := by
  have hl := h.ok.hl
  obtain ⟨k, hk⟩ : ∃ k : Int, (s.left : Int) - 1 = k := ⟨_, rfl⟩
  have wk : IntKind.i64.wrap k = k := by rw [IntKind.wrap_i64]; omega
  obtain ⟨x, hx, hx2⟩ : ∃ x : Nat, max k 0 = (x : Int) ∧ x = s.left - 1 := ⟨s.left - 1, by omega, rfl⟩
  have HG : Hid (Calls Try.prog 30 #[.pointer (some ⟨b, 0, none⟩)] w fun e w1 => e = .returned (.tuple #[]) ∧ w1.cell? ⟨b, 0, none⟩ = some (.int .i64 (s.left : Nat)) ∧ w1.frozen? ⟨b, 0, none⟩ = false ∧ ∃ W2, Hid (w1.setCell ⟨b, 0, none⟩ (.int .i64 (x : Nat)) = W2) ∧ W2.cell? ⟨b, 0, none⟩ = some (.int .i64 (x : Nat)) ∧ Hid (LsIs W2 b (lowM s) ∧ Mv (fun k => k = b) w W2) ∧
      Hid (Calls Try.prog 31 #[.pointer (some ⟨b, 0, none⟩)] W2 fun e w3 => e = .returned (.int .u64 (nextM (lowM s) : Nat)) ∧ Hid (LsIs w3 b (beginM (lowM s)) ∧ Mv (fun k => k = b) w w3))) := by
    refine (goOn_any h).mono fun e w1 ⟨he, h1, m1⟩ => ⟨he, h1.c0, h1.fz 0, ?_⟩
    have ok2 : Ls.Ok (lowM s) := ⟨by show s.left - 1 ≤ _; omega, h1.ok.hs, h1.ok.hq, h1.ok.hp, h1.ok.hc, h1.ok.hm, h1.ok.he, h1.ok.h4, h1.ok.hpm⟩
    rw [hx2]
    obtain ⟨h2, m2⟩ := h1.put 0 (.int .i64 (s.left - 1 : Nat)) (lowM s) (fun j hj => by match j, hj with | 0, _ | 1, _ | 2, _ | 3, _ | 4, _ | 5, _ | 6, _ | 7, _ => rfl) ok2
    exact ⟨_, rfl, h2.c0, ⟨h2, m1.trans m2⟩, (begin_any h2).mono fun e w3 ⟨he3, h3, m3⟩ => ⟨he3, h3, (m1.trans m2).trans m3⟩⟩
  by_cases hs : s.left ≤ 1
  · have z : ¬ (x : Int) > 0 := by omega
    have hx0 : s.left - 1 = 0 := by omega
    have zk : k ≤ 0 := by omega
    have zk' : ¬ (0 : Int) < k := by omega
    have e0 : ((x : Nat) : Int) = 0 := by omega
    rw [e0] at HG
    clear z hx e0
    have hmx : (if k < 0 then (0 : Int) else k) = 0 := by split <;> omega
    cases fr with
    | true =>
      rw [if_pos ⟨hx0, rfl⟩]
      generalize nextM (lowM s) = n at *
      generalize beginM (lowM s) = s2 at *
      clear h hl hs hx0 hx2
      go_enter Try.func12, Try.ntmps12
      go_upto_region 7 with (go_at_call 30; refine HG.out.mono ?_; rintro e w1 ⟨rfl, c0, f0, W2, HW2, c02, HK2, HB⟩)
      rw [HW2.out]
      go_wp2_with (go_at_call 31; refine HB.out.mono ?_; rintro e w3 ⟨rfl, HK⟩)
      go_ret2
      exact ⟨rfl, HK.out⟩
    | false =>
      rw [if_neg (by simp)]
      clear h hl hs hx0 hx2
      go_enter Try.func12, Try.ntmps12
      go_upto_region 7 with (go_at_call 30; refine HG.out.mono ?_; rintro e w1 ⟨rfl, c0, f0, W2, HW2, c02, HK2, HB⟩)
      rw [HW2.out]
      go_wp2
      go_ret2
      exact ⟨rfl, HK2.out⟩
  · have z : (x : Int) > 0 := by omega
    have zk' : (0 : Int) < k := by omega
    obtain rfl : k = (x : Int) := by omega
    rw [if_neg (by rintro ⟨h1, _⟩; omega)]
    clear h hl hs hx2
    go_enter Try.func12, Try.ntmps12
    go_upto_region 7 with (go_at_call 30; refine HG.out.mono ?_; rintro e w1 ⟨rfl, c0, f0, W2, HW2, c02, HK2, HB⟩)
    rw [HW2.out]
    go_wp2
    go_ret2
    exact ⟨rfl, HK2.out⟩
theorem tick_any {w : World} {b : Nat} {s : Ls} (h : LsIs w b s) (ph : Int) (hd fr : Bool) : Calls Try.prog 12 #[.pointer (some ⟨b, 0, none⟩), .int .i64 ph, .bool hd, .bool fr] w fun e w' => e = .returned (.tuple #[.int .u64 ((tickM s ph hd fr).2.1 : Nat), .bool (tickM s ph hd fr).2.2]) ∧ LsIs w' b (tickM s ph hd fr).1 ∧ Mv (fun k => k = b) w w' := by
  unfold tickM
  cases hd with
  | true => exact tick_hold h ph fr
  | false =>
    rw [if_neg (by simp)]
    by_cases hp : ph = 0
    · rw [if_pos hp]
      subst hp
      refine (tick_idle h fr).mono fun e w' ⟨he, h1, m1⟩ => ⟨?_, h1, m1⟩
      rw [he]
      split <;> rfl
    · rw [if_neg hp]
      exact tick_not h ph hp fr
end Go.Proofs.Ytcbebepngencjaa

/- Package lease: Heard, New; the law's begun, within. -/
namespace Go.Proofs.Ytcbebepngencjaa
open Go.RowKit
set_option maxRecDepth 100000
set_option maxRecDepth 100000

def heardM (s : Ls) (e : Nat) (p t : Bool) : Ls := { s with left := if t = true ∨ (p = true ∧ s.seen ≤ e) then s.pat else s.left, seen := if s.seen < e then e else s.seen }
theorem Ls.Ok.seen {s : Ls} (h : s.Ok) (l e : Nat) (hl : l ≤ 9223372036854775807) (he : e < 18446744073709551616) : Ls.Ok { s with left := l, seen := e } := ⟨hl, h.hs, h.hq, h.hp, h.hc, h.hm, he, h.h4, h.hpm⟩
/-- The last step of Heard. -/
theorem seen_put {w : World} {b : Nat} {s : Ls} (h : LsIs w b s) (e : Nat) (he : e < 18446744073709551616) : LsIs (w.setCell ⟨b, 6, none⟩ (.int .u64 (e : Nat))) b { s with seen := e } ∧ Mv (fun k => k = b) w (w.setCell ⟨b, 6, none⟩ (.int .u64 (e : Nat))) :=
  h.put 6 _ { s with seen := e } (fun j hj => by match j, hj with | 0, _ | 1, _ | 2, _ | 3, _ | 4, _ | 5, _ | 6, _ | 7, _ => rfl) (h.ok.seen s.left e h.ok.hl he)
theorem heard_rest {w : World} {b : Nat} {s : Ls} (h : LsIs w b s) (e : Nat) (p t : Bool) (he : e < 18446744073709551616) (hc : t = true ∨ (p = true ∧ s.seen ≤ e)) : Calls Try.prog 10 #[.pointer (some ⟨b, 0, none⟩), .int .u64 (e : Nat), .bool p, .bool t] w fun r w' => r = .returned (.tuple #[]) ∧ LsIs w' b { s with left := s.pat, seen := if s.seen < e then e else s.seen } ∧ Mv (fun k => k = b) w w' := by
  have c6 := h.c6
  have hs := h.ok.he
  obtain ⟨m, hm⟩ : ∃ m : Nat, (if s.seen < e then e else s.seen) = m := ⟨_, rfl⟩
  rw [hm]
  have HR : Hid (Calls Try.prog 14 #[.pointer (some ⟨b, 0, none⟩)] w fun r w1 => r = .returned (.tuple #[]) ∧ w1.cell? ⟨b, 6, none⟩ = some (.int .u64 (s.seen : Nat)) ∧ w1.frozen? ⟨b, 6, none⟩ = false ∧ ∃ W2, Hid (w1.setCell ⟨b, 6, none⟩ (.int .u64 (m : Nat)) = W2) ∧ Hid (LsIs W2 b { s with left := s.pat, seen := m } ∧ Mv (fun k => k = b) w W2)) :=
    (rest_any h).mono fun r w1 ⟨hr, h1, m1⟩ => ⟨hr, h1.c6, h1.fz 6, _, rfl, (seen_put h1 m (by rw [← hm]; split <;> omega)).1, m1.trans (seen_put h1 m (by rw [← hm]; split <;> omega)).2⟩
  clear h
  generalize s.seen = sn at *
  by_cases hlt : sn < e
  · have zl : (sn : Int) < (e : Int) := by omega
    obtain rfl : e = m := by rw [if_pos hlt] at hm; exact hm
    cases t with
    | true =>
      clear hc hm hlt hs
      go_enter Try.func10, Try.ntmps10
      go_wp2_with (go_at_call 14; refine HR.out.mono ?_; rintro r w1 ⟨rfl, d1, d2, W2, HW2, HK⟩)
      rw [HW2.out]
      go_end0
      exact ⟨rfl, HK.out⟩
    | false =>
      obtain rfl : p = true := by cases p with | true => rfl | false => rcases hc with h | h <;> simp at h
      have z2 : (e : Int) ≥ (sn : Int) := by
        rcases hc with h | h
        · simp at h
        · omega
      clear hc hm hlt hs
      go_enter Try.func10, Try.ntmps10
      go_wp2_with (go_at_call 14; refine HR.out.mono ?_; rintro r w1 ⟨rfl, d1, d2, W2, HW2, HK⟩)
      rw [HW2.out]
      go_end0
      exact ⟨rfl, HK.out⟩
  · have zl : ¬ (sn : Int) < (e : Int) := by omega
    obtain rfl : sn = m := by rw [if_neg hlt] at hm; exact hm
    cases t with
    | true =>
      clear hc hm hlt hs
      go_enter Try.func10, Try.ntmps10
      go_wp2_with (go_at_call 14; refine HR.out.mono ?_; rintro r w1 ⟨rfl, d1, d2, W2, HW2, HK⟩)
      rw [HW2.out]
      go_end0
      exact ⟨rfl, HK.out⟩
    | false =>
      obtain rfl : p = true := by cases p with | true => rfl | false => rcases hc with h | h <;> simp at h
      have z2 : (e : Int) ≥ (sn : Int) := by
        rcases hc with h | h
        · simp at h
        · omega
      clear hc hm hlt hs
      go_enter Try.func10, Try.ntmps10
      go_wp2_with (go_at_call 14; refine HR.out.mono ?_; rintro r w1 ⟨rfl, d1, d2, W2, HW2, HK⟩)
      rw [HW2.out]
      go_end0
      exact ⟨rfl, HK.out⟩
theorem heard_none {w : World} {b : Nat} {s : Ls} (h : LsIs w b s) (e : Nat) (p t : Bool) (he : e < 18446744073709551616) (hc : ¬ (t = true ∨ (p = true ∧ s.seen ≤ e))) : Calls Try.prog 10 #[.pointer (some ⟨b, 0, none⟩), .int .u64 (e : Nat), .bool p, .bool t] w fun r w' => r = .returned (.tuple #[]) ∧ LsIs w' b { s with seen := if s.seen < e then e else s.seen } ∧ Mv (fun k => k = b) w w' := by
  have c6 := h.c6
  have f6 := h.fz 6
  have hs := h.ok.he
  obtain ⟨m, hm⟩ : ∃ m : Nat, (if s.seen < e then e else s.seen) = m := ⟨_, rfl⟩
  rw [hm]
  obtain ⟨W2, HW2⟩ : ∃ W2, Hid (w.setCell ⟨b, 6, none⟩ (.int .u64 (m : Nat)) = W2) := ⟨_, rfl⟩
  have HK : Hid (LsIs W2 b { s with seen := m } ∧ Mv (fun k => k = b) w W2) := by rw [← HW2.out]; exact seen_put h m (by rw [← hm]; split <;> omega)
  clear h
  generalize s.seen = sn at *
  obtain rfl : t = false := by cases t with | true => exact absurd (Or.inl rfl) hc | false => rfl
  by_cases hlt : sn < e
  · have zl : (sn : Int) < (e : Int) := by omega
    obtain rfl : e = m := by rw [if_pos hlt] at hm; exact hm
    obtain rfl : p = false := by cases p with | true => exact absurd (Or.inr ⟨rfl, by omega⟩) hc | false => rfl
    clear hc hm hlt hs
    go_enter Try.func10, Try.ntmps10
    go_wp2
    rw [HW2.out]
    go_end0
    exact ⟨rfl, HK.out⟩
  · have zl : ¬ (sn : Int) < (e : Int) := by omega
    obtain rfl : sn = m := by rw [if_neg hlt] at hm; exact hm
    cases p with
    | false =>
      clear hc hm hlt hs
      go_enter Try.func10, Try.ntmps10
      go_wp2
      rw [HW2.out]
      go_end0
      exact ⟨rfl, HK.out⟩
    | true =>
      have z2 : ¬ (e : Int) ≥ (sn : Int) := by
        intro hx
        exact hc (Or.inr ⟨rfl, by omega⟩)
      clear hc hm hlt hs
      go_enter Try.func10, Try.ntmps10
      go_wp2
      rw [HW2.out]
      go_end0
      exact ⟨rfl, HK.out⟩
theorem heard_any {w : World} {b : Nat} {s : Ls} (h : LsIs w b s) (e : Nat) (p t : Bool) (he : e < 18446744073709551616) : Calls Try.prog 10 #[.pointer (some ⟨b, 0, none⟩), .int .u64 (e : Nat), .bool p, .bool t] w fun r w' => r = .returned (.tuple #[]) ∧ LsIs w' b (heardM s e p t) ∧ Mv (fun k => k = b) w w' := by
  unfold heardM
  by_cases hc : t = true ∨ (p = true ∧ s.seen ≤ e)
  · rw [if_pos hc]; exact heard_rest h e p t he hc
  · rw [if_neg hc]; exact heard_none h e p t he hc

theorem within_any (n : Int) (m : Nat) (hm : 0 < m) (hm2 : m ≤ 1000000000) (w : World) : Calls Try.prog 8 #[.int .i64 n, .int .i64 (m : Nat)] w fun e w' => w = w' ∧ e = .returned (.int .i64 (((n % m).toNat : Nat) : Int)) := by
  have h1 := Int.tmod_lt_of_pos n (show (0 : Int) < (m : Int) by omega)
  have h2 := Int.lt_tmod_of_pos n (show (0 : Int) < (m : Int) by omega)
  have h0 : ¬ (m : Int) = 0 := by omega
  have h0' : ((m : Int) == 0) = false := by simp; omega
  have hmw : IntKind.i64.wrap (n.tmod m) = n.tmod m := by rw [IntKind.wrap_i64]; omega
  obtain ⟨x, hx⟩ : ∃ x : Nat, n.tmod m + (m : Int) = (x : Int) := ⟨(n.tmod m + m).toNat, by omega⟩
  have wx : IntKind.i64.wrap (x : Int) = (x : Int) := by rw [IntKind.wrap_i64]; omega
  have hxm : (x : Int).tmod (m : Int) = ((x % m : Nat) : Int) := (Int.ofNat_tmod _ _).symm
  have hlt := Nat.mod_lt x hm
  have wy : IntKind.i64.wrap ((x % m : Nat) : Int) = ((x % m : Nat) : Int) := by rw [IntKind.wrap_i64]; omega
  have he : (n % m).toNat = x % m := by
    have e1 : ((x % m : Nat) : Int) = n % m := by
      rw [Int.natCast_emod, ← hx, Int.add_emod_right, Int.tmod_eq_emod]
      split
      · simp
      · rw [show ((m : Int).natAbs : Int) = (m : Int) by omega, Int.sub_emod_right, Int.emod_emod]
    omega
  rw [he]
  generalize x % m = y at *
  clear he h1 h2 hlt
  go_enter Try.func8, Try.ntmps8
  go_wp2
  go_ret
  exact ⟨rfl, rfl⟩

def newM (pl cp mo : Nat) (sn : Nat) : Ls := ⟨satM pl 4, 0, 0, pl, cp, mo, sn, 4⟩
theorem new_core {w : World} {pl cp mo sn : Nat} (hp : pl < cp) (hc : cp ≤ 9223372036854775807) (hm : 4 ≤ mo) (hm2 : mo ≤ 9223372036854775807) (hs : sn < 18446744073709551616) :
    LsIs (w.alloc (.cells #[.int .i64 (satM pl 4 : Nat), .int .i64 0, .int .i64 0, .int .u64 (pl : Nat), .int .u64 (cp : Nat), .int .i64 (mo : Nat), .int .u64 (sn : Nat), .int .i64 4] 57)) w.heap.size (newM pl cp mo sn) :=
  ⟨World.rowIs_alloc w _ _ _ (fun i hi => by
    have hi' : i < 8 := hi
    match i, hi' with | 0, _ | 1, _ | 2, _ | 3, _ | 4, _ | 5, _ | 6, _ | 7, _ => rfl), ⟨satM_le (by decide), Nat.zero_le _, Nat.zero_le _, hp, hc, hm2, hs, Nat.le_refl _, hm⟩⟩
/-- What New makes of the numbers it is given. -/
def cpN (C : Int) : Nat := if C < 1 then 1 else C.toNat
def moN (M : Int) : Nat := if M < 4 then 4 else M.toNat
def plN (P C : Int) : Nat := (P % (cpN C : Nat)).toNat
theorem pl_lt (P C : Int) : plN P C < cpN C := by
  have h : 0 < cpN C := by unfold cpN; split <;> omega
  unfold plN
  have h1 := Int.emod_nonneg P (show ((cpN C : Nat) : Int) ≠ 0 by omega)
  have h2 := Int.emod_lt_of_pos P (show (0 : Int) < ((cpN C : Nat) : Int) by omega)
  omega
set_option maxHeartbeats 1000000 in
theorem new_any (P C M : Int) (sn : Nat) (hC : C ≤ 9223372036854775807) (hM : M ≤ 9223372036854775807) (hs : sn < 18446744073709551616) (w : World) :
    Calls Try.prog 9 #[.int .i64 P, .int .i64 C, .int .i64 M, .int .u64 (sn : Nat)] w fun e w' => e = .returned (.pointer (some ⟨w.heap.size, 0, none⟩)) ∧ LsIs w' w.heap.size (newM (plN P C) (cpN C) (moN M) sn) ∧ Below w.heap.size w w' := by
  have hp := pl_lt P C
  have hc : cpN C ≤ 9223372036854775807 := by unfold cpN; split <;> omega
  have hc1 : 0 < cpN C := by unfold cpN; split <;> omega
  have hm : 4 ≤ moN M := by unfold moN; split <;> omega
  have hm2 : moN M ≤ 9223372036854775807 := by unfold moN; split <;> omega
  have HM : Hid (Calls Try.prog 28 #[.int .i64 P, .int .i64 (cpN C : Nat)] w fun e w' => e = .returned (.int .i64 (plN P C : Nat)) ∧ w = w') := modulo_any P (cpN C) hc1 hc w
  have HS : Hid (Calls Try.prog 29 #[.int .i64 (plN P C : Nat), .int .i64 4] w fun e w' => e = .returned (.int .i64 (satM (plN P C) 4 : Nat)) ∧ w = w') := sum_any _ 4 (by decide) w
  obtain ⟨W, HW⟩ : ∃ W, Hid (w.alloc (.cells #[.int .i64 (satM (plN P C) 4 : Nat), .int .i64 0, .int .i64 0, .int .u64 (plN P C : Nat), .int .u64 (cpN C : Nat), .int .i64 (moN M : Nat), .int .u64 (sn : Nat), .int .i64 4] 57) = W) := ⟨_, rfl⟩
  have HK : Hid (LsIs W w.heap.size (newM (plN P C) (cpN C) (moN M) sn) ∧ Below w.heap.size w W) := by
    rw [← HW.out]
    exact ⟨new_core hp hc hm hm2 hs, (Below.refl _ _).alloc (Nat.le_refl _) _⟩
  have wp : IntKind.u64.wrap (plN P C : Nat) = (plN P C : Nat) := by rw [IntKind.wrap_u64]; omega
  have wc : IntKind.u64.wrap (cpN C : Nat) = (cpN C : Nat) := by rw [IntKind.wrap_u64]; omega
  by_cases h1 : C < 1
  · have e1 : cpN C = 1 := if_pos h1
    have zc : (1 : Int) > C := by omega
    by_cases h2 : M < 4
    · have e2 : moN M = 4 := if_pos h2
      have zm : (4 : Int) > M := by omega
      have e1' : ((cpN C : Nat) : Int) = 1 := by omega
      rw [e1'] at wc HM HW
      clear e1 e1'
      have e2' : ((moN M : Nat) : Int) = 4 := by omega
      rw [e2'] at HW
      clear e2 e2'
      have zz : 0 < 1 := by decide
      clear h1 h2 hp hc hc1 hm hm2 hC hM hs zz
      generalize satM (plN P C) 4 = l at *
      generalize plN P C = pl at *
      go_enter Try.func9, Try.ntmps9
      go_wp2_with (first
        | (go_at_call 28; refine HM.out.mono ?_; rintro e w2 ⟨rfl, rfl⟩)
        | (go_at_call 29; refine HS.out.mono ?_; rintro e w2 ⟨rfl, rfl⟩))
      rw [HW.out]
      go_ret
      exact ⟨rfl, HK.out⟩
    · have e2 : ((moN M : Nat) : Int) = M := by unfold moN; rw [if_neg h2]; omega
      have zm : ¬ (4 : Int) > M := by omega
      have e1' : ((cpN C : Nat) : Int) = 1 := by omega
      rw [e1'] at wc HM HW
      clear e1 e1'
      rw [e2] at HW
      have zz : 0 < 1 := by decide
      clear e2
      clear h1 h2 hp hc hc1 hm hm2 hC hM hs zz
      generalize satM (plN P C) 4 = l at *
      generalize plN P C = pl at *
      go_enter Try.func9, Try.ntmps9
      go_wp2_with (first
        | (go_at_call 28; refine HM.out.mono ?_; rintro e w2 ⟨rfl, rfl⟩)
        | (go_at_call 29; refine HS.out.mono ?_; rintro e w2 ⟨rfl, rfl⟩))
      rw [HW.out]
      go_ret
      exact ⟨rfl, HK.out⟩
  · have e1 : ((cpN C : Nat) : Int) = C := by unfold cpN; rw [if_neg h1]; omega
    have zc : ¬ (1 : Int) > C := by omega
    by_cases h2 : M < 4
    · have e2 : moN M = 4 := if_pos h2
      have zm : (4 : Int) > M := by omega
      rw [e1] at wc HM HW
      have e2' : ((moN M : Nat) : Int) = 4 := by omega
      rw [e2'] at HW
      clear e2 e2'
      have zz : 0 < 1 := by decide
      clear e1
      clear h1 h2 hp hc hc1 hm hm2 hC hM hs zz
      generalize satM (plN P C) 4 = l at *
      generalize plN P C = pl at *
      go_enter Try.func9, Try.ntmps9
      go_wp2_with (first
        | (go_at_call 28; refine HM.out.mono ?_; rintro e w2 ⟨rfl, rfl⟩)
        | (go_at_call 29; refine HS.out.mono ?_; rintro e w2 ⟨rfl, rfl⟩))
      rw [HW.out]
      go_ret
      exact ⟨rfl, HK.out⟩
    · have e2 : ((moN M : Nat) : Int) = M := by unfold moN; rw [if_neg h2]; omega
      have zm : ¬ (4 : Int) > M := by omega
      rw [e1] at wc HM HW
      rw [e2] at HW
      have zz : 0 < 1 := by decide
      clear e1
      clear e2
      clear h1 h2 hp hc hc1 hm hm2 hC hM hs zz
      generalize satM (plN P C) 4 = l at *
      generalize plN P C = pl at *
      go_enter Try.func9, Try.ntmps9
      go_wp2_with (first
        | (go_at_call 28; refine HM.out.mono ?_; rintro e w2 ⟨rfl, rfl⟩)
        | (go_at_call 29; refine HS.out.mono ?_; rintro e w2 ⟨rfl, rfl⟩))
      rw [HW.out]
      go_ret
      exact ⟨rfl, HK.out⟩
end Go.Proofs.Ytcbebepngencjaa

/- The laws of lease: begun. -/
namespace Go.Proofs.Ytcbebepngencjaa
open Go.RowKit
set_option maxRecDepth 100000
set_option maxRecDepth 100000

def bgS (i : Nat) : Ls := ⟨5 - i, i, i, 1, 3, 10, 0, 4⟩
def bgE : Ls := ⟨8, 5, 5, 1, 3, 10, 1, 8⟩
theorem bg_new : newM (plN 1 3) (cpN 3) (moN 10) 0 = bgS 0 := rfl
theorem bg_tick {i : Nat} (hi : i < 4) : tickM (bgS i) 0 false true = (bgS (i + 1), 0, false) := by
  match i, hi with
  | 0, _ | 1, _ | 2, _ | 3, _ => rfl
theorem bg_last : tickM (bgS 4) 0 false true = (bgE, 1, false) := rfl
set_option maxHeartbeats 1000000 in
theorem begun_any (w : World) : Calls Try.prog 7 #[] w fun e w' => e = .returned (.bool true) ∧ Below w.heap.size w w' := by
  have HN : Hid (Calls Try.prog 9 #[.int .i64 1, .int .i64 3, .int .i64 10, .int .u64 0] w fun e w1 => e = .returned (.pointer (some ⟨w.heap.size, 0, none⟩)) ∧ Hid (LsIs w1 w.heap.size (bgS 0) ∧ Below w.heap.size w w1) ∧ Hid (Calls Try.prog 11 #[.pointer (some ⟨w.heap.size, 0, none⟩)] w1 fun e w' => e = .returned (.int .i64 5) ∧ w1 = w') ∧ Hid (Calls Try.prog 17 #[.pointer (some ⟨w.heap.size, 0, none⟩)] w1 fun e w' => e = .returned (.int .i64 5) ∧ w1 = w')) :=
    (new_any 1 3 10 0 (by decide) (by decide) (by decide) w).mono fun e w1 ⟨he, h1, b1⟩ => ⟨he, ⟨h1, b1⟩, left_any h1, span_any h1⟩
  have HT : Hid (∀ (i : Nat) (wr : World), LsIs wr w.heap.size (bgS i) → Below w.heap.size w wr → i < 4 → Calls Try.prog 12 #[.pointer (some ⟨w.heap.size, 0, none⟩), .int .i64 0, .bool false, .bool true] wr fun e w' => e = .returned (.tuple #[.int .u64 0, .bool false]) ∧ Hid (LsIs w' w.heap.size (bgS (i + 1)) ∧ Below w.heap.size w w')) := fun i wr h hb hi =>
    (tick_any h 0 false true).mono fun e w' ⟨he, h1, m1⟩ => by
      rw [bg_tick hi] at he h1
      exact ⟨he, h1, m1.below hb hb.size (fun k hk => by omega)⟩
  have HL : Hid (∀ (wr : World), LsIs wr w.heap.size (bgS 4) → Below w.heap.size w wr → Calls Try.prog 12 #[.pointer (some ⟨w.heap.size, 0, none⟩), .int .i64 0, .bool false, .bool true] wr fun e w1 => e = .returned (.tuple #[.int .u64 1, .bool false]) ∧ Hid (Below w.heap.size w w1) ∧ Hid (Calls Try.prog 13 #[.pointer (some ⟨w.heap.size, 0, none⟩)] w1 fun e w' => e = .returned (.int .i64 8) ∧ w1 = w') ∧ Hid (Calls Try.prog 16 #[.pointer (some ⟨w.heap.size, 0, none⟩)] w1 fun e w' => e = .returned (.int .u64 1) ∧ w1 = w')) := fun wr h hb =>
    (tick_any h 0 false true).mono fun e w' ⟨he, h1, m1⟩ => by
      rw [bg_last] at he h1
      exact ⟨he, m1.below hb hb.size (fun k hk => by omega), patience_any h1, seen_any h1⟩
  generalize w.heap.size = sb at *
  go_enter Try.func7, Try.ntmps7
  go_wp2_with (first
    | (go_at_call 9; refine HN.out.mono ?_; rintro e w1 ⟨rfl, HK, H1, H2⟩)
    | (go_at_call 11; refine H1.out.mono ?_; rintro e w2 ⟨rfl, rfl⟩)
    | (go_at_call 17; refine H2.out.mono ?_; rintro e w2 ⟨rfl, rfl⟩))
  go_loopg [2] 4 (fun q s2 wx => ∃ i : Nat, i ≤ 4 ∧ q = 4 - i ∧ s2 = .int .i64 (i : Nat) ∧ Hid (LsIs wx sb (bgS i) ∧ Below sb w wx))
  case atStart => exact ⟨0, by decide, rfl, rfl, HK⟩
  case round =>
    clear HN H1 H2 HK
    obtain ⟨i, hi, rfl, rfl, HX⟩ := hrel
    by_cases hlt : i < 4
    · have HC := HT.out i wr HX.out.1 HX.out.2 hlt
      have z : (i : Int) < 4 := by omega
      have hwi : IntKind.i64.wrap ((i : Int) + 1) = (i : Int) + 1 := by rw [IntKind.wrap_i64]; omega
      have hme : 4 - (i + 1) < 4 - i := by omega
      have hi1 : i + 1 ≤ 4 := by omega
      clear HX HT HL hlt
      go_wp2_with (go_at_call 12; refine HC.mono ?_; rintro e w2 ⟨rfl, HK⟩)
      go_roundg (4 - (i + 1))
      case measure => go_light; exact hme
      case rel => go_light; exact ⟨i + 1, hi1, rfl, by simp, HK⟩
    · obtain rfl : i = 4 := by omega
      have HC := HL.out wr HX.out.1 HX.out.2
      have z : ¬ (4 : Int) < 4 := by decide
      clear HX HT HL hlt
      go_wp2_with (first
        | (go_at_call 12; refine HC.mono ?_; rintro e w2 ⟨rfl, HK, H1, H2⟩)
        | (go_at_call 13; refine H1.out.mono ?_; rintro e w3 ⟨rfl, rfl⟩)
        | (go_at_call 16; refine H2.out.mono ?_; rintro e w3 ⟨rfl, rfl⟩))
      go_ret
      exact ⟨rfl, HK.out⟩
end Go.Proofs.Ytcbebepngencjaa

/- The law LeaseRuns. -/
namespace Go.Proofs.Ytcbebepngencjaa
open Go.RowKit
set_option maxRecDepth 100000
set_option maxRecDepth 100000

theorem cel_on {W W' : World} {B b o : Nat} {v : Value} (h : Below B W W') (hB : b < B) (hc : W.cell? ⟨b, o, none⟩ = some v) : W'.cell? ⟨b, o, none⟩ = some v := by
  rw [World.cell?_of_block (a := ⟨b, o, none⟩) (h.block b hB)]; exact hc
theorem cel_lt {W : World} {b o : Nat} {v : Value} (hc : W.cell? ⟨b, o, none⟩ = some v) : b < W.heap.size := by
  by_cases h : b < W.heap.size
  · exact h
  · have : W.heap[b]? = none := by simp; omega
    simp [World.cell?, this] at hc
/-- One step that is handed in. -/
structure LOp where
  on : Int
  kd : Int
  ep : Nat
  ph : Int
  a : Bool
  b : Bool
  pl : Int
  cp : Int
  mo : Int
def lopCell (o : LOp) (i : Nat) : Value := if i = 0 then .int .i64 o.on else if i = 1 then .int .i64 o.kd else if i = 2 then .int .u64 (o.ep : Nat) else if i = 3 then .int .i64 o.ph else if i = 4 then .bool o.a else if i = 5 then .bool o.b else if i = 6 then .int .i64 o.pl else if i = 7 then .int .i64 o.cp else .int .i64 o.mo
structure LOp.Ok (o : LOp) : Prop where
  he : o.ep < 18446744073709551616
  hc : o.cp ≤ 9223372036854775807
  hm : o.mo ≤ 9223372036854775807
def LOpsIn (W : World) (a : Option Addr) (l : List LOp) : Prop := ∀ i o, l[i]? = some o → o.Ok ∧ ∃ b off, a = some ⟨b, off, none⟩ ∧ ∀ j, j < 9 → W.cell? ⟨b, off + i * 9 + j, none⟩ = some (lopCell o j)
theorem LOpsIn.on {W W' : World} {a : Option Addr} {l : List LOp} (h : LOpsIn W a l) (hb : Below W.heap.size W W') : LOpsIn W' a l := fun i o ho => by
  obtain ⟨hk, b, off, e, h1⟩ := h i o ho
  exact ⟨hk, b, off, e, fun j hj => cel_on hb (cel_lt (h1 j hj)) (h1 j hj)⟩
theorem within_add (a : Nat) (n : Int) (m : Nat) (hm : 0 < m) (hm2 : m ≤ 1000000000) (ha : a ≤ 1000) (w : World) : Calls Try.prog 8 #[.int .i64 n, .int .i64 (m : Nat)] w fun e w' => w = w' ∧ ∃ k x : Nat, e = .returned (.int .i64 (k : Nat)) ∧ (a : Int) + (k : Int) = (x : Int) ∧ IntKind.i64.wrap (x : Int) = (x : Int) ∧ Hid (a ≤ x ∧ x < a + m) :=
  (within_any n m hm hm2 w).mono fun e w' ⟨h1, he⟩ => by
    have h2 := Int.emod_nonneg n (show (m : Int) ≠ 0 by omega)
    have h3 := Int.emod_lt_of_pos n (show (0 : Int) < (m : Int) by omega)
    exact ⟨h1, _, a + (n % m).toNat, he, by omega, by rw [IntKind.wrap_i64]; omega, by show _ ∧ _; omega⟩

/-- What the law keeps of a lease: its numbers, without since and quiet. -/
structure RX (w0 wx : World) (lb c mo pt sn l : Nat) (s : Ls) : Prop where
  is : LsIs wx lb s
  hc : s.copies = c
  hm : s.most = mo
  hp : s.pat = pt
  hs : s.seen = sn
  hl : s.left = l
  below : Below w0.heap.size w0 wx
  ge : w0.heap.size ≤ lb
def RE (w0 wx : World) (lb c mo pt sn l : Nat) : Prop := ∃ s, RX w0 wx lb c mo pt sn l s
section
variable {w0 wx : World} {lb c mo pt sn l : Nat}
theorem RX.mv {s s' : Ls} {w' : World} {pt' sn' l' : Nat} (h : RX w0 wx lb c mo pt sn l s) (hi : LsIs w' lb s') (m : Mv (fun k => k = lb) wx w') (h1 : s'.copies = s.copies) (h2 : s'.most = s.most) (h3 : s'.pat = pt') (h4 : s'.seen = sn') (h5 : s'.left = l') : RX w0 w' lb c mo pt' sn' l' s' :=
  ⟨hi, h1.trans h.hc, h2.trans h.hm, h3, h4, h5, m.below h.below h.below.size (fun k hk => by have := h.ge; omega), h.ge⟩
theorem RE.left (h : RE w0 wx lb c mo pt sn l) : Calls Try.prog 11 #[.pointer (some ⟨lb, 0, none⟩)] wx fun e w' => e = .returned (.int .i64 (l : Nat)) ∧ wx = w' := by
  obtain ⟨s, h⟩ := h
  have := left_any h.is
  rw [h.hl] at this
  exact this
theorem RE.pat (h : RE w0 wx lb c mo pt sn l) : Calls Try.prog 13 #[.pointer (some ⟨lb, 0, none⟩)] wx fun e w' => e = .returned (.int .i64 (pt : Nat)) ∧ wx = w' := by
  obtain ⟨s, h⟩ := h
  have := patience_any h.is
  rw [h.hp] at this
  exact this
theorem RE.idle (h : RE w0 wx lb c mo pt sn l) (fr : Bool) (hf : 1 < l ∨ fr = false) : Calls Try.prog 12 #[.pointer (some ⟨lb, 0, none⟩), .int .i64 0, .bool false, .bool fr] wx fun e w' => e = .returned (.tuple #[.int .u64 0, .bool false]) ∧ Hid (RE w0 w' lb c mo pt sn (l - 1)) := by
  obtain ⟨s, h⟩ := h
  refine (tick_any h.is 0 false fr).mono fun e w' ⟨he, h1, m1⟩ => ?_
  have e1 : tickM s 0 false fr = (lowM s, 0, false) := by
    unfold tickM
    rw [if_neg (by simp), if_pos rfl, if_neg]
    rintro ⟨h2, h3⟩
    have := h.hl
    rcases hf with hf | hf
    · omega
    · rw [hf] at h3; simp at h3
  rw [e1] at he h1
  exact ⟨he, lowM s, h.mv h1 m1 rfl rfl h.hp h.hs (by show s.left - 1 = _; rw [h.hl])⟩
theorem RE.go (h : RE w0 wx lb c mo pt sn l) (hl : l ≤ 1) (hsn : sn ≤ 100000000) (hc : c ≤ 1000) : Calls Try.prog 12 #[.pointer (some ⟨lb, 0, none⟩), .int .i64 0, .bool false, .bool true] wx fun e w' => ∃ n : Nat, e = .returned (.tuple #[.int .u64 (n : Nat), .bool false]) ∧ (n == 0) = false ∧ (((n : Nat) : Int) == 0) = false ∧ sn < n ∧ n ≤ sn + c ∧ Hid (RE w0 w' lb c mo (min (2 * pt) mo) n (min (2 * pt) mo)) := by
  obtain ⟨s, h⟩ := h
  refine (tick_any h.is 0 false true).mono fun e w' ⟨he, h1, m1⟩ => ?_
  have e1 : tickM s 0 false true = (beginM (lowM s), nextM (lowM s), false) := by
    unfold tickM
    rw [if_neg (by simp), if_pos rfl, if_pos]
    have := h.hl
    exact ⟨by omega, rfl⟩
  have hok : (lowM s).Ok := ⟨by show s.left - 1 ≤ _; have := h.is.ok.hl; omega, satM_le (by decide), satM_le (by decide), h.is.ok.hp, h.is.ok.hc, h.is.ok.hm, h.is.ok.he, h.is.ok.h4, h.is.ok.hpm⟩
  have hgt := nxF_gt hok
  have hle : nxF (lowM s) ≤ s.seen + s.copies := by
    have := h.is.ok.hp
    show (if nxE (lowM s) ≤ s.seen then nxE (lowM s) + s.copies else nxE (lowM s)) ≤ _
    have e2 : nxE (lowM s) = s.seen - s.seen % s.copies + s.place := rfl
    rw [e2]
    split <;> omega
  have hse := h.hs
  have hce := h.hc
  have hsl : (lowM s).seen = s.seen := rfl
  have hnx : nextM (lowM s) = nxF (lowM s) := by
    unfold nextM
    rw [if_neg (by omega), if_neg (by omega)]
  have hdb : dblM (lowM s) = min (2 * pt) mo := by
    have hpp : (lowM s).pat = pt := h.hp
    have hmm : (lowM s).most = mo := h.hm
    have := h.is.ok.hpm
    unfold dblM
    rw [hpp, hmm]
    split <;> omega
  rw [e1] at he h1
  refine ⟨nextM (lowM s), he, by rw [hnx]; simp; omega, by rw [hnx]; simp; omega, by omega, by omega, beginM (lowM s), ?_⟩
  have hb : beginM (lowM s) = { lowM s with seen := nextM (lowM s), pat := dblM (lowM s), left := dblM (lowM s) } := by
    unfold beginM
    rw [if_neg (by omega)]
  refine h.mv h1 m1 ?_ ?_ ?_ ?_ ?_
  · rw [hb]; rfl
  · rw [hb]; rfl
  · rw [hb]; exact hdb
  · rw [hb]
  · rw [hb]; exact hdb
/-- Heard, of a lease that has not begun an epoch. -/
def RH (w0 wx : World) (lb c mo : Nat) : Prop := ∃ sn l, sn ≤ 1000 ∧ l ≤ 20 ∧ RE w0 wx lb c mo 4 sn l
theorem RH.heard (h : RH w0 wx lb c mo) (e : Nat) (p t : Bool) (he : e < 1000) : Calls Try.prog 10 #[.pointer (some ⟨lb, 0, none⟩), .int .u64 (e : Nat), .bool p, .bool t] wx fun r w' => r = .returned (.tuple #[]) ∧ Hid (RH w0 w' lb c mo) := by
  obtain ⟨sn, l, h1, h2, s, h⟩ := h
  refine (heard_any h.is e p t (by omega)).mono fun r w' ⟨hr, hi, hm⟩ => ⟨hr, (heardM s e p t).seen, (heardM s e p t).left, ?_, ?_, heardM s e p t, h.mv hi hm rfl rfl h.hp rfl rfl⟩
  · have := h.hs
    show (if s.seen < e then e else s.seen) ≤ _
    split <;> omega
  · have h3 := h.hp
    have h4 := h.hl
    show (if t = true ∨ (p = true ∧ s.seen ≤ e) then s.pat else s.left) ≤ _
    split <;> omega
def RR (w0 wx : World) (lb c mo pt r : Nat) : Prop := ∃ sn l, sn ≤ 1000 + r * 9 ∧ l ≤ 100 ∧ RE w0 wx lb c mo pt sn l
end

set_option maxHeartbeats 8000000 in
theorem runsLaw (P C M K Wn : Int) (oa : Option Addr) (oc : Nat) (L : List LOp) (w : World) (hO : LOpsIn w oa L) :
    Calls Try.prog 3 #[.agg #[.int .i64 P, .int .i64 C, .int .i64 M, .slice oa L.length oc, .int .i64 K, .int .i64 Wn]] w fun e w' => e = .returned (.bool true) ∧ Below w.heap.size w w' := by
  obtain ⟨W0, HW0⟩ : ∃ W, Hid (w.alloc (.cells #[.int .i64 P, .int .i64 C, .int .i64 M, .slice oa L.length oc, .int .i64 K, .int .i64 Wn] 24) = W) := ⟨_, rfl⟩
  have hb0 : Below w.heap.size w W0 := by rw [← HW0.out]; exact (Below.refl _ _).alloc (Nat.le_refl _) _
  have kc : ∀ i v, (#[Value.int .i64 P, .int .i64 C, .int .i64 M, .slice oa L.length oc, .int .i64 K, .int .i64 Wn] : Array Value)[i]? = some v → W0.cell? ⟨w.heap.size, i, none⟩ = some v := fun i v h => by rw [← HW0.out]; exact (World.cell?_alloc_at (w := w) _ _ _ i rfl).trans h
  have hlt := cel_lt (kc 0 _ rfl)
  have HO : Hid (LOpsIn W0 oa L) := hO.on hb0
  have HB0 : Hid (Below w.heap.size w W0) := hb0
  obtain ⟨sb, Hsb⟩ : ∃ x, Hid (w.heap.size = x) := ⟨_, rfl⟩
  rw [Hsb.out] at kc hlt HB0
  have HC : Hid (∀ W, Below W0.heap.size W0 W → W.cell? ⟨sb, 0, none⟩ = some (.int .i64 P) ∧ W.cell? ⟨sb, 1, none⟩ = some (.int .i64 C) ∧ W.cell? ⟨sb, 2, none⟩ = some (.int .i64 M) ∧ W.cell? ⟨sb, 3, none⟩ = some (.slice oa L.length oc) ∧ W.cell? ⟨sb, 4, none⟩ = some (.int .i64 K) ∧ W.cell? ⟨sb, 5, none⟩ = some (.int .i64 Wn)) := fun W hb =>
    ⟨cel_on hb hlt (kc 0 _ rfl), cel_on hb hlt (kc 1 _ rfl), cel_on hb hlt (kc 2 _ rfl), cel_on hb hlt (kc 3 _ rfl), cel_on hb hlt (kc 4 _ rfl), cel_on hb hlt (kc 5 _ rfl)⟩
  have HBG : Hid (Calls Try.prog 7 #[] W0 fun e w' => e = .returned (.bool true) ∧ Hid (Below W0.heap.size W0 w') ∧ w'.cell? ⟨sb, 0, none⟩ = some (.int .i64 P) ∧ w'.cell? ⟨sb, 1, none⟩ = some (.int .i64 C) ∧ w'.cell? ⟨sb, 2, none⟩ = some (.int .i64 M)) := (begun_any W0).mono fun e w' ⟨he, hb⟩ => ⟨he, hb, (HC.out w' hb).1, (HC.out w' hb).2.1, (HC.out w' hb).2.2.1⟩
  have HEND : Hid (∀ W : World, Below W0.heap.size W0 W → Calls Try.prog 7 #[] W fun e w' => e = .returned (.bool true) ∧ Hid (Below sb w w')) := fun W hb => (begun_any W).mono fun e w' ⟨he, hb2⟩ => ⟨he, HB0.out.trans ((hb.trans (hb2.mono hb.size)).mono (by omega))⟩
  clear kc hO hb0 hlt
  go_enter Try.func3, Try.ntmps3
  go_upto_region 1 with fail
  rw [HW0.out, Hsb.out]
  go_upto_region 3 with (go_at_call 7; refine HBG.out.mono ?_; rintro e w1 ⟨rfl, HB1, d0, d1, d2⟩)
  have HI1 : Hid (Calls Try.prog 8 #[.int .i64 C, .int .i64 9] w1 fun e w' => w1 = w' ∧ ∃ k x : Nat, e = .returned (.int .i64 (k : Nat)) ∧ (1 : Int) + (k : Int) = (x : Int) ∧ IntKind.i64.wrap (x : Int) = (x : Int) ∧ Hid (1 ≤ x ∧ x < 1 + 9)) := within_add 1 C 9 (by decide) (by decide) (by decide) w1
  have HI2 : Hid (Calls Try.prog 8 #[.int .i64 M, .int .i64 60] w1 fun e w' => w1 = w' ∧ ∃ k x : Nat, e = .returned (.int .i64 (k : Nat)) ∧ (4 : Int) + (k : Int) = (x : Int) ∧ IntKind.i64.wrap (x : Int) = (x : Int) ∧ Hid (4 ≤ x ∧ x < 4 + 60)) := within_add 4 M 60 (by decide) (by decide) (by decide) w1
  go_upto_region 4 with (go_at_call 8; refine HI1.out.mono ?_; rintro e w2 ⟨rfl, k1, c, rfl, hc1, wc1, Hc⟩)
  go_upto_region 5 with (go_at_call 8; refine HI2.out.mono ?_; rintro e w2 ⟨rfl, k2, mo, rfl, hm1, wm1, Hm⟩)
  have HI3 : Hid (Calls Try.prog 8 #[.int .i64 P, .int .i64 (c : Nat)] w1 fun e w' => w1 = w' ∧ ∃ k : Nat, e = .returned (.int .i64 (k : Nat)) ∧ Hid (k < c)) := (within_any P c (by have := Hc.out; omega) (by have := Hc.out; omega) w1).mono fun e w' ⟨h1, h2⟩ => ⟨h1, _, h2, by
    have := Hc.out
    have h2 := Int.emod_nonneg P (show (c : Int) ≠ 0 by omega)
    have h3 := Int.emod_lt_of_pos P (show (0 : Int) < (c : Int) by omega)
    show _ < _
    omega⟩
  have HNW : Hid (∀ k : Nat, Hid (k < c) → Calls Try.prog 9 #[.int .i64 (k : Nat), .int .i64 (c : Nat), .int .i64 (mo : Nat), .int .u64 0] w1 fun e w' => ∃ lb, e = .returned (.pointer (some ⟨lb, 0, none⟩)) ∧ Hid (RH W0 w' lb c mo)) := fun k hk => by
    have hc' := Hc.out
    have hm' := Hm.out
    refine (new_any (k : Nat) (c : Nat) (mo : Nat) 0 (by omega) (by omega) (by decide) w1).mono fun e w' ⟨he, h1, hb⟩ => ⟨_, he, 0, satM (plN k c) 4, by decide, ?_, _, h1, ?_, ?_, rfl, rfl, rfl, HB1.out.trans (hb.mono HB1.out.size), HB1.out.size⟩
    · have h5 := pl_lt (k : Nat) (c : Nat)
      have h6 : cpN (c : Nat) = c := by unfold cpN; rw [if_neg (by omega)]; omega
      rw [h6] at h5
      unfold satM
      split <;> omega
    · show cpN (c : Nat) = c
      unfold cpN; rw [if_neg (by omega)]; omega
    · show moN (mo : Nat) = mo
      unfold moN; rw [if_neg (by omega)]; omega
  go_upto_region 6 with (first
    | (go_at_call 8; refine HI3.out.mono ?_; rintro e w2 ⟨rfl, k3, rfl, Hk3⟩)
    | (go_at_call 9; refine (HNW.out _ Hk3).mono ?_; rintro e w3 ⟨lb, rfl, HR⟩))
  clear HI1 HI2 HI3 HNW HBG HB1 d0 d1 d2
  go_wp2_with fail
  go_loopg [6] 50 (fun q s6 wx => ∃ i : Nat, i ≤ 50 ∧ i ≤ L.length ∧ q = 50 - i ∧ s6 = .int .i64 (i : Nat) ∧ Hid (RH W0 wx lb c mo))
  case atStart => exact ⟨0, by omega, Nat.zero_le _, rfl, rfl, HR⟩
  case round =>
    clear HR
    obtain ⟨i, hi, hil, rfl, rfl, HX⟩ := hrel
    have hbx : Below W0.heap.size W0 wr := by obtain ⟨_, _, _, _, _, h⟩ := HX.out; exact h.below
    obtain ⟨x0, x1, x2, x3, x4, x5⟩ := HC.out wr hbx
    by_cases hgo : i < L.length ∧ i < 50
    · obtain ⟨o, ho⟩ : ∃ o, L[i]? = some o := ⟨_, List.getElem?_eq_getElem hgo.1⟩
      obtain ⟨hok, b, off, rfl, hq⟩ := (HO.out.on hbx) i o ho
      have q2 : wr.cell? ⟨b, off + i * 9 + 2, none⟩ = some (.int .u64 (o.ep : Nat)) := hq 2 (by decide)
      have q4 : wr.cell? ⟨b, off + i * 9 + 4, none⟩ = some (.bool o.a) := hq 4 (by decide)
      have q5 : wr.cell? ⟨b, off + i * 9 + 5, none⟩ = some (.bool o.b) := hq 5 (by decide)
      have z1 : (i : Int) < (L.length : Int) := by omega
      have z2 : (i : Int) < 50 := by omega
      have z0 : (0 : Int) ≤ (i : Int) := by omega
      have he : (o.ep : Int).tmod 1000 = ((o.ep % 1000 : Nat) : Int) := (Int.ofNat_tmod _ _).symm
      have hel := Nat.mod_lt o.ep (show 0 < 1000 by decide)
      have hew : IntKind.u64.wrap ((o.ep % 1000 : Nat) : Int) = ((o.ep % 1000 : Nat) : Int) := by rw [IntKind.wrap_u64]; omega
      have q3d : wr.drew.cell? ⟨sb, 3, none⟩ = some (.slice (some ⟨b, off, none⟩) L.length oc) := x3
      have q2d : wr.drew.cell? ⟨b, off + i * 9 + 2, none⟩ = some (.int .u64 (o.ep : Nat)) := q2
      have q4d : wr.drew.cell? ⟨b, off + i * 9 + 4, none⟩ = some (.bool o.a) := q4
      have q5d : wr.drew.cell? ⟨b, off + i * 9 + 5, none⟩ = some (.bool o.b) := q5
      have HH : Hid (Calls Try.prog 10 #[.pointer (some ⟨lb, 0, none⟩), .int .u64 (o.ep % 1000 : Nat), .bool o.a, .bool o.b] wr.drew fun r w' => r = .returned (.tuple #[]) ∧ Hid (RH W0 w' lb c mo) ∧ w'.cell? ⟨sb, 3, none⟩ = some (.slice (some ⟨b, off, none⟩) L.length oc) ∧ w'.cell? ⟨b, off + i * 9 + 2, none⟩ = some (.int .u64 (o.ep : Nat)) ∧ w'.cell? ⟨b, off + i * 9 + 4, none⟩ = some (.bool o.a) ∧ w'.cell? ⟨b, off + i * 9 + 5, none⟩ = some (.bool o.b)) := by
        have hd : RH W0 wr.drew lb c mo := by
          obtain ⟨sn, l, h1, h2, s, h⟩ := HX.out
          exact ⟨sn, l, h1, h2, s, h.is.later rfl, h.hc, h.hm, h.hp, h.hs, h.hl, ⟨h.below.os, h.below.tape, h.below.output, h.below.size, h.below.block⟩, h.ge⟩
        refine (hd.heard (o.ep % 1000) o.a o.b hel).mono fun r w' ⟨hr, hk⟩ => ?_
        have hb2 : Below W0.heap.size W0 w' := by obtain ⟨_, _, _, _, _, h⟩ := hk.out; exact h.below
        obtain ⟨_, b', off', e', hq'⟩ := (HO.out.on hb2) i o ho
        obtain ⟨rfl, rfl⟩ : b = b' ∧ off = off' := by simpa using e'
        exact ⟨hr, hk, (HC.out w' hb2).2.2.2.1, hq' 2 (by decide), hq' 4 (by decide), hq' 5 (by decide)⟩
      have hwi : IntKind.i64.wrap ((i : Int) + 1) = (i : Int) + 1 := by rw [IntKind.wrap_i64]; omega
      have hme : 50 - (i + 1) < 50 - i := by omega
      have HL : Hid (i + 1 ≤ 50 ∧ i + 1 ≤ L.length) := ⟨by omega, by omega⟩
      generalize o.ep % 1000 = ep at *
      generalize o.a = oaa at *
      generalize o.b = obb at *
      generalize L.length = LL at *
      generalize o.ep = oep at *
      clear hq ho hgo hi hil x0 x1 x2 x4 x5 HX hbx hok hel
      go_upto_region 9 with fail
      go_region_held3 (fun W => W.cell? ⟨sb, 3, none⟩ = some (.slice (some ⟨b, off, none⟩) LL oc) ∧ W.cell? ⟨b, off + i * 9 + 2, none⟩ = some (.int .u64 (oep : Nat)) ∧ W.cell? ⟨b, off + i * 9 + 4, none⟩ = some (.bool oaa) ∧ W.cell? ⟨b, off + i * 9 + 5, none⟩ = some (.bool obb))
        (first | exact ⟨q3d, q2d, q4d, q5d⟩ | exact ⟨u3, u2, u4, u5⟩)
        (first
          | (go_at_call 10; with_reducible refine HH.out.mono ?_; rintro r w6 ⟨rfl, HK, u3, u2, u4, u5⟩))
      all_goals
        go_wp2_with fail
        go_roundg (50 - (i + 1))
        case measure => go_light; exact hme
        case rel => go_light; exact ⟨i + 1, HL.out.1, HL.out.2, rfl, by simp, HK⟩
    · by_cases hg1 : i < L.length
      · have z1 : (i : Int) < (L.length : Int) := by omega
        have z2 : ¬ (i : Int) < 50 := by omega
        have HX2 : Hid (RR W0 wr lb c mo 4 0) := by
          obtain ⟨sn, l, h1, h2, h3⟩ := HX.out
          exact ⟨sn, l, by omega, by omega, h3⟩
        have hm4 : 4 ≤ mo := Hm.out.1
        clear x0 x1 x2 x4 x5 HX hbx hgo hi hil
        generalize wr = wrO at *
        go_wp2_with fail
        go_loopg [7, 8] 8 (fun q s7 s8 wx => ∃ r pt : Nat, r ≤ 8 ∧ q = 8 - r ∧ s7 = .int .i64 (pt : Nat) ∧ s8 = .int .i64 (r : Nat) ∧ pt ≤ mo ∧ Hid (RR W0 wx lb c mo pt r))
        case atStart => exact ⟨0, 4, by decide, rfl, rfl, rfl, hm4, HX2⟩
        case round =>
          clear HX2 z1 x3 z2
          obtain ⟨r, pt, hr, rfl, rfl, rfl, hpt, HX⟩ := hrel
          by_cases hlt : r < 8
          · obtain ⟨sn, l, hsn, hl, hRE⟩ := HX.out
            have HRE : Hid (RE W0 wr lb c mo pt sn l) := hRE
            have hbx : Below W0.heap.size W0 wr := by obtain ⟨_, h⟩ := hRE; exact h.below
            obtain ⟨x0, x1, x2, x3, x4, x5⟩ := HC.out wr hbx
            have HLF : Hid (Calls Try.prog 11 #[.pointer (some ⟨lb, 0, none⟩)] wr fun e w' => e = .returned (.int .i64 (l : Nat)) ∧ wr = w') := hRE.left
            have HI1 : Hid (Calls Try.prog 8 #[.int .i64 Wn, .int .i64 8] wr fun e w' => wr = w' ∧ ∃ k x : Nat, e = .returned (.int .i64 (k : Nat)) ∧ (0 : Int) + (k : Int) = (x : Int) ∧ IntKind.i64.wrap (x : Int) = (x : Int) ∧ Hid (0 ≤ x ∧ x < 0 + 8)) := within_add 0 Wn 8 (by decide) (by decide) (by decide) wr
            have HI2 : Hid (Calls Try.prog 8 #[.int .i64 K, .int .i64 200] wr fun e w' => wr = w' ∧ ∃ k x : Nat, e = .returned (.int .i64 (k : Nat)) ∧ (0 : Int) + (k : Int) = (x : Int) ∧ IntKind.i64.wrap (x : Int) = (x : Int) ∧ Hid (0 ≤ x ∧ x < 0 + 200)) := within_add 0 K 200 (by decide) (by decide) (by decide) wr
            have zr : (r : Int) < 8 := by omega
            clear hRE hbx x0 x1 x2 x3 HX
            go_upto_if 76 with (first
              | (go_at_call 11; refine HLF.out.mono ?_; rintro e w6 ⟨rfl, rfl⟩)
              | (go_at_call 8; refine HI1.out.mono ?_; rintro e w6 ⟨rfl, k8, y8, rfl, hy8, wy8, Hy8⟩))
            go_cut [10] from 66 to 128 (fun s10 wx => ∃ kp : Nat, s10 = .int .i64 (kp : Nat) ∧ Hid (kp < 200) ∧ wr = wx)
            case first =>
              by_cases hk : r = k8
              · have zk : ((r : Int) == (k8 : Int)) = true := by simp [hk]
                have zk2 : (r == k8) = true := by simp [hk]
                clear hk
                go_wp2_with (go_at_call 8; refine HI2.out.mono ?_; rintro e w6 ⟨rfl, k9, y9, rfl, hy9, wy9, Hy9⟩)
                go_meet
                case rel => go_light; exact ⟨k9, rfl, by have := Hy9.out; show _ < _; omega, rfl⟩
              · have zk : ((r : Int) == (k8 : Int)) = false := by simp; omega
                have zk2 : (r == k8) = false := by simp; omega
                clear hk
                go_wp2_with fail
                go_meet
                case rel => go_light; exact ⟨0, rfl, by show _ < _; omega, rfl⟩
            case rest =>
              obtain ⟨kp, rfl, Hkp, rfl⟩ := hcut
              obtain ⟨kq, hkq, hkq2⟩ : ∃ k : Nat, (kp : Int) + 1 = (k : Int) ∧ k = kp + 1 := ⟨kp + 1, by omega, rfl⟩
              have hkp := Hkp.out
              have wkq : IntKind.i64.wrap (kq : Int) = (kq : Int) := by rw [IntKind.wrap_i64]; omega
              have Hkq : Hid (kq = kp + 1 ∧ kp < 200) := ⟨hkq2, hkp⟩
              clear hkq2 hkp
              go_upto_if 84 with fail
              go_cut [11] from 66 to 128 (fun s11 wx => ∃ du : Nat, s11 = .int .i64 (du : Nat) ∧ Hid (du = max l kq) ∧ wr = wx)
              case first =>
                by_cases hk : l < kq
                · have zk : (kq : Int) > (l : Int) := by omega
                  clear HI1 HI2 HLF
                  go_wp2_with fail
                  go_meet
                  case rel => go_light; exact ⟨kq, rfl, by show _ = _; omega, rfl⟩
                · have zk : ¬ (kq : Int) > (l : Int) := by omega
                  clear HI1 HI2 HLF
                  go_wp2_with fail
                  go_meet
                  case rel => go_light; exact ⟨l, rfl, by show _ = _; omega, rfl⟩
              case rest =>
                obtain ⟨du, rfl, Hdu, rfl⟩ := hcut
                have hdu := Hdu.out
                have hkq3 := Hkq.out
                have zd : ¬ (du : Int) < 1 := by omega
                have HDU : Hid (du = max l (kp + 1) ∧ kp < 200 ∧ l ≤ 100 ∧ sn ≤ 1000 + r * 9 ∧ r < 8 ∧ c < 10 ∧ 1 ≤ du ∧ mo < 64) := ⟨by omega, by omega, hl, hsn, hlt, by have := Hc.out; omega, by omega, by have := Hm.out; omega⟩
                clear hdu hkq3 hkq wkq Hkq HI1 HI2 HLF
                generalize wr = wrP at *
                go_wp2_with fail
                go_loopg [12] (du - 1) (fun q s12 wx => ∃ i : Nat, 1 ≤ i ∧ i ≤ du ∧ q = du - i ∧ s12 = .int .i64 (i : Nat) ∧ Hid (RE W0 wx lb c mo pt sn (l - (i - 1))))
                case atStart => exact ⟨1, Nat.le_refl _, HDU.out.2.2.2.2.2.2.1, rfl, rfl, HRE⟩
                case round =>
                  clear HRE
                  obtain ⟨i, hi1, hi2, rfl, rfl, HY⟩ := hrel
                  have hdd := HDU.out
                  have wi1 : IntKind.i64.wrap ((i : Int) + 1) = (i : Int) + 1 := by rw [IntKind.wrap_i64]; omega
                  by_cases hid : i < du
                  · have zi : (i : Int) < (du : Int) := by omega
                    have hme : du - (i + 1) < du - i := by omega
                    have HI : Hid (1 ≤ i + 1 ∧ i + 1 ≤ du) := ⟨by omega, by omega⟩
                    have HT : Hid (Calls Try.prog 12 #[.pointer (some ⟨lb, 0, none⟩), .int .i64 0, .bool false, .bool (decide (kp < i))] wr fun e w' => e = .returned (.tuple #[.int .u64 0, .bool false]) ∧ Hid (RE W0 w' lb c mo pt sn (l - (i + 1 - 1)))) := by
                      refine (HY.out.idle (decide (kp < i)) ?_).mono fun e w' ⟨he, hk⟩ => ⟨he, ?_⟩
                      · by_cases hki : kp < i
                        · left; omega
                        · right; simpa using hki
                      · rw [show l - (i + 1 - 1) = l - (i - 1) - 1 by omega]; exact hk
                    by_cases hki : kp < i
                    · have zki : (i : Int) > (kp : Int) := by omega
                      rw [show decide (kp < i) = true by simpa using hki] at HT
                      clear hdd HY hid hki
                      go_wp2_with (go_at_call 12; refine HT.out.mono ?_; rintro e w6 ⟨rfl, HK⟩)
                      go_roundg (du - (i + 1))
                      case measure => go_light; exact hme
                      case rel => go_light; exact ⟨i + 1, HI.out.1, HI.out.2, rfl, by simp, HK⟩
                    · have zki : ¬ (i : Int) > (kp : Int) := by omega
                      rw [show decide (kp < i) = false by simpa using hki] at HT
                      clear hdd HY hid hki
                      go_wp2_with (go_at_call 12; refine HT.out.mono ?_; rintro e w6 ⟨rfl, HK⟩)
                      go_roundg (du - (i + 1))
                      case measure => go_light; exact hme
                      case rel => go_light; exact ⟨i + 1, HI.out.1, HI.out.2, rfl, by simp, HK⟩
                  · have zi : ¬ (i : Int) < (du : Int) := by omega
                    obtain ⟨p2, hp2, hp3⟩ : ∃ k : Nat, 2 * (pt : Int) = (k : Int) ∧ k = 2 * pt := ⟨2 * pt, by omega, rfl⟩
                    have wp2 : IntKind.i64.wrap (p2 : Int) = (p2 : Int) := by rw [IntKind.wrap_i64]; omega
                    have wr1 : IntKind.i64.wrap ((r : Int) + 1) = (r : Int) + 1 := by rw [IntKind.wrap_i64]; omega
                    have hme : 8 - (r + 1) < 8 - r := by omega
                    have hr1 : r + 1 ≤ 8 := by omega
                    have HT : Hid (Calls Try.prog 12 #[.pointer (some ⟨lb, 0, none⟩), .int .i64 0, .bool false, .bool true] wr fun e w' => ∃ n : Nat, e = .returned (.tuple #[.int .u64 (n : Nat), .bool false]) ∧ (n == 0) = false ∧ (((n : Nat) : Int) == 0) = false ∧ Hid (RR W0 w' lb c mo (min p2 mo) (r + 1)) ∧ Hid (Calls Try.prog 13 #[.pointer (some ⟨lb, 0, none⟩)] w' fun e w'' => e = .returned (.int .i64 (min p2 mo : Nat)) ∧ w' = w'') ∧ Hid (Calls Try.prog 11 #[.pointer (some ⟨lb, 0, none⟩)] w' fun e w'' => e = .returned (.int .i64 (min p2 mo : Nat)) ∧ w' = w'')) := by
                      refine (HY.out.go (by omega) (by omega) (by omega)).mono fun e w' ⟨n, he, hn1, hn2, hn3, hn4, hk⟩ => ⟨n, he, hn1, hn2, ?_⟩
                      have hk' := hk.out
                      rw [← hp3] at hk'
                      exact ⟨⟨n, min p2 mo, by omega, by omega, hk'⟩, hk'.pat, hk'.left⟩
                    by_cases hpm : mo < p2
                    · have zp : (p2 : Int) > (mo : Int) := by omega
                      rw [show min p2 mo = mo by omega] at HT
                      clear hdd HY hid hp3 hpm
                      go_wp2_with (first
                        | (go_at_call 12; refine HT.out.mono ?_; rintro e w6 ⟨n, rfl, hn1, hn2, HK, HP, HL⟩)
                        | (go_at_call 13; refine HP.out.mono ?_; rintro e w7 ⟨rfl, rfl⟩)
                        | (go_at_call 11; refine HL.out.mono ?_; rintro e w7 ⟨rfl, rfl⟩))
                      go_roundg (8 - (r + 1))
                      case measure => go_light; exact hme
                      case rel => go_light; exact ⟨r + 1, mo, hr1, rfl, rfl, by simp, Nat.le_refl _, HK⟩
                    · have zp : ¬ (p2 : Int) > (mo : Int) := by omega
                      have hpm2 : p2 ≤ mo := by omega
                      rw [show min p2 mo = p2 by omega] at HT
                      clear hdd HY hid hp3 hpm
                      go_wp2_with (first
                        | (go_at_call 12; refine HT.out.mono ?_; rintro e w6 ⟨n, rfl, hn1, hn2, HK, HP, HL⟩)
                        | (go_at_call 13; refine HP.out.mono ?_; rintro e w7 ⟨rfl, rfl⟩)
                        | (go_at_call 11; refine HL.out.mono ?_; rintro e w7 ⟨rfl, rfl⟩))
                      go_roundg (8 - (r + 1))
                      case measure => go_light; exact hme
                      case rel => go_light; exact ⟨r + 1, p2, hr1, rfl, rfl, by simp, hpm2, HK⟩
          · have zr : ¬ (r : Int) < 8 := by omega
            have HE : Hid (Calls Try.prog 7 #[] wr fun e w' => e = .returned (.bool true) ∧ Hid (Below sb w w')) := by
              obtain ⟨_, _, _, _, _, h⟩ := HX.out
              exact HEND.out wr h.below
            clear HX
            go_wp2_with (go_at_call 7; refine HE.out.mono ?_; rintro e w6 ⟨rfl, HK⟩)
            go_ret
            rw [Hsb.out]
            exact ⟨rfl, HK.out⟩
      · have z1 : ¬ (i : Int) < (L.length : Int) := by omega
        have HX2 : Hid (RR W0 wr lb c mo 4 0) := by
          obtain ⟨sn, l, h1, h2, h3⟩ := HX.out
          exact ⟨sn, l, by omega, by omega, h3⟩
        have hm4 : 4 ≤ mo := Hm.out.1
        clear x0 x1 x2 x4 x5 HX hbx hgo hi hil
        generalize wr = wrO at *
        go_wp2_with fail
        go_loopg [7, 8] 8 (fun q s7 s8 wx => ∃ r pt : Nat, r ≤ 8 ∧ q = 8 - r ∧ s7 = .int .i64 (pt : Nat) ∧ s8 = .int .i64 (r : Nat) ∧ pt ≤ mo ∧ Hid (RR W0 wx lb c mo pt r))
        case atStart => exact ⟨0, 4, by decide, rfl, rfl, rfl, hm4, HX2⟩
        case round =>
          clear HX2 z1 x3
          obtain ⟨r, pt, hr, rfl, rfl, rfl, hpt, HX⟩ := hrel
          by_cases hlt : r < 8
          · obtain ⟨sn, l, hsn, hl, hRE⟩ := HX.out
            have HRE : Hid (RE W0 wr lb c mo pt sn l) := hRE
            have hbx : Below W0.heap.size W0 wr := by obtain ⟨_, h⟩ := hRE; exact h.below
            obtain ⟨x0, x1, x2, x3, x4, x5⟩ := HC.out wr hbx
            have HLF : Hid (Calls Try.prog 11 #[.pointer (some ⟨lb, 0, none⟩)] wr fun e w' => e = .returned (.int .i64 (l : Nat)) ∧ wr = w') := hRE.left
            have HI1 : Hid (Calls Try.prog 8 #[.int .i64 Wn, .int .i64 8] wr fun e w' => wr = w' ∧ ∃ k x : Nat, e = .returned (.int .i64 (k : Nat)) ∧ (0 : Int) + (k : Int) = (x : Int) ∧ IntKind.i64.wrap (x : Int) = (x : Int) ∧ Hid (0 ≤ x ∧ x < 0 + 8)) := within_add 0 Wn 8 (by decide) (by decide) (by decide) wr
            have HI2 : Hid (Calls Try.prog 8 #[.int .i64 K, .int .i64 200] wr fun e w' => wr = w' ∧ ∃ k x : Nat, e = .returned (.int .i64 (k : Nat)) ∧ (0 : Int) + (k : Int) = (x : Int) ∧ IntKind.i64.wrap (x : Int) = (x : Int) ∧ Hid (0 ≤ x ∧ x < 0 + 200)) := within_add 0 K 200 (by decide) (by decide) (by decide) wr
            have zr : (r : Int) < 8 := by omega
            clear hRE hbx x0 x1 x2 x3 HX
            go_upto_if 76 with (first
              | (go_at_call 11; refine HLF.out.mono ?_; rintro e w6 ⟨rfl, rfl⟩)
              | (go_at_call 8; refine HI1.out.mono ?_; rintro e w6 ⟨rfl, k8, y8, rfl, hy8, wy8, Hy8⟩))
            go_cut [10] from 66 to 128 (fun s10 wx => ∃ kp : Nat, s10 = .int .i64 (kp : Nat) ∧ Hid (kp < 200) ∧ wr = wx)
            case first =>
              by_cases hk : r = k8
              · have zk : ((r : Int) == (k8 : Int)) = true := by simp [hk]
                have zk2 : (r == k8) = true := by simp [hk]
                clear hk
                go_wp2_with (go_at_call 8; refine HI2.out.mono ?_; rintro e w6 ⟨rfl, k9, y9, rfl, hy9, wy9, Hy9⟩)
                go_meet
                case rel => go_light; exact ⟨k9, rfl, by have := Hy9.out; show _ < _; omega, rfl⟩
              · have zk : ((r : Int) == (k8 : Int)) = false := by simp; omega
                have zk2 : (r == k8) = false := by simp; omega
                clear hk
                go_wp2_with fail
                go_meet
                case rel => go_light; exact ⟨0, rfl, by show _ < _; omega, rfl⟩
            case rest =>
              obtain ⟨kp, rfl, Hkp, rfl⟩ := hcut
              obtain ⟨kq, hkq, hkq2⟩ : ∃ k : Nat, (kp : Int) + 1 = (k : Int) ∧ k = kp + 1 := ⟨kp + 1, by omega, rfl⟩
              have hkp := Hkp.out
              have wkq : IntKind.i64.wrap (kq : Int) = (kq : Int) := by rw [IntKind.wrap_i64]; omega
              have Hkq : Hid (kq = kp + 1 ∧ kp < 200) := ⟨hkq2, hkp⟩
              clear hkq2 hkp
              go_upto_if 84 with fail
              go_cut [11] from 66 to 128 (fun s11 wx => ∃ du : Nat, s11 = .int .i64 (du : Nat) ∧ Hid (du = max l kq) ∧ wr = wx)
              case first =>
                by_cases hk : l < kq
                · have zk : (kq : Int) > (l : Int) := by omega
                  clear HI1 HI2 HLF
                  go_wp2_with fail
                  go_meet
                  case rel => go_light; exact ⟨kq, rfl, by show _ = _; omega, rfl⟩
                · have zk : ¬ (kq : Int) > (l : Int) := by omega
                  clear HI1 HI2 HLF
                  go_wp2_with fail
                  go_meet
                  case rel => go_light; exact ⟨l, rfl, by show _ = _; omega, rfl⟩
              case rest =>
                obtain ⟨du, rfl, Hdu, rfl⟩ := hcut
                have hdu := Hdu.out
                have hkq3 := Hkq.out
                have zd : ¬ (du : Int) < 1 := by omega
                have HDU : Hid (du = max l (kp + 1) ∧ kp < 200 ∧ l ≤ 100 ∧ sn ≤ 1000 + r * 9 ∧ r < 8 ∧ c < 10 ∧ 1 ≤ du ∧ mo < 64) := ⟨by omega, by omega, hl, hsn, hlt, by have := Hc.out; omega, by omega, by have := Hm.out; omega⟩
                clear hdu hkq3 hkq wkq Hkq HI1 HI2 HLF
                generalize wr = wrP at *
                go_wp2_with fail
                go_loopg [12] (du - 1) (fun q s12 wx => ∃ i : Nat, 1 ≤ i ∧ i ≤ du ∧ q = du - i ∧ s12 = .int .i64 (i : Nat) ∧ Hid (RE W0 wx lb c mo pt sn (l - (i - 1))))
                case atStart => exact ⟨1, Nat.le_refl _, HDU.out.2.2.2.2.2.2.1, rfl, rfl, HRE⟩
                case round =>
                  clear HRE
                  obtain ⟨i, hi1, hi2, rfl, rfl, HY⟩ := hrel
                  have hdd := HDU.out
                  have wi1 : IntKind.i64.wrap ((i : Int) + 1) = (i : Int) + 1 := by rw [IntKind.wrap_i64]; omega
                  by_cases hid : i < du
                  · have zi : (i : Int) < (du : Int) := by omega
                    have hme : du - (i + 1) < du - i := by omega
                    have HI : Hid (1 ≤ i + 1 ∧ i + 1 ≤ du) := ⟨by omega, by omega⟩
                    have HT : Hid (Calls Try.prog 12 #[.pointer (some ⟨lb, 0, none⟩), .int .i64 0, .bool false, .bool (decide (kp < i))] wr fun e w' => e = .returned (.tuple #[.int .u64 0, .bool false]) ∧ Hid (RE W0 w' lb c mo pt sn (l - (i + 1 - 1)))) := by
                      refine (HY.out.idle (decide (kp < i)) ?_).mono fun e w' ⟨he, hk⟩ => ⟨he, ?_⟩
                      · by_cases hki : kp < i
                        · left; omega
                        · right; simpa using hki
                      · rw [show l - (i + 1 - 1) = l - (i - 1) - 1 by omega]; exact hk
                    by_cases hki : kp < i
                    · have zki : (i : Int) > (kp : Int) := by omega
                      rw [show decide (kp < i) = true by simpa using hki] at HT
                      clear hdd HY hid hki
                      go_wp2_with (go_at_call 12; refine HT.out.mono ?_; rintro e w6 ⟨rfl, HK⟩)
                      go_roundg (du - (i + 1))
                      case measure => go_light; exact hme
                      case rel => go_light; exact ⟨i + 1, HI.out.1, HI.out.2, rfl, by simp, HK⟩
                    · have zki : ¬ (i : Int) > (kp : Int) := by omega
                      rw [show decide (kp < i) = false by simpa using hki] at HT
                      clear hdd HY hid hki
                      go_wp2_with (go_at_call 12; refine HT.out.mono ?_; rintro e w6 ⟨rfl, HK⟩)
                      go_roundg (du - (i + 1))
                      case measure => go_light; exact hme
                      case rel => go_light; exact ⟨i + 1, HI.out.1, HI.out.2, rfl, by simp, HK⟩
                  · have zi : ¬ (i : Int) < (du : Int) := by omega
                    obtain ⟨p2, hp2, hp3⟩ : ∃ k : Nat, 2 * (pt : Int) = (k : Int) ∧ k = 2 * pt := ⟨2 * pt, by omega, rfl⟩
                    have wp2 : IntKind.i64.wrap (p2 : Int) = (p2 : Int) := by rw [IntKind.wrap_i64]; omega
                    have wr1 : IntKind.i64.wrap ((r : Int) + 1) = (r : Int) + 1 := by rw [IntKind.wrap_i64]; omega
                    have hme : 8 - (r + 1) < 8 - r := by omega
                    have hr1 : r + 1 ≤ 8 := by omega
                    have HT : Hid (Calls Try.prog 12 #[.pointer (some ⟨lb, 0, none⟩), .int .i64 0, .bool false, .bool true] wr fun e w' => ∃ n : Nat, e = .returned (.tuple #[.int .u64 (n : Nat), .bool false]) ∧ (n == 0) = false ∧ (((n : Nat) : Int) == 0) = false ∧ Hid (RR W0 w' lb c mo (min p2 mo) (r + 1)) ∧ Hid (Calls Try.prog 13 #[.pointer (some ⟨lb, 0, none⟩)] w' fun e w'' => e = .returned (.int .i64 (min p2 mo : Nat)) ∧ w' = w'') ∧ Hid (Calls Try.prog 11 #[.pointer (some ⟨lb, 0, none⟩)] w' fun e w'' => e = .returned (.int .i64 (min p2 mo : Nat)) ∧ w' = w'')) := by
                      refine (HY.out.go (by omega) (by omega) (by omega)).mono fun e w' ⟨n, he, hn1, hn2, hn3, hn4, hk⟩ => ⟨n, he, hn1, hn2, ?_⟩
                      have hk' := hk.out
                      rw [← hp3] at hk'
                      exact ⟨⟨n, min p2 mo, by omega, by omega, hk'⟩, hk'.pat, hk'.left⟩
                    by_cases hpm : mo < p2
                    · have zp : (p2 : Int) > (mo : Int) := by omega
                      rw [show min p2 mo = mo by omega] at HT
                      clear hdd HY hid hp3 hpm
                      go_wp2_with (first
                        | (go_at_call 12; refine HT.out.mono ?_; rintro e w6 ⟨n, rfl, hn1, hn2, HK, HP, HL⟩)
                        | (go_at_call 13; refine HP.out.mono ?_; rintro e w7 ⟨rfl, rfl⟩)
                        | (go_at_call 11; refine HL.out.mono ?_; rintro e w7 ⟨rfl, rfl⟩))
                      go_roundg (8 - (r + 1))
                      case measure => go_light; exact hme
                      case rel => go_light; exact ⟨r + 1, mo, hr1, rfl, rfl, by simp, Nat.le_refl _, HK⟩
                    · have zp : ¬ (p2 : Int) > (mo : Int) := by omega
                      have hpm2 : p2 ≤ mo := by omega
                      rw [show min p2 mo = p2 by omega] at HT
                      clear hdd HY hid hp3 hpm
                      go_wp2_with (first
                        | (go_at_call 12; refine HT.out.mono ?_; rintro e w6 ⟨n, rfl, hn1, hn2, HK, HP, HL⟩)
                        | (go_at_call 13; refine HP.out.mono ?_; rintro e w7 ⟨rfl, rfl⟩)
                        | (go_at_call 11; refine HL.out.mono ?_; rintro e w7 ⟨rfl, rfl⟩))
                      go_roundg (8 - (r + 1))
                      case measure => go_light; exact hme
                      case rel => go_light; exact ⟨r + 1, p2, hr1, rfl, rfl, by simp, hpm2, HK⟩
          · have zr : ¬ (r : Int) < 8 := by omega
            have HE : Hid (Calls Try.prog 7 #[] wr fun e w' => e = .returned (.bool true) ∧ Hid (Below sb w w')) := by
              obtain ⟨_, _, _, _, _, h⟩ := HX.out
              exact HEND.out wr h.below
            clear HX
            go_wp2_with (go_at_call 7; refine HE.out.mono ?_; rintro e w6 ⟨rfl, HK⟩)
            go_ret
            rw [Hsb.out]
            exact ⟨rfl, HK.out⟩
end Go.Proofs.Ytcbebepngencjaa

/- Lists side by side, of elements of one cell: what an append of one leaves of all others. -/
namespace Go.Proofs.Ytcbebepngencjaa
open Go.RowKit
set_option maxRecDepth 100000

/-- Cell j of block b, a row of elements of type e, holds x. -/
def Cel (e : TypeId) (w : World) (b j : Nat) (x : Value) : Prop := ∃ cur, w.heap[b]? = some (.cells cur e (0, 0)) ∧ cur[j]? = some x
theorem Cel.cell {e : TypeId} {w : World} {b j : Nat} {x : Value} (h : Cel e w b j x) : w.cell? ⟨b, j, none⟩ = some x := by
  obtain ⟨cur, h1, h2⟩ := h
  simp [World.cell?, h1, h2]
theorem Cel.lt {e : TypeId} {w : World} {b j : Nat} {x : Value} (h : Cel e w b j x) : b < w.heap.size := by
  obtain ⟨cur, h1, _⟩ := h
  exact (Array.getElem?_eq_some_iff.1 h1).1
theorem Cel.of_block {e : TypeId} {w w' : World} {b j : Nat} {x : Value} (h : Cel e w b j x) (hb : w'.heap[b]? = w.heap[b]?) : Cel e w' b j x := by
  obtain ⟨cur, h1, h2⟩ := h
  exact ⟨cur, hb.trans h1, h2⟩
theorem Cel.apart {e e' : TypeId} {w : World} {b b' j j' : Nat} {x x' : Value} (h : Cel e w b j x) (h' : Cel e' w b' j' x') (hne : e ≠ e') : b ≠ b' := by
  rintro rfl
  obtain ⟨cur, h1, _⟩ := h
  obtain ⟨cur', h1', _⟩ := h'
  rw [h1] at h1'
  simp only [Option.some.injEq, Obj.cells.injEq] at h1'
  exact hne h1'.2.1
theorem fown_cel {w : World} {K : Nat} {e : TypeId} {v : Value} {n : Nat} {xs : List Value} (h : w.ownsRow K e 1 v n xs) {b j : Nat} {x : Value} (hb : v.ownBlock = some b) (hx : xs[j]? = some x) : Cel e w b j x := by
  rcases h.2 with ⟨rfl, _⟩ | ⟨g, cap, cur, rfl, _, hq, _, _, _, htake⟩
  · cases hb
  · obtain rfl : g = b := by simpa [Value.ownBlock] using hb
    refine ⟨cur, hq, ?_⟩
    have hj : j < xs.length := (List.getElem?_eq_some_iff.1 hx).1
    rw [← htake] at hx
    rw [List.getElem?_take] at hx
    split at hx
    · simpa using hx
    · cases hx
/-- The block of a row that is not empty. -/
theorem fown_some {w : World} {K : Nat} {e : TypeId} {v : Value} {n : Nat} {xs : List Value} (h : w.ownsRow K e 1 v n xs) (hn : 0 < n) : ∃ b c, v = .slice (some ⟨b, 0, none⟩) n c ∧ v.ownBlock = some b ∧ K ≤ b ∧ b < w.heap.size ∧ n ≤ c := by
  rcases h.2 with ⟨_, rfl⟩ | ⟨g, cap, cur, rfl, hk, hq, hc, _⟩
  · omega
  · exact ⟨g, cap, rfl, rfl, hk, (Array.getElem?_eq_some_iff.1 hq).1, hc⟩
theorem fown_slice {w : World} {K : Nat} {e : TypeId} {v : Value} {n : Nat} {xs : List Value} (h : w.ownsRow K e 1 v n xs) : ∃ a c, v = .slice a n c ∧ n ≤ c ∧ (∀ b, v.ownBlock = some b → a = some ⟨b, 0, none⟩) := by
  rcases h.2 with ⟨rfl, rfl⟩ | ⟨g, cap, cur, rfl, _, _, hc, _⟩
  · exact ⟨none, 0, rfl, Nat.le_refl _, fun b h => by cases h⟩
  · exact ⟨_, cap, rfl, hc, fun b h => by simp [Value.ownBlock] at h; rw [h]⟩
theorem fown_apart {w : World} {K K' : Nat} {e e' : TypeId} {v v' : Value} {n n' : Nat} {xs xs' : List Value} (h : w.ownsRow K e 1 v n xs) (h' : w.ownsRow K' e' 1 v' n' xs') (hne : e ≠ e') : ∀ b, v.ownBlock = some b → v'.ownBlock ≠ some b := by
  intro b hb hb'
  rcases h.2 with ⟨rfl, _⟩ | ⟨g, cap, cur, rfl, _, hq, _⟩
  · cases hb
  · rcases h'.2 with ⟨rfl, _⟩ | ⟨g', cap', cur', rfl, _, hq', _⟩
    · cases hb'
    · obtain rfl : g = b := by simpa [Value.ownBlock] using hb
      obtain rfl : g' = g := by simpa [Value.ownBlock] using hb'
      rw [hq] at hq'
      simp only [Option.some.injEq, Obj.cells.injEq] at hq'
      exact hne hq'.2.1
theorem fown_block {w w' : World} {K : Nat} {e : TypeId} {v : Value} {n : Nat} {xs : List Value} (h : w.ownsRow K e 1 v n xs) (hb : ∀ b, v.ownBlock = some b → w'.heap[b]? = w.heap[b]?) : w'.ownsRow K e 1 v n xs := by
  refine ⟨h.1, ?_⟩
  rcases h.2 with ⟨rfl, h0⟩ | ⟨g, cap, cur, rfl, hk, hq, hr⟩
  · exact .inl ⟨rfl, h0⟩
  · exact .inr ⟨g, cap, cur, rfl, hk, (hb g rfl).trans hq, hr⟩

/-- From w to w' only the block g has been written, from its cell n on, and the block f; all else that was there is as it was. -/
structure Grew (e : TypeId) (w w' : World) (g : Option Nat) (n : Nat) (f : Option Nat) : Prop where
  os : w'.os = w.os
  tape : w'.tape = w.tape
  output : w'.output = w.output
  size : w.heap.size ≤ w'.heap.size
  block : ∀ b, b < w.heap.size → g ≠ some b → f ≠ some b → w'.heap[b]? = w.heap[b]?
  cell : ∀ b j x, g = some b → f ≠ some b → j < n → Cel e w b j x → Cel e w' b j x

theorem Grew.refl (e : TypeId) (w : World) (g : Option Nat) (n : Nat) (f : Option Nat) : Grew e w w g n f := ⟨rfl, rfl, rfl, Nat.le_refl _, fun _ _ _ _ => rfl, fun _ _ _ _ _ _ h => h⟩

theorem Grew.of_below {w w' : World} (h : Below w.heap.size w w') (e : TypeId) (g : Option Nat) (n : Nat) (f : Option Nat) : Grew e w w' g n f :=
  ⟨h.os, h.tape, h.output, h.size, fun b hb _ _ => h.block b hb, fun b _ _ _ _ _ hc => hc.of_block (h.block b hc.lt)⟩

theorem Grew.below {e : TypeId} {w w' : World} {g : Option Nat} {n : Nat} {f : Option Nat} (h : Grew e w w' g n f) (K : Nat) (hK : K ≤ w.heap.size) (hg : ∀ b, g = some b → K ≤ b) (hf : ∀ b, f = some b → K ≤ b) : Below K w w' :=
  ⟨h.os, h.tape, h.output, h.size, fun b hb => h.block b (by omega) (fun e => by have := hg b e; omega) (fun e => by have := hf b e; omega)⟩

/-- A row elsewhere is as it was. -/
theorem Grew.own {e : TypeId} {w w' : World} {g f : Option Nat} {m : Nat} (k : Grew e w w' g m f) {K : Nat} {e' : TypeId} {v : Value} {n : Nat} {xs : List Value} (h : w.ownsRow K e' 1 v n xs) (hg : ∀ b, v.ownBlock = some b → g ≠ some b) (hf : ∀ b, v.ownBlock = some b → f ≠ some b) : w'.ownsRow K e' 1 v n xs :=
  fown_block h (fun b hb => k.block b (h.lt b hb).2 (hg b hb) (hf b hb))

/-- One more step: the list under way lies where it began, or in new memory; so does the other row. -/
theorem Grew.trans {e : TypeId} {w w1 w2 : World} {g g1 f f1 : Option Nat} {n n1 : Nat} (h : Grew e w w1 g n f) (k : Grew e w1 w2 g1 n1 f1) (hg : g1 = g ∧ n ≤ n1 ∨ ∀ b, g1 = some b → w.heap.size ≤ b) (hf : f1 = f ∨ ∀ b, f1 = some b → w.heap.size ≤ b) : Grew e w w2 g n f := by
  have ne1 : ∀ b, b < w.heap.size → g ≠ some b → g1 ≠ some b := fun b hb hn e => by
    rcases hg with ⟨rfl, _⟩ | hg
    · exact hn e
    · have := hg b e; omega
  have nf1 : ∀ b, b < w.heap.size → f ≠ some b → f1 ≠ some b := fun b hb hn e => by
    rcases hf with rfl | hf
    · exact hn e
    · have := hf b e; omega
  refine ⟨k.os.trans h.os, k.tape.trans h.tape, k.output.trans h.output, Nat.le_trans h.size k.size, fun b hb h1 h2 => ?_, fun b j x eg hfb hj hc => ?_⟩
  · rw [k.block b (Nat.lt_of_lt_of_le hb h.size) (ne1 b hb h1) (nf1 b hb h2)]
    exact h.block b hb h1 h2
  · have hb := hc.lt
    have hc1 := h.cell b j x eg hfb hj hc
    by_cases e1 : g1 = some b
    · rcases hg with ⟨_, hn⟩ | hg
      · exact k.cell b j x e1 (nf1 b hb hfb) (by omega) hc1
      · have := hg b e1; omega
    · exact hc1.of_block (k.block b (Nat.lt_of_lt_of_le hb h.size) e1 (nf1 b hb hfb))

/-- append of one, whatever the element's type. -/
theorem fapp_one {P : Program} {w : World} {K n bytes : Nat} {v z y : Value} {xs : List Value} {t ty e : TypeId} (ht : P.underlying t = some (.slice e)) (hinfo : (P.info? e).map (fun i => (i.zero, i.size, i.bytes)) = some (some z, 1, bytes)) (hzc : z.cells.size = 1)
    (h : w.ownsRow K e 1 v n xs) (hy : y.oneCell' = true) (hb : ((n + 1) + (n + 1) / 4 + 192) * bytes ≤ 281474976710656) (hn : n + 1 ≤ 140737488355328) (hK : K ≤ w.heap.size) :
    ∃ v' w', (Builtin.append_ #[t, t] ty #[v, .slice (some ⟨w.heap.size, 0, none⟩) 1 1]).run P (w.alloc (.cells #[y] e)) = .ok v' w' ∧ w'.ownsRow K e 1 v' (n + 1) (xs ++ [y]) ∧ Grew e w w' v.ownBlock n none ∧ (v'.ownBlock = v.ownBlock ∨ ∃ b, v'.ownBlock = some b ∧ w.heap.size ≤ b) := by
  obtain ⟨i0, hi, hz0, hz1, hz2⟩ : ∃ i, P.info? e = some i ∧ i.zero = some z ∧ i.size = 1 ∧ i.bytes = bytes := by
    obtain ⟨i, hi, hh⟩ := Option.map_eq_some_iff.1 hinfo
    simp only [Prod.mk.injEq] at hh
    exact ⟨i, hi, hh.1, hh.2.1, hh.2.2⟩
  have hnews : ∀ j u, [y][j]? = some u → (w.alloc (.cells #[y] e)).cell? ((⟨w.heap.size, 0, none⟩ : Addr).add j) = some u := fun j u hj => by
    obtain ⟨hj1, hj2⟩ := List.getElem?_eq_some_iff.1 hj
    have : j = 0 := by simpa using hj1
    subst this
    rw [← hj2]
    simp [Addr.add]
  have hwf : ∀ u, u ∈ [y] → u.oneCell' = true := fun u hu => by rw [show u = y by simpa using hu]; exact hy
  have hml : maxLen = 9223372036854775807 := rfl
  have ho := h.alloc (.cells #[y] e)
  have hz : (w.alloc (.cells #[y] e)).heap.size = w.heap.size + 1 := by simp
  obtain ⟨v', w', h1, h2, h3, _⟩ := run_append_own_wide (P := P) (w.alloc (.cells #[y] e)) K t ty e i0 z 1 bytes ht hi hz0 hz1 hz2 hzc (by decide) v n xs ho ⟨w.heap.size, 0, none⟩ 1 1 [y] rfl hnews hwf (by omega) hb (by omega)
  have hlt := h.lt
  refine ⟨v', w', h1, h2, ⟨h3.os, h3.tape, h3.output, by have := h3.size; omega, fun b hb hg _ => ?_, fun b j x hg _ hj hc => ?_⟩, ?_⟩
  · rw [h3.block b (by omega) (fun e => hg e.symm)]
    exact Below.heap_alloc _ _ _ hb
  · rcases ho.2 with ⟨rfl, hn0⟩ | ⟨q, cap, cur, rfl, hbg, hq, hnc, hcm, hcs, htake⟩
    · omega
    · obtain rfl : q = b := by simpa [Value.ownBlock] using hg
      have hqb := (hlt q rfl).2
      have hxs : xs[j]? = some x := by
        rw [← h.cellAt j (by omega)]
        exact hc.cell
      by_cases hroom : n + 1 ≤ cap
      · have hr2 := run_append_room (P := P) (w.alloc (.cells #[y] e)) t ty e i0 ht hi q n cap cur hq ⟨w.heap.size, 0, none⟩ 1 1 [y] (by rw [hz1]; rfl) hnews hwf hroom (by rw [hz1, hcs]; show n * 1 + 1 ≤ cap * 1; omega)
        rw [hr2] at h1
        injection h1 with e1 e2
        subst e1
        exact fown_cel h2 rfl (by rw [List.getElem?_append_left (by rw [h.1]; omega)]; exact hxs)
      · have hr2 := run_append_grow (P := P) (w.alloc (.cells #[y] e)) t ty e i0 z ht hi hz0 ⟨q, 0, none⟩ n cap xs (by rw [hz1]; exact ho.1) (ho.cells (g := q) rfl) ⟨w.heap.size, 0, none⟩ 1 1 [y] (by rw [hz1]; rfl) hnews (by omega) (by omega) (by rw [hz2]; exact growslice_fits_wide (by omega) hb)
        rw [hr2] at h1
        injection h1 with e1 e2
        subst e2
        refine (hc.of_block (Below.heap_alloc _ (.cells #[y] e) _ hqb)).of_block ?_
        exact heap_alloc_old (w.alloc (.cells #[y] e)).drew _ (by simp; omega)
  · rcases ho.2 with ⟨rfl, hn0⟩ | ⟨q, cap, cur, rfl, hbg, hq, hnc, hcm, hcs, htake⟩
    · subst hn0
      have hr2 := run_append_nil (P := P) (w.alloc (.cells #[y] e)) t ty e i0 z ht hi hz0 ⟨w.heap.size, 0, none⟩ 1 1 [y] (by rw [hz1]; rfl) hnews (by omega) (by omega) (by rw [hz2]; omega)
      rw [hr2] at h1
      injection h1 with e1 e2
      subst e1
      exact .inr ⟨_, rfl, by show w.heap.size ≤ (w.alloc (.cells #[y] e)).heap.size; omega⟩
    · by_cases hroom : n + 1 ≤ cap
      · have hr2 := run_append_room (P := P) (w.alloc (.cells #[y] e)) t ty e i0 ht hi q n cap cur hq ⟨w.heap.size, 0, none⟩ 1 1 [y] (by rw [hz1]; rfl) hnews hwf hroom (by rw [hz1, hcs]; show n * 1 + 1 ≤ cap * 1; omega)
        rw [hr2] at h1
        injection h1 with e1 e2
        subst e1
        exact .inl rfl
      · have hr2 := run_append_grow (P := P) (w.alloc (.cells #[y] e)) t ty e i0 z ht hi hz0 ⟨q, 0, none⟩ n cap xs (by rw [hz1]; exact ho.1) (ho.cells (g := q) rfl) ⟨w.heap.size, 0, none⟩ 1 1 [y] (by rw [hz1]; rfl) hnews (by omega) (by omega) (by rw [hz2]; exact growslice_fits_wide (by omega) hb)
        rw [hr2] at h1
        injection h1 with e1 e2
        subst e1
        exact .inr ⟨_, rfl, by show w.heap.size ≤ (w.alloc (.cells #[y] e)).heap.size; omega⟩
end Go.Proofs.Ytcbebepngencjaa

/- The law LeaseEpochs: leases of all places, lists of theirs. -/
namespace Go.Proofs.Ytcbebepngencjaa
open Go.RowKit
set_option maxRecDepth 100000
set_option maxRecDepth 100000

theorem erow_apart {w : World} {b b' t t' n n' : Nat} {f f' : Nat → Value} (h : w.rowIs b t n f) (h' : w.rowIs b' t' n' f') (ht : t ≠ t') : b ≠ b' := by
  rintro rfl
  obtain ⟨c, h1, _⟩ := h
  obtain ⟨c', h2, _⟩ := h'
  rw [h1] at h2
  simp only [Option.some.injEq, Obj.cells.injEq] at h2
  exact ht h2.2.1
/-- A list of one's own is a row. -/
theorem own_row {w : World} {K n : Nat} {e : TypeId} {v : Value} {xs : List Value} (h : w.ownsRow K e 1 v n xs) (hn : 0 < n) : ∃ g cap f, v = .slice (some ⟨g, 0, none⟩) n cap ∧ K ≤ g ∧ w.rowIs g e cap f ∧ n ≤ cap ∧ ∀ j, j < n → xs[j]? = some (f j) := by
  obtain ⟨hl, h2⟩ := h
  rcases h2 with ⟨_, rfl⟩ | ⟨g, cap, cur, rfl, hk, hq, hc, _, hs, ht⟩
  · omega
  · rw [Nat.mul_one] at hs ht
    refine ⟨g, cap, fun j => cur[j]?.getD undef, rfl, hk, ⟨cur, hq, hs, fun i hi => ?_⟩, hc, fun j hj => ?_⟩
    · have : i < cur.size := by omega
      simp [this]
    · have hj2 : j < cur.size := by omega
      rw [← ht, List.getElem?_take, if_pos hj]
      simp [hj2]
theorem own_apart {w : World} {K n : Nat} {e t : TypeId} {v : Value} {xs : List Value} {b m : Nat} {f : Nat → Value} (h : w.ownsRow K e 1 v n xs) (h' : w.rowIs b t m f) (ht : e ≠ t) : v.ownBlock ≠ some b := by
  intro hb
  rcases h.2 with ⟨rfl, _⟩ | ⟨g, cap, cur, rfl, _, hq, _⟩
  · cases hb
  · obtain rfl : g = b := by simpa [Value.ownBlock] using hb
    obtain ⟨c, h1, _⟩ := h'
    rw [hq] at h1
    simp only [Option.some.injEq, Obj.cells.injEq] at h1
    exact ht h1.2.1
theorem infoU : (Try.prog.info? 29).map (fun i => (i.zero, i.size, i.bytes)) = some (some (.int .u64 0), 1, 8) := by kernel_rfl
theorem infoP : (Try.prog.info? 27).map (fun i => (i.zero, i.size, i.bytes)) = some (some (.pointer none), 1, 8) := by kernel_rfl
/-- append, by its run: at the operation. -/
theorem wpList_append_eq {P : Program} {w w' : World} {ops : Array Oper} {rest : List Oper} {o : Oper} {a : Act} {Q : Exit → Act → World → Prop} (hgd : o.guard = none) (s x : Operand) (t : TypeId)
    (ho : o.op = .call { callee := .builtin .append, args := #[s, x], argTypes := #[t, t] }) (v u v' : Value) (hs : a.eval s = v) (hx : a.eval x = u)
    (hrun : (Builtin.append_ #[t, t] o.type #[v, u]).run P w = .ok v' w') (h : wpList P ops Q rest (a.put o.dst v') w') : wpList P ops Q (o :: rest) a w := by
  refine wpList_plain hgd fun K hK => ?_
  unfold Oper.wp
  simp [execOp, ho, resolve, invoke, builtin, hs, hx, hrun, Result.andThen]
  exact hK _ _ h

/-- The leases that have been made so far, and what they have seen. -/
structure E1 (w0 w : World) (v5 v6 : Value) (i c mo sn : Nat) (PB : Nat → Nat) : Prop where
  ol : w.ownsRow w0.heap.size 27 1 v5 i ((List.range i).map fun j => .pointer (some ⟨PB j, 0, none⟩))
  ot : w.ownsRow w0.heap.size 29 1 v6 i ((List.range i).map fun _ => .int .u64 (sn : Nat))
  ls : ∀ j, j < i → LsIs w (PB j) (newM j c mo sn)
  ge : ∀ j, j < i → w0.heap.size ≤ PB j
  pp : ∀ j k, j < i → k < i → j ≠ k → PB j ≠ PB k
  below : Below w0.heap.size w0 w
theorem E1.on {w0 w w' : World} {v5 v6 : Value} {i c mo sn : Nat} {PB : Nat → Nat} (h : E1 w0 w v5 v6 i c mo sn PB) (hb : Below w.heap.size w w') : E1 w0 w' v5 v6 i c mo sn PB :=
  ⟨fown_block h.ol (fun b e => hb.block b (h.ol.lt b e).2), fown_block h.ot (fun b e => hb.block b (h.ot.lt b e).2), fun j hj => (h.ls j hj).on hb, h.ge, h.pp, h.below.trans (hb.mono h.below.size)⟩
/-- One more: New, and both appends. -/
theorem E1.more {w0 w : World} {v5 v6 : Value} {i c mo sn : Nat} {PB : Nat → Nat} (h : E1 w0 w v5 v6 i c mo sn PB) (hi : i < c) (hc : c ≤ 9) (hm : 4 ≤ mo) (hm2 : mo ≤ 1000) (hs : sn < 1000) :
    Calls Try.prog 9 #[.int .i64 (i : Nat), .int .i64 (c : Nat), .int .i64 (mo : Nat), .int .u64 (sn : Nat)] w fun e w1 => ∃ pb, e = .returned (.pointer (some ⟨pb, 0, none⟩)) ∧
      ∃ a5 c5 w2, Hid ((Builtin.append_ #[39, 39] 39 #[v5, .slice (some ⟨w1.heap.size, 0, none⟩) 1 1]).run Try.prog (w1.alloc (.cells #[.pointer (some ⟨pb, 0, none⟩)] 27)) = .ok (.slice a5 (i + 1) c5) w2) ∧
      ∃ a6 c6 w3, Hid ((Builtin.append_ #[40, 40] 40 #[v6, .slice (some ⟨w2.heap.size, 0, none⟩) 1 1]).run Try.prog (w2.alloc (.cells #[.int .u64 (sn : Nat)] 29)) = .ok (.slice a6 (i + 1) c6) w3) ∧
      Hid (∃ PB', E1 w0 w3 (.slice a5 (i + 1) c5) (.slice a6 (i + 1) c6) (i + 1) c mo sn PB') := by
  refine (new_any (i : Nat) (c : Nat) (mo : Nat) sn (by omega) (by omega) (by omega) w).mono fun e w1 ⟨he, h1, b1⟩ => ⟨w.heap.size, he, ?_⟩
  have e1 : cpN (c : Nat) = c := by unfold cpN; rw [if_neg (by omega)]; omega
  have e2 : moN (mo : Nat) = mo := by unfold moN; rw [if_neg (by omega)]; omega
  have e3 : plN (i : Nat) (c : Nat) = i := by unfold plN; rw [e1, Int.emod_eq_of_lt (by omega) (by omega)]; omega
  rw [e1, e2, e3] at h1
  have hd := h.on b1
  have hz := h.below.size
  obtain ⟨v5', w2, r5, o5, g5, n5⟩ := fapp_one (P := Try.prog) (ty := 39) (y := .pointer (some ⟨w.heap.size, 0, none⟩)) Try.underlying39 infoP rfl hd.ol rfl (by omega) (by omega) hd.below.size
  obtain ⟨a5, c5, hv5, _, _⟩ := fown_slice o5
  subst hv5
  have t5 : ∀ b, v6.ownBlock = some b → v5.ownBlock ≠ some b := fun b e => fown_apart hd.ot hd.ol (by decide) b e
  have ot2 := g5.own hd.ot t5 (fun b _ e => by cases e)
  have k1 : w.heap.size < w1.heap.size := h1.row.lt
  have ls2 : ∀ (b : Nat) (s : Ls), LsIs w1 b s → LsIs w2 b s := fun b s hl => hl.later (g5.block b hl.row.lt (own_apart hd.ol hl.row (by decide)) (fun e => by cases e))
  obtain ⟨v6', w3, r6, o6, g6, n6⟩ := fapp_one (P := Try.prog) (ty := 40) (y := .int .u64 (sn : Nat)) Try.underlying40 infoU rfl ot2 rfl (by omega) (by omega) (Nat.le_trans hd.below.size g5.size)
  obtain ⟨a6, c6, hv6, _, _⟩ := fown_slice o6
  subst hv6
  have ls3 : ∀ (b : Nat) (s : Ls), LsIs w1 b s → LsIs w3 b s := fun b s hl => (ls2 b s hl).later (g6.block b (ls2 b s hl).row.lt (own_apart ot2 (ls2 b s hl).row (by decide)) (fun e => by cases e))
  have o5' := g6.own o5 (fun b e e' => fown_apart o5 ot2 (by decide) b e e') (fun b _ e => by cases e)
  refine ⟨a5, c5, w2, r5, a6, c6, w3, r6, fun j => if j = i then w.heap.size else PB j, ?_, ?_, fun j hj => ?_, fun j hj => ?_, fun j k hj hk hne => ?_, ?_⟩
  · have e : ((List.range (i + 1)).map fun j => Value.pointer (some ⟨if j = i then w.heap.size else PB j, 0, none⟩)) = ((List.range i).map fun j => Value.pointer (some ⟨PB j, 0, none⟩)) ++ [.pointer (some ⟨w.heap.size, 0, none⟩)] := by
      rw [List.range_succ, List.map_append]
      congr 1
      · exact List.map_congr_left (fun k hk => by have := List.mem_range.1 hk; rw [if_neg (by omega)])
      · simp
    rw [e]
    exact o5'
  · rw [List.range_succ, List.map_append]
    exact o6
  · by_cases e : j = i
    · subst e
      rw [if_pos rfl]
      exact ls3 _ _ h1
    · rw [if_neg e]
      exact ls3 _ _ (hd.ls j (by omega))
  · by_cases e : j = i
    · rw [if_pos e]; exact hz
    · rw [if_neg e]; exact h.ge j (by omega)
  · have l1 : ∀ j, j < i → PB j < w.heap.size := fun j hj => (h.ls j hj).row.lt
    by_cases e : j = i
    · have := l1 k (by omega)
      rw [if_pos e, if_neg (by omega)]; omega
    · have := l1 j (by omega)
      by_cases e' : k = i
      · rw [if_neg e, if_pos e']; omega
      · rw [if_neg e, if_neg e']; exact h.pp j k (by omega) (by omega) hne
  · have B1 := hd.below
    have B2 := B1.trans (g5.below w0.heap.size B1.size (fun b e => (hd.ol.lt b e).1) (fun b e => by cases e))
    exact B2.trans (g6.below w0.heap.size B2.size (fun b e => (ot2.lt b e).1) (fun b e => by cases e))

/-- The state of the second loop. -/
structure EP (w0 w : World) (lg lc tg tc c mo : Nat) (v7 : Value) (m : Nat) (AL : List Nat) (PB : Nat → Nat) (S : Nat → Ls) : Prop where
  rl : ∃ f, w.rowIs lg 27 lc f ∧ ∀ j, j < c → f j = .pointer (some ⟨PB j, 0, none⟩)
  rt : ∃ f, w.rowIs tg 29 tc f ∧ ∀ j, j < c → f j = .int .u64 ((S j).seen : Nat)
  ls : ∀ j, j < c → LsIs w (PB j) (S j)
  nu : ∀ j, j < c → (S j).copies = c ∧ (S j).place = j ∧ (S j).most = mo ∧ (S j).left ≤ mo + c ∧ (S j).seen ≤ 1099511627776
  al : w.ownsRow w0.heap.size 29 1 v7 m (AL.map fun x => .int .u64 (x : Nat))
  ax : ∀ x, x ∈ AL → x ≤ (S (x % c)).seen
  ge : ∀ j, j < c → w0.heap.size ≤ PB j
  pp : ∀ j k, j < c → k < c → j ≠ k → PB j ≠ PB k
  tv : v7.ownBlock ≠ some tg
  gl : w0.heap.size ≤ lg ∧ w0.heap.size ≤ tg
  cl : c ≤ lc ∧ c ≤ tc
  below : Below w0.heap.size w0 w
section
variable {w0 w w' : World} {lg lc tg tc c mo : Nat} {v7 : Value} {m : Nat} {AL : List Nat} {PB : Nat → Nat} {S : Nat → Ls}
theorem E1.done {v5 v6 : Value} {sn : Nat} (h : E1 w0 w v5 v6 c c mo sn PB) (hc : 0 < c) (hs : sn < 1000) (hm : 4 ≤ mo) : ∃ lg lc tg tc, v5 = .slice (some ⟨lg, 0, none⟩) c lc ∧ v6 = .slice (some ⟨tg, 0, none⟩) c tc ∧ EP w0 w lg lc tg tc c mo (.slice none 0 0) 0 [] PB (fun j => newM j c mo sn) := by
  obtain ⟨lg, lc, fl, rfl, kl, rl, cl, xl⟩ := own_row h.ol hc
  obtain ⟨tg, tc, ft, rfl, kt, rt, ct, xt⟩ := own_row h.ot hc
  refine ⟨lg, lc, tg, tc, rfl, rfl, ⟨fl, rl, fun j hj => ?_⟩, ⟨ft, rt, fun j hj => ?_⟩, h.ls, fun j hj => ⟨rfl, rfl, rfl, ?_, ?_⟩, World.ownsRow_nil _ _ _ _, fun x hx => by simp at hx, h.ge, h.pp, by simp [Value.ownBlock], ⟨kl, kt⟩, ⟨cl, ct⟩, h.below⟩
  · have := xl j hj
    rw [List.getElem?_map, List.getElem?_range hj] at this
    exact (Option.some.inj this).symm
  · have := xt j hj
    rw [List.getElem?_map, List.getElem?_range hj] at this
    exact (Option.some.inj this).symm
  · show satM j 4 ≤ _
    unfold satM
    split <;> omega
  · show sn ≤ _
    omega
theorem EP.on (h : EP w0 w lg lc tg tc c mo v7 m AL PB S) (hb : Below w.heap.size w w') : EP w0 w' lg lc tg tc c mo v7 m AL PB S := by
  obtain ⟨fl, rl, xl⟩ := h.rl
  obtain ⟨ft, rt, xt⟩ := h.rt
  exact ⟨⟨fl, rl.of_block (hb.block _ rl.lt), xl⟩, ⟨ft, rt.of_block (hb.block _ rt.lt), xt⟩, fun j hj => (h.ls j hj).on hb, h.nu, fown_block h.al (fun b e => hb.block b (h.al.lt b e).2), h.ax, h.ge, h.pp, h.tv, h.gl, h.cl, h.below.trans (hb.mono h.below.size)⟩
theorem EP.cl' (h : EP w0 w lg lc tg tc c mo v7 m AL PB S) {j : Nat} (hj : j < c) : w.cell? ⟨lg, j, none⟩ = some (.pointer (some ⟨PB j, 0, none⟩)) := by
  obtain ⟨fl, rl, xl⟩ := h.rl
  rw [rl.cell (i := j) (by have := h.cl; omega), xl j hj]
theorem EP.ct (h : EP w0 w lg lc tg tc c mo v7 m AL PB S) {j : Nat} (hj : j < c) : w.cell? ⟨tg, j, none⟩ = some (.int .u64 ((S j).seen : Nat)) := by
  obtain ⟨ft, rt, xt⟩ := h.rt
  rw [rt.cell (i := j) (by have := h.cl; omega), xt j hj]
theorem EP.fz (h : EP w0 w lg lc tg tc c mo v7 m AL PB S) (j : Nat) : w.frozen? ⟨tg, j, none⟩ = false := by
  obtain ⟨ft, rt, xt⟩ := h.rt
  exact rt.frozen j
/-- One lease has turned; what it has seen is still to be noted. -/
structure EQ (w0 w : World) (lg lc tg tc c mo : Nat) (v7 : Value) (m : Nat) (AL : List Nat) (PB : Nat → Nat) (S : Nat → Ls) (n t : Nat) : Prop where
  ep : ∃ S0 : Nat → Ls, (∀ j, j < c → j ≠ n → S0 j = S j) ∧ (S0 n).seen = t ∧ (∃ f, w.rowIs lg 27 lc f ∧ ∀ j, j < c → f j = .pointer (some ⟨PB j, 0, none⟩)) ∧ (∃ f, w.rowIs tg 29 tc f ∧ ∀ j, j < c → f j = .int .u64 ((S0 j).seen : Nat))
  hn : n < c
  ls : ∀ j, j < c → LsIs w (PB j) (S j)
  nu : ∀ j, j < c → (S j).copies = c ∧ (S j).place = j ∧ (S j).most = mo ∧ (S j).left ≤ mo + c ∧ (S j).seen ≤ 1099511627776
  al : w.ownsRow w0.heap.size 29 1 v7 m (AL.map fun x => .int .u64 (x : Nat))
  ax : ∀ x, x ∈ AL → x ≤ (S (x % c)).seen
  ge : ∀ j, j < c → w0.heap.size ≤ PB j
  pp : ∀ j k, j < c → k < c → j ≠ k → PB j ≠ PB k
  tv : v7.ownBlock ≠ some tg
  gl : w0.heap.size ≤ lg ∧ w0.heap.size ≤ tg
  cl : c ≤ lc ∧ c ≤ tc
  below : Below w0.heap.size w0 w
theorem EP.turn (h : EP w0 w lg lc tg tc c mo v7 m AL PB S) {n : Nat} {s' : Ls} (hn : n < c) (h1 : LsIs w' (PB n) s') (hv : Mv (fun b => b = PB n) w w') (e1 : s'.copies = c) (e2 : s'.place = n) (e3 : s'.most = mo) (e4 : s'.left ≤ mo + c) (e5 : s'.seen ≤ 1099511627776) (e6 : (S n).seen ≤ s'.seen) : EQ w0 w' lg lc tg tc c mo v7 m AL PB (fun j => if j = n then s' else S j) n (S n).seen := by
  obtain ⟨fl, rl, xl⟩ := h.rl
  obtain ⟨ft, rt, xt⟩ := h.rt
  have pl := erow_apart rl (h.ls n hn).row (by decide)
  have pt := erow_apart rt (h.ls n hn).row (by decide)
  refine ⟨⟨S, fun j _ hne => by simp only [if_neg hne], rfl, ⟨fl, rl.of_block (hv.block _ rl.lt pl), xl⟩, ⟨ft, rt.of_block (hv.block _ rt.lt pt), xt⟩⟩, hn, fun j hj => ?_, fun j hj => ?_, fown_block h.al (fun b e => hv.block b (h.al.lt b e).2 (fun e' => by subst e'; exact own_apart h.al (h.ls n hn).row (by decide) e)), fun x hx => ?_, h.ge, h.pp, h.tv, h.gl, h.cl, hv.below h.below h.below.size (fun k hk => by have := h.ge n hn; omega)⟩
  · by_cases e : j = n
    · subst e; simp only [if_true]; exact h1
    · simp only [if_neg e]
      exact (h.ls j hj).later (hv.block _ (h.ls j hj).row.lt (h.pp j n hj hn e))
  · by_cases e : j = n
    · subst e; simp only [if_true]; exact ⟨e1, e2, e3, e4, e5⟩
    · simp only [if_neg e]; exact h.nu j hj
  · have := h.ax x hx
    by_cases e : x % c = n
    · simp only [if_pos e]; rw [e] at this; omega
    · simp only [if_neg e]; exact this
/-- Nothing was to be noted. -/
theorem EQ.same {n t : Nat} (h : EQ w0 w lg lc tg tc c mo v7 m AL PB S n t) (ht : (S n).seen = t) : EP w0 w lg lc tg tc c mo v7 m AL PB S := by
  obtain ⟨S0, h0, h1, h2, ft, rt, xt⟩ := h.ep
  refine ⟨h2, ⟨ft, rt, fun j hj => ?_⟩, h.ls, h.nu, h.al, h.ax, h.ge, h.pp, h.tv, h.gl, h.cl, h.below⟩
  rw [xt j hj]
  by_cases e : j = n
  · subst e; rw [h1, ht]
  · rw [h0 j hj e]
theorem EQ.ct {n t : Nat} (h : EQ w0 w lg lc tg tc c mo v7 m AL PB S n t) : w.cell? ⟨tg, n, none⟩ = some (.int .u64 (t : Nat)) ∧ w.frozen? ⟨tg, n, none⟩ = false ∧ w.cell? ⟨lg, n, none⟩ = some (.pointer (some ⟨PB n, 0, none⟩)) := by
  obtain ⟨S0, h0, h1, ⟨fl, rl, xl⟩, ft, rt, xt⟩ := h.ep
  have := h.cl
  have := h.hn
  exact ⟨by rw [rt.cell (i := n) (by omega), xt n h.hn, h1], rt.frozen n, by rw [rl.cell (i := n) (by omega), xl n h.hn]⟩
/-- It is noted. -/
theorem EQ.note {n t : Nat} (h : EQ w0 w lg lc tg tc c mo v7 m AL PB S n t) : EP w0 (w.setCell ⟨tg, n, none⟩ (.int .u64 ((S n).seen : Nat))) lg lc tg tc c mo v7 m AL PB S := by
  obtain ⟨S0, h0, h1, ⟨fl, rl, xl⟩, ft, rt, xt⟩ := h.ep
  have mv := set_mv (i := n) rt (.int .u64 ((S n).seen : Nat))
  have lt : lg ≠ tg := erow_apart rl rt (by decide)
  refine ⟨⟨fl, rl.of_block (mv.block _ rl.lt lt), xl⟩, ⟨_, rt.set n _, fun j hj => ?_⟩, fun j hj => (h.ls j hj).later (mv.block _ (h.ls j hj).row.lt (erow_apart (h.ls j hj).row rt (by decide))), h.nu, fown_block h.al (fun b e => mv.block b (h.al.lt b e).2 (fun e' => by subst e'; exact h.tv e)), h.ax, h.ge, h.pp, h.tv, h.gl, h.cl, mv.below h.below h.below.size (fun k hk => by have := h.gl; omega)⟩
  by_cases e : j = n
  · simp only [if_pos e]; rw [e]
  · simp only [if_neg e]
    rw [xt j hj, h0 j hj e]
/-- One more epoch that has been begun. -/
theorem EQ.app {n t x : Nat} (h : EQ w0 w lg lc tg tc c mo v7 m AL PB S n t) (hm : m ≤ 100000) (hx : x ≤ (S (x % c)).seen) : ∃ a' c' w', Hid ((Builtin.append_ #[40, 40] 40 #[v7, .slice (some ⟨w.heap.size, 0, none⟩) 1 1]).run Try.prog (w.alloc (.cells #[.int .u64 (x : Nat)] 29)) = .ok (.slice a' (m + 1) c') w') ∧ EQ w0 w' lg lc tg tc c mo (.slice a' (m + 1) c') (m + 1) (AL ++ [x]) PB S n t := by
  obtain ⟨v', w', r, o, g, nb⟩ := fapp_one (P := Try.prog) (ty := 40) (y := .int .u64 (x : Nat)) Try.underlying40 infoU rfl h.al rfl (by omega) (by omega) h.below.size
  obtain ⟨a', c', hv, _, _⟩ := fown_slice o
  subst hv
  obtain ⟨S0, h0, h1, ⟨fl, rl, xl⟩, ft, rt, xt⟩ := h.ep
  refine ⟨a', c', w', r, ⟨S0, h0, h1, ⟨fl, rl.of_block (g.block _ rl.lt (own_apart h.al rl (by decide)) (fun e => by cases e)), xl⟩, ⟨ft, rt.of_block (g.block _ rt.lt h.tv (fun e => by cases e)), xt⟩⟩, h.hn, fun j hj => (h.ls j hj).later (g.block _ (h.ls j hj).row.lt (own_apart h.al (h.ls j hj).row (by decide)) (fun e => by cases e)), h.nu, ?_, fun y hy => ?_, h.ge, h.pp, ?_, h.gl, h.cl, h.below.trans (g.below w0.heap.size h.below.size (fun b e => (h.al.lt b e).1) (fun b e => by cases e))⟩
  · rw [List.map_append]; exact o
  · rcases List.mem_append.1 hy with hy | hy
    · exact h.ax y hy
    · simp at hy; subst hy; exact hx
  · rcases nb with e | ⟨b, e, hb⟩
    · rw [e]; exact h.tv
    · rw [e]; intro e'; have := rt.lt; simp at e'; omega
end
end Go.Proofs.Ytcbebepngencjaa
