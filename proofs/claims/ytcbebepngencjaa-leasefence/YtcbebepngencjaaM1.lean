/- Own texts, joined: LS1, LS2, LS3, LS4, LS5, LS6, LS7, LS13. -/
import Derived.Test.YtcbebepngencjaaRows
import Derived.WalkKit
import Derived.Laws.BitsAllLaws
import Derived.Deep.LoopGhost
import Derived.Deep.OwnRows
import Derived.Deep.Cut
import Derived.Deep.Light
import Derived.Deep.CutRange
import Derived.CellFam
import Derived.BigGuard
import Derived.BigQuiet
import Derived.BigRegion
import Derived.Deep.RegionWith
import Derived.Deep.QuietTactic
import Derived.Deep.RegionLaw
import Derived.Deep.RegionHeld3
import Derived.Laws.EntriesVeiled
import Derived.Laws.ByValue
import Derived.Laws.ResultCell
import Derived.Laws.NewBlocks
import Derived.Laws.Rows
import Derived.Below
import Derived.ProofKit
import Derived.OpenShut
import Derived.Lib.SmallJoins
import Derived.Deep.Slices

/- Package lease: a lease in memory, its small calls. -/
namespace Go.Proofs.Ytcbebepngencjaa
open Go.RowKit
set_option maxRecDepth 100000
set_option maxRecDepth 100000

/-- What a step leaves: nothing outside F has turned. -/
structure Mv (F : Nat → Prop) (w w' : World) : Prop where
  os : w'.os = w.os
  tape : w'.tape = w.tape
  output : w'.output = w.output
  size : w.heap.size ≤ w'.heap.size
  block : ∀ k, k < w.heap.size → ¬ F k → w'.heap[k]? = w.heap[k]?
theorem Mv.trans {F : Nat → Prop} {a b c : World} (h : Mv F a b) (k : Mv F b c) : Mv F a c :=
  ⟨k.os.trans h.os, k.tape.trans h.tape, k.output.trans h.output, Nat.le_trans h.size k.size, fun q hq hn => (k.block q (Nat.lt_of_lt_of_le hq h.size) hn).trans (h.block q hq hn)⟩
theorem Mv.refl (F : Nat → Prop) (w : World) : Mv F w w := ⟨rfl, rfl, rfl, Nat.le_refl _, fun _ _ _ => rfl⟩
theorem Mv.of_below {F : Nat → Prop} {w w' : World} (h : Below w.heap.size w w') : Mv F w w' := ⟨h.os, h.tape, h.output, h.size, fun k hk _ => h.block k hk⟩
theorem Mv.below {F : Nat → Prop} {w0 w w' : World} {B : Nat} (h0 : Below B w0 w) (hB : B ≤ w.heap.size) (hF : ∀ k, F k → B ≤ k) (h : Mv F w w') : Below B w0 w' :=
  h0.trans ⟨h.os, h.tape, h.output, h.size, fun k hk => h.block k (Nat.lt_of_lt_of_le hk hB) (fun hf => by have := hF k hf; omega)⟩
theorem Mv.mono {F G : Nat → Prop} {w w' : World} (h : Mv F w w') (hG : ∀ k, F k → G k) : Mv G w w' := ⟨h.os, h.tape, h.output, h.size, fun k hk hn => h.block k hk (fun hf => hn (hG k hf))⟩
theorem Mv.drewN {F : Nat → Prop} {w w' : World} (h : Mv F w w') (q : Nat) : Mv F (w.drewN q) w' := ⟨h.os, h.tape, h.output, h.size, h.block⟩


theorem set_mv {w : World} {b t n i : Nat} {f : Nat → Value} (_ : w.rowIs b t n f) (v : Value) : Mv (fun k => k = b) w (w.setCell ⟨b, i, none⟩ v) :=
  ⟨rfl, rfl, rfl, by simp [World.setCell], fun k _ hn => Below.heap_setCell _ _ _ _ hn⟩

/-- A lease as plain data. -/
structure Ls where
  left : Nat
  since : Nat
  quiet : Nat
  place : Nat
  copies : Nat
  most : Nat
  seen : Nat
  pat : Nat
structure Ls.Ok (s : Ls) : Prop where
  hl : s.left ≤ 9223372036854775807
  hs : s.since ≤ 9223372036854775807
  hq : s.quiet ≤ 9223372036854775807
  hp : s.place < s.copies
  hc : s.copies ≤ 9223372036854775807
  hm : s.most ≤ 9223372036854775807
  he : s.seen < 18446744073709551616
  h4 : 4 ≤ s.pat
  hpm : s.pat ≤ s.most
def lsCell (s : Ls) (i : Nat) : Value := if i = 0 then .int .i64 (s.left : Nat) else if i = 1 then .int .i64 (s.since : Nat) else if i = 2 then .int .i64 (s.quiet : Nat) else if i = 3 then .int .u64 (s.place : Nat) else if i = 4 then .int .u64 (s.copies : Nat) else if i = 5 then .int .i64 (s.most : Nat) else if i = 6 then .int .u64 (s.seen : Nat) else .int .i64 (s.pat : Nat)
structure LsIs (w : World) (b : Nat) (s : Ls) : Prop where
  row : w.rowIs b 57 8 (lsCell s)
  ok : s.Ok
theorem LsIs.later {w w' : World} {b : Nat} {s : Ls} (h : LsIs w b s) (hb : w'.heap[b]? = w.heap[b]?) : LsIs w' b s := ⟨h.row.of_block hb, h.ok⟩
theorem LsIs.on {w w' : World} {b : Nat} {s : Ls} (h : LsIs w b s) (hb : Below w.heap.size w w') : LsIs w' b s := h.later (hb.block b h.row.lt)
theorem LsIs.lt {w : World} {b : Nat} {s : Ls} (h : LsIs w b s) : b < w.heap.size := h.row.lt
section
variable {w : World} {b : Nat} {s : Ls}
theorem LsIs.c0 (h : LsIs w b s) : w.cell? ⟨b, 0, none⟩ = some (.int .i64 (s.left : Nat)) := h.row.cell (i := 0) (by decide)
theorem LsIs.c1 (h : LsIs w b s) : w.cell? ⟨b, 1, none⟩ = some (.int .i64 (s.since : Nat)) := h.row.cell (i := 1) (by decide)
theorem LsIs.c2 (h : LsIs w b s) : w.cell? ⟨b, 2, none⟩ = some (.int .i64 (s.quiet : Nat)) := h.row.cell (i := 2) (by decide)
theorem LsIs.c3 (h : LsIs w b s) : w.cell? ⟨b, 3, none⟩ = some (.int .u64 (s.place : Nat)) := h.row.cell (i := 3) (by decide)
theorem LsIs.c4 (h : LsIs w b s) : w.cell? ⟨b, 4, none⟩ = some (.int .u64 (s.copies : Nat)) := h.row.cell (i := 4) (by decide)
theorem LsIs.c5 (h : LsIs w b s) : w.cell? ⟨b, 5, none⟩ = some (.int .i64 (s.most : Nat)) := h.row.cell (i := 5) (by decide)
theorem LsIs.c6 (h : LsIs w b s) : w.cell? ⟨b, 6, none⟩ = some (.int .u64 (s.seen : Nat)) := h.row.cell (i := 6) (by decide)
theorem LsIs.c7 (h : LsIs w b s) : w.cell? ⟨b, 7, none⟩ = some (.int .i64 (s.pat : Nat)) := h.row.cell (i := 7) (by decide)
theorem LsIs.fz (h : LsIs w b s) (i : Nat) : w.frozen? ⟨b, i, none⟩ = false := h.row.frozen i
/-- One cell of a lease is written. -/
theorem LsIs.put (h : LsIs w b s) (i : Nat) (v : Value) (s' : Ls) (hv : ∀ j, j < 8 → (if j = i then v else lsCell s j) = lsCell s' j) (ok : s'.Ok) : LsIs (w.setCell ⟨b, i, none⟩ v) b s' ∧ Mv (fun k => k = b) w (w.setCell ⟨b, i, none⟩ v) :=
  ⟨⟨(h.row.set i v).congr hv, ok⟩, set_mv h.row v⟩
end
theorem left_any {w : World} {b : Nat} {s : Ls} (h : LsIs w b s) : Calls Try.prog 11 #[.pointer (some ⟨b, 0, none⟩)] w fun e w' => e = .returned (.int .i64 (s.left : Nat)) ∧ w = w' := by
  have c := h.c0
  clear h
  generalize s.left = x at *
  go_enter Try.func11, Try.ntmps11
  go_wp2
  go_ret
  exact ⟨rfl, rfl⟩
theorem seen_any {w : World} {b : Nat} {s : Ls} (h : LsIs w b s) : Calls Try.prog 16 #[.pointer (some ⟨b, 0, none⟩)] w fun e w' => e = .returned (.int .u64 (s.seen : Nat)) ∧ w = w' := by
  have c := h.c6
  clear h
  generalize s.seen = x at *
  go_enter Try.func16, Try.ntmps16
  go_wp2
  go_ret
  exact ⟨rfl, rfl⟩
theorem patience_any {w : World} {b : Nat} {s : Ls} (h : LsIs w b s) : Calls Try.prog 13 #[.pointer (some ⟨b, 0, none⟩)] w fun e w' => e = .returned (.int .i64 (s.pat : Nat)) ∧ w = w' := by
  have c := h.c7
  clear h
  generalize s.pat = x at *
  go_enter Try.func13, Try.ntmps13
  go_wp2
  go_ret
  exact ⟨rfl, rfl⟩

def satM (a b : Nat) : Nat := if 9223372036854775807 - b < a then 9223372036854775807 else a + b
theorem satM_le {a b : Nat} (hb : b ≤ 9223372036854775807) : satM a b ≤ 9223372036854775807 := by unfold satM; split <;> omega
theorem sum_any (a b : Nat) (hb : b ≤ 9223372036854775807) (w : World) : Calls Try.prog 29 #[.int .i64 (a : Nat), .int .i64 (b : Nat)] w fun e w' => e = .returned (.int .i64 (satM a b : Nat)) ∧ w = w' := by
  obtain ⟨k, hk, hk2⟩ : ∃ k : Nat, 9223372036854775807 - (b : Int) = (k : Int) ∧ k = 9223372036854775807 - b := ⟨9223372036854775807 - b, by omega, rfl⟩
  have hw : IntKind.i64.wrap (k : Int) = (k : Int) := by rw [IntKind.wrap_i64]; omega
  unfold satM
  rw [← hk2]
  by_cases hc : k < a
  · rw [if_pos hc]
    have z : (a : Int) > (k : Int) := by omega
    clear hk2
    go_enter Try.func29, Try.ntmps29
    go_wp2
    go_ret
    exact ⟨rfl, rfl⟩
  · rw [if_neg hc]
    have z : ¬ (a : Int) > (k : Int) := by omega
    obtain ⟨m, hm, hm2⟩ : ∃ m : Nat, (a : Int) + (b : Int) = (m : Int) ∧ m = a + b := ⟨a + b, by omega, rfl⟩
    have hw2 : IntKind.i64.wrap (m : Int) = (m : Int) := by rw [IntKind.wrap_i64]; omega
    rw [← hm2]
    clear hk2 hm2
    go_enter Try.func29, Try.ntmps29
    go_wp2
    go_ret
    exact ⟨rfl, rfl⟩
theorem span_any {w : World} {b : Nat} {s : Ls} (h : LsIs w b s) : Calls Try.prog 17 #[.pointer (some ⟨b, 0, none⟩)] w fun e w' => e = .returned (.int .i64 (satM s.pat 1 : Nat)) ∧ w = w' := by
  have c := h.c7
  have H : Hid (Calls Try.prog 29 #[.int .i64 (s.pat : Nat), .int .i64 1] w fun e w' => e = .returned (.int .i64 (satM s.pat 1 : Nat)) ∧ w = w') := sum_any s.pat 1 (by decide) w
  clear h
  generalize s.pat = x at *
  generalize satM x 1 = y at *
  go_enter Try.func17, Try.ntmps17
  go_wp2_with (go_at_call 29; refine H.out.mono ?_; rintro e w2 ⟨rfl, rfl⟩)
  go_ret
  exact ⟨rfl, rfl⟩
theorem rest_any {w : World} {b : Nat} {s : Ls} (h : LsIs w b s) : Calls Try.prog 14 #[.pointer (some ⟨b, 0, none⟩)] w fun e w' => e = .returned (.tuple #[]) ∧ LsIs w' b { s with left := s.pat } ∧ Mv (fun k => k = b) w w' := by
  have ct := h.c0
  have fz := h.fz 0
  have cf := h.c7
  obtain ⟨W, HW⟩ : ∃ W, Hid (w.setCell ⟨b, 0, none⟩ (.int .i64 (s.pat : Nat)) = W) := ⟨_, rfl⟩
  have HK : Hid (LsIs W b { s with left := s.pat } ∧ Mv (fun k => k = b) w W) := by
    rw [← HW.out]
    exact h.put 0 _ _ (fun j hj => by match j, hj with | 0, _ | 1, _ | 2, _ | 3, _ | 4, _ | 5, _ | 6, _ | 7, _ => rfl) ⟨Nat.le_trans h.ok.hpm h.ok.hm, h.ok.hs, h.ok.hq, h.ok.hp, h.ok.hc, h.ok.hm, h.ok.he, h.ok.h4, h.ok.hpm⟩
  clear h
  go_enter Try.func14, Try.ntmps14
  go_wp2
  rw [HW.out]
  go_end0
  exact ⟨rfl, HK.out⟩
theorem begunL_any {w : World} {b : Nat} {s : Ls} (h : LsIs w b s) : Calls Try.prog 18 #[.pointer (some ⟨b, 0, none⟩)] w fun e w' => e = .returned (.tuple #[]) ∧ LsIs w' b { s with since := 0 } ∧ Mv (fun k => k = b) w w' := by
  have ct := h.c1
  have fz := h.fz 1
  obtain ⟨W, HW⟩ : ∃ W, Hid (w.setCell ⟨b, 1, none⟩ (.int .i64 0) = W) := ⟨_, rfl⟩
  have HK : Hid (LsIs W b { s with since := 0 } ∧ Mv (fun k => k = b) w W) := by
    rw [← HW.out]
    exact h.put 1 _ _ (fun j hj => by match j, hj with | 0, _ | 1, _ | 2, _ | 3, _ | 4, _ | 5, _ | 6, _ | 7, _ => rfl) ⟨h.ok.hl, Nat.zero_le _, h.ok.hq, h.ok.hp, h.ok.hc, h.ok.hm, h.ok.he, h.ok.h4, h.ok.hpm⟩
  clear h
  go_enter Try.func18, Try.ntmps18
  go_wp2
  rw [HW.out]
  go_end0
  exact ⟨rfl, HK.out⟩
theorem doneL_any {w : World} {b : Nat} {s : Ls} (h : LsIs w b s) : Calls Try.prog 19 #[.pointer (some ⟨b, 0, none⟩)] w fun e w' => e = .returned (.tuple #[]) ∧ LsIs w' b { s with quiet := s.since } ∧ Mv (fun k => k = b) w w' := by
  have ct := h.c2
  have fz := h.fz 2
  have cf := h.c1
  obtain ⟨W, HW⟩ : ∃ W, Hid (w.setCell ⟨b, 2, none⟩ (.int .i64 (s.since : Nat)) = W) := ⟨_, rfl⟩
  have HK : Hid (LsIs W b { s with quiet := s.since } ∧ Mv (fun k => k = b) w W) := by
    rw [← HW.out]
    exact h.put 2 _ _ (fun j hj => by match j, hj with | 0, _ | 1, _ | 2, _ | 3, _ | 4, _ | 5, _ | 6, _ | 7, _ => rfl) ⟨h.ok.hl, h.ok.hs, h.ok.hs, h.ok.hp, h.ok.hc, h.ok.hm, h.ok.he, h.ok.h4, h.ok.hpm⟩
  clear h
  go_enter Try.func19, Try.ntmps19
  go_wp2
  rw [HW.out]
  go_end0
  exact ⟨rfl, HK.out⟩

def goM (s : Ls) : Ls := { s with since := satM s.since 1, quiet := satM s.quiet 1 }
theorem goOn_any {w : World} {b : Nat} {s : Ls} (h : LsIs w b s) : Calls Try.prog 30 #[.pointer (some ⟨b, 0, none⟩)] w fun e w' => e = .returned (.tuple #[]) ∧ LsIs w' b (goM s) ∧ Mv (fun k => k = b) w w' := by
  have c1 := h.c1
  have f1 := h.fz 1
  have ok1 : Ls.Ok { s with since := satM s.since 1 } := ⟨h.ok.hl, satM_le (by decide), h.ok.hq, h.ok.hp, h.ok.hc, h.ok.hm, h.ok.he, h.ok.h4, h.ok.hpm⟩
  have ok2 : Ls.Ok (goM s) := ⟨h.ok.hl, satM_le (by decide), satM_le (by decide), h.ok.hp, h.ok.hc, h.ok.hm, h.ok.he, h.ok.h4, h.ok.hpm⟩
  have r1 := h.put 1 (.int .i64 (satM s.since 1 : Nat)) { s with since := satM s.since 1 } (fun j hj => by match j, hj with | 0, _ | 1, _ | 2, _ | 3, _ | 4, _ | 5, _ | 6, _ | 7, _ => rfl) ok1
  have H1 : Hid (Calls Try.prog 29 #[.int .i64 (s.since : Nat), .int .i64 1] w fun e w' => e = .returned (.int .i64 (satM s.since 1 : Nat)) ∧ w = w') := sum_any s.since 1 (by decide) w
  obtain ⟨W1, HW1⟩ : ∃ W, Hid (w.setCell ⟨b, 1, none⟩ (.int .i64 (satM s.since 1 : Nat)) = W) := ⟨_, rfl⟩
  rw [HW1.out] at r1
  have c2 := r1.1.c2
  have f2 := r1.1.fz 2
  have H2 : Hid (Calls Try.prog 29 #[.int .i64 (s.quiet : Nat), .int .i64 1] W1 fun e w' => e = .returned (.int .i64 (satM s.quiet 1 : Nat)) ∧ W1 = w') := sum_any s.quiet 1 (by decide) W1
  have r2 := r1.1.put 2 (.int .i64 (satM s.quiet 1 : Nat)) (goM s) (fun j hj => by match j, hj with | 0, _ | 1, _ | 2, _ | 3, _ | 4, _ | 5, _ | 6, _ | 7, _ => rfl) ok2
  obtain ⟨W2, HW2⟩ : ∃ W, Hid (W1.setCell ⟨b, 2, none⟩ (.int .i64 (satM s.quiet 1 : Nat)) = W) := ⟨_, rfl⟩
  rw [HW2.out] at r2
  have HK : Hid (LsIs W2 b (goM s) ∧ Mv (fun k => k = b) w W2) := ⟨r2.1, r1.2.trans r2.2⟩
  simp only at c2
  clear r1 r2 h ok1 ok2
  generalize satM s.since 1 = y1 at *
  generalize satM s.quiet 1 = y2 at *
  go_enter Try.func30, Try.ntmps30
  go_upto_region 1 with (go_at_call 29; refine H1.out.mono ?_; rintro e w2 ⟨rfl, rfl⟩)
  rw [HW1.out]
  go_wp2_with (go_at_call 29; refine H2.out.mono ?_; rintro e w2 ⟨rfl, rfl⟩)
  rw [HW2.out]
  go_end0
  exact ⟨rfl, HK.out⟩

theorem modulo_any (n : Int) (m : Nat) (hm : 0 < m) (hm2 : m ≤ 9223372036854775807) (w : World) : Calls Try.prog 28 #[.int .i64 n, .int .i64 (m : Nat)] w fun e w' => e = .returned (.int .i64 (((n % m).toNat : Nat) : Int)) ∧ w = w' := by
  have h1 := Int.tmod_lt_of_pos n (show (0 : Int) < (m : Int) by omega)
  have h2 := Int.lt_tmod_of_pos n (show (0 : Int) < (m : Int) by omega)
  have h0 : ¬ (m : Int) = 0 := by omega
  have h0' : ((m : Int) == 0) = false := by simp; omega
  have hmw : IntKind.i64.wrap (n.tmod m) = n.tmod m := by rw [IntKind.wrap_i64]; omega
  have he : ((n % m).toNat : Int) = n % m := Int.toNat_of_nonneg (Int.emod_nonneg _ (by omega))
  have hte := Int.tmod_eq_emod (a := n) (b := (m : Int))
  have hna : ((m : Int).natAbs : Int) = m := by omega
  have hr1 := Int.emod_nonneg n (show (m : Int) ≠ 0 by omega)
  have hr2 := Int.emod_lt_of_pos n (show (0 : Int) < (m : Int) by omega)
  by_cases hn : n.tmod m < 0
  · obtain ⟨k, hk⟩ : ∃ k : Nat, n.tmod m + (m : Int) = (k : Int) := ⟨(n.tmod m + m).toNat, by omega⟩
    have hkk : (n % m).toNat = k := by
      split at hte <;> omega
    rw [hkk]
    have hw : IntKind.i64.wrap (k : Int) = (k : Int) := by rw [IntKind.wrap_i64]; omega
    clear he hte hna hr1 hr2 hkk
    go_enter Try.func28, Try.ntmps28
    go_wp2
    go_ret
    exact ⟨rfl, rfl⟩
  · obtain ⟨k, hk⟩ : ∃ k : Nat, n.tmod m = (k : Int) := ⟨(n.tmod m).toNat, by omega⟩
    have hkk : (n % m).toNat = k := by
      split at hte <;> omega
    rw [hkk]
    rw [hk] at hmw hn
    clear he hte hna hr1 hr2 hkk
    go_enter Try.func28, Try.ntmps28
    go_wp2
    go_ret
    exact ⟨rfl, rfl⟩
end Go.Proofs.Ytcbebepngencjaa

/- Package lease: next, doubled, begin, Tick, Heard, New. -/
namespace Go.Proofs.Ytcbebepngencjaa
open Go.RowKit
set_option maxRecDepth 100000
set_option maxRecDepth 100000

theorem LsIs.drew {w : World} {b : Nat} {s : Ls} (h : LsIs w b s) : LsIs w.drew b s := h.later rfl
def nxE (s : Ls) : Nat := s.seen - s.seen % s.copies + s.place
def nxF (s : Ls) : Nat := if nxE s ≤ s.seen then nxE s + s.copies else nxE s
/-- The next epoch; 0: none. -/
def nextM (s : Ls) : Nat := if 1099511627776 ≤ s.seen then 0 else if 1099511627776 < nxF s then 0 else nxF s
def dblM (s : Ls) : Nat := if s.most / 2 < s.pat then s.most else 2 * s.pat
theorem nxF_gt {s : Ls} (h : s.Ok) : s.seen < nxF s := by
  have h1 := h.hp
  have h2 := Nat.mod_lt s.seen (show 0 < s.copies by omega)
  have h3 := Nat.mod_le s.seen s.copies
  unfold nxF nxE
  split <;> omega
theorem next_any {w : World} {b : Nat} {s : Ls} (h : LsIs w b s) : Calls Try.prog 35 #[.pointer (some ⟨b, 0, none⟩)] w fun e w' => e = .returned (.tuple #[.int .u64 (nextM s : Nat), .bool (decide (nextM s ≠ 0))]) ∧ ∃ q, w' = w.drewN q := by
  have c6 := h.c6
  have c6d := h.drew.c6
  have c3 := h.c3
  have c4 := h.c4
  have hgt := nxF_gt h.ok
  have hp := h.ok.hp
  have hc := h.ok.hc
  have he := h.ok.he
  clear h
  unfold nextM at *
  by_cases h1 : 1099511627776 ≤ s.seen
  · rw [if_pos h1]
    have z : (s.seen : Int) ≥ 1099511627776 := by omega
    generalize s.seen = sn at *
    clear hgt
    go_enter Try.func35, Try.ntmps35
    go_wp2
    go_ret2
    exact ⟨rfl, 0, rfl⟩
  · rw [if_neg h1]
    have z : ¬ (s.seen : Int) ≥ 1099511627776 := by omega
    have hml := Nat.mod_le s.seen s.copies
    have hmm : (s.seen : Int).tmod (s.copies : Int) = ((s.seen % s.copies : Nat) : Int) := (Int.ofNat_tmod _ _).symm
    have zc : ((s.copies : Int) == 0) = false := by simp; omega
    have zc' : ¬ (s.copies : Int) = 0 := by omega
    unfold nxF nxE at *
    generalize hM : s.seen % s.copies = M at *
    obtain ⟨a, ha, ha2⟩ : ∃ a : Nat, (s.seen : Int) - (M : Int) = (a : Int) ∧ a = s.seen - M := ⟨s.seen - M, by omega, rfl⟩
    rw [← ha2] at hgt ⊢
    obtain ⟨x, hx, hx2⟩ : ∃ x : Nat, (a : Int) + (s.place : Int) = (x : Int) ∧ x = a + s.place := ⟨a + s.place, by omega, rfl⟩
    rw [← hx2] at hgt ⊢
    have wM : IntKind.u64.wrap (M : Int) = (M : Int) := by rw [IntKind.wrap_u64]; omega
    have wa : IntKind.u64.wrap (a : Int) = (a : Int) := by rw [IntKind.wrap_u64]; omega
    have wx : IntKind.u64.wrap (x : Int) = (x : Int) := by rw [IntKind.wrap_u64]; omega
    by_cases h2 : x ≤ s.seen
    · rw [if_pos h2] at hgt ⊢
      have z2 : (x : Int) ≤ (s.seen : Int) := by omega
      obtain ⟨y, hy, hy2⟩ : ∃ y : Nat, (x : Int) + (s.copies : Int) = (y : Int) ∧ y = x + s.copies := ⟨x + s.copies, by omega, rfl⟩
      rw [← hy2] at hgt ⊢
      have wy : IntKind.u64.wrap (y : Int) = (y : Int) := by rw [IntKind.wrap_u64]; omega
      generalize s.seen = sn at *
      generalize s.place = pl at *
      generalize s.copies = cp at *
      by_cases h3 : 1099511627776 < y
      · rw [if_pos h3]
        have z3 : (y : Int) > 1099511627776 := by omega
        clear hgt hM ha2 hx2 hy2
        go_enter Try.func35, Try.ntmps35
        go_upto_region 3 with fail
        go_quiet (fail)
        go_wp2
        go_ret2
        exact ⟨rfl, _, rfl⟩
      · rw [if_neg h3]
        have z3 : ¬ (y : Int) > 1099511627776 := by omega
        rw [show decide (y ≠ 0) = true by simp; omega]
        clear hgt hM ha2 hx2 hy2
        go_enter Try.func35, Try.ntmps35
        go_upto_region 3 with fail
        go_quiet (fail)
        go_wp2
        go_ret2
        exact ⟨rfl, _, rfl⟩
    · rw [if_neg h2] at hgt ⊢
      have z2 : ¬ (x : Int) ≤ (s.seen : Int) := by omega
      generalize s.seen = sn at *
      generalize s.place = pl at *
      generalize s.copies = cp at *
      by_cases h3 : 1099511627776 < x
      · rw [if_pos h3]
        have z3 : (x : Int) > 1099511627776 := by omega
        clear hgt hM ha2 hx2
        go_enter Try.func35, Try.ntmps35
        go_upto_region 3 with fail
        go_quiet (fail)
        go_wp2
        go_ret2
        exact ⟨rfl, _, rfl⟩
      · rw [if_neg h3]
        have z3 : ¬ (x : Int) > 1099511627776 := by omega
        rw [show decide (x ≠ 0) = true by simp; omega]
        clear hgt hM ha2 hx2
        go_enter Try.func35, Try.ntmps35
        go_upto_region 3 with fail
        go_quiet (fail)
        go_wp2
        go_ret2
        exact ⟨rfl, _, rfl⟩

theorem doubled_any {w : World} {b : Nat} {s : Ls} (h : LsIs w b s) : Calls Try.prog 36 #[.pointer (some ⟨b, 0, none⟩)] w fun e w' => e = .returned (.int .i64 (dblM s : Nat)) ∧ ∃ q, w' = w.drewN q := by
  have c5 := h.c5
  have c7 := h.c7
  have c5d := h.drew.c5
  have c7d := h.drew.c7
  have hm := h.ok.hm
  have hpm := h.ok.hpm
  clear h
  have hd : (s.most : Int).tdiv 2 = ((s.most / 2 : Nat) : Int) := by exact Int.ofNat_tdiv s.most 2
  have wd : IntKind.i64.wrap ((s.most / 2 : Nat) : Int) = ((s.most / 2 : Nat) : Int) := by rw [IntKind.wrap_i64]; omega
  unfold dblM
  by_cases h1 : s.most / 2 < s.pat
  · rw [if_pos h1]
    have z : (s.pat : Int) > ((s.most / 2 : Nat) : Int) := by omega
    generalize s.most / 2 = d at *
    generalize s.most = mo at *
    generalize s.pat = pa at *
    go_enter Try.func36, Try.ntmps36
    go_upto_region 1 with fail
    go_quiet (fail)
    go_wp2
    go_ret
    exact ⟨rfl, _, rfl⟩
  · rw [if_neg h1]
    have z : ¬ (s.pat : Int) > ((s.most / 2 : Nat) : Int) := by omega
    obtain ⟨k, hk, hk2⟩ : ∃ k : Nat, 2 * (s.pat : Int) = (k : Int) ∧ k = 2 * s.pat := ⟨2 * s.pat, by omega, rfl⟩
    have wk : IntKind.i64.wrap (k : Int) = (k : Int) := by rw [IntKind.wrap_i64]; omega
    rw [← hk2]
    generalize s.most / 2 = d at *
    generalize s.most = mo at *
    generalize s.pat = pa at *
    clear hk2
    go_enter Try.func36, Try.ntmps36
    go_upto_region 1 with fail
    go_quiet (fail)
    go_wp2
    go_ret
    exact ⟨rfl, _, rfl⟩
end Go.Proofs.Ytcbebepngencjaa

/- Package lease: begin, Tick, Heard, New. -/
namespace Go.Proofs.Ytcbebepngencjaa
open Go.RowKit
set_option maxRecDepth 100000
set_option maxRecDepth 100000

theorem Mv.drewR {F : Nat → Prop} {w w' : World} (h : Mv F w w') (q : Nat) : Mv F w (w'.drewN q) := ⟨h.os, h.tape, h.output, h.size, h.block⟩
theorem dbl_le {s : Ls} (h : s.Ok) : dblM s ≤ s.most ∧ s.pat ≤ dblM s := by
  have := h.hpm
  unfold dblM; split <;> omega
theorem next_le {s : Ls} : nextM s ≤ 1099511627776 := by
  unfold nextM; split
  · omega
  · split <;> omega
def beginM (s : Ls) : Ls := if nextM s = 0 then { s with left := s.pat } else { s with seen := nextM s, pat := dblM s, left := dblM s }
theorem begin_any {w : World} {b : Nat} {s : Ls} (h : LsIs w b s) : Calls Try.prog 31 #[.pointer (some ⟨b, 0, none⟩)] w fun e w' => e = .returned (.int .u64 (nextM s : Nat)) ∧ LsIs w' b (beginM s) ∧ Mv (fun k => k = b) w w' := by
  unfold beginM
  by_cases h0 : nextM s = 0
  · rw [if_pos h0]
    have HN : Hid (Calls Try.prog 35 #[.pointer (some ⟨b, 0, none⟩)] w fun e w1 => e = .returned (.tuple #[.int .u64 (nextM s : Nat), .bool false]) ∧ Hid (Calls Try.prog 14 #[.pointer (some ⟨b, 0, none⟩)] w1 fun e w2 => e = .returned (.tuple #[]) ∧ Hid (LsIs w2 b { s with left := s.pat } ∧ Mv (fun k => k = b) w w2))) :=
      (next_any h).mono fun e w1 ⟨he, q, hq⟩ => ⟨by rw [he]; simp [h0], by
        subst hq
        exact (rest_any (w := w.drewN q) (h.later rfl)).mono fun e w2 ⟨he2, hl, hm⟩ => ⟨he2, hl, ⟨hm.os, hm.tape, hm.output, hm.size, hm.block⟩⟩⟩
    generalize nextM s = n at *
    clear h h0
    go_enter Try.func31, Try.ntmps31
    go_wp2_with (first
      | (go_at_call 35; refine HN.out.mono ?_; rintro e w1 ⟨rfl, HR⟩)
      | (go_at_call 14; refine HR.out.mono ?_; rintro e w2 ⟨rfl, HK⟩))
    go_ret
    exact ⟨rfl, HK.out⟩
  · rw [if_neg h0]
    have hle := next_le (s := s)
    have hdb := dbl_le h.ok
    have hm := h.ok.hm
    have h4 := h.ok.h4
    have ok1 : Ls.Ok { s with seen := nextM s } := ⟨h.ok.hl, h.ok.hs, h.ok.hq, h.ok.hp, h.ok.hc, h.ok.hm, by show nextM s < _; omega, h.ok.h4, h.ok.hpm⟩
    have ok2 : Ls.Ok { s with seen := nextM s, pat := dblM s } := ⟨h.ok.hl, h.ok.hs, h.ok.hq, h.ok.hp, h.ok.hc, h.ok.hm, by show nextM s < _; omega, by show 4 ≤ dblM s; omega, hdb.1⟩
    have HN : Hid (Calls Try.prog 35 #[.pointer (some ⟨b, 0, none⟩)] w fun e w1 => e = .returned (.tuple #[.int .u64 (nextM s : Nat), .bool true]) ∧ w1.cell? ⟨b, 6, none⟩ = some (.int .u64 (s.seen : Nat)) ∧ w1.frozen? ⟨b, 6, none⟩ = false ∧ ∃ W2, Hid (w1.setCell ⟨b, 6, none⟩ (.int .u64 (nextM s : Nat)) = W2) ∧
        Hid (Calls Try.prog 36 #[.pointer (some ⟨b, 0, none⟩)] W2 fun e w3 => e = .returned (.int .i64 (dblM s : Nat)) ∧ w3.cell? ⟨b, 7, none⟩ = some (.int .i64 (s.pat : Nat)) ∧ w3.frozen? ⟨b, 7, none⟩ = false ∧ ∃ W4, Hid (w3.setCell ⟨b, 7, none⟩ (.int .i64 (dblM s : Nat)) = W4) ∧
          Hid (Calls Try.prog 14 #[.pointer (some ⟨b, 0, none⟩)] W4 fun e w5 => e = .returned (.tuple #[]) ∧ Hid (LsIs w5 b { s with seen := nextM s, pat := dblM s, left := dblM s } ∧ Mv (fun k => k = b) w w5)))) := by
      refine (next_any h).mono fun e w1 ⟨he, q, hq⟩ => ⟨by rw [he]; simp [h0], ?_⟩
      have h1 : LsIs w1 b s := by subst hq; exact h.later rfl
      have m1 : Mv (fun k => k = b) w w1 := by subst hq; exact (Mv.refl _ _).drewR q
      obtain ⟨h2, m2⟩ := h1.put 6 (.int .u64 (nextM s : Nat)) { s with seen := nextM s } (fun j hj => by match j, hj with | 0, _ | 1, _ | 2, _ | 3, _ | 4, _ | 5, _ | 6, _ | 7, _ => rfl) ok1
      refine ⟨h1.c6, h1.fz 6, _, rfl, (doubled_any h2).mono fun e w3 ⟨he3, q3, hq3⟩ => ⟨he3, ?_⟩⟩
      have h3 : LsIs w3 b { s with seen := nextM s } := by subst hq3; exact h2.later rfl
      have m3 := m1.trans m2
      have m4 : Mv (fun k => k = b) w w3 := by subst hq3; exact m3.drewR q3
      obtain ⟨h5, m5⟩ := h3.put 7 (.int .i64 (dblM s : Nat)) { s with seen := nextM s, pat := dblM s } (fun j hj => by match j, hj with | 0, _ | 1, _ | 2, _ | 3, _ | 4, _ | 5, _ | 6, _ | 7, _ => rfl) ok2
      exact ⟨h3.c7, h3.fz 7, _, rfl, (rest_any h5).mono fun e w5 ⟨he5, h6, m6⟩ => ⟨he5, h6, (m4.trans m5).trans m6⟩⟩
    generalize nextM s = n at *
    generalize dblM s = d at *
    clear h h0 hle hdb hm h4 ok1 ok2
    go_enter Try.func31, Try.ntmps31
    go_upto_region 4 with (go_at_call 35; refine HN.out.mono ?_; rintro e w1 ⟨rfl, d1, d2, W2, HW2, HD⟩)
    rw [HW2.out]
    go_upto_region 5 with (go_at_call 36; refine HD.out.mono ?_; rintro e w3 ⟨rfl, d3, d4, W4, HW4, HR⟩)
    rw [HW4.out]
    go_wp2_with (go_at_call 14; refine HR.out.mono ?_; rintro e w5 ⟨rfl, HK⟩)
    go_ret
    exact ⟨rfl, HK.out⟩

def lowM (s : Ls) : Ls := { goM s with left := s.left - 1 }
/-- What a tick makes of a lease: what it is then, the epoch, whether it ends. -/
def tickM (s : Ls) (ph : Int) (hd fr : Bool) : Ls × Nat × Bool :=
  if hd = true then (goM s, 0, decide (s.pat ≤ (goM s).quiet))
  else if ph = 0 then (if s.left - 1 = 0 ∧ fr = true then (beginM (lowM s), nextM (lowM s), false) else (lowM s, 0, false))
  else (goM s, 0, false)
theorem tick_hold {w : World} {b : Nat} {s : Ls} (h : LsIs w b s) (ph : Int) (fr : Bool) : Calls Try.prog 12 #[.pointer (some ⟨b, 0, none⟩), .int .i64 ph, .bool true, .bool fr] w fun e w' => e = .returned (.tuple #[.int .u64 0, .bool (decide (s.pat ≤ (goM s).quiet))]) ∧ LsIs w' b (goM s) ∧ Mv (fun k => k = b) w w' := by
  have HG : Hid (Calls Try.prog 30 #[.pointer (some ⟨b, 0, none⟩)] w fun e w1 => e = .returned (.tuple #[]) ∧ w1.cell? ⟨b, 2, none⟩ = some (.int .i64 ((goM s).quiet : Nat)) ∧ w1.cell? ⟨b, 7, none⟩ = some (.int .i64 (s.pat : Nat)) ∧ Hid (∀ q, LsIs (w1.drewN q) b (goM s) ∧ Mv (fun k => k = b) w (w1.drewN q))) :=
    (goOn_any h).mono fun e w1 ⟨he, h1, m1⟩ => ⟨he, h1.c2, h1.c7, fun q => ⟨h1.later rfl, m1.drewR q⟩⟩
  clear h
  obtain ⟨s', hs'⟩ : ∃ s', Hid (goM s = s') := ⟨_, rfl⟩
  rw [hs'.out] at HG ⊢
  clear hs'
  go_enter Try.func12, Try.ntmps12
  go_upto_region 3 with (go_at_call 30; refine HG.out.mono ?_; rintro e w1 ⟨rfl, c2, c7, HK⟩)
  go_quiet (fail)
  go_wp2
  go_ret2
  exact ⟨by simp, HK.out _⟩
theorem tick_not {w : World} {b : Nat} {s : Ls} (h : LsIs w b s) (ph : Int) (hp : ph ≠ 0) (fr : Bool) : Calls Try.prog 12 #[.pointer (some ⟨b, 0, none⟩), .int .i64 ph, .bool false, .bool fr] w fun e w' => e = .returned (.tuple #[.int .u64 0, .bool false]) ∧ LsIs w' b (goM s) ∧ Mv (fun k => k = b) w w' := by
  have HG : Hid (Calls Try.prog 30 #[.pointer (some ⟨b, 0, none⟩)] w fun e w1 => e = .returned (.tuple #[]) ∧ Hid (LsIs w1 b (goM s) ∧ Mv (fun k => k = b) w w1)) := (goOn_any h).mono fun e w1 ⟨he, h1, m1⟩ => ⟨he, h1, m1⟩
  have z : (ph != 0) = true := by simpa using hp
  have z' : ¬ ph = 0 := hp
  clear h hp
  go_enter Try.func12, Try.ntmps12
  go_wp2_with (go_at_call 30; refine HG.out.mono ?_; rintro e w1 ⟨rfl, HK⟩)
  go_ret2
  exact ⟨rfl, HK.out⟩
theorem tick_idle {w : World} {b : Nat} {s : Ls} (h : LsIs w b s) (fr : Bool) : Calls Try.prog 12 #[.pointer (some ⟨b, 0, none⟩), .int .i64 0, .bool false, .bool fr] w fun e w' => e = .returned (.tuple #[.int .u64 ((if s.left - 1 = 0 ∧ fr = true then (beginM (lowM s), nextM (lowM s), false) else (lowM s, 0, false)).2.1 : Nat), .bool false]) ∧ LsIs w' b (if s.left - 1 = 0 ∧ fr = true then (beginM (lowM s), nextM (lowM s), false) else (lowM s, 0, false)).1 ∧ Mv (fun k => k = b) w w' := by
  have hl := h.ok.hl
  obtain ⟨k, hk⟩ : ∃ k : Int, (s.left : Int) - 1 = k := ⟨_, rfl⟩
  have wk : IntKind.i64.wrap k = k := by rw [IntKind.wrap_i64]; omega
  obtain ⟨x, hx, hx2⟩ : ∃ x : Nat, max k 0 = (x : Int) ∧ x = s.left - 1 := ⟨s.left - 1, by omega, rfl⟩
  have HG : Hid (Calls Try.prog 30 #[.pointer (some ⟨b, 0, none⟩)] w fun e w1 => e = .returned (.tuple #[]) ∧ w1.cell? ⟨b, 0, none⟩ = some (.int .i64 (s.left : Nat)) ∧ w1.frozen? ⟨b, 0, none⟩ = false ∧ ∃ W2, Hid (w1.setCell ⟨b, 0, none⟩ (.int .i64 (x : Nat)) = W2) ∧ W2.cell? ⟨b, 0, none⟩ = some (.int .i64 (x : Nat)) ∧ Hid (LsIs W2 b (lowM s) ∧ Mv (fun k => k = b) w W2) ∧
      Hid (Calls Try.prog 31 #[.pointer (some ⟨b, 0, none⟩)] W2 fun e w3 => e = .returned (.int .u64 (nextM (lowM s) : Nat)) ∧ Hid (LsIs w3 b (beginM (lowM s)) ∧ Mv (fun k => k = b) w w3))) := by
    refine (goOn_any h).mono fun e w1 ⟨he, h1, m1⟩ => ⟨he, h1.c0, h1.fz 0, ?_⟩
    have ok2 : Ls.Ok (lowM s) := ⟨by show s.left - 1 ≤ _; omega, h1.ok.hs, h1.ok.hq, h1.ok.hp, h1.ok.hc, h1.ok.hm, h1.ok.he, h1.ok.h4, h1.ok.hpm⟩
    rw [hx2]
    obtain ⟨h2, m2⟩ := h1.put 0 (.int .i64 (s.left - 1 : Nat)) (lowM s) (fun j hj => by match j, hj with | 0, _ | 1, _ | 2, _ | 3, _ | 4, _ | 5, _ | 6, _ | 7, _ => rfl) ok2
    exact ⟨_, rfl, h2.c0, ⟨h2, m1.trans m2⟩, (begin_any h2).mono fun e w3 ⟨he3, h3, m3⟩ => ⟨he3, h3, (m1.trans m2).trans m3⟩⟩
  by_cases hs : s.left ≤ 1
  · have z : ¬ (x : Int) > 0 := by omega
    have hx0 : s.left - 1 = 0 := by omega
    have zk : k ≤ 0 := by omega
    have zk' : ¬ (0 : Int) < k := by omega
    have e0 : ((x : Nat) : Int) = 0 := by omega
    rw [e0] at HG
    clear z hx e0
    have hmx : (if k < 0 then (0 : Int) else k) = 0 := by split <;> omega
    cases fr with
    | true =>
      rw [if_pos ⟨hx0, rfl⟩]
      generalize nextM (lowM s) = n at *
      generalize beginM (lowM s) = s2 at *
      clear h hl hs hx0 hx2
      go_enter Try.func12, Try.ntmps12
      go_upto_region 7 with (go_at_call 30; refine HG.out.mono ?_; rintro e w1 ⟨rfl, c0, f0, W2, HW2, c02, HK2, HB⟩)
      rw [HW2.out]
      go_wp2_with (go_at_call 31; refine HB.out.mono ?_; rintro e w3 ⟨rfl, HK⟩)
      go_ret2
      exact ⟨rfl, HK.out⟩
    | false =>
      rw [if_neg (by simp)]
      clear h hl hs hx0 hx2
      go_enter Try.func12, Try.ntmps12
      go_upto_region 7 with (go_at_call 30; refine HG.out.mono ?_; rintro e w1 ⟨rfl, c0, f0, W2, HW2, c02, HK2, HB⟩)
      rw [HW2.out]
      go_wp2
      go_ret2
      exact ⟨rfl, HK2.out⟩
  · have z : (x : Int) > 0 := by omega
    have zk' : (0 : Int) < k := by omega
    obtain rfl : k = (x : Int) := by omega
    rw [if_neg (by rintro ⟨h1, _⟩; omega)]
    clear h hl hs hx2
    go_enter Try.func12, Try.ntmps12
    go_upto_region 7 with (go_at_call 30; refine HG.out.mono ?_; rintro e w1 ⟨rfl, c0, f0, W2, HW2, c02, HK2, HB⟩)
    rw [HW2.out]
    go_wp2
    go_ret2
    exact ⟨rfl, HK2.out⟩
theorem tick_any {w : World} {b : Nat} {s : Ls} (h : LsIs w b s) (ph : Int) (hd fr : Bool) : Calls Try.prog 12 #[.pointer (some ⟨b, 0, none⟩), .int .i64 ph, .bool hd, .bool fr] w fun e w' => e = .returned (.tuple #[.int .u64 ((tickM s ph hd fr).2.1 : Nat), .bool (tickM s ph hd fr).2.2]) ∧ LsIs w' b (tickM s ph hd fr).1 ∧ Mv (fun k => k = b) w w' := by
  unfold tickM
  cases hd with
  | true => exact tick_hold h ph fr
  | false =>
    rw [if_neg (by simp)]
    by_cases hp : ph = 0
    · rw [if_pos hp]
      subst hp
      refine (tick_idle h fr).mono fun e w' ⟨he, h1, m1⟩ => ⟨?_, h1, m1⟩
      rw [he]
      split <;> rfl
    · rw [if_neg hp]
      exact tick_not h ph hp fr
end Go.Proofs.Ytcbebepngencjaa

/- Package lease: Heard, New; the law's begun, within. -/
namespace Go.Proofs.Ytcbebepngencjaa
open Go.RowKit
set_option maxRecDepth 100000
set_option maxRecDepth 100000

def heardM (s : Ls) (e : Nat) (p t : Bool) : Ls := { s with left := if t = true ∨ (p = true ∧ s.seen ≤ e) then s.pat else s.left, seen := if s.seen < e then e else s.seen }
theorem Ls.Ok.seen {s : Ls} (h : s.Ok) (l e : Nat) (hl : l ≤ 9223372036854775807) (he : e < 18446744073709551616) : Ls.Ok { s with left := l, seen := e } := ⟨hl, h.hs, h.hq, h.hp, h.hc, h.hm, he, h.h4, h.hpm⟩
/-- The last step of Heard. -/
theorem seen_put {w : World} {b : Nat} {s : Ls} (h : LsIs w b s) (e : Nat) (he : e < 18446744073709551616) : LsIs (w.setCell ⟨b, 6, none⟩ (.int .u64 (e : Nat))) b { s with seen := e } ∧ Mv (fun k => k = b) w (w.setCell ⟨b, 6, none⟩ (.int .u64 (e : Nat))) :=
  h.put 6 _ { s with seen := e } (fun j hj => by match j, hj with | 0, _ | 1, _ | 2, _ | 3, _ | 4, _ | 5, _ | 6, _ | 7, _ => rfl) (h.ok.seen s.left e h.ok.hl he)
theorem heard_rest {w : World} {b : Nat} {s : Ls} (h : LsIs w b s) (e : Nat) (p t : Bool) (he : e < 18446744073709551616) (hc : t = true ∨ (p = true ∧ s.seen ≤ e)) : Calls Try.prog 10 #[.pointer (some ⟨b, 0, none⟩), .int .u64 (e : Nat), .bool p, .bool t] w fun r w' => r = .returned (.tuple #[]) ∧ LsIs w' b { s with left := s.pat, seen := if s.seen < e then e else s.seen } ∧ Mv (fun k => k = b) w w' := by
  have c6 := h.c6
  have hs := h.ok.he
  obtain ⟨m, hm⟩ : ∃ m : Nat, (if s.seen < e then e else s.seen) = m := ⟨_, rfl⟩
  rw [hm]
  have HR : Hid (Calls Try.prog 14 #[.pointer (some ⟨b, 0, none⟩)] w fun r w1 => r = .returned (.tuple #[]) ∧ w1.cell? ⟨b, 6, none⟩ = some (.int .u64 (s.seen : Nat)) ∧ w1.frozen? ⟨b, 6, none⟩ = false ∧ ∃ W2, Hid (w1.setCell ⟨b, 6, none⟩ (.int .u64 (m : Nat)) = W2) ∧ Hid (LsIs W2 b { s with left := s.pat, seen := m } ∧ Mv (fun k => k = b) w W2)) :=
    (rest_any h).mono fun r w1 ⟨hr, h1, m1⟩ => ⟨hr, h1.c6, h1.fz 6, _, rfl, (seen_put h1 m (by rw [← hm]; split <;> omega)).1, m1.trans (seen_put h1 m (by rw [← hm]; split <;> omega)).2⟩
  clear h
  generalize s.seen = sn at *
  by_cases hlt : sn < e
  · have zl : (sn : Int) < (e : Int) := by omega
    obtain rfl : e = m := by rw [if_pos hlt] at hm; exact hm
    cases t with
    | true =>
      clear hc hm hlt hs
      go_enter Try.func10, Try.ntmps10
      go_wp2_with (go_at_call 14; refine HR.out.mono ?_; rintro r w1 ⟨rfl, d1, d2, W2, HW2, HK⟩)
      rw [HW2.out]
      go_end0
      exact ⟨rfl, HK.out⟩
    | false =>
      obtain rfl : p = true := by cases p with | true => rfl | false => rcases hc with h | h <;> simp at h
      have z2 : (e : Int) ≥ (sn : Int) := by
        rcases hc with h | h
        · simp at h
        · omega
      clear hc hm hlt hs
      go_enter Try.func10, Try.ntmps10
      go_wp2_with (go_at_call 14; refine HR.out.mono ?_; rintro r w1 ⟨rfl, d1, d2, W2, HW2, HK⟩)
      rw [HW2.out]
      go_end0
      exact ⟨rfl, HK.out⟩
  · have zl : ¬ (sn : Int) < (e : Int) := by omega
    obtain rfl : sn = m := by rw [if_neg hlt] at hm; exact hm
    cases t with
    | true =>
      clear hc hm hlt hs
      go_enter Try.func10, Try.ntmps10
      go_wp2_with (go_at_call 14; refine HR.out.mono ?_; rintro r w1 ⟨rfl, d1, d2, W2, HW2, HK⟩)
      rw [HW2.out]
      go_end0
      exact ⟨rfl, HK.out⟩
    | false =>
      obtain rfl : p = true := by cases p with | true => rfl | false => rcases hc with h | h <;> simp at h
      have z2 : (e : Int) ≥ (sn : Int) := by
        rcases hc with h | h
        · simp at h
        · omega
      clear hc hm hlt hs
      go_enter Try.func10, Try.ntmps10
      go_wp2_with (go_at_call 14; refine HR.out.mono ?_; rintro r w1 ⟨rfl, d1, d2, W2, HW2, HK⟩)
      rw [HW2.out]
      go_end0
      exact ⟨rfl, HK.out⟩
theorem heard_none {w : World} {b : Nat} {s : Ls} (h : LsIs w b s) (e : Nat) (p t : Bool) (he : e < 18446744073709551616) (hc : ¬ (t = true ∨ (p = true ∧ s.seen ≤ e))) : Calls Try.prog 10 #[.pointer (some ⟨b, 0, none⟩), .int .u64 (e : Nat), .bool p, .bool t] w fun r w' => r = .returned (.tuple #[]) ∧ LsIs w' b { s with seen := if s.seen < e then e else s.seen } ∧ Mv (fun k => k = b) w w' := by
  have c6 := h.c6
  have f6 := h.fz 6
  have hs := h.ok.he
  obtain ⟨m, hm⟩ : ∃ m : Nat, (if s.seen < e then e else s.seen) = m := ⟨_, rfl⟩
  rw [hm]
  obtain ⟨W2, HW2⟩ : ∃ W2, Hid (w.setCell ⟨b, 6, none⟩ (.int .u64 (m : Nat)) = W2) := ⟨_, rfl⟩
  have HK : Hid (LsIs W2 b { s with seen := m } ∧ Mv (fun k => k = b) w W2) := by rw [← HW2.out]; exact seen_put h m (by rw [← hm]; split <;> omega)
  clear h
  generalize s.seen = sn at *
  obtain rfl : t = false := by cases t with | true => exact absurd (Or.inl rfl) hc | false => rfl
  by_cases hlt : sn < e
  · have zl : (sn : Int) < (e : Int) := by omega
    obtain rfl : e = m := by rw [if_pos hlt] at hm; exact hm
    obtain rfl : p = false := by cases p with | true => exact absurd (Or.inr ⟨rfl, by omega⟩) hc | false => rfl
    clear hc hm hlt hs
    go_enter Try.func10, Try.ntmps10
    go_wp2
    rw [HW2.out]
    go_end0
    exact ⟨rfl, HK.out⟩
  · have zl : ¬ (sn : Int) < (e : Int) := by omega
    obtain rfl : sn = m := by rw [if_neg hlt] at hm; exact hm
    cases p with
    | false =>
      clear hc hm hlt hs
      go_enter Try.func10, Try.ntmps10
      go_wp2
      rw [HW2.out]
      go_end0
      exact ⟨rfl, HK.out⟩
    | true =>
      have z2 : ¬ (e : Int) ≥ (sn : Int) := by
        intro hx
        exact hc (Or.inr ⟨rfl, by omega⟩)
      clear hc hm hlt hs
      go_enter Try.func10, Try.ntmps10
      go_wp2
      rw [HW2.out]
      go_end0
      exact ⟨rfl, HK.out⟩
theorem heard_any {w : World} {b : Nat} {s : Ls} (h : LsIs w b s) (e : Nat) (p t : Bool) (he : e < 18446744073709551616) : Calls Try.prog 10 #[.pointer (some ⟨b, 0, none⟩), .int .u64 (e : Nat), .bool p, .bool t] w fun r w' => r = .returned (.tuple #[]) ∧ LsIs w' b (heardM s e p t) ∧ Mv (fun k => k = b) w w' := by
  unfold heardM
  by_cases hc : t = true ∨ (p = true ∧ s.seen ≤ e)
  · rw [if_pos hc]; exact heard_rest h e p t he hc
  · rw [if_neg hc]; exact heard_none h e p t he hc

theorem within_any (n : Int) (m : Nat) (hm : 0 < m) (hm2 : m ≤ 1000000000) (w : World) : Calls Try.prog 8 #[.int .i64 n, .int .i64 (m : Nat)] w fun e w' => w = w' ∧ e = .returned (.int .i64 (((n % m).toNat : Nat) : Int)) := by
  have h1 := Int.tmod_lt_of_pos n (show (0 : Int) < (m : Int) by omega)
  have h2 := Int.lt_tmod_of_pos n (show (0 : Int) < (m : Int) by omega)
  have h0 : ¬ (m : Int) = 0 := by omega
  have h0' : ((m : Int) == 0) = false := by simp; omega
  have hmw : IntKind.i64.wrap (n.tmod m) = n.tmod m := by rw [IntKind.wrap_i64]; omega
  obtain ⟨x, hx⟩ : ∃ x : Nat, n.tmod m + (m : Int) = (x : Int) := ⟨(n.tmod m + m).toNat, by omega⟩
  have wx : IntKind.i64.wrap (x : Int) = (x : Int) := by rw [IntKind.wrap_i64]; omega
  have hxm : (x : Int).tmod (m : Int) = ((x % m : Nat) : Int) := (Int.ofNat_tmod _ _).symm
  have hlt := Nat.mod_lt x hm
  have wy : IntKind.i64.wrap ((x % m : Nat) : Int) = ((x % m : Nat) : Int) := by rw [IntKind.wrap_i64]; omega
  have he : (n % m).toNat = x % m := by
    have e1 : ((x % m : Nat) : Int) = n % m := by
      rw [Int.natCast_emod, ← hx, Int.add_emod_right, Int.tmod_eq_emod]
      split
      · simp
      · rw [show ((m : Int).natAbs : Int) = (m : Int) by omega, Int.sub_emod_right, Int.emod_emod]
    omega
  rw [he]
  generalize x % m = y at *
  clear he h1 h2 hlt
  go_enter Try.func8, Try.ntmps8
  go_wp2
  go_ret
  exact ⟨rfl, rfl⟩

def newM (pl cp mo : Nat) (sn : Nat) : Ls := ⟨satM pl 4, 0, 0, pl, cp, mo, sn, 4⟩
theorem new_core {w : World} {pl cp mo sn : Nat} (hp : pl < cp) (hc : cp ≤ 9223372036854775807) (hm : 4 ≤ mo) (hm2 : mo ≤ 9223372036854775807) (hs : sn < 18446744073709551616) :
    LsIs (w.alloc (.cells #[.int .i64 (satM pl 4 : Nat), .int .i64 0, .int .i64 0, .int .u64 (pl : Nat), .int .u64 (cp : Nat), .int .i64 (mo : Nat), .int .u64 (sn : Nat), .int .i64 4] 57)) w.heap.size (newM pl cp mo sn) :=
  ⟨World.rowIs_alloc w _ _ _ (fun i hi => by
    have hi' : i < 8 := hi
    match i, hi' with | 0, _ | 1, _ | 2, _ | 3, _ | 4, _ | 5, _ | 6, _ | 7, _ => rfl), ⟨satM_le (by decide), Nat.zero_le _, Nat.zero_le _, hp, hc, hm2, hs, Nat.le_refl _, hm⟩⟩
/-- What New makes of the numbers it is given. -/
def cpN (C : Int) : Nat := if C < 1 then 1 else C.toNat
def moN (M : Int) : Nat := if M < 4 then 4 else M.toNat
def plN (P C : Int) : Nat := (P % (cpN C : Nat)).toNat
theorem pl_lt (P C : Int) : plN P C < cpN C := by
  have h : 0 < cpN C := by unfold cpN; split <;> omega
  unfold plN
  have h1 := Int.emod_nonneg P (show ((cpN C : Nat) : Int) ≠ 0 by omega)
  have h2 := Int.emod_lt_of_pos P (show (0 : Int) < ((cpN C : Nat) : Int) by omega)
  omega
set_option maxHeartbeats 1000000 in
theorem new_any (P C M : Int) (sn : Nat) (hC : C ≤ 9223372036854775807) (hM : M ≤ 9223372036854775807) (hs : sn < 18446744073709551616) (w : World) :
    Calls Try.prog 9 #[.int .i64 P, .int .i64 C, .int .i64 M, .int .u64 (sn : Nat)] w fun e w' => e = .returned (.pointer (some ⟨w.heap.size, 0, none⟩)) ∧ LsIs w' w.heap.size (newM (plN P C) (cpN C) (moN M) sn) ∧ Below w.heap.size w w' := by
  have hp := pl_lt P C
  have hc : cpN C ≤ 9223372036854775807 := by unfold cpN; split <;> omega
  have hc1 : 0 < cpN C := by unfold cpN; split <;> omega
  have hm : 4 ≤ moN M := by unfold moN; split <;> omega
  have hm2 : moN M ≤ 9223372036854775807 := by unfold moN; split <;> omega
  have HM : Hid (Calls Try.prog 28 #[.int .i64 P, .int .i64 (cpN C : Nat)] w fun e w' => e = .returned (.int .i64 (plN P C : Nat)) ∧ w = w') := modulo_any P (cpN C) hc1 hc w
  have HS : Hid (Calls Try.prog 29 #[.int .i64 (plN P C : Nat), .int .i64 4] w fun e w' => e = .returned (.int .i64 (satM (plN P C) 4 : Nat)) ∧ w = w') := sum_any _ 4 (by decide) w
  obtain ⟨W, HW⟩ : ∃ W, Hid (w.alloc (.cells #[.int .i64 (satM (plN P C) 4 : Nat), .int .i64 0, .int .i64 0, .int .u64 (plN P C : Nat), .int .u64 (cpN C : Nat), .int .i64 (moN M : Nat), .int .u64 (sn : Nat), .int .i64 4] 57) = W) := ⟨_, rfl⟩
  have HK : Hid (LsIs W w.heap.size (newM (plN P C) (cpN C) (moN M) sn) ∧ Below w.heap.size w W) := by
    rw [← HW.out]
    exact ⟨new_core hp hc hm hm2 hs, (Below.refl _ _).alloc (Nat.le_refl _) _⟩
  have wp : IntKind.u64.wrap (plN P C : Nat) = (plN P C : Nat) := by rw [IntKind.wrap_u64]; omega
  have wc : IntKind.u64.wrap (cpN C : Nat) = (cpN C : Nat) := by rw [IntKind.wrap_u64]; omega
  by_cases h1 : C < 1
  · have e1 : cpN C = 1 := if_pos h1
    have zc : (1 : Int) > C := by omega
    by_cases h2 : M < 4
    · have e2 : moN M = 4 := if_pos h2
      have zm : (4 : Int) > M := by omega
      have e1' : ((cpN C : Nat) : Int) = 1 := by omega
      rw [e1'] at wc HM HW
      clear e1 e1'
      have e2' : ((moN M : Nat) : Int) = 4 := by omega
      rw [e2'] at HW
      clear e2 e2'
      have zz : 0 < 1 := by decide
      clear h1 h2 hp hc hc1 hm hm2 hC hM hs zz
      generalize satM (plN P C) 4 = l at *
      generalize plN P C = pl at *
      go_enter Try.func9, Try.ntmps9
      go_wp2_with (first
        | (go_at_call 28; refine HM.out.mono ?_; rintro e w2 ⟨rfl, rfl⟩)
        | (go_at_call 29; refine HS.out.mono ?_; rintro e w2 ⟨rfl, rfl⟩))
      rw [HW.out]
      go_ret
      exact ⟨rfl, HK.out⟩
    · have e2 : ((moN M : Nat) : Int) = M := by unfold moN; rw [if_neg h2]; omega
      have zm : ¬ (4 : Int) > M := by omega
      have e1' : ((cpN C : Nat) : Int) = 1 := by omega
      rw [e1'] at wc HM HW
      clear e1 e1'
      rw [e2] at HW
      have zz : 0 < 1 := by decide
      clear e2
      clear h1 h2 hp hc hc1 hm hm2 hC hM hs zz
      generalize satM (plN P C) 4 = l at *
      generalize plN P C = pl at *
      go_enter Try.func9, Try.ntmps9
      go_wp2_with (first
        | (go_at_call 28; refine HM.out.mono ?_; rintro e w2 ⟨rfl, rfl⟩)
        | (go_at_call 29; refine HS.out.mono ?_; rintro e w2 ⟨rfl, rfl⟩))
      rw [HW.out]
      go_ret
      exact ⟨rfl, HK.out⟩
  · have e1 : ((cpN C : Nat) : Int) = C := by unfold cpN; rw [if_neg h1]; omega
    have zc : ¬ (1 : Int) > C := by omega
    by_cases h2 : M < 4
    · have e2 : moN M = 4 := if_pos h2
      have zm : (4 : Int) > M := by omega
      rw [e1] at wc HM HW
      have e2' : ((moN M : Nat) : Int) = 4 := by omega
      rw [e2'] at HW
      clear e2 e2'
      have zz : 0 < 1 := by decide
      clear e1
      clear h1 h2 hp hc hc1 hm hm2 hC hM hs zz
      generalize satM (plN P C) 4 = l at *
      generalize plN P C = pl at *
      go_enter Try.func9, Try.ntmps9
      go_wp2_with (first
        | (go_at_call 28; refine HM.out.mono ?_; rintro e w2 ⟨rfl, rfl⟩)
        | (go_at_call 29; refine HS.out.mono ?_; rintro e w2 ⟨rfl, rfl⟩))
      rw [HW.out]
      go_ret
      exact ⟨rfl, HK.out⟩
    · have e2 : ((moN M : Nat) : Int) = M := by unfold moN; rw [if_neg h2]; omega
      have zm : ¬ (4 : Int) > M := by omega
      rw [e1] at wc HM HW
      rw [e2] at HW
      have zz : 0 < 1 := by decide
      clear e1
      clear e2
      clear h1 h2 hp hc hc1 hm hm2 hC hM hs zz
      generalize satM (plN P C) 4 = l at *
      generalize plN P C = pl at *
      go_enter Try.func9, Try.ntmps9
      go_wp2_with (first
        | (go_at_call 28; refine HM.out.mono ?_; rintro e w2 ⟨rfl, rfl⟩)
        | (go_at_call 29; refine HS.out.mono ?_; rintro e w2 ⟨rfl, rfl⟩))
      rw [HW.out]
      go_ret
      exact ⟨rfl, HK.out⟩
end Go.Proofs.Ytcbebepngencjaa

/- The laws of lease: begun. -/
namespace Go.Proofs.Ytcbebepngencjaa
open Go.RowKit
set_option maxRecDepth 100000
set_option maxRecDepth 100000

def bgS (i : Nat) : Ls := ⟨5 - i, i, i, 1, 3, 10, 0, 4⟩
def bgE : Ls := ⟨8, 5, 5, 1, 3, 10, 1, 8⟩
theorem bg_new : newM (plN 1 3) (cpN 3) (moN 10) 0 = bgS 0 := rfl
theorem bg_tick {i : Nat} (hi : i < 4) : tickM (bgS i) 0 false true = (bgS (i + 1), 0, false) := by
  match i, hi with
  | 0, _ | 1, _ | 2, _ | 3, _ => rfl
theorem bg_last : tickM (bgS 4) 0 false true = (bgE, 1, false) := rfl
set_option maxHeartbeats 1000000 in
theorem begun_any (w : World) : Calls Try.prog 7 #[] w fun e w' => e = .returned (.bool true) ∧ Below w.heap.size w w' := by
  have HN : Hid (Calls Try.prog 9 #[.int .i64 1, .int .i64 3, .int .i64 10, .int .u64 0] w fun e w1 => e = .returned (.pointer (some ⟨w.heap.size, 0, none⟩)) ∧ Hid (LsIs w1 w.heap.size (bgS 0) ∧ Below w.heap.size w w1) ∧ Hid (Calls Try.prog 11 #[.pointer (some ⟨w.heap.size, 0, none⟩)] w1 fun e w' => e = .returned (.int .i64 5) ∧ w1 = w') ∧ Hid (Calls Try.prog 17 #[.pointer (some ⟨w.heap.size, 0, none⟩)] w1 fun e w' => e = .returned (.int .i64 5) ∧ w1 = w')) :=
    (new_any 1 3 10 0 (by decide) (by decide) (by decide) w).mono fun e w1 ⟨he, h1, b1⟩ => ⟨he, ⟨h1, b1⟩, left_any h1, span_any h1⟩
  have HT : Hid (∀ (i : Nat) (wr : World), LsIs wr w.heap.size (bgS i) → Below w.heap.size w wr → i < 4 → Calls Try.prog 12 #[.pointer (some ⟨w.heap.size, 0, none⟩), .int .i64 0, .bool false, .bool true] wr fun e w' => e = .returned (.tuple #[.int .u64 0, .bool false]) ∧ Hid (LsIs w' w.heap.size (bgS (i + 1)) ∧ Below w.heap.size w w')) := fun i wr h hb hi =>
    (tick_any h 0 false true).mono fun e w' ⟨he, h1, m1⟩ => by
      rw [bg_tick hi] at he h1
      exact ⟨he, h1, m1.below hb hb.size (fun k hk => by omega)⟩
  have HL : Hid (∀ (wr : World), LsIs wr w.heap.size (bgS 4) → Below w.heap.size w wr → Calls Try.prog 12 #[.pointer (some ⟨w.heap.size, 0, none⟩), .int .i64 0, .bool false, .bool true] wr fun e w1 => e = .returned (.tuple #[.int .u64 1, .bool false]) ∧ Hid (Below w.heap.size w w1) ∧ Hid (Calls Try.prog 13 #[.pointer (some ⟨w.heap.size, 0, none⟩)] w1 fun e w' => e = .returned (.int .i64 8) ∧ w1 = w') ∧ Hid (Calls Try.prog 16 #[.pointer (some ⟨w.heap.size, 0, none⟩)] w1 fun e w' => e = .returned (.int .u64 1) ∧ w1 = w')) := fun wr h hb =>
    (tick_any h 0 false true).mono fun e w' ⟨he, h1, m1⟩ => by
      rw [bg_last] at he h1
      exact ⟨he, m1.below hb hb.size (fun k hk => by omega), patience_any h1, seen_any h1⟩
  generalize w.heap.size = sb at *
  go_enter Try.func7, Try.ntmps7
  go_wp2_with (first
    | (go_at_call 9; refine HN.out.mono ?_; rintro e w1 ⟨rfl, HK, H1, H2⟩)
    | (go_at_call 11; refine H1.out.mono ?_; rintro e w2 ⟨rfl, rfl⟩)
    | (go_at_call 17; refine H2.out.mono ?_; rintro e w2 ⟨rfl, rfl⟩))
  go_loopg [2] 4 (fun q s2 wx => ∃ i : Nat, i ≤ 4 ∧ q = 4 - i ∧ s2 = .int .i64 (i : Nat) ∧ Hid (LsIs wx sb (bgS i) ∧ Below sb w wx))
  case atStart => exact ⟨0, by decide, rfl, rfl, HK⟩
  case round =>
    clear HN H1 H2 HK
    obtain ⟨i, hi, rfl, rfl, HX⟩ := hrel
    by_cases hlt : i < 4
    · have HC := HT.out i wr HX.out.1 HX.out.2 hlt
      have z : (i : Int) < 4 := by omega
      have hwi : IntKind.i64.wrap ((i : Int) + 1) = (i : Int) + 1 := by rw [IntKind.wrap_i64]; omega
      have hme : 4 - (i + 1) < 4 - i := by omega
      have hi1 : i + 1 ≤ 4 := by omega
      clear HX HT HL hlt
      go_wp2_with (go_at_call 12; refine HC.mono ?_; rintro e w2 ⟨rfl, HK⟩)
      go_roundg (4 - (i + 1))
      case measure => go_light; exact hme
      case rel => go_light; exact ⟨i + 1, hi1, rfl, by simp, HK⟩
    · obtain rfl : i = 4 := by omega
      have HC := HL.out wr HX.out.1 HX.out.2
      have z : ¬ (4 : Int) < 4 := by decide
      clear HX HT HL hlt
      go_wp2_with (first
        | (go_at_call 12; refine HC.mono ?_; rintro e w2 ⟨rfl, HK, H1, H2⟩)
        | (go_at_call 13; refine H1.out.mono ?_; rintro e w3 ⟨rfl, rfl⟩)
        | (go_at_call 16; refine H2.out.mono ?_; rintro e w3 ⟨rfl, rfl⟩))
      go_ret
      exact ⟨rfl, HK.out⟩
end Go.Proofs.Ytcbebepngencjaa

/- The law LeaseRuns. -/
namespace Go.Proofs.Ytcbebepngencjaa
open Go.RowKit
set_option maxRecDepth 100000
set_option maxRecDepth 100000

theorem cel_on {W W' : World} {B b o : Nat} {v : Value} (h : Below B W W') (hB : b < B) (hc : W.cell? ⟨b, o, none⟩ = some v) : W'.cell? ⟨b, o, none⟩ = some v := by
  rw [World.cell?_of_block (a := ⟨b, o, none⟩) (h.block b hB)]; exact hc
theorem cel_lt {W : World} {b o : Nat} {v : Value} (hc : W.cell? ⟨b, o, none⟩ = some v) : b < W.heap.size := by
  by_cases h : b < W.heap.size
  · exact h
  · have : W.heap[b]? = none := by simp; omega
    simp [World.cell?, this] at hc
/-- One step that is handed in. -/
structure LOp where
  on : Int
  kd : Int
  ep : Nat
  ph : Int
  a : Bool
  b : Bool
  pl : Int
  cp : Int
  mo : Int
def lopCell (o : LOp) (i : Nat) : Value := if i = 0 then .int .i64 o.on else if i = 1 then .int .i64 o.kd else if i = 2 then .int .u64 (o.ep : Nat) else if i = 3 then .int .i64 o.ph else if i = 4 then .bool o.a else if i = 5 then .bool o.b else if i = 6 then .int .i64 o.pl else if i = 7 then .int .i64 o.cp else .int .i64 o.mo
structure LOp.Ok (o : LOp) : Prop where
  he : o.ep < 18446744073709551616
  hc : o.cp ≤ 9223372036854775807
  hm : o.mo ≤ 9223372036854775807
def LOpsIn (W : World) (a : Option Addr) (l : List LOp) : Prop := ∀ i o, l[i]? = some o → o.Ok ∧ ∃ b off, a = some ⟨b, off, none⟩ ∧ ∀ j, j < 9 → W.cell? ⟨b, off + i * 9 + j, none⟩ = some (lopCell o j)
theorem LOpsIn.on {W W' : World} {a : Option Addr} {l : List LOp} (h : LOpsIn W a l) (hb : Below W.heap.size W W') : LOpsIn W' a l := fun i o ho => by
  obtain ⟨hk, b, off, e, h1⟩ := h i o ho
  exact ⟨hk, b, off, e, fun j hj => cel_on hb (cel_lt (h1 j hj)) (h1 j hj)⟩
theorem within_add (a : Nat) (n : Int) (m : Nat) (hm : 0 < m) (hm2 : m ≤ 1000000000) (ha : a ≤ 1000) (w : World) : Calls Try.prog 8 #[.int .i64 n, .int .i64 (m : Nat)] w fun e w' => w = w' ∧ ∃ k x : Nat, e = .returned (.int .i64 (k : Nat)) ∧ (a : Int) + (k : Int) = (x : Int) ∧ IntKind.i64.wrap (x : Int) = (x : Int) ∧ Hid (a ≤ x ∧ x < a + m) :=
  (within_any n m hm hm2 w).mono fun e w' ⟨h1, he⟩ => by
    have h2 := Int.emod_nonneg n (show (m : Int) ≠ 0 by omega)
    have h3 := Int.emod_lt_of_pos n (show (0 : Int) < (m : Int) by omega)
    exact ⟨h1, _, a + (n % m).toNat, he, by omega, by rw [IntKind.wrap_i64]; omega, by show _ ∧ _; omega⟩

/-- What the law keeps of a lease: its numbers, without since and quiet. -/
structure RX (w0 wx : World) (lb c mo pt sn l : Nat) (s : Ls) : Prop where
  is : LsIs wx lb s
  hc : s.copies = c
  hm : s.most = mo
  hp : s.pat = pt
  hs : s.seen = sn
  hl : s.left = l
  below : Below w0.heap.size w0 wx
  ge : w0.heap.size ≤ lb
def RE (w0 wx : World) (lb c mo pt sn l : Nat) : Prop := ∃ s, RX w0 wx lb c mo pt sn l s
section
variable {w0 wx : World} {lb c mo pt sn l : Nat}
theorem RX.mv {s s' : Ls} {w' : World} {pt' sn' l' : Nat} (h : RX w0 wx lb c mo pt sn l s) (hi : LsIs w' lb s') (m : Mv (fun k => k = lb) wx w') (h1 : s'.copies = s.copies) (h2 : s'.most = s.most) (h3 : s'.pat = pt') (h4 : s'.seen = sn') (h5 : s'.left = l') : RX w0 w' lb c mo pt' sn' l' s' :=
  ⟨hi, h1.trans h.hc, h2.trans h.hm, h3, h4, h5, m.below h.below h.below.size (fun k hk => by have := h.ge; omega), h.ge⟩
theorem RE.left (h : RE w0 wx lb c mo pt sn l) : Calls Try.prog 11 #[.pointer (some ⟨lb, 0, none⟩)] wx fun e w' => e = .returned (.int .i64 (l : Nat)) ∧ wx = w' := by
  obtain ⟨s, h⟩ := h
  have := left_any h.is
  rw [h.hl] at this
  exact this
theorem RE.pat (h : RE w0 wx lb c mo pt sn l) : Calls Try.prog 13 #[.pointer (some ⟨lb, 0, none⟩)] wx fun e w' => e = .returned (.int .i64 (pt : Nat)) ∧ wx = w' := by
  obtain ⟨s, h⟩ := h
  have := patience_any h.is
  rw [h.hp] at this
  exact this
theorem RE.idle (h : RE w0 wx lb c mo pt sn l) (fr : Bool) (hf : 1 < l ∨ fr = false) : Calls Try.prog 12 #[.pointer (some ⟨lb, 0, none⟩), .int .i64 0, .bool false, .bool fr] wx fun e w' => e = .returned (.tuple #[.int .u64 0, .bool false]) ∧ Hid (RE w0 w' lb c mo pt sn (l - 1)) := by
  obtain ⟨s, h⟩ := h
  refine (tick_any h.is 0 false fr).mono fun e w' ⟨he, h1, m1⟩ => ?_
  have e1 : tickM s 0 false fr = (lowM s, 0, false) := by
    unfold tickM
    rw [if_neg (by simp), if_pos rfl, if_neg]
    rintro ⟨h2, h3⟩
    have := h.hl
    rcases hf with hf | hf
    · omega
    · rw [hf] at h3; simp at h3
  rw [e1] at he h1
  exact ⟨he, lowM s, h.mv h1 m1 rfl rfl h.hp h.hs (by show s.left - 1 = _; rw [h.hl])⟩
theorem RE.go (h : RE w0 wx lb c mo pt sn l) (hl : l ≤ 1) (hsn : sn ≤ 100000000) (hc : c ≤ 1000) : Calls Try.prog 12 #[.pointer (some ⟨lb, 0, none⟩), .int .i64 0, .bool false, .bool true] wx fun e w' => ∃ n : Nat, e = .returned (.tuple #[.int .u64 (n : Nat), .bool false]) ∧ (n == 0) = false ∧ (((n : Nat) : Int) == 0) = false ∧ sn < n ∧ n ≤ sn + c ∧ Hid (RE w0 w' lb c mo (min (2 * pt) mo) n (min (2 * pt) mo)) := by
  obtain ⟨s, h⟩ := h
  refine (tick_any h.is 0 false true).mono fun e w' ⟨he, h1, m1⟩ => ?_
  have e1 : tickM s 0 false true = (beginM (lowM s), nextM (lowM s), false) := by
    unfold tickM
    rw [if_neg (by simp), if_pos rfl, if_pos]
    have := h.hl
    exact ⟨by omega, rfl⟩
  have hok : (lowM s).Ok := ⟨by show s.left - 1 ≤ _; have := h.is.ok.hl; omega, satM_le (by decide), satM_le (by decide), h.is.ok.hp, h.is.ok.hc, h.is.ok.hm, h.is.ok.he, h.is.ok.h4, h.is.ok.hpm⟩
  have hgt := nxF_gt hok
  have hle : nxF (lowM s) ≤ s.seen + s.copies := by
    have := h.is.ok.hp
    show (if nxE (lowM s) ≤ s.seen then nxE (lowM s) + s.copies else nxE (lowM s)) ≤ _
    have e2 : nxE (lowM s) = s.seen - s.seen % s.copies + s.place := rfl
    rw [e2]
    split <;> omega
  have hse := h.hs
  have hce := h.hc
  have hsl : (lowM s).seen = s.seen := rfl
  have hnx : nextM (lowM s) = nxF (lowM s) := by
    unfold nextM
    rw [if_neg (by omega), if_neg (by omega)]
  have hdb : dblM (lowM s) = min (2 * pt) mo := by
    have hpp : (lowM s).pat = pt := h.hp
    have hmm : (lowM s).most = mo := h.hm
    have := h.is.ok.hpm
    unfold dblM
    rw [hpp, hmm]
    split <;> omega
  rw [e1] at he h1
  refine ⟨nextM (lowM s), he, by rw [hnx]; simp; omega, by rw [hnx]; simp; omega, by omega, by omega, beginM (lowM s), ?_⟩
  have hb : beginM (lowM s) = { lowM s with seen := nextM (lowM s), pat := dblM (lowM s), left := dblM (lowM s) } := by
    unfold beginM
    rw [if_neg (by omega)]
  refine h.mv h1 m1 ?_ ?_ ?_ ?_ ?_
  · rw [hb]; rfl
  · rw [hb]; rfl
  · rw [hb]; exact hdb
  · rw [hb]
  · rw [hb]; exact hdb
/-- Heard, of a lease that has not begun an epoch. -/
def RH (w0 wx : World) (lb c mo : Nat) : Prop := ∃ sn l, sn ≤ 1000 ∧ l ≤ 20 ∧ RE w0 wx lb c mo 4 sn l
theorem RH.heard (h : RH w0 wx lb c mo) (e : Nat) (p t : Bool) (he : e < 1000) : Calls Try.prog 10 #[.pointer (some ⟨lb, 0, none⟩), .int .u64 (e : Nat), .bool p, .bool t] wx fun r w' => r = .returned (.tuple #[]) ∧ Hid (RH w0 w' lb c mo) := by
  obtain ⟨sn, l, h1, h2, s, h⟩ := h
  refine (heard_any h.is e p t (by omega)).mono fun r w' ⟨hr, hi, hm⟩ => ⟨hr, (heardM s e p t).seen, (heardM s e p t).left, ?_, ?_, heardM s e p t, h.mv hi hm rfl rfl h.hp rfl rfl⟩
  · have := h.hs
    show (if s.seen < e then e else s.seen) ≤ _
    split <;> omega
  · have h3 := h.hp
    have h4 := h.hl
    show (if t = true ∨ (p = true ∧ s.seen ≤ e) then s.pat else s.left) ≤ _
    split <;> omega
def RR (w0 wx : World) (lb c mo pt r : Nat) : Prop := ∃ sn l, sn ≤ 1000 + r * 9 ∧ l ≤ 100 ∧ RE w0 wx lb c mo pt sn l
end

set_option maxHeartbeats 8000000 in
theorem runsLaw (P C M K Wn : Int) (oa : Option Addr) (oc : Nat) (L : List LOp) (w : World) (hO : LOpsIn w oa L) :
    Calls Try.prog 3 #[.agg #[.int .i64 P, .int .i64 C, .int .i64 M, .slice oa L.length oc, .int .i64 K, .int .i64 Wn]] w fun e w' => e = .returned (.bool true) ∧ Below w.heap.size w w' := by
  obtain ⟨W0, HW0⟩ : ∃ W, Hid (w.alloc (.cells #[.int .i64 P, .int .i64 C, .int .i64 M, .slice oa L.length oc, .int .i64 K, .int .i64 Wn] 24) = W) := ⟨_, rfl⟩
  have hb0 : Below w.heap.size w W0 := by rw [← HW0.out]; exact (Below.refl _ _).alloc (Nat.le_refl _) _
  have kc : ∀ i v, (#[Value.int .i64 P, .int .i64 C, .int .i64 M, .slice oa L.length oc, .int .i64 K, .int .i64 Wn] : Array Value)[i]? = some v → W0.cell? ⟨w.heap.size, i, none⟩ = some v := fun i v h => by rw [← HW0.out]; exact (World.cell?_alloc_at (w := w) _ _ _ i rfl).trans h
  have hlt := cel_lt (kc 0 _ rfl)
  have HO : Hid (LOpsIn W0 oa L) := hO.on hb0
  have HB0 : Hid (Below w.heap.size w W0) := hb0
  obtain ⟨sb, Hsb⟩ : ∃ x, Hid (w.heap.size = x) := ⟨_, rfl⟩
  rw [Hsb.out] at kc hlt HB0
  have HC : Hid (∀ W, Below W0.heap.size W0 W → W.cell? ⟨sb, 0, none⟩ = some (.int .i64 P) ∧ W.cell? ⟨sb, 1, none⟩ = some (.int .i64 C) ∧ W.cell? ⟨sb, 2, none⟩ = some (.int .i64 M) ∧ W.cell? ⟨sb, 3, none⟩ = some (.slice oa L.length oc) ∧ W.cell? ⟨sb, 4, none⟩ = some (.int .i64 K) ∧ W.cell? ⟨sb, 5, none⟩ = some (.int .i64 Wn)) := fun W hb =>
    ⟨cel_on hb hlt (kc 0 _ rfl), cel_on hb hlt (kc 1 _ rfl), cel_on hb hlt (kc 2 _ rfl), cel_on hb hlt (kc 3 _ rfl), cel_on hb hlt (kc 4 _ rfl), cel_on hb hlt (kc 5 _ rfl)⟩
  have HBG : Hid (Calls Try.prog 7 #[] W0 fun e w' => e = .returned (.bool true) ∧ Hid (Below W0.heap.size W0 w') ∧ w'.cell? ⟨sb, 0, none⟩ = some (.int .i64 P) ∧ w'.cell? ⟨sb, 1, none⟩ = some (.int .i64 C) ∧ w'.cell? ⟨sb, 2, none⟩ = some (.int .i64 M)) := (begun_any W0).mono fun e w' ⟨he, hb⟩ => ⟨he, hb, (HC.out w' hb).1, (HC.out w' hb).2.1, (HC.out w' hb).2.2.1⟩
  have HEND : Hid (∀ W : World, Below W0.heap.size W0 W → Calls Try.prog 7 #[] W fun e w' => e = .returned (.bool true) ∧ Hid (Below sb w w')) := fun W hb => (begun_any W).mono fun e w' ⟨he, hb2⟩ => ⟨he, HB0.out.trans ((hb.trans (hb2.mono hb.size)).mono (by omega))⟩
  clear kc hO hb0 hlt
  go_enter Try.func3, Try.ntmps3
  go_upto_region 1 with fail
  rw [HW0.out, Hsb.out]
  go_upto_region 3 with (go_at_call 7; refine HBG.out.mono ?_; rintro e w1 ⟨rfl, HB1, d0, d1, d2⟩)
  have HI1 : Hid (Calls Try.prog 8 #[.int .i64 C, .int .i64 9] w1 fun e w' => w1 = w' ∧ ∃ k x : Nat, e = .returned (.int .i64 (k : Nat)) ∧ (1 : Int) + (k : Int) = (x : Int) ∧ IntKind.i64.wrap (x : Int) = (x : Int) ∧ Hid (1 ≤ x ∧ x < 1 + 9)) := within_add 1 C 9 (by decide) (by decide) (by decide) w1
  have HI2 : Hid (Calls Try.prog 8 #[.int .i64 M, .int .i64 60] w1 fun e w' => w1 = w' ∧ ∃ k x : Nat, e = .returned (.int .i64 (k : Nat)) ∧ (4 : Int) + (k : Int) = (x : Int) ∧ IntKind.i64.wrap (x : Int) = (x : Int) ∧ Hid (4 ≤ x ∧ x < 4 + 60)) := within_add 4 M 60 (by decide) (by decide) (by decide) w1
  go_upto_region 4 with (go_at_call 8; refine HI1.out.mono ?_; rintro e w2 ⟨rfl, k1, c, rfl, hc1, wc1, Hc⟩)
  go_upto_region 5 with (go_at_call 8; refine HI2.out.mono ?_; rintro e w2 ⟨rfl, k2, mo, rfl, hm1, wm1, Hm⟩)
  have HI3 : Hid (Calls Try.prog 8 #[.int .i64 P, .int .i64 (c : Nat)] w1 fun e w' => w1 = w' ∧ ∃ k : Nat, e = .returned (.int .i64 (k : Nat)) ∧ Hid (k < c)) := (within_any P c (by have := Hc.out; omega) (by have := Hc.out; omega) w1).mono fun e w' ⟨h1, h2⟩ => ⟨h1, _, h2, by
    have := Hc.out
    have h2 := Int.emod_nonneg P (show (c : Int) ≠ 0 by omega)
    have h3 := Int.emod_lt_of_pos P (show (0 : Int) < (c : Int) by omega)
    show _ < _
    omega⟩
  have HNW : Hid (∀ k : Nat, Hid (k < c) → Calls Try.prog 9 #[.int .i64 (k : Nat), .int .i64 (c : Nat), .int .i64 (mo : Nat), .int .u64 0] w1 fun e w' => ∃ lb, e = .returned (.pointer (some ⟨lb, 0, none⟩)) ∧ Hid (RH W0 w' lb c mo)) := fun k hk => by
    have hc' := Hc.out
    have hm' := Hm.out
    refine (new_any (k : Nat) (c : Nat) (mo : Nat) 0 (by omega) (by omega) (by decide) w1).mono fun e w' ⟨he, h1, hb⟩ => ⟨_, he, 0, satM (plN k c) 4, by decide, ?_, _, h1, ?_, ?_, rfl, rfl, rfl, HB1.out.trans (hb.mono HB1.out.size), HB1.out.size⟩
    · have h5 := pl_lt (k : Nat) (c : Nat)
      have h6 : cpN (c : Nat) = c := by unfold cpN; rw [if_neg (by omega)]; omega
      rw [h6] at h5
      unfold satM
      split <;> omega
    · show cpN (c : Nat) = c
      unfold cpN; rw [if_neg (by omega)]; omega
    · show moN (mo : Nat) = mo
      unfold moN; rw [if_neg (by omega)]; omega
  go_upto_region 6 with (first
    | (go_at_call 8; refine HI3.out.mono ?_; rintro e w2 ⟨rfl, k3, rfl, Hk3⟩)
    | (go_at_call 9; refine (HNW.out _ Hk3).mono ?_; rintro e w3 ⟨lb, rfl, HR⟩))
  clear HI1 HI2 HI3 HNW HBG HB1 d0 d1 d2
  go_wp2_with fail
  go_loopg [6] 50 (fun q s6 wx => ∃ i : Nat, i ≤ 50 ∧ i ≤ L.length ∧ q = 50 - i ∧ s6 = .int .i64 (i : Nat) ∧ Hid (RH W0 wx lb c mo))
  case atStart => exact ⟨0, by omega, Nat.zero_le _, rfl, rfl, HR⟩
  case round =>
    clear HR
    obtain ⟨i, hi, hil, rfl, rfl, HX⟩ := hrel
    have hbx : Below W0.heap.size W0 wr := by obtain ⟨_, _, _, _, _, h⟩ := HX.out; exact h.below
    obtain ⟨x0, x1, x2, x3, x4, x5⟩ := HC.out wr hbx
    by_cases hgo : i < L.length ∧ i < 50
    · obtain ⟨o, ho⟩ : ∃ o, L[i]? = some o := ⟨_, List.getElem?_eq_getElem hgo.1⟩
      obtain ⟨hok, b, off, rfl, hq⟩ := (HO.out.on hbx) i o ho
      have q2 : wr.cell? ⟨b, off + i * 9 + 2, none⟩ = some (.int .u64 (o.ep : Nat)) := hq 2 (by decide)
      have q4 : wr.cell? ⟨b, off + i * 9 + 4, none⟩ = some (.bool o.a) := hq 4 (by decide)
      have q5 : wr.cell? ⟨b, off + i * 9 + 5, none⟩ = some (.bool o.b) := hq 5 (by decide)
      have z1 : (i : Int) < (L.length : Int) := by omega
      have z2 : (i : Int) < 50 := by omega
      have z0 : (0 : Int) ≤ (i : Int) := by omega
      have he : (o.ep : Int).tmod 1000 = ((o.ep % 1000 : Nat) : Int) := (Int.ofNat_tmod _ _).symm
      have hel := Nat.mod_lt o.ep (show 0 < 1000 by decide)
      have hew : IntKind.u64.wrap ((o.ep % 1000 : Nat) : Int) = ((o.ep % 1000 : Nat) : Int) := by rw [IntKind.wrap_u64]; omega
      have q3d : wr.drew.cell? ⟨sb, 3, none⟩ = some (.slice (some ⟨b, off, none⟩) L.length oc) := x3
      have q2d : wr.drew.cell? ⟨b, off + i * 9 + 2, none⟩ = some (.int .u64 (o.ep : Nat)) := q2
      have q4d : wr.drew.cell? ⟨b, off + i * 9 + 4, none⟩ = some (.bool o.a) := q4
      have q5d : wr.drew.cell? ⟨b, off + i * 9 + 5, none⟩ = some (.bool o.b) := q5
      have HH : Hid (Calls Try.prog 10 #[.pointer (some ⟨lb, 0, none⟩), .int .u64 (o.ep % 1000 : Nat), .bool o.a, .bool o.b] wr.drew fun r w' => r = .returned (.tuple #[]) ∧ Hid (RH W0 w' lb c mo) ∧ w'.cell? ⟨sb, 3, none⟩ = some (.slice (some ⟨b, off, none⟩) L.length oc) ∧ w'.cell? ⟨b, off + i * 9 + 2, none⟩ = some (.int .u64 (o.ep : Nat)) ∧ w'.cell? ⟨b, off + i * 9 + 4, none⟩ = some (.bool o.a) ∧ w'.cell? ⟨b, off + i * 9 + 5, none⟩ = some (.bool o.b)) := by
        have hd : RH W0 wr.drew lb c mo := by
          obtain ⟨sn, l, h1, h2, s, h⟩ := HX.out
          exact ⟨sn, l, h1, h2, s, h.is.later rfl, h.hc, h.hm, h.hp, h.hs, h.hl, ⟨h.below.os, h.below.tape, h.below.output, h.below.size, h.below.block⟩, h.ge⟩
        refine (hd.heard (o.ep % 1000) o.a o.b hel).mono fun r w' ⟨hr, hk⟩ => ?_
        have hb2 : Below W0.heap.size W0 w' := by obtain ⟨_, _, _, _, _, h⟩ := hk.out; exact h.below
        obtain ⟨_, b', off', e', hq'⟩ := (HO.out.on hb2) i o ho
        obtain ⟨rfl, rfl⟩ : b = b' ∧ off = off' := by simpa using e'
        exact ⟨hr, hk, (HC.out w' hb2).2.2.2.1, hq' 2 (by decide), hq' 4 (by decide), hq' 5 (by decide)⟩
      have hwi : IntKind.i64.wrap ((i : Int) + 1) = (i : Int) + 1 := by rw [IntKind.wrap_i64]; omega
      have hme : 50 - (i + 1) < 50 - i := by omega
      have HL : Hid (i + 1 ≤ 50 ∧ i + 1 ≤ L.length) := ⟨by omega, by omega⟩
      generalize o.ep % 1000 = ep at *
      generalize o.a = oaa at *
      generalize o.b = obb at *
      generalize L.length = LL at *
      generalize o.ep = oep at *
      clear hq ho hgo hi hil x0 x1 x2 x4 x5 HX hbx hok hel
      go_upto_region 9 with fail
      go_region_held3 (fun W => W.cell? ⟨sb, 3, none⟩ = some (.slice (some ⟨b, off, none⟩) LL oc) ∧ W.cell? ⟨b, off + i * 9 + 2, none⟩ = some (.int .u64 (oep : Nat)) ∧ W.cell? ⟨b, off + i * 9 + 4, none⟩ = some (.bool oaa) ∧ W.cell? ⟨b, off + i * 9 + 5, none⟩ = some (.bool obb))
        (first | exact ⟨q3d, q2d, q4d, q5d⟩ | exact ⟨u3, u2, u4, u5⟩)
        (first
          | (go_at_call 10; with_reducible refine HH.out.mono ?_; rintro r w6 ⟨rfl, HK, u3, u2, u4, u5⟩))
      all_goals
        go_wp2_with fail
        go_roundg (50 - (i + 1))
        case measure => go_light; exact hme
        case rel => go_light; exact ⟨i + 1, HL.out.1, HL.out.2, rfl, by simp, HK⟩
    · by_cases hg1 : i < L.length
      · have z1 : (i : Int) < (L.length : Int) := by omega
        have z2 : ¬ (i : Int) < 50 := by omega
        have HX2 : Hid (RR W0 wr lb c mo 4 0) := by
          obtain ⟨sn, l, h1, h2, h3⟩ := HX.out
          exact ⟨sn, l, by omega, by omega, h3⟩
        have hm4 : 4 ≤ mo := Hm.out.1
        clear x0 x1 x2 x4 x5 HX hbx hgo hi hil
        generalize wr = wrO at *
        go_wp2_with fail
        go_loopg [7, 8] 8 (fun q s7 s8 wx => ∃ r pt : Nat, r ≤ 8 ∧ q = 8 - r ∧ s7 = .int .i64 (pt : Nat) ∧ s8 = .int .i64 (r : Nat) ∧ pt ≤ mo ∧ Hid (RR W0 wx lb c mo pt r))
        case atStart => exact ⟨0, 4, by decide, rfl, rfl, rfl, hm4, HX2⟩
        case round =>
          clear HX2 z1 x3 z2
          obtain ⟨r, pt, hr, rfl, rfl, rfl, hpt, HX⟩ := hrel
          by_cases hlt : r < 8
          · obtain ⟨sn, l, hsn, hl, hRE⟩ := HX.out
            have HRE : Hid (RE W0 wr lb c mo pt sn l) := hRE
            have hbx : Below W0.heap.size W0 wr := by obtain ⟨_, h⟩ := hRE; exact h.below
            obtain ⟨x0, x1, x2, x3, x4, x5⟩ := HC.out wr hbx
            have HLF : Hid (Calls Try.prog 11 #[.pointer (some ⟨lb, 0, none⟩)] wr fun e w' => e = .returned (.int .i64 (l : Nat)) ∧ wr = w') := hRE.left
            have HI1 : Hid (Calls Try.prog 8 #[.int .i64 Wn, .int .i64 8] wr fun e w' => wr = w' ∧ ∃ k x : Nat, e = .returned (.int .i64 (k : Nat)) ∧ (0 : Int) + (k : Int) = (x : Int) ∧ IntKind.i64.wrap (x : Int) = (x : Int) ∧ Hid (0 ≤ x ∧ x < 0 + 8)) := within_add 0 Wn 8 (by decide) (by decide) (by decide) wr
            have HI2 : Hid (Calls Try.prog 8 #[.int .i64 K, .int .i64 200] wr fun e w' => wr = w' ∧ ∃ k x : Nat, e = .returned (.int .i64 (k : Nat)) ∧ (0 : Int) + (k : Int) = (x : Int) ∧ IntKind.i64.wrap (x : Int) = (x : Int) ∧ Hid (0 ≤ x ∧ x < 0 + 200)) := within_add 0 K 200 (by decide) (by decide) (by decide) wr
            have zr : (r : Int) < 8 := by omega
            clear hRE hbx x0 x1 x2 x3 HX
            go_upto_if 76 with (first
              | (go_at_call 11; refine HLF.out.mono ?_; rintro e w6 ⟨rfl, rfl⟩)
              | (go_at_call 8; refine HI1.out.mono ?_; rintro e w6 ⟨rfl, k8, y8, rfl, hy8, wy8, Hy8⟩))
            go_cut [10] from 66 to 128 (fun s10 wx => ∃ kp : Nat, s10 = .int .i64 (kp : Nat) ∧ Hid (kp < 200) ∧ wr = wx)
            case first =>
              by_cases hk : r = k8
              · have zk : ((r : Int) == (k8 : Int)) = true := by simp [hk]
                have zk2 : (r == k8) = true := by simp [hk]
                clear hk
                go_wp2_with (go_at_call 8; refine HI2.out.mono ?_; rintro e w6 ⟨rfl, k9, y9, rfl, hy9, wy9, Hy9⟩)
                go_meet
                case rel => go_light; exact ⟨k9, rfl, by have := Hy9.out; show _ < _; omega, rfl⟩
              · have zk : ((r : Int) == (k8 : Int)) = false := by simp; omega
                have zk2 : (r == k8) = false := by simp; omega
                clear hk
                go_wp2_with fail
                go_meet
                case rel => go_light; exact ⟨0, rfl, by show _ < _; omega, rfl⟩
            case rest =>
              obtain ⟨kp, rfl, Hkp, rfl⟩ := hcut
              obtain ⟨kq, hkq, hkq2⟩ : ∃ k : Nat, (kp : Int) + 1 = (k : Int) ∧ k = kp + 1 := ⟨kp + 1, by omega, rfl⟩
              have hkp := Hkp.out
              have wkq : IntKind.i64.wrap (kq : Int) = (kq : Int) := by rw [IntKind.wrap_i64]; omega
              have Hkq : Hid (kq = kp + 1 ∧ kp < 200) := ⟨hkq2, hkp⟩
              clear hkq2 hkp
              go_upto_if 84 with fail
              go_cut [11] from 66 to 128 (fun s11 wx => ∃ du : Nat, s11 = .int .i64 (du : Nat) ∧ Hid (du = max l kq) ∧ wr = wx)
              case first =>
                by_cases hk : l < kq
                · have zk : (kq : Int) > (l : Int) := by omega
                  clear HI1 HI2 HLF
                  go_wp2_with fail
                  go_meet
                  case rel => go_light; exact ⟨kq, rfl, by show _ = _; omega, rfl⟩
                · have zk : ¬ (kq : Int) > (l : Int) := by omega
                  clear HI1 HI2 HLF
                  go_wp2_with fail
                  go_meet
                  case rel => go_light; exact ⟨l, rfl, by show _ = _; omega, rfl⟩
              case rest =>
                obtain ⟨du, rfl, Hdu, rfl⟩ := hcut
                have hdu := Hdu.out
                have hkq3 := Hkq.out
                have zd : ¬ (du : Int) < 1 := by omega
                have HDU : Hid (du = max l (kp + 1) ∧ kp < 200 ∧ l ≤ 100 ∧ sn ≤ 1000 + r * 9 ∧ r < 8 ∧ c < 10 ∧ 1 ≤ du ∧ mo < 64) := ⟨by omega, by omega, hl, hsn, hlt, by have := Hc.out; omega, by omega, by have := Hm.out; omega⟩
                clear hdu hkq3 hkq wkq Hkq HI1 HI2 HLF
                generalize wr = wrP at *
                go_wp2_with fail
                go_loopg [12] (du - 1) (fun q s12 wx => ∃ i : Nat, 1 ≤ i ∧ i ≤ du ∧ q = du - i ∧ s12 = .int .i64 (i : Nat) ∧ Hid (RE W0 wx lb c mo pt sn (l - (i - 1))))
                case atStart => exact ⟨1, Nat.le_refl _, HDU.out.2.2.2.2.2.2.1, rfl, rfl, HRE⟩
                case round =>
                  clear HRE
                  obtain ⟨i, hi1, hi2, rfl, rfl, HY⟩ := hrel
                  have hdd := HDU.out
                  have wi1 : IntKind.i64.wrap ((i : Int) + 1) = (i : Int) + 1 := by rw [IntKind.wrap_i64]; omega
                  by_cases hid : i < du
                  · have zi : (i : Int) < (du : Int) := by omega
                    have hme : du - (i + 1) < du - i := by omega
                    have HI : Hid (1 ≤ i + 1 ∧ i + 1 ≤ du) := ⟨by omega, by omega⟩
                    have HT : Hid (Calls Try.prog 12 #[.pointer (some ⟨lb, 0, none⟩), .int .i64 0, .bool false, .bool (decide (kp < i))] wr fun e w' => e = .returned (.tuple #[.int .u64 0, .bool false]) ∧ Hid (RE W0 w' lb c mo pt sn (l - (i + 1 - 1)))) := by
                      refine (HY.out.idle (decide (kp < i)) ?_).mono fun e w' ⟨he, hk⟩ => ⟨he, ?_⟩
                      · by_cases hki : kp < i
                        · left; omega
                        · right; simpa using hki
                      · rw [show l - (i + 1 - 1) = l - (i - 1) - 1 by omega]; exact hk
                    by_cases hki : kp < i
                    · have zki : (i : Int) > (kp : Int) := by omega
                      rw [show decide (kp < i) = true by simpa using hki] at HT
                      clear hdd HY hid hki
                      go_wp2_with (go_at_call 12; refine HT.out.mono ?_; rintro e w6 ⟨rfl, HK⟩)
                      go_roundg (du - (i + 1))
                      case measure => go_light; exact hme
                      case rel => go_light; exact ⟨i + 1, HI.out.1, HI.out.2, rfl, by simp, HK⟩
                    · have zki : ¬ (i : Int) > (kp : Int) := by omega
                      rw [show decide (kp < i) = false by simpa using hki] at HT
                      clear hdd HY hid hki
                      go_wp2_with (go_at_call 12; refine HT.out.mono ?_; rintro e w6 ⟨rfl, HK⟩)
                      go_roundg (du - (i + 1))
                      case measure => go_light; exact hme
                      case rel => go_light; exact ⟨i + 1, HI.out.1, HI.out.2, rfl, by simp, HK⟩
                  · have zi : ¬ (i : Int) < (du : Int) := by omega
                    obtain ⟨p2, hp2, hp3⟩ : ∃ k : Nat, 2 * (pt : Int) = (k : Int) ∧ k = 2 * pt := ⟨2 * pt, by omega, rfl⟩
                    have wp2 : IntKind.i64.wrap (p2 : Int) = (p2 : Int) := by rw [IntKind.wrap_i64]; omega
                    have wr1 : IntKind.i64.wrap ((r : Int) + 1) = (r : Int) + 1 := by rw [IntKind.wrap_i64]; omega
                    have hme : 8 - (r + 1) < 8 - r := by omega
                    have hr1 : r + 1 ≤ 8 := by omega
                    have HT : Hid (Calls Try.prog 12 #[.pointer (some ⟨lb, 0, none⟩), .int .i64 0, .bool false, .bool true] wr fun e w' => ∃ n : Nat, e = .returned (.tuple #[.int .u64 (n : Nat), .bool false]) ∧ (n == 0) = false ∧ (((n : Nat) : Int) == 0) = false ∧ Hid (RR W0 w' lb c mo (min p2 mo) (r + 1)) ∧ Hid (Calls Try.prog 13 #[.pointer (some ⟨lb, 0, none⟩)] w' fun e w'' => e = .returned (.int .i64 (min p2 mo : Nat)) ∧ w' = w'') ∧ Hid (Calls Try.prog 11 #[.pointer (some ⟨lb, 0, none⟩)] w' fun e w'' => e = .returned (.int .i64 (min p2 mo : Nat)) ∧ w' = w'')) := by
                      refine (HY.out.go (by omega) (by omega) (by omega)).mono fun e w' ⟨n, he, hn1, hn2, hn3, hn4, hk⟩ => ⟨n, he, hn1, hn2, ?_⟩
                      have hk' := hk.out
                      rw [← hp3] at hk'
                      exact ⟨⟨n, min p2 mo, by omega, by omega, hk'⟩, hk'.pat, hk'.left⟩
                    by_cases hpm : mo < p2
                    · have zp : (p2 : Int) > (mo : Int) := by omega
                      rw [show min p2 mo = mo by omega] at HT
                      clear hdd HY hid hp3 hpm
                      go_wp2_with (first
                        | (go_at_call 12; refine HT.out.mono ?_; rintro e w6 ⟨n, rfl, hn1, hn2, HK, HP, HL⟩)
                        | (go_at_call 13; refine HP.out.mono ?_; rintro e w7 ⟨rfl, rfl⟩)
                        | (go_at_call 11; refine HL.out.mono ?_; rintro e w7 ⟨rfl, rfl⟩))
                      go_roundg (8 - (r + 1))
                      case measure => go_light; exact hme
                      case rel => go_light; exact ⟨r + 1, mo, hr1, rfl, rfl, by simp, Nat.le_refl _, HK⟩
                    · have zp : ¬ (p2 : Int) > (mo : Int) := by omega
                      have hpm2 : p2 ≤ mo := by omega
                      rw [show min p2 mo = p2 by omega] at HT
                      clear hdd HY hid hp3 hpm
                      go_wp2_with (first
                        | (go_at_call 12; refine HT.out.mono ?_; rintro e w6 ⟨n, rfl, hn1, hn2, HK, HP, HL⟩)
                        | (go_at_call 13; refine HP.out.mono ?_; rintro e w7 ⟨rfl, rfl⟩)
                        | (go_at_call 11; refine HL.out.mono ?_; rintro e w7 ⟨rfl, rfl⟩))
                      go_roundg (8 - (r + 1))
                      case measure => go_light; exact hme
                      case rel => go_light; exact ⟨r + 1, p2, hr1, rfl, rfl, by simp, hpm2, HK⟩
          · have zr : ¬ (r : Int) < 8 := by omega
            have HE : Hid (Calls Try.prog 7 #[] wr fun e w' => e = .returned (.bool true) ∧ Hid (Below sb w w')) := by
              obtain ⟨_, _, _, _, _, h⟩ := HX.out
              exact HEND.out wr h.below
            clear HX
            go_wp2_with (go_at_call 7; refine HE.out.mono ?_; rintro e w6 ⟨rfl, HK⟩)
            go_ret
            rw [Hsb.out]
            exact ⟨rfl, HK.out⟩
      · have z1 : ¬ (i : Int) < (L.length : Int) := by omega
        have HX2 : Hid (RR W0 wr lb c mo 4 0) := by
          obtain ⟨sn, l, h1, h2, h3⟩ := HX.out
          exact ⟨sn, l, by omega, by omega, h3⟩
        have hm4 : 4 ≤ mo := Hm.out.1
        clear x0 x1 x2 x4 x5 HX hbx hgo hi hil
        generalize wr = wrO at *
        go_wp2_with fail
        go_loopg [7, 8] 8 (fun q s7 s8 wx => ∃ r pt : Nat, r ≤ 8 ∧ q = 8 - r ∧ s7 = .int .i64 (pt : Nat) ∧ s8 = .int .i64 (r : Nat) ∧ pt ≤ mo ∧ Hid (RR W0 wx lb c mo pt r))
        case atStart => exact ⟨0, 4, by decide, rfl, rfl, rfl, hm4, HX2⟩
        case round =>
          clear HX2 z1 x3
          obtain ⟨r, pt, hr, rfl, rfl, rfl, hpt, HX⟩ := hrel
          by_cases hlt : r < 8
          · obtain ⟨sn, l, hsn, hl, hRE⟩ := HX.out
            have HRE : Hid (RE W0 wr lb c mo pt sn l) := hRE
            have hbx : Below W0.heap.size W0 wr := by obtain ⟨_, h⟩ := hRE; exact h.below
            obtain ⟨x0, x1, x2, x3, x4, x5⟩ := HC.out wr hbx
            have HLF : Hid (Calls Try.prog 11 #[.pointer (some ⟨lb, 0, none⟩)] wr fun e w' => e = .returned (.int .i64 (l : Nat)) ∧ wr = w') := hRE.left
            have HI1 : Hid (Calls Try.prog 8 #[.int .i64 Wn, .int .i64 8] wr fun e w' => wr = w' ∧ ∃ k x : Nat, e = .returned (.int .i64 (k : Nat)) ∧ (0 : Int) + (k : Int) = (x : Int) ∧ IntKind.i64.wrap (x : Int) = (x : Int) ∧ Hid (0 ≤ x ∧ x < 0 + 8)) := within_add 0 Wn 8 (by decide) (by decide) (by decide) wr
            have HI2 : Hid (Calls Try.prog 8 #[.int .i64 K, .int .i64 200] wr fun e w' => wr = w' ∧ ∃ k x : Nat, e = .returned (.int .i64 (k : Nat)) ∧ (0 : Int) + (k : Int) = (x : Int) ∧ IntKind.i64.wrap (x : Int) = (x : Int) ∧ Hid (0 ≤ x ∧ x < 0 + 200)) := within_add 0 K 200 (by decide) (by decide) (by decide) wr
            have zr : (r : Int) < 8 := by omega
            clear hRE hbx x0 x1 x2 x3 HX
            go_upto_if 76 with (first
              | (go_at_call 11; refine HLF.out.mono ?_; rintro e w6 ⟨rfl, rfl⟩)
              | (go_at_call 8; refine HI1.out.mono ?_; rintro e w6 ⟨rfl, k8, y8, rfl, hy8, wy8, Hy8⟩))
            go_cut [10] from 66 to 128 (fun s10 wx => ∃ kp : Nat, s10 = .int .i64 (kp : Nat) ∧ Hid (kp < 200) ∧ wr = wx)
            case first =>
              by_cases hk : r = k8
              · have zk : ((r : Int) == (k8 : Int)) = true := by simp [hk]
                have zk2 : (r == k8) = true := by simp [hk]
                clear hk
                go_wp2_with (go_at_call 8; refine HI2.out.mono ?_; rintro e w6 ⟨rfl, k9, y9, rfl, hy9, wy9, Hy9⟩)
                go_meet
                case rel => go_light; exact ⟨k9, rfl, by have := Hy9.out; show _ < _; omega, rfl⟩
              · have zk : ((r : Int) == (k8 : Int)) = false := by simp; omega
                have zk2 : (r == k8) = false := by simp; omega
                clear hk
                go_wp2_with fail
                go_meet
                case rel => go_light; exact ⟨0, rfl, by show _ < _; omega, rfl⟩
            case rest =>
              obtain ⟨kp, rfl, Hkp, rfl⟩ := hcut
              obtain ⟨kq, hkq, hkq2⟩ : ∃ k : Nat, (kp : Int) + 1 = (k : Int) ∧ k = kp + 1 := ⟨kp + 1, by omega, rfl⟩
              have hkp := Hkp.out
              have wkq : IntKind.i64.wrap (kq : Int) = (kq : Int) := by rw [IntKind.wrap_i64]; omega
              have Hkq : Hid (kq = kp + 1 ∧ kp < 200) := ⟨hkq2, hkp⟩
              clear hkq2 hkp
              go_upto_if 84 with fail
              go_cut [11] from 66 to 128 (fun s11 wx => ∃ du : Nat, s11 = .int .i64 (du : Nat) ∧ Hid (du = max l kq) ∧ wr = wx)
              case first =>
                by_cases hk : l < kq
                · have zk : (kq : Int) > (l : Int) := by omega
                  clear HI1 HI2 HLF
                  go_wp2_with fail
                  go_meet
                  case rel => go_light; exact ⟨kq, rfl, by show _ = _; omega, rfl⟩
                · have zk : ¬ (kq : Int) > (l : Int) := by omega
                  clear HI1 HI2 HLF
                  go_wp2_with fail
                  go_meet
                  case rel => go_light; exact ⟨l, rfl, by show _ = _; omega, rfl⟩
              case rest =>
                obtain ⟨du, rfl, Hdu, rfl⟩ := hcut
                have hdu := Hdu.out
                have hkq3 := Hkq.out
                have zd : ¬ (du : Int) < 1 := by omega
                have HDU : Hid (du = max l (kp + 1) ∧ kp < 200 ∧ l ≤ 100 ∧ sn ≤ 1000 + r * 9 ∧ r < 8 ∧ c < 10 ∧ 1 ≤ du ∧ mo < 64) := ⟨by omega, by omega, hl, hsn, hlt, by have := Hc.out; omega, by omega, by have := Hm.out; omega⟩
                clear hdu hkq3 hkq wkq Hkq HI1 HI2 HLF
                generalize wr = wrP at *
                go_wp2_with fail
                go_loopg [12] (du - 1) (fun q s12 wx => ∃ i : Nat, 1 ≤ i ∧ i ≤ du ∧ q = du - i ∧ s12 = .int .i64 (i : Nat) ∧ Hid (RE W0 wx lb c mo pt sn (l - (i - 1))))
                case atStart => exact ⟨1, Nat.le_refl _, HDU.out.2.2.2.2.2.2.1, rfl, rfl, HRE⟩
                case round =>
                  clear HRE
                  obtain ⟨i, hi1, hi2, rfl, rfl, HY⟩ := hrel
                  have hdd := HDU.out
                  have wi1 : IntKind.i64.wrap ((i : Int) + 1) = (i : Int) + 1 := by rw [IntKind.wrap_i64]; omega
                  by_cases hid : i < du
                  · have zi : (i : Int) < (du : Int) := by omega
                    have hme : du - (i + 1) < du - i := by omega
                    have HI : Hid (1 ≤ i + 1 ∧ i + 1 ≤ du) := ⟨by omega, by omega⟩
                    have HT : Hid (Calls Try.prog 12 #[.pointer (some ⟨lb, 0, none⟩), .int .i64 0, .bool false, .bool (decide (kp < i))] wr fun e w' => e = .returned (.tuple #[.int .u64 0, .bool false]) ∧ Hid (RE W0 w' lb c mo pt sn (l - (i + 1 - 1)))) := by
                      refine (HY.out.idle (decide (kp < i)) ?_).mono fun e w' ⟨he, hk⟩ => ⟨he, ?_⟩
                      · by_cases hki : kp < i
                        · left; omega
                        · right; simpa using hki
                      · rw [show l - (i + 1 - 1) = l - (i - 1) - 1 by omega]; exact hk
                    by_cases hki : kp < i
                    · have zki : (i : Int) > (kp : Int) := by omega
                      rw [show decide (kp < i) = true by simpa using hki] at HT
                      clear hdd HY hid hki
                      go_wp2_with (go_at_call 12; refine HT.out.mono ?_; rintro e w6 ⟨rfl, HK⟩)
                      go_roundg (du - (i + 1))
                      case measure => go_light; exact hme
                      case rel => go_light; exact ⟨i + 1, HI.out.1, HI.out.2, rfl, by simp, HK⟩
                    · have zki : ¬ (i : Int) > (kp : Int) := by omega
                      rw [show decide (kp < i) = false by simpa using hki] at HT
                      clear hdd HY hid hki
                      go_wp2_with (go_at_call 12; refine HT.out.mono ?_; rintro e w6 ⟨rfl, HK⟩)
                      go_roundg (du - (i + 1))
                      case measure => go_light; exact hme
                      case rel => go_light; exact ⟨i + 1, HI.out.1, HI.out.2, rfl, by simp, HK⟩
                  · have zi : ¬ (i : Int) < (du : Int) := by omega
                    obtain ⟨p2, hp2, hp3⟩ : ∃ k : Nat, 2 * (pt : Int) = (k : Int) ∧ k = 2 * pt := ⟨2 * pt, by omega, rfl⟩
                    have wp2 : IntKind.i64.wrap (p2 : Int) = (p2 : Int) := by rw [IntKind.wrap_i64]; omega
                    have wr1 : IntKind.i64.wrap ((r : Int) + 1) = (r : Int) + 1 := by rw [IntKind.wrap_i64]; omega
                    have hme : 8 - (r + 1) < 8 - r := by omega
                    have hr1 : r + 1 ≤ 8 := by omega
                    have HT : Hid (Calls Try.prog 12 #[.pointer (some ⟨lb, 0, none⟩), .int .i64 0, .bool false, .bool true] wr fun e w' => ∃ n : Nat, e = .returned (.tuple #[.int .u64 (n : Nat), .bool false]) ∧ (n == 0) = false ∧ (((n : Nat) : Int) == 0) = false ∧ Hid (RR W0 w' lb c mo (min p2 mo) (r + 1)) ∧ Hid (Calls Try.prog 13 #[.pointer (some ⟨lb, 0, none⟩)] w' fun e w'' => e = .returned (.int .i64 (min p2 mo : Nat)) ∧ w' = w'') ∧ Hid (Calls Try.prog 11 #[.pointer (some ⟨lb, 0, none⟩)] w' fun e w'' => e = .returned (.int .i64 (min p2 mo : Nat)) ∧ w' = w'')) := by
                      refine (HY.out.go (by omega) (by omega) (by omega)).mono fun e w' ⟨n, he, hn1, hn2, hn3, hn4, hk⟩ => ⟨n, he, hn1, hn2, ?_⟩
                      have hk' := hk.out
                      rw [← hp3] at hk'
                      exact ⟨⟨n, min p2 mo, by omega, by omega, hk'⟩, hk'.pat, hk'.left⟩
                    by_cases hpm : mo < p2
                    · have zp : (p2 : Int) > (mo : Int) := by omega
                      rw [show min p2 mo = mo by omega] at HT
                      clear hdd HY hid hp3 hpm
                      go_wp2_with (first
                        | (go_at_call 12; refine HT.out.mono ?_; rintro e w6 ⟨n, rfl, hn1, hn2, HK, HP, HL⟩)
                        | (go_at_call 13; refine HP.out.mono ?_; rintro e w7 ⟨rfl, rfl⟩)
                        | (go_at_call 11; refine HL.out.mono ?_; rintro e w7 ⟨rfl, rfl⟩))
                      go_roundg (8 - (r + 1))
                      case measure => go_light; exact hme
                      case rel => go_light; exact ⟨r + 1, mo, hr1, rfl, rfl, by simp, Nat.le_refl _, HK⟩
                    · have zp : ¬ (p2 : Int) > (mo : Int) := by omega
                      have hpm2 : p2 ≤ mo := by omega
                      rw [show min p2 mo = p2 by omega] at HT
                      clear hdd HY hid hp3 hpm
                      go_wp2_with (first
                        | (go_at_call 12; refine HT.out.mono ?_; rintro e w6 ⟨n, rfl, hn1, hn2, HK, HP, HL⟩)
                        | (go_at_call 13; refine HP.out.mono ?_; rintro e w7 ⟨rfl, rfl⟩)
                        | (go_at_call 11; refine HL.out.mono ?_; rintro e w7 ⟨rfl, rfl⟩))
                      go_roundg (8 - (r + 1))
                      case measure => go_light; exact hme
                      case rel => go_light; exact ⟨r + 1, p2, hr1, rfl, rfl, by simp, hpm2, HK⟩
          · have zr : ¬ (r : Int) < 8 := by omega
            have HE : Hid (Calls Try.prog 7 #[] wr fun e w' => e = .returned (.bool true) ∧ Hid (Below sb w w')) := by
              obtain ⟨_, _, _, _, _, h⟩ := HX.out
              exact HEND.out wr h.below
            clear HX
            go_wp2_with (go_at_call 7; refine HE.out.mono ?_; rintro e w6 ⟨rfl, HK⟩)
            go_ret
            rw [Hsb.out]
            exact ⟨rfl, HK.out⟩
end Go.Proofs.Ytcbebepngencjaa

/- What the laws of lease are handed, read out of memory. -/
namespace Go.Proofs.Ytcbebepngencjaa
open Go.ChangeShapes Go.WideShapes Go.ChangeAt Go.RowKit Go.Deep Go.Joins
set_option maxRecDepth 100000

theorem cellsI : Try.prog.cellsOf 3 = 1 := by kernel_rfl
theorem cellsU : Try.prog.cellsOf 29 = 1 := by kernel_rfl
theorem cellsB : Try.prog.cellsOf 4 = 1 := by kernel_rfl
theorem cellsOp : Try.prog.cellsOf 32 = 9 := by kernel_rfl
theorem cellsOps : Try.prog.cellsOf 22 = 1 := by kernel_rfl
theorem add_at (b o : Nat) (r : Nat) : (⟨b, o, none⟩ : Addr).add r = ⟨b, o + r, none⟩ := by simp [Addr.add]
theorem u64_of {n : Int} (h : (Lit.int .u64 n).wf = true) : ∃ m : Nat, n = (m : Int) ∧ m < 18446744073709551616 := by
  have := bounds_u64 h
  exact ⟨n.toNat, by omega, by omega⟩
theorem i64_of {n : Int} (h : (Lit.int .i64 n).wf = true) : n ≤ 9223372036854775807 := by
  have := bounds_i64 h
  omega
theorem cells9_of {w : World} {a : Addr} {cs : List Value} (h : w.cells? 0 a 9 = some cs) : ∃ v0 v1 v2 v3 v4 v5 v6 v7 v8, cs = [v0, v1, v2, v3, v4, v5, v6, v7, v8] ∧ w.cell? (a.add 0) = some v0 ∧ w.cell? (a.add 1) = some v1 ∧ w.cell? (a.add 2) = some v2 ∧ w.cell? (a.add 3) = some v3 ∧ w.cell? (a.add 4) = some v4 ∧ w.cell? (a.add 5) = some v5 ∧ w.cell? (a.add 6) = some v6 ∧ w.cell? (a.add 7) = some v7 ∧ w.cell? (a.add 8) = some v8 := by
  obtain ⟨_, hl, hc⟩ := World.cells?_some h
  match cs, hl with
  | [v0, v1, v2, v3, v4, v5, v6, v7, v8], _ => exact ⟨v0, v1, v2, v3, v4, v5, v6, v7, v8, rfl, hc 0 (by decide), hc 1 (by decide), hc 2 (by decide), hc 3 (by decide), hc 4 (by decide), hc 5 (by decide), hc 6 (by decide), hc 7 (by decide), hc 8 (by decide)⟩
theorem open_lops {H : Type} {enc : TypeId × Value → H} {W : World} {fuel : Nat} {v : Value} {y : DataW H × List MemPlace} (h : DataW.trod enc Try.prog W 0 (fun _ => true) true fuel 22 [v] = some y) :
    ∃ (a : Option Addr) (c : Nat) (l : List LOp), v = .slice a l.length c ∧ LOpsIn W a l := by
  rcases open_slice Try.underlying22 h with ⟨hcs, _⟩ | ⟨a, len, cap, m, n, D, Pl, hcs, _, hl, _, hm, hx, hel⟩
  · exact ⟨none, 0, [], by simpa using hcs, fun i d ho => by simp at ho⟩
  · simp only [if_true] at hm
    subst hm
    obtain ⟨b, o, sp⟩ := a
    have hsp : 0 < len → sp = none := fun h0 => by
      obtain ⟨cs', hc, _⟩ := hel 0 (by omega)
      rw [cellsOp] at hc
      obtain ⟨v0, v1, v2, v3, v4, v5, v6, v7, v8, rfl, h0, _⟩ := cells9_of hc
      simpa [Addr.add] using World.cell?_spot h0
    have hall : ∀ i, ∃ q : LOp, i < len → (q.Ok ∧ ∀ j, j < 9 → W.cell? ⟨b, o + i * 9 + j, none⟩ = some (lopCell q j)) := fun i => by
      by_cases hi : i < len
      · obtain rfl := hsp (by omega)
        obtain ⟨cs', hc, ht⟩ := hel i (by omega)
        rw [cellsOp, add_at] at hc
        obtain ⟨v0, v1, v2, v3, v4, v5, v6, v7, v8, rfl, h0, h1, h2, h3, h4, h5, h6, h7, h8⟩ := cells9_of hc
        obtain ⟨xs, m, _, hx, _, hlen, hfs⟩ := DataW.trod_struct Try.underlying32 ht
        obtain ⟨y0, y1, y2, y3, y4, y5, y6, y7, y8, rfl⟩ : ∃ y0 y1 y2 y3 y4 y5 y6 y7 y8, xs = [y0, y1, y2, y3, y4, y5, y6, y7, y8] := by
          match xs, hlen with
          | [a0, a1, a2, a3, a4, a5, a6, a7, a8], _ => exact ⟨a0, a1, a2, a3, a4, a5, a6, a7, a8, rfl⟩
        have f0 := hfs 0 _ rfl
        have f1 := hfs 1 _ rfl
        have f2 := hfs 2 _ rfl
        have f3 := hfs 3 _ rfl
        have f4 := hfs 4 _ rfl
        have f5 := hfs 5 _ rfl
        have f6 := hfs 6 _ rfl
        have f7 := hfs 7 _ rfl
        have f8 := hfs 8 _ rfl
        simp [cellsI, cellsU, cellsB] at f0 f1 f2 f3 f4 f5 f6 f7 f8
        obtain ⟨k0, e0, _, _⟩ := DataW.trod_int Try.underlying3 f0
        obtain rfl : v0 = .int .i64 k0 := by simpa using e0
        obtain ⟨k1, e1, _, _⟩ := DataW.trod_int Try.underlying3 f1
        obtain rfl : v1 = .int .i64 k1 := by simpa using e1
        obtain ⟨n2, e2, _, wf2⟩ := DataW.trod_int Try.underlying29 f2
        obtain ⟨k2, hk2, w2⟩ := u64_of wf2
        obtain rfl : v2 = .int .u64 (k2 : Nat) := by rw [hk2] at e2; simpa using e2
        obtain ⟨k3, e3, _, _⟩ := DataW.trod_int Try.underlying3 f3
        obtain rfl : v3 = .int .i64 k3 := by simpa using e3
        obtain ⟨k4, e4, _⟩ := DataW.trod_bool Try.underlying4 f4
        obtain rfl : v4 = .bool k4 := by simpa using e4
        obtain ⟨k5, e5, _⟩ := DataW.trod_bool Try.underlying4 f5
        obtain rfl : v5 = .bool k5 := by simpa using e5
        obtain ⟨k6, e6, _, _⟩ := DataW.trod_int Try.underlying3 f6
        obtain rfl : v6 = .int .i64 k6 := by simpa using e6
        obtain ⟨k7, e7, _, wf7⟩ := DataW.trod_int Try.underlying3 f7
        obtain rfl : v7 = .int .i64 k7 := by simpa using e7
        have w7 := i64_of wf7
        obtain ⟨k8, e8, _, wf8⟩ := DataW.trod_int Try.underlying3 f8
        obtain rfl : v8 = .int .i64 k8 := by simpa using e8
        have w8 := i64_of wf8
        rw [add_at] at h0 h1 h2 h3 h4 h5 h6 h7 h8
        refine ⟨⟨k0, k1, k2, k3, k4, k5, k6, k7, k8⟩, fun _ => ⟨⟨w2, w7, w8⟩, fun j hj => ?_⟩⟩
        match j, hj with
        | 0, _ => exact h0
        | 1, _ => exact h1
        | 2, _ => exact h2
        | 3, _ => exact h3
        | 4, _ => exact h4
        | 5, _ => exact h5
        | 6, _ => exact h6
        | 7, _ => exact h7
        | 8, _ => exact h8
      · exact ⟨⟨0, 0, 0, 0, false, false, 0, 0, 0⟩, fun h => absurd h hi⟩
    obtain ⟨Q, hQ⟩ := Classical.axiomOfChoice hall
    have hlen : ((List.range len).map Q).length = len := by simp
    refine ⟨some ⟨b, o, sp⟩, m, (List.range len).map Q, by rw [hlen]; simpa using hcs, fun i d hq => ?_⟩
    have hi : i < len := by have := (List.getElem?_eq_some_iff.1 hq).1; rwa [hlen] at this
    rw [List.getElem?_map, List.getElem?_range hi] at hq
    obtain rfl : Q i = d := Option.some.inj hq
    obtain rfl := hsp (by omega)
    exact ⟨(hQ i hi).1, b, o, rfl, (hQ i hi).2⟩
end Go.Proofs.Ytcbebepngencjaa

/- The law LeaseFence. -/
namespace Go.Proofs.Ytcbebepngencjaa
open Go.RowKit
set_option maxRecDepth 100000
set_option maxRecDepth 100000

/-- A list of numbers, handed in. -/
def IntsIn (W : World) (a : Option Addr) (l : List Int) : Prop := ∀ i x, l[i]? = some x → ∃ b o, a = some ⟨b, o, none⟩ ∧ W.cell? ⟨b, o + i, none⟩ = some (.int .i64 x)
theorem IntsIn.on {W W' : World} {a : Option Addr} {l : List Int} (h : IntsIn W a l) (hb : Below W.heap.size W W') : IntsIn W' a l := fun i x hx => by
  obtain ⟨b, o, e, hc⟩ := h i x hx
  exact ⟨b, o, e, cel_on hb (cel_lt hc) hc⟩
theorem at_any (a : Option Addr) (cap : Nat) (l : List Int) (i m : Nat) (hi : i ≤ 1000) (hm : 0 < m) (hm2 : m ≤ 1000000) (w : World) (h : IntsIn w a l) :
    Calls Try.prog 20 #[.slice a l.length cap, .int .i64 (i : Nat), .int .i64 (m : Nat)] w fun e w' => w = w' ∧ ∃ k : Nat, e = .returned (.int .i64 (k : Nat)) ∧ k < m := by
  by_cases h0 : l.length = 0
  · have z : ((l.length : Int) == 0) = true := by simp [h0]
    have z' : (l.length : Int) = 0 := by omega
    have HK : Hid (0 < m) := hm
    generalize l.length = n at *
    subst h0
    clear h hm hm2 z z' hi
    go_enter Try.func20, Try.ntmps20
    go_wp2
    go_ret
    exact ⟨rfl, 0, rfl, HK.out⟩
  · have z : ((l.length : Int) == 0) = false := by simp; intro e; exact h0 (by simp [e])
    have z' : ¬ (l.length : Int) = 0 := by omega
    have hml := Nat.mod_lt i (show 0 < l.length by omega)
    have hr : (i : Int).tmod (l.length : Int) = ((i % l.length : Nat) : Int) := (Int.ofNat_tmod _ _).symm
    obtain ⟨b, o, rfl, hc⟩ := h (i % l.length) _ (List.getElem?_eq_getElem hml)
    generalize l[i % l.length] = X at *
    obtain ⟨r, hr2⟩ : ∃ r, i % l.length = r := ⟨_, rfl⟩
    rw [hr2] at hr hc hml
    have HW : Hid (Calls Try.prog 8 #[.int .i64 X, .int .i64 (m : Nat)] w fun e w' => w = w' ∧ ∃ k : Nat, e = .returned (.int .i64 (k : Nat)) ∧ k < m) := (within_any X m hm (by omega) w).mono fun e w' ⟨h1, h2⟩ => ⟨h1, _, h2, by
      have h3 := Int.emod_nonneg X (show (m : Int) ≠ 0 by omega)
      have h4 := Int.emod_lt_of_pos X (show (0 : Int) < (m : Int) by omega)
      omega⟩
    have zr : (r : Int) < (l.length : Int) := by omega
    have zr0 : (0 : Int) ≤ (r : Int) := by omega
    have hri : r ≤ i := by rw [← hr2]; exact Nat.mod_le _ _
    have wr1 : IntKind.i64.wrap (r : Int) = (r : Int) := by rw [IntKind.wrap_i64]; omega
    generalize l.length = n at *
    clear h hr2 hml hm hm2 h0 hri hi
    go_enter Try.func20, Try.ntmps20
    go_wp2_with (go_at_call 8; refine HW.out.mono ?_; rintro e w2 ⟨rfl, k, rfl, HK⟩)
    go_ret
    exact ⟨rfl, k, rfl, HK⟩

/-- What the law keeps of the holder's lease: F when its round began, B when the last one that is done began. -/
def FS (w0 wx : World) (lb pt F B now : Nat) : Prop := ∃ s, LsIs wx lb s ∧ s.pat = pt ∧ s.since = now - F ∧ s.quiet = now - B ∧ Below w0.heap.size w0 wx ∧ w0.heap.size ≤ lb ∧ pt ≤ 1000 ∧ now ≤ 100000
section
variable {w0 wx : World} {lb pt F B now : Nat}
theorem FS.below (h : FS w0 wx lb pt F B now) : Below w0.heap.size w0 wx := by obtain ⟨s, _, _, _, _, h, _⟩ := h; exact h
theorem FS.begun (h : FS w0 wx lb pt F B now) : Calls Try.prog 18 #[.pointer (some ⟨lb, 0, none⟩)] wx fun e w' => e = .returned (.tuple #[]) ∧ Hid (FS w0 w' lb pt now B now) := by
  obtain ⟨s, h1, h2, h3, h4, h5, h6, h7⟩ := h
  exact (begunL_any h1).mono fun e w' ⟨he, hi, hm⟩ => ⟨he, _, hi, h2, by show 0 = now - now; omega, h4, hm.below h5 h5.size (fun k hk => by omega), h6, h7⟩
theorem FS.done (h : FS w0 wx lb pt F B now) : Calls Try.prog 19 #[.pointer (some ⟨lb, 0, none⟩)] wx fun e w' => e = .returned (.tuple #[]) ∧ Hid (FS w0 w' lb pt F F now) := by
  obtain ⟨s, h1, h2, h3, h4, h5, h6, h7⟩ := h
  exact (doneL_any h1).mono fun e w' ⟨he, hi, hm⟩ => ⟨he, _, hi, h2, h3, h3, hm.below h5 h5.size (fun k hk => by omega), h6, h7⟩
theorem FS.span (h : FS w0 wx lb pt F B now) : Calls Try.prog 17 #[.pointer (some ⟨lb, 0, none⟩)] wx fun e w' => e = .returned (.int .i64 (pt + 1 : Nat)) ∧ wx = w' := by
  obtain ⟨s, h1, h2, h3, h4, h5, h6, h7⟩ := h
  refine (span_any h1).mono fun e w' ⟨he, hi⟩ => ⟨?_, hi⟩
  have e1 : satM s.pat 1 = pt + 1 := by unfold satM; rw [if_neg (by omega), h2]
  rw [he, e1]
theorem FS.tick (h : FS w0 wx lb pt F B now) (hF : F ≤ now) (hB : B ≤ now) (hn : now < 100000) : Calls Try.prog 12 #[.pointer (some ⟨lb, 0, none⟩), .int .i64 3, .bool true, .bool false] wx fun e w' => e = .returned (.tuple #[.int .u64 0, .bool (decide (pt ≤ now + 1 - B))]) ∧ Hid (FS w0 w' lb pt F B (now + 1)) := by
  obtain ⟨s, h1, h2, h3, h4, h5, h6, h7⟩ := h
  refine (tick_any h1 3 true false).mono fun e w' ⟨he, hi, hm⟩ => ?_
  have e1 : satM s.since 1 = now + 1 - F := by unfold satM; rw [if_neg (by omega)]; omega
  have e2 : satM s.quiet 1 = now + 1 - B := by unfold satM; rw [if_neg (by omega)]; omega
  have e3 : tickM s 3 true false = (goM s, 0, decide (s.pat ≤ (goM s).quiet)) := rfl
  rw [e3] at he hi
  have e4 : (goM s).quiet = now + 1 - B := e2
  rw [e4, h2] at he
  exact ⟨he, goM s, hi, h2, e1, e2, hm.below h5 h5.size (fun k hk => by omega), h6, h7.1, by omega⟩
end
/-- The holder's first way: its patience doubles some times. -/
def FT (w0 wx : World) (lb mo k l : Nat) : Prop := ∃ pt sn, RE w0 wx lb 1 mo pt sn l ∧ pt ≤ mo ∧ 4 ≤ pt ∧ l ≤ mo ∧ sn ≤ k
theorem FT.tick {w0 wx : World} {lb mo k l : Nat} (h : FT w0 wx lb mo k l) (hk : k ≤ 100) : Calls Try.prog 12 #[.pointer (some ⟨lb, 0, none⟩), .int .i64 0, .bool false, .bool true] wx fun e w' => ∃ n : Nat, e = .returned (.tuple #[.int .u64 (n : Nat), .bool false]) ∧ ((1 < l ∧ n = 0 ∧ Hid (FT w0 w' lb mo k (l - 1))) ∨ (l ≤ 1 ∧ n ≠ 0 ∧ ∃ l', Hid (FT w0 w' lb mo (k + 1) l'))) := by
  obtain ⟨pt, sn, h1, h2, h3, h4, h5⟩ := h
  by_cases hl : 1 < l
  · exact (h1.idle true (Or.inl hl)).mono fun e w' ⟨he, hk⟩ => ⟨0, he, .inl ⟨hl, rfl, pt, sn, hk.out, h2, h3, by omega, h5⟩⟩
  · exact (h1.go (by omega) (by omega) (by decide)).mono fun e w' ⟨n, he, _, _, hn1, hn2, hk⟩ => ⟨n, he, .inr ⟨by omega, by omega, _, min (2 * pt) mo, n, hk.out, by omega, by omega, by omega, by omega⟩⟩

set_option maxHeartbeats 8000000 in
theorem fenceLaw (M Tm : Int) (a2 a3 a4 : Option Addr) (c2 c3 c4 : Nat) (L2 L3 L4 : List Int) (w : World) (hO2 : IntsIn w a2 L2) (hO3 : IntsIn w a3 L3) (hO4 : IntsIn w a4 L4) :
    Calls Try.prog 5 #[.agg #[.int .i64 M, .int .i64 Tm, .slice a2 L2.length c2, .slice a3 L3.length c3, .slice a4 L4.length c4]] w fun e w' => e = .returned (.bool true) ∧ Below w.heap.size w w' := by
  obtain ⟨W0, HW0⟩ : ∃ W, Hid (w.alloc (.cells #[.int .i64 M, .int .i64 Tm, .slice a2 L2.length c2, .slice a3 L3.length c3, .slice a4 L4.length c4] 46) = W) := ⟨_, rfl⟩
  have hb0 : Below w.heap.size w W0 := by rw [← HW0.out]; exact (Below.refl _ _).alloc (Nat.le_refl _) _
  have kc : ∀ i v, (#[Value.int .i64 M, .int .i64 Tm, .slice a2 L2.length c2, .slice a3 L3.length c3, .slice a4 L4.length c4] : Array Value)[i]? = some v → W0.cell? ⟨w.heap.size, i, none⟩ = some v := fun i v h => by rw [← HW0.out]; exact (World.cell?_alloc_at (w := w) _ _ _ i rfl).trans h
  have hlt := cel_lt (kc 0 _ rfl)
  have HO2 : Hid (IntsIn W0 a2 L2) := hO2.on hb0
  have HO3 : Hid (IntsIn W0 a3 L3) := hO3.on hb0
  have HO4 : Hid (IntsIn W0 a4 L4) := hO4.on hb0
  have HB0 : Hid (Below w.heap.size w W0) := hb0
  obtain ⟨sb, Hsb⟩ : ∃ x, Hid (w.heap.size = x) := ⟨_, rfl⟩
  rw [Hsb.out] at kc hlt HB0
  have HC : Hid (∀ W, Below W0.heap.size W0 W → W.cell? ⟨sb, 0, none⟩ = some (.int .i64 M) ∧ W.cell? ⟨sb, 1, none⟩ = some (.int .i64 Tm) ∧ W.cell? ⟨sb, 2, none⟩ = some (.slice a2 L2.length c2) ∧ W.cell? ⟨sb, 3, none⟩ = some (.slice a3 L3.length c3) ∧ W.cell? ⟨sb, 4, none⟩ = some (.slice a4 L4.length c4)) := fun W hb =>
    ⟨cel_on hb hlt (kc 0 _ rfl), cel_on hb hlt (kc 1 _ rfl), cel_on hb hlt (kc 2 _ rfl), cel_on hb hlt (kc 3 _ rfl), cel_on hb hlt (kc 4 _ rfl)⟩
  have HEND : Hid (∀ W : World, Below W0.heap.size W0 W → Calls Try.prog 7 #[] W fun e w' => e = .returned (.bool true) ∧ Hid (Below sb w w')) := fun W hb => (begun_any W).mono fun e w' ⟨he, hb2⟩ => ⟨he, HB0.out.trans ((hb.trans (hb2.mono hb.size)).mono (by omega))⟩
  have HBG : Hid (Calls Try.prog 7 #[] W0 fun e w1 => e = .returned (.bool true) ∧ w1.cell? ⟨sb, 0, none⟩ = some (.int .i64 M) ∧
      Hid (Calls Try.prog 8 #[.int .i64 M, .int .i64 100] w1 fun e w' => w1 = w' ∧ ∃ k x : Nat, e = .returned (.int .i64 (k : Nat)) ∧ (4 : Int) + (k : Int) = (x : Int) ∧ IntKind.i64.wrap (x : Int) = (x : Int) ∧ Hid (4 ≤ x ∧ x < 4 + 100)) ∧
      Hid (∀ mo : Nat, Hid (4 ≤ mo ∧ mo < 4 + 100) → Calls Try.prog 9 #[.int .i64 0, .int .i64 1, .int .i64 (mo : Nat), .int .u64 0] w1 fun e w2 => ∃ lb, e = .returned (.pointer (some ⟨lb, 0, none⟩)) ∧ Hid (FT W0 w2 lb mo 0 4))) := by
    refine (begun_any W0).mono fun e w1 ⟨he, b1⟩ => ⟨he, (HC.out w1 b1).1, within_add 4 M 100 (by decide) (by decide) (by decide) w1, fun mo hm => ?_⟩
    have hm' := hm.out
    refine (new_any 0 1 (mo : Nat) 0 (by decide) (by omega) (by decide) w1).mono fun e w2 ⟨he, h1, hb⟩ => ⟨_, he, 4, 0, ⟨_, h1, rfl, ?_, rfl, rfl, rfl, b1.trans (hb.mono b1.size), b1.size⟩, hm'.1, Nat.le_refl _, hm'.1, Nat.le_refl _⟩
    show moN (mo : Nat) = mo
    unfold moN; rw [if_neg (by omega)]; omega
  clear kc hO2 hO3 hO4 hb0 hlt
  go_enter Try.func5, Try.ntmps5
  go_upto_region 1 with fail
  rw [HW0.out, Hsb.out]
  go_upto_region 4 with (first
    | (go_at_call 7; refine HBG.out.mono ?_; rintro e w1 ⟨rfl, d0, HI, HN⟩)
    | (go_at_call 8; refine HI.out.mono ?_; rintro e w2 ⟨rfl, k1, mo, rfl, hm1, wm1, Hm⟩)
    | (go_at_call 9; refine (HN.out mo Hm).mono ?_; rintro e w3 ⟨lb, rfl, HF⟩))
  clear HBG HI HN d0
  -- how often it doubles
  obtain ⟨tn, Htn⟩ : ∃ tn : Nat, Hid (tn < 7 ∧ ∀ W : World, Calls Try.prog 8 #[.int .i64 Tm, .int .i64 7] W fun e w' => W = w' ∧ e = .returned (.int .i64 (tn : Nat))) :=
    ⟨(Tm % 7).toNat, by have := Int.emod_lt_of_pos Tm (show (0 : Int) < 7 by decide); have := Int.emod_nonneg Tm (show (7 : Int) ≠ 0 by decide); omega, fun W => within_any Tm 7 (by decide) (by decide) W⟩
  go_wp2_with fail
  go_loopg [4] (tn * 200 + 4) (fun q s4 wx => ∃ k l : Nat, k ≤ tn ∧ q = (tn - k) * 200 + l ∧ s4 = .int .i64 (k : Nat) ∧ l < 200 ∧ Hid (FT W0 wx lb mo k l))
  case atStart => exact ⟨0, 4, Nat.zero_le _, by rw [Nat.sub_zero], rfl, by decide, HF⟩
  case round =>
    clear HF
    obtain ⟨k, l, hk, rfl, rfl, hl, HX⟩ := hrel
    have hbx : Below W0.heap.size W0 wr := by obtain ⟨_, _, ⟨_, h⟩, _⟩ := HX.out; exact h.below
    obtain ⟨x0, x1, x2, x3, x4⟩ := HC.out wr hbx
    have HTN : Hid (Calls Try.prog 8 #[.int .i64 Tm, .int .i64 7] wr fun e w' => wr = w' ∧ e = .returned (.int .i64 (tn : Nat))) := Htn.out.2 wr
    have htn := Htn.out.1
    have hmo := Hm.out
    clear x0 x2 x3 x4 hbx
    by_cases hlt : k < tn
    · have zk : (k : Int) < (tn : Int) := by omega
      by_cases hl1 : 1 < l
      · have HT : Hid (Calls Try.prog 12 #[.pointer (some ⟨lb, 0, none⟩), .int .i64 0, .bool false, .bool true] wr fun e w' => e = .returned (.tuple #[.int .u64 0, .bool false]) ∧ Hid (FT W0 w' lb mo k (l - 1))) := (HX.out.tick (by omega)).mono fun e w' ⟨n, he, h⟩ => by
          rcases h with ⟨_, rfl, h⟩ | ⟨h, _⟩
          · exact ⟨he, h⟩
          · omega
        have hme : (tn - k) * 200 + (l - 1) < (tn - k) * 200 + l := by omega
        have HL : Hid (k ≤ tn ∧ l - 1 < 200) := ⟨hk, by omega⟩
        clear HX htn hmo hk hl hl1 hlt
        go_wp2_with (first
          | (go_at_call 8; refine HTN.out.mono ?_; rintro e w2 ⟨rfl, rfl⟩)
          | (go_at_call 12; refine HT.out.mono ?_; rintro e w2 ⟨rfl, HK⟩))
        go_roundg ((tn - k) * 200 + (l - 1))
        case measure => go_light; exact hme
        case rel => go_light; exact ⟨k, l - 1, HL.out.1, rfl, rfl, HL.out.2, HK⟩
      · have HT : Hid (Calls Try.prog 12 #[.pointer (some ⟨lb, 0, none⟩), .int .i64 0, .bool false, .bool true] wr fun e w' => ∃ n l' : Nat, e = .returned (.tuple #[.int .u64 (n : Nat), .bool false]) ∧ (((n : Nat) : Int) != 0) = true ∧ (n != 0) = true ∧ ((n : Nat) : Int) ≠ 0 ∧ Hid (l' < 200 ∧ (tn - (k + 1)) * 200 + l' < (tn - k) * 200 + l) ∧ Hid (FT W0 w' lb mo (k + 1) l')) := (HX.out.tick (by omega)).mono fun e w' ⟨n, he, h⟩ => by
          rcases h with ⟨h, _⟩ | ⟨_, hn, l', h⟩
          · omega
          · have hl' : l' ≤ mo := by obtain ⟨_, _, _, _, _, h, _⟩ := h.out; exact h
            exact ⟨n, l', he, by simpa using hn, by simpa using hn, by omega, ⟨by omega, by omega⟩, h⟩
        have wk : IntKind.i64.wrap ((k : Int) + 1) = (k : Int) + 1 := by rw [IntKind.wrap_i64]; omega
        have HL : Hid (k + 1 ≤ tn) := hlt
        clear HX htn hmo hk hl hl1 hlt
        go_wp2_with (first
          | (go_at_call 8; refine HTN.out.mono ?_; rintro e w2 ⟨rfl, rfl⟩)
          | (go_at_call 12; refine HT.out.mono ?_; rintro e w2 ⟨n, l', rfl, hn1, hn2, hn3, HL2, HK⟩))
        go_roundg ((tn - (k + 1)) * 200 + l')
        case measure => go_light; exact HL2.out.2
        case rel => go_light; exact ⟨k + 1, l', HL.out, rfl, by simp, HL2.out.1, HK⟩
    · have zk : ¬ (k : Int) < (tn : Int) := by omega
      obtain ⟨pt, sn, ⟨s, hR⟩, hp1, hp2, _⟩ := HX.out
      have HP : Hid (Calls Try.prog 13 #[.pointer (some ⟨lb, 0, none⟩)] wr fun e w' => e = .returned (.int .i64 (pt : Nat)) ∧ wr = w') := RE.pat ⟨s, hR⟩
      have HBG : Hid (Calls Try.prog 18 #[.pointer (some ⟨lb, 0, none⟩)] wr fun e w1 => e = .returned (.tuple #[]) ∧ Hid (Calls Try.prog 19 #[.pointer (some ⟨lb, 0, none⟩)] w1 fun e w2 => e = .returned (.tuple #[]) ∧ Hid (FS W0 w2 lb pt 0 0 0) ∧ Hid (Calls Try.prog 17 #[.pointer (some ⟨lb, 0, none⟩)] w2 fun e w3 => e = .returned (.int .i64 (pt + 1 : Nat)) ∧ w2 = w3))) :=
        (begunL_any hR.is).mono fun e w1 ⟨he1, h1, m1⟩ => ⟨he1, (doneL_any h1).mono fun e w2 ⟨he2, h2, m2⟩ => by
          have hb1 := m1.below hR.below hR.below.size (fun k hk => by have := hR.ge; omega)
          have hb2 := m2.below hb1 hb1.size (fun k hk => by have := hR.ge; omega)
          have hf : FS W0 w2 lb pt 0 0 0 := ⟨_, h2, hR.hp, rfl, rfl, hb2, hR.ge, by omega, by omega⟩
          exact ⟨he2, hf, hf.span⟩⟩
      have HPT : Hid (4 ≤ pt ∧ pt ≤ 103) := ⟨hp2, by omega⟩
      obtain ⟨ps, Hps⟩ : ∃ ps : Nat, Hid (pt + 1 = ps) := ⟨_, rfl⟩
      rw [Hps.out] at HBG
      clear HX hR htn hmo hk hl hlt hp1 hp2
      generalize wr = wrO at *
      go_wp2_with (first
        | (go_at_call 8; refine HTN.out.mono ?_; rintro e w2 ⟨rfl, rfl⟩)
        | (go_at_call 13; refine HP.out.mono ?_; rintro e w2 ⟨rfl, rfl⟩)
        | (go_at_call 18; refine HBG.out.mono ?_; rintro e w4 ⟨rfl, HDN⟩)
        | (go_at_call 19; refine HDN.out.mono ?_; rintro e w5 ⟨rfl, HFS, HSP⟩)
        | (go_at_call 17; refine HSP.out.mono ?_; rintro e w6 ⟨rfl, rfl⟩))
      go_loopg [8, 9, 10, 11] 40 (fun q s8 s9 s10 s11 wx => ∃ i wt now B F K : Nat, i ≤ 40 ∧ q = 40 - i ∧ s8 = .int .i64 (wt : Nat) ∧ s9 = .int .i64 (now : Nat) ∧ s10 = .int .i64 (B : Nat) ∧ s11 = .int .i64 (i : Nat) ∧ Hid (FS W0 wx lb pt F B now ∧ wt = pt + 1 - (now - K) ∧ B ≤ K ∧ K ≤ now ∧ F ≤ now ∧ B ≤ F ∧ now - B < pt ∧ now ≤ i * 36))
      case atStart => exact ⟨0, ps, 0, 0, 0, 0, by decide, rfl, rfl, rfl, rfl, rfl, HFS.out, by have := Hps.out; omega, Nat.le_refl _, Nat.le_refl _, Nat.le_refl _, Nat.le_refl _, by have := HPT.out; omega, Nat.le_refl _⟩
      case round =>
        clear HFS HSP HDN HBG HP HTN x1
        obtain ⟨i, wt, now, B, F, K, hi, rfl, rfl, rfl, rfl, rfl, HX⟩ := hrel
        have hbx : Below W0.heap.size W0 wr := HX.out.1.below
        by_cases hlt : i < 40
        · have zi : (i : Int) < 40 := by omega
          obtain ⟨x0, x1, x2, x3, x4⟩ := HC.out wr hbx
          have wi1 : IntKind.i64.wrap ((i : Int) + 1) = (i : Int) + 1 := by rw [IntKind.wrap_i64]; omega
          have HA2 : Hid (Calls Try.prog 20 #[.slice a2 L2.length c2, .int .i64 (i : Nat), .int .i64 5] wr fun e w' => wr = w' ∧ ∃ k g : Nat, e = .returned (.int .i64 (k : Nat)) ∧ (1 : Int) + (k : Int) = (g : Int) ∧ IntKind.i64.wrap (g : Int) = (g : Int) ∧ Hid (1 ≤ g ∧ g ≤ 5)) :=
            (at_any a2 c2 L2 i 5 (by omega) (by decide) (by decide) wr (HO2.out.on hbx)).mono fun e w' ⟨h1, k, he, hk⟩ => ⟨h1, k, 1 + k, he, by omega, by rw [IntKind.wrap_i64]; omega, by show _ ∧ _; omega⟩
          have HA3 : Hid (Calls Try.prog 20 #[.slice a3 L3.length c3, .int .i64 (i : Nat), .int .i64 30] wr fun e w' => wr = w' ∧ ∃ la l1 : Nat, e = .returned (.int .i64 (la : Nat)) ∧ (la : Int) + 1 = (l1 : Int) ∧ IntKind.i64.wrap (l1 : Int) = (l1 : Int) ∧ Hid (la < 30 ∧ l1 = la + 1)) :=
            (at_any a3 c3 L3 i 30 (by omega) (by decide) (by decide) wr (HO3.out.on hbx)).mono fun e w' ⟨h1, k, he, hk⟩ => ⟨h1, k, k + 1, he, by omega, by rw [IntKind.wrap_i64]; omega, by show _ ∧ _; omega⟩
          have HA4 : Hid (∀ m : Nat, Hid (0 < m ∧ m ≤ 30) → Calls Try.prog 20 #[.slice a4 L4.length c4, .int .i64 (i : Nat), .int .i64 (m : Nat)] wr fun e w' => wr = w' ∧ ∃ tk : Nat, e = .returned (.int .i64 (tk : Nat)) ∧ Hid (tk < m)) := fun m hm =>
            (at_any a4 c4 L4 i m (by omega) hm.out.1 (by have := hm.out; omega) wr (HO4.out.on hbx)).mono fun e w' ⟨h1, k, he, hk⟩ => ⟨h1, k, he, hk⟩
          generalize L2.length = n2 at *
          generalize L3.length = n3 at *
          generalize L4.length = n4 at *
          have HI40 : Hid (i < 40) := hlt
          clear hbx x0 x1 hlt hi
          go_upto_region 20 with (first
            | (go_at_call 20; with_reducible refine HA2.out.mono ?_; rintro e w6 ⟨rfl, kg, g, rfl, hg1, wg1, Hg⟩)
            | (go_at_call 20; with_reducible refine HA3.out.mono ?_; rintro e w6 ⟨rfl, la, l1, rfl, hl1, wl1, Hl⟩))
          have HA5 : Hid (Calls Try.prog 20 #[.slice a4 n4 c4, .int .i64 (i : Nat), .int .i64 (l1 : Nat)] wr fun e w' => wr = w' ∧ ∃ tk : Nat, e = .returned (.int .i64 (tk : Nat)) ∧ Hid (tk < l1)) := HA4.out l1 (by have := Hl.out; show _ ∧ _; omega)
          clear HA2 HA3 HA4
          go_upto_region 21 with (go_at_call 20; refine HA5.out.mono ?_; rintro e w6 ⟨rfl, tk, rfl, Ht⟩)
          clear HA5 x2 x3 x4
          obtain ⟨gl, hgl, hgl2⟩ : ∃ x : Nat, (g : Int) + (la : Int) = (x : Int) ∧ x = g + la := ⟨g + la, by omega, rfl⟩
          obtain ⟨gt, hgt, hgt2⟩ : ∃ x : Nat, (g : Int) + (tk : Int) = (x : Int) ∧ x = g + tk := ⟨g + tk, by omega, rfl⟩
          have HG : Hid (gl = g + la ∧ gt = g + tk ∧ 1 ≤ g ∧ g ≤ 5 ∧ la < 30 ∧ tk ≤ la ∧ i < 40) := by have := Hg.out; have := Hl.out; have := Ht.out; have := HI40.out; show _ ∧ _; omega
          have wgl : IntKind.i64.wrap (gl : Int) = (gl : Int) := by have := HG.out; rw [IntKind.wrap_i64]; omega
          have wgt : IntKind.i64.wrap (gt : Int) = (gt : Int) := by have := HG.out; rw [IntKind.wrap_i64]; omega
          clear hgl2 hgt2 hg1 wg1 hl1 wl1 Hg Hl Ht HI40
          generalize wr = wrP at *
          go_wp2_with fail
          go_loopg [8, 9, 10, 15, 16] gl (fun q s8 s9 s10 s15 s16 wx => ∃ x wt now B F K fr : Nat, q = gl - x ∧ s8 = .int .i64 (wt : Nat) ∧ s9 = .int .i64 (now : Nat) ∧ s10 = .int .i64 (B : Nat) ∧ s15 = .int .i64 (fr : Nat) ∧ s16 = .int .i64 (x : Nat) ∧ Hid (FS W0 wx lb pt F B now ∧ wt = pt + 1 - (now - K) ∧ B ≤ K ∧ K ≤ now ∧ F ≤ now ∧ B ≤ F ∧ now - B < pt ∧ now ≤ i * 36 + x ∧ x ≤ gl ∧ (g < x → fr = F) ∧ (gt < x → F ≤ K)))
          case atStart => exact ⟨0, wt, now, B, F, K, 0, rfl, rfl, rfl, rfl, rfl, rfl, HX.out.1, HX.out.2.1, HX.out.2.2.1, HX.out.2.2.2.1, HX.out.2.2.2.2.1, HX.out.2.2.2.2.2.1, HX.out.2.2.2.2.2.2.1, HX.out.2.2.2.2.2.2.2, Nat.zero_le _, fun h => by omega, fun h => by omega⟩
          case round =>
            clear HX
            obtain ⟨x, wt, now, B, F, K, fr, rfl, rfl, rfl, rfl, rfl, rfl, HX⟩ := hrel
            have zx : (x : Int) ≤ (gl : Int) := by have := HX.out; omega
            have wi1 : IntKind.i64.wrap ((i : Int) + 1) = (i : Int) + 1 := by have := HG.out; rw [IntKind.wrap_i64]; omega
            have HBGN : Hid (Calls Try.prog 18 #[.pointer (some ⟨lb, 0, none⟩)] wr fun e w' => e = .returned (.tuple #[]) ∧ Hid (FS W0 w' lb pt now B now)) := HX.out.1.begun
            go_upto_if 76 with fail
            go_cut [15] from 67 to 116 (fun s15 wx => ∃ F' fr' : Nat, s15 = .int .i64 (fr' : Nat) ∧ Hid (FS W0 wx lb pt F' B now ∧ F' ≤ now ∧ B ≤ F' ∧ (g ≤ x → fr' = F') ∧ (gt < x → F' ≤ K)))
            case first =>
              by_cases hxg : x = g
              · have z1 : ((x : Int) == (g : Int)) = true := by simp [hxg]
                have z2 : (x == g) = true := by simp [hxg]
                have HQ : Hid (B ≤ now ∧ (gt < x → now ≤ K)) := by have h1 := HX.out; have h2 := HG.out; exact ⟨by omega, fun h => by omega⟩
                clear hxg
                go_wp2_with (go_at_call 18; refine HBGN.out.mono ?_; rintro e w7 ⟨rfl, HK⟩)
                go_meet
                case rel => go_light; exact ⟨now, now, rfl, HK.out, Nat.le_refl _, HQ.out.1, fun _ => rfl, HQ.out.2⟩
              · have z1 : ((x : Int) == (g : Int)) = false := by simp; omega
                have z2 : (x == g) = false := by simp; omega
                have HQ : Hid (F ≤ now ∧ B ≤ F ∧ (g ≤ x → fr = F) ∧ (gt < x → F ≤ K)) := by have h1 := HX.out; exact ⟨by omega, by omega, fun h => h1.2.2.2.2.2.2.2.2.2.1 (by omega), h1.2.2.2.2.2.2.2.2.2.2⟩
                clear hxg
                go_wp2_with fail
                go_meet
                case rel => go_light; exact ⟨F, fr, rfl, HX.out.1, HQ.out⟩
            case rest =>
              obtain ⟨F', fr', rfl, HY⟩ := hcut
              have HSPN : Hid (Calls Try.prog 17 #[.pointer (some ⟨lb, 0, none⟩)] wc fun e w' => e = .returned (.int .i64 (ps : Nat)) ∧ wc = w') := by have := HY.out.1.span; rw [Hps.out] at this; exact this
              clear HBGN
              go_upto_if 84 with fail
              go_cut [8] from 67 to 116 (fun s8 wx => ∃ wt' K' : Nat, s8 = .int .i64 (wt' : Nat) ∧ wc = wx ∧ Hid (wt' = pt + 1 - (now - K') ∧ B ≤ K' ∧ K' ≤ now ∧ (gt ≤ x → F' ≤ K')))
              case first =>
                by_cases hxg : x = gt
                · have z1 : ((x : Int) == (gt : Int)) = true := by simp [hxg]
                  have z2 : (x == gt) = true := by simp [hxg]
                  have HQ : Hid (ps = pt + 1 - (now - now) ∧ B ≤ now ∧ now ≤ now ∧ (gt ≤ x → F' ≤ now)) := by have h1 := HX.out; have h2 := Hps.out; have h3 := HY.out; exact ⟨by omega, by omega, Nat.le_refl _, fun _ => h3.2.1⟩
                  clear hxg
                  go_wp2_with (go_at_call 17; refine HSPN.out.mono ?_; rintro e w7 ⟨rfl, rfl⟩)
                  go_meet
                  case rel => go_light; exact ⟨ps, now, rfl, rfl, HQ⟩
                · have z1 : ((x : Int) == (gt : Int)) = false := by simp; omega
                  have z2 : (x == gt) = false := by simp; omega
                  have HQ : Hid (wt = pt + 1 - (now - K) ∧ B ≤ K ∧ K ≤ now ∧ (gt ≤ x → F' ≤ K)) := by have h1 := HX.out; have h3 := HY.out; exact ⟨h1.2.1, h1.2.2.1, h1.2.2.2.1, fun h => h3.2.2.2.2 (by omega)⟩
                  clear hxg
                  go_wp2_with fail
                  go_meet
                  case rel => go_light; exact ⟨wt, K, rfl, rfl, HQ⟩
              case rest =>
                obtain ⟨wt', K', rfl, rfl, HZ⟩ := hcut
                by_cases hxl : x = gl
                · have z1 : ((x : Int) == (gl : Int)) = true := by simp [hxl]
                  have z2 : (x == gl) = true := by simp [hxl]
                  have HDN : Hid (Calls Try.prog 19 #[.pointer (some ⟨lb, 0, none⟩)] wc fun e w' => e = .returned (.tuple #[]) ∧ Hid (FS W0 w' lb pt F' F' now)) := HY.out.1.done
                  have hfr : fr' = F' := by have h1 := HY.out; have h2 := HG.out; exact h1.2.2.2.1 (by omega)
                  have HQ : Hid (wt' = pt + 1 - (now - K') ∧ fr' ≤ K' ∧ K' ≤ now ∧ F' ≤ now ∧ fr' ≤ F' ∧ now - fr' < pt ∧ now ≤ (i + 1) * 36) := by
                    have h1 := HX.out; have h2 := HG.out; have h3 := HY.out; have h4 := HZ.out
                    have h5 := h4.2.2.2 (by omega)
                    show _ ∧ _
                    omega
                  have hme : 40 - (i + 1) < 40 - i := by have h2 := HG.out; omega
                  have hi1 : i + 1 ≤ 40 := by have h2 := HG.out; omega
                  subst hfr
                  clear hxl HSPN HX HY HZ
                  go_wp2_with (go_at_call 19; refine HDN.out.mono ?_; rintro e w7 ⟨rfl, HK⟩)
                  go_roundg (40 - (i + 1))
                  case measure => go_light; exact hme
                  case rel => go_light; exact ⟨i + 1, wt', now, fr', fr', K', hi1, rfl, rfl, rfl, rfl, by simp, HK.out, HQ.out⟩
                · have z1 : ((x : Int) == (gl : Int)) = false := by simp; omega
                  have z2 : (x == gl) = false := by simp; omega
                  have h1 := HX.out
                  have h2 := HG.out
                  have h3 := HY.out
                  have h4 := HZ.out
                  have h5 := HPT.out
                  obtain ⟨N1, hN1, hN2⟩ : ∃ y : Nat, (now : Int) + 1 = (y : Int) ∧ y = now + 1 := ⟨now + 1, by omega, rfl⟩
                  obtain ⟨w1, hw1, hw2⟩ : ∃ y : Nat, (wt' : Int) - 1 = (y : Int) ∧ y = wt' - 1 := ⟨wt' - 1, by omega, rfl⟩
                  obtain ⟨D1, hD1, hD2⟩ : ∃ y : Nat, (N1 : Int) - (B : Int) = (y : Int) ∧ y = N1 - B := ⟨N1 - B, by omega, rfl⟩
                  have wN : IntKind.i64.wrap (N1 : Int) = (N1 : Int) := by rw [IntKind.wrap_i64]; omega
                  have wW : IntKind.i64.wrap (w1 : Int) = (w1 : Int) := by rw [IntKind.wrap_i64]; omega
                  have wD : IntKind.i64.wrap (D1 : Int) = (D1 : Int) := by rw [IntKind.wrap_i64]; omega
                  have wx1 : IntKind.i64.wrap ((x : Int) + 1) = (x : Int) + 1 := by rw [IntKind.wrap_i64]; omega
                  have zw : (wt' : Int) > 0 := by omega
                  have HT : Hid (Calls Try.prog 12 #[.pointer (some ⟨lb, 0, none⟩), .int .i64 3, .bool true, .bool false] wc fun e w' => e = .returned (.tuple #[.int .u64 0, .bool (decide (pt ≤ D1))]) ∧ Hid (FS W0 w' lb pt F' B N1)) := by
                    have := h3.1.tick h3.2.1 (by omega) (by omega)
                    rw [← hN2, ← hD2] at this
                    exact this
                  by_cases hen : pt ≤ D1
                  · rw [show decide (pt ≤ D1) = true by simpa using hen] at HT
                    have zd : (D1 : Int) ≥ (pt : Int) := by omega
                    have HT2 : Hid (Calls Try.prog 12 #[.pointer (some ⟨lb, 0, none⟩), .int .i64 3, .bool true, .bool false] wc fun e w' => e = .returned (.tuple #[.int .u64 0, .bool true]) ∧ Hid (Calls Try.prog 7 #[] w' fun e w' => e = .returned (.bool true) ∧ Hid (Below sb w w'))) := HT.out.mono fun e w' ⟨he, hk⟩ => ⟨he, HEND.out w' hk.out.below⟩
                    clear h1 h2 h3 h4 h5 hN2 hw2 hD2 HT HX HY HZ HSPN hxl hen
                    go_wp2_with (first
                      | (go_at_call 12; refine HT2.out.mono ?_; rintro e w7 ⟨rfl, HE⟩)
                      | (go_at_call 7; refine HE.out.mono ?_; rintro e w8 ⟨rfl, HK⟩))
                    go_ret
                    rw [Hsb.out]
                    exact ⟨rfl, HK.out⟩
                  · rw [show decide (pt ≤ D1) = false by simpa using hen] at HT
                    have zd : ¬ (D1 : Int) ≥ (pt : Int) := by omega
                    have zw1 : ¬ (w1 : Int) < 1 := by omega
                    have HQ : Hid (w1 = pt + 1 - (N1 - K') ∧ B ≤ K' ∧ K' ≤ N1 ∧ F' ≤ N1 ∧ B ≤ F' ∧ N1 - B < pt ∧ N1 ≤ i * 36 + (x + 1) ∧ x + 1 ≤ gl ∧ (g < x + 1 → fr' = F') ∧ (gt < x + 1 → F' ≤ K')) :=
                      ⟨by omega, by omega, by omega, by omega, by omega, by omega, by omega, by omega, fun h => h3.2.2.2.1 (by omega), fun h => h4.2.2.2 (by omega)⟩
                    have hme : gl - (x + 1) < gl - x := by omega
                    clear h1 h2 h3 h4 h5 hN2 hw2 hD2 HX HY HZ HSPN hxl hen
                    go_wp2_with (go_at_call 12; refine HT.out.mono ?_; rintro e w7 ⟨rfl, HK⟩)
                    go_roundg (gl - (x + 1))
                    case measure => go_light; exact hme
                    case rel => go_light; exact ⟨x + 1, w1, N1, B, F', K', fr', rfl, rfl, rfl, rfl, rfl, by simp, HK.out, HQ.out⟩
        · have zi : ¬ (i : Int) < 40 := by omega
          have HE : Hid (Calls Try.prog 7 #[] wr fun e w' => e = .returned (.bool true) ∧ Hid (Below sb w w')) := HEND.out wr hbx
          clear HX hbx hi hlt
          go_wp2_with (go_at_call 7; refine HE.out.mono ?_; rintro e w6 ⟨rfl, HK⟩)
          go_ret
          rw [Hsb.out]
          exact ⟨rfl, HK.out⟩
end Go.Proofs.Ytcbebepngencjaa
