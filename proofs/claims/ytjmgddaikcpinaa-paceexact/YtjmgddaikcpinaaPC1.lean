/- Package pace: a pace in memory, its calls. -/
import Derived.Test.YtjmgddaikcpinaaRows
import Derived.WalkKit
import Derived.Laws.BitsAllLaws
import Derived.Deep.LoopGhost
import Derived.Deep.OwnRows
import Derived.Deep.Cut
import Derived.Deep.Light
import Derived.Deep.CutRange
import Derived.CellFam
import Derived.BigGuard
import Derived.BigQuiet
import Derived.BigRegion
import Derived.Deep.RegionWith
import Derived.Deep.QuietTactic
import Derived.Deep.RegionLaw
import Derived.Deep.RegionHeld3
import Derived.Laws.EntriesVeiled
import Derived.Laws.ByValue
import Derived.Laws.ResultCell
import Derived.Laws.NewBlocks
import Derived.Laws.Rows
import Derived.Below
namespace Go.Proofs.Ytjmgddaikcpinaa
open Go.RowKit
set_option maxRecDepth 100000
set_option maxRecDepth 100000

/-- What a step leaves: nothing outside F has turned. -/
structure Mv (F : Nat → Prop) (w w' : World) : Prop where
  os : w'.os = w.os
  tape : w'.tape = w.tape
  output : w'.output = w.output
  size : w.heap.size ≤ w'.heap.size
  block : ∀ k, k < w.heap.size → ¬ F k → w'.heap[k]? = w.heap[k]?
theorem Mv.trans {F : Nat → Prop} {a b c : World} (h : Mv F a b) (k : Mv F b c) : Mv F a c :=
  ⟨k.os.trans h.os, k.tape.trans h.tape, k.output.trans h.output, Nat.le_trans h.size k.size, fun q hq hn => (k.block q (Nat.lt_of_lt_of_le hq h.size) hn).trans (h.block q hq hn)⟩
theorem Mv.refl (F : Nat → Prop) (w : World) : Mv F w w := ⟨rfl, rfl, rfl, Nat.le_refl _, fun _ _ _ => rfl⟩
theorem Mv.of_below {F : Nat → Prop} {w w' : World} (h : Below w.heap.size w w') : Mv F w w' := ⟨h.os, h.tape, h.output, h.size, fun k hk _ => h.block k hk⟩
theorem Mv.below {F : Nat → Prop} {w0 w w' : World} {B : Nat} (h0 : Below B w0 w) (hB : B ≤ w.heap.size) (hF : ∀ k, F k → B ≤ k) (h : Mv F w w') : Below B w0 w' :=
  h0.trans ⟨h.os, h.tape, h.output, h.size, fun k hk => h.block k (Nat.lt_of_lt_of_le hk hB) (fun hf => by have := hF k hf; omega)⟩
theorem Mv.mono {F G : Nat → Prop} {w w' : World} (h : Mv F w w') (hG : ∀ k, F k → G k) : Mv G w w' := ⟨h.os, h.tape, h.output, h.size, fun k hk hn => h.block k hk (fun hf => hn (hG k hf))⟩
theorem Mv.drewN {F : Nat → Prop} {w w' : World} (h : Mv F w w') (q : Nat) : Mv F (w.drewN q) w' := ⟨h.os, h.tape, h.output, h.size, h.block⟩

/-- The cells of a pace: left, gap, and the doubling up to a cap. -/
def pcCell (l g m : Nat) (i : Nat) : Value := if i = 0 then .int .i64 (l : Nat) else if i = 1 then .int .i64 (g : Nat) else .func (.func 16) #[.int .i64 (m : Nat)] #[]
structure PcIs (w : World) (b l g m : Nat) : Prop where
  row : w.rowIs b 49 3 (pcCell l g m)
  hm : m ≤ 64
  h1 : 1 ≤ g
  hg : g ≤ m
  hl : l ≤ m
theorem PcIs.later {w w' : World} {b l g m : Nat} (h : PcIs w b l g m) (hb : w'.heap[b]? = w.heap[b]?) : PcIs w' b l g m := ⟨h.row.of_block hb, h.hm, h.h1, h.hg, h.hl⟩
theorem PcIs.on {w w' : World} {b l g m : Nat} (h : PcIs w b l g m) (hb : Below w.heap.size w w') : PcIs w' b l g m := h.later (hb.block b h.row.lt)
theorem PcIs.c0 {w : World} {b l g m : Nat} (h : PcIs w b l g m) : w.cell? ⟨b, 0, none⟩ = some (.int .i64 (l : Nat)) := h.row.cell (i := 0) (by decide)
theorem PcIs.c1 {w : World} {b l g m : Nat} (h : PcIs w b l g m) : w.cell? ⟨b, 1, none⟩ = some (.int .i64 (g : Nat)) := h.row.cell (i := 1) (by decide)
theorem PcIs.c2 {w : World} {b l g m : Nat} (h : PcIs w b l g m) : w.cell? ⟨b, 2, none⟩ = some (.func (.func 16) #[.int .i64 (m : Nat)] #[]) := h.row.cell (i := 2) (by decide)

/-- One cell of a row is written. -/
theorem set_mv {w : World} {b t n i : Nat} {f : Nat → Value} (_ : w.rowIs b t n f) (v : Value) : Mv (fun k => k = b) w (w.setCell ⟨b, i, none⟩ v) :=
  ⟨rfl, rfl, rfl, by simp [World.setCell], fun k _ hn => Below.heap_setCell _ _ _ _ hn⟩

theorem into_any (K : Int) (m : Nat) (hm : 0 < m) (hm2 : m ≤ 1000000) (w : World) : Calls Try.prog 6 #[.int .i64 K, .int .i64 (m : Nat)] w fun e w' => w = w' ∧ ∃ k : Nat, k < m ∧ e = .returned (.int .i64 (k : Nat)) := by
  have h1 := Int.tmod_lt_of_pos K (show (0 : Int) < (m : Int) by omega)
  have h2 := Int.lt_tmod_of_pos K (show (0 : Int) < (m : Int) by omega)
  have h0 : ¬ (m : Int) = 0 := by omega
  have h0' : ((m : Int) == 0) = false := by simp; omega
  have hmw : IntKind.i64.wrap (K.tmod m) = K.tmod m := by rw [IntKind.wrap_i64]; omega
  by_cases hn : K.tmod m < 0
  · obtain ⟨k, hk, hk2⟩ : ∃ k : Nat, K.tmod m + (m : Int) = (k : Int) ∧ k < m := ⟨(K.tmod m + m).toNat, by omega, by omega⟩
    have hw : IntKind.i64.wrap (k : Int) = (k : Int) := by rw [IntKind.wrap_i64]; omega
    go_enter Try.func6, Try.ntmps6
    go_wp2
    go_ret
    exact ⟨rfl, k, hk2, rfl⟩
  · obtain ⟨k, hk, hk2⟩ : ∃ k : Nat, K.tmod m = (k : Int) ∧ k < m := ⟨(K.tmod m).toNat, by omega, by omega⟩
    rw [hk] at hmw hn
    go_enter Try.func6, Try.ntmps6
    go_wp2
    go_ret
    exact ⟨rfl, k, hk2, rfl⟩

theorem wait_any {w : World} {b l g m : Nat} (h : PcIs w b l g m) : Calls Try.prog 10 #[.pointer (some ⟨b, 0, none⟩)] w fun e w' => e = .returned (.int .i64 (l : Nat)) ∧ w = w' := by
  have c0 := h.c0
  clear h
  go_enter Try.func10, Try.ntmps10
  go_wp2
  go_ret
  exact ⟨rfl, rfl⟩

theorem PcIs.reset {w : World} {b l g m : Nat} (h : w.rowIs b 49 3 (pcCell l g m)) (hm : m ≤ 64) (h1 : 1 ≤ m) : PcIs ((w.setCell ⟨b, 0, none⟩ (.int .i64 0)).setCell ⟨b, 1, none⟩ (.int .i64 1)) b 0 1 m ∧ Mv (fun k => k = b) w ((w.setCell ⟨b, 0, none⟩ (.int .i64 0)).setCell ⟨b, 1, none⟩ (.int .i64 1)) := by
  have r1 := h.set 0 (.int .i64 0)
  refine ⟨⟨?_, hm, Nat.le_refl _, h1, Nat.zero_le _⟩, (set_mv h _).trans (set_mv r1 _)⟩
  refine (r1.set 1 (.int .i64 1)).congr (fun i hi => ?_)
  match i, hi with
  | 0, _ => rfl
  | 1, _ => rfl
  | 2, _ => rfl
theorem reset_row {w : World} {b l g m : Nat} (h : w.rowIs b 49 3 (pcCell l g m)) (hm : m ≤ 64) (h1 : 1 ≤ m) : Calls Try.prog 9 #[.pointer (some ⟨b, 0, none⟩)] w fun e w' => e = .returned (.tuple #[]) ∧ PcIs w' b 0 1 m ∧ Mv (fun k => k = b) w w' := by
  have H := PcIs.reset h hm h1
  have c0 : w.cell? ⟨b, 0, none⟩ = some (.int .i64 (l : Nat)) := h.cell (i := 0) (by decide)
  have f0 : w.frozen? ⟨b, 0, none⟩ = false := h.frozen 0
  have r1 := h.set 0 (.int .i64 0)
  obtain ⟨W1, HW1⟩ : ∃ W, Hid (w.setCell ⟨b, 0, none⟩ (.int .i64 0) = W) := ⟨_, rfl⟩
  rw [HW1.out] at H r1
  have c1 : W1.cell? ⟨b, 1, none⟩ = some (.int .i64 (g : Nat)) := r1.cell (i := 1) (by decide)
  have f1 : W1.frozen? ⟨b, 1, none⟩ = false := r1.frozen 1
  have HK : Hid (PcIs (W1.setCell ⟨b, 1, none⟩ (.int .i64 1)) b 0 1 m ∧ Mv (fun k => k = b) w (W1.setCell ⟨b, 1, none⟩ (.int .i64 1))) := H
  obtain ⟨W2, HW2⟩ : ∃ W, Hid (W1.setCell ⟨b, 1, none⟩ (.int .i64 1) = W) := ⟨_, rfl⟩
  rw [HW2.out] at HK
  have HE := HW1.out
  clear H r1 h
  subst HE
  go_enter Try.func9, Try.ntmps9
  go_wp2
  rw [HW2.out]
  go_end0
  exact ⟨rfl, HK.out⟩
theorem reset_any {w : World} {b l g m : Nat} (h : PcIs w b l g m) : Calls Try.prog 9 #[.pointer (some ⟨b, 0, none⟩)] w fun e w' => e = .returned (.tuple #[]) ∧ PcIs w' b 0 1 m ∧ Mv (fun k => k = b) w w' := reset_row h.row h.hm (by have := h.h1; have := h.hg; omega)

theorem double_any (m g : Nat) (hg : g ≤ 64) (w : World) : Calls Try.prog 16 #[.int .i64 (m : Nat), .int .i64 (g : Nat)] w fun e w' => e = .returned (.int .i64 ((min (2 * g) m : Nat) : Int)) ∧ w' = w := by
  obtain ⟨k, hk, hk2⟩ : ∃ k : Nat, 2 * (g : Int) = (k : Int) ∧ k = 2 * g := ⟨2 * g, by omega, rfl⟩
  have hw : IntKind.i64.wrap (k : Int) = (k : Int) := by rw [IntKind.wrap_i64]; omega
  rw [← hk2]
  by_cases hc : k ≤ m
  · have e1 : min k m = k := Nat.min_eq_left hc
    have e2 : min (k : Int) (m : Int) = (k : Int) := by omega
    have hz : ¬ (m : Int) < (k : Int) := by omega
    rw [e1]
    clear hk2
    go_enter Try.func16, Try.ntmps16
    go_wp2
    go_ret
    exact ⟨rfl, rfl⟩
  · have e1 : min k m = m := Nat.min_eq_right (by omega)
    have e2 : min (k : Int) (m : Int) = (m : Int) := by omega
    have hz : (m : Int) < (k : Int) := by omega
    rw [e1]
    clear hk2
    go_enter Try.func16, Try.ntmps16
    go_wp2
    go_ret
    exact ⟨rfl, rfl⟩
end Go.Proofs.Ytjmgddaikcpinaa
