/- Small laws on rows of bytes that the walks of this seat share; the walk of tallyref0.Copy. -/
import Derived.Test.YtgpmoakfbhcidaaRows
import Derived.WalkKit
import Derived.Laws.BitsAllLaws
import Derived.Deep.LoopGhost
import Derived.Deep.OwnRows
import Derived.Deep.Cut
import Derived.Deep.Light
import Derived.Deep.CutRange
import Derived.CellFam
import Derived.BigGuard
import Derived.Lib.SlBytesConst
import Derived.BigQuiet
import Derived.BigRegion
import Derived.Deep.RegionWith
import Derived.Deep.QuietTactic
import Derived.Laws.IdiomCopy
namespace Go.Proofs.Ytgpmoakfbhcidaa
open Go.RowKit
set_option maxRecDepth 100000

theorem hide {p : Prop} (h : p) : Hid p := h
theorem unhide {p : Prop} (h : Hid p) : p := h
theorem since_mono {B B' : Nat} {w w' : World} (h : w.Since B w') (hB : B' ≤ B) : w.Since B' w' := ⟨h.os, h.tape, h.output, h.size, fun k hk => h.block k (by omega)⟩
theorem Try.info5 : (Try.prog.info? 5).map (fun i => (i.zero, i.size, i.bytes)) = some (some (.int .u8 0), 1, 1) := by kernel_rfl
theorem Try.size5 : (Try.prog.info? 5).map (·.size) = some 1 := by kernel_rfl

/-- A slice's cells hold these bytes. -/
def Byt (w : World) (a : Option Addr) (len : Nat) (x : Nat → Nat) : Prop := ∀ j, j < len → ∃ b off, a = some ⟨b, off, none⟩ ∧ w.cell? ⟨b, off + j, none⟩ = some (.int .u8 (x j : Nat))

theorem Byt.since {w w' : World} {a : Option Addr} {len : Nat} {x : Nat → Nat} (h : Byt w a len x) (hs : w.Since w.heap.size w') : Byt w' a len x := fun j hj => by
  obtain ⟨b, off, e, hc⟩ := h j hj
  exact ⟨b, off, e, by rw [hs.cell (a := ⟨b, off + j, none⟩) (World.block_lt_of_cell? _ _ hc)]; exact hc⟩
theorem Byt.of_row {w : World} {b t n : Nat} {x : Nat → Nat} (h : w.rowIs b t n (fun j => .int .u8 (x j : Nat))) : Byt w (some ⟨b, 0, none⟩) n x := fun j hj =>
  ⟨b, 0, rfl, by have := h.cell hj; simpa using this⟩
theorem Byt.drewN {w : World} {a : Option Addr} {len : Nat} {x : Nat → Nat} (h : Byt w a len x) (n : Nat) : Byt (w.drewN n) a len x := fun j hj => h j hj
theorem Byt.le {w : World} {a : Option Addr} {len m : Nat} {x : Nat → Nat} (h : Byt w a len x) (hm : m ≤ len) : Byt w a m x := fun j hj => h j (by omega)

theorem getD_range_map (f : Nat → Nat) (n j : Nat) (h : j < n) : ((List.range n).map f).getD j 0 = f j := by
  simp [List.getD, h]
theorem lt_range_map (f : Nat → Nat) (n j : Nat) (h : ∀ i, f i < 256) : ((List.range n).map f).getD j 0 < 256 := by
  by_cases hj : j < n
  · rw [getD_range_map f n j hj]; exact h j
  · simp [List.getD, hj]
theorem since_setCells {B b : Nat} {w : World} (hb : B ≤ b) : ∀ (vs : List Value) (o : Nat) (w' : World), w.Since B w' → w.Since B (w'.setCells b o vs)
  | [], _, _, h => h
  | v :: r, o, _, h => since_setCells hb r (o + 1) _ (h.setCell (a := ⟨b, o, none⟩) hb v)
theorem size_setCells (b : Nat) : ∀ (vs : List Value) (o : Nat) (w : World), (w.setCells b o vs).heap.size = w.heap.size
  | [], _, _ => rfl
  | v :: r, o, w => by rw [World.setCells, size_setCells b r (o + 1)]; simp [World.setCell]
theorem rowIs_setCells {b t n : Nat} : ∀ (vs : List Value) (o : Nat) (w : World) (f : Nat → Value), w.rowIs b t n f → (w.setCells b o vs).rowIs b t n (fun j => if o ≤ j ∧ j < o + vs.length then vs.getD (j - o) undef else f j)
  | [], o, w, f, h => h.congr (fun i _ => by simp; omega)
  | v :: r, o, w, f, h => by
    refine (rowIs_setCells r (o + 1) _ _ (h.set o v)).congr (fun i _ => ?_)
    by_cases e : i = o
    · subst e
      rw [if_neg (by omega), if_pos rfl, if_pos (by simp)]; simp
    · by_cases hin : o + 1 ≤ i ∧ i < o + 1 + r.length
      · rw [if_pos hin, if_pos (by simp; omega)]
        rw [show i - o = (i - (o + 1)) + 1 by omega]; simp
      · rw [if_neg hin, if_neg e, if_neg (by simp; omega)]

/-- tallyref0.Copy: the same bytes in new memory. -/
theorem copy_any (a : Option Addr) (len cap : Nat) (x : Nat → Nat) (w : World) (hmax : len ≤ 281474976710656) (hc : Byt w a len x) :
    Calls Try.prog 42 #[.slice a len cap] w fun e w' => e = .returned (.slice (some ⟨w.heap.size, 0, none⟩) len len) ∧ w.Since w.heap.size w' ∧ w'.heap.size = w.heap.size + 1 ∧ w'.rowIs w.heap.size 5 len (fun j => .int .u8 (x j : Nat)) := by
  have hmk := run_make_row' (P := Try.prog) 53 5 (.int .u8 0) 1 Try.underlying53 Try.info5 rfl .i64 .i64 len (by omega) (by omega)
  have hs0 : w.Since w.heap.size (w.alloc (.cells (madeCells #[.int .u8 0] len) 5)) := (World.Since.refl _ _).alloc (Nat.le_refl _) _
  have hr0 := World.rowIs_made w (.int .u8 0) len 5
  have hz0 : (w.alloc (.cells (madeCells #[.int .u8 0] len) 5)).heap.size = w.heap.size + 1 := by simp
  generalize hW : w.alloc (.cells (madeCells #[.int .u8 0] len) 5) = W at *
  rcases Nat.eq_zero_or_pos len with rfl | hp
  · have hcp := run_copy_none (P := Try.prog) W 53 53 3 5 (some ⟨w.heap.size, 0, none⟩) a 0 0 0 cap Try.underlying53 Try.size5 (by simp)
    have hmk0 : (Instr.makeSlice 53 (.int .i64 0) (.int .i64 0)).run Try.prog w = .ok (.slice (some ⟨w.heap.size, 0, none⟩) 0 0) W := by rw [← hW]; simpa using hmk w
    clear hmk hW
    go_enter Try.func42, Try.ntmps42
    go_wp2
    go_ret
    exact ⟨rfl, hs0, hz0, hr0.congr (fun j hj => by omega)⟩
  · obtain ⟨b, off, rfl, _⟩ := hc 0 hp
    have hc' : ∀ j, j < len → w.cell? ⟨b, off + j, none⟩ = some (.int .u8 (x j : Nat)) := fun j hj => by obtain ⟨b', off', e, hh⟩ := hc j hj; cases e; exact hh
    have hcp := run_copy_cells (P := Try.prog) W 53 53 3 5 w.heap.size 0 len len ⟨b, off, none⟩ len cap ((List.range len).map fun j => .int .u8 (x j : Nat)) Try.underlying53 Try.size5 (by simp)
      (fun j v hv => by
        have hj : j < len := by have := (List.getElem?_eq_some_iff.1 hv).1; simpa using this
        have : v = .int .u8 (x j : Nat) := by rw [List.getElem?_map, List.getElem?_range hj] at hv; simpa using hv.symm
        rw [this, show (⟨b, off, none⟩ : Addr).add j = ⟨b, off + j, none⟩ by simp [Addr.add], hs0.cell (a := ⟨b, off + j, none⟩) (World.block_lt_of_cell? _ _ (hc' j hj))]
        exact hc' j hj)
      (fun j hj => by rw [Nat.zero_add, hr0.cell (by simpa using hj)]; rfl) (fun j _ => by rw [Nat.zero_add]; exact hr0.frozen j) (fun v hv => by obtain ⟨j, _, rfl⟩ := List.mem_map.1 hv; rfl)
    have hend : w.Since w.heap.size (W.setCells w.heap.size 0 ((List.range len).map fun j => .int .u8 (x j : Nat))) ∧ (W.setCells w.heap.size 0 ((List.range len).map fun j => .int .u8 (x j : Nat))).heap.size = w.heap.size + 1 ∧
        (W.setCells w.heap.size 0 ((List.range len).map fun j => .int .u8 (x j : Nat))).rowIs w.heap.size 5 len (fun j => .int .u8 (x j : Nat)) :=
      ⟨since_setCells (Nat.le_refl _) _ _ _ hs0, by rw [size_setCells]; exact hz0, (rowIs_setCells _ 0 _ _ hr0).congr (fun j hj => by
        rw [if_pos (by simp; exact hj)]; simp [List.getD, hj])⟩
    have hmk1 : (Instr.makeSlice 53 (.int .i64 len) (.int .i64 len)).run Try.prog w = .ok (.slice (some ⟨w.heap.size, 0, none⟩) len len) W := by rw [← hW]; exact hmk w
    clear hmk hW
    generalize W.setCells w.heap.size 0 ((List.range len).map fun j => .int .u8 (x j : Nat)) = W2 at *
    go_enter Try.func42, Try.ntmps42
    go_wp2
    go_ret
    exact ⟨rfl, hend⟩
end Go.Proofs.Ytgpmoakfbhcidaa
