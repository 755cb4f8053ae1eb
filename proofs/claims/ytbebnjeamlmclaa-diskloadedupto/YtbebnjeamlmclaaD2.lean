/- Package disk: rows of bytes that are copied; files without changes; the names' maps. -/
import Derived.Test.YtbebnjeamlmclaaD1
import Derived.Test.YtbebnjeamlmclaaDIter
import Derived.Maps.OwnSet
import Derived.Below
namespace Go.Proofs.Ytbebnjeamlmclaa
open Go.RowKit Go.Maps
set_option maxRecDepth 100000
set_option maxRecDepth 100000

theorem below_of_since {w w' : World} {B : Nat} (h : w.Since B w') : Below B w w' := ⟨h.os, h.tape, h.output, h.size, h.block⟩
theorem since_of_below {w w' : World} {B : Nat} (h : Below B w w') : w.Since B w' := ⟨h.os, h.tape, h.output, h.size, h.block⟩
theorem cel_on {W W' : World} {b i : Nat} {v : Value} (h : Below W.heap.size W W') (hc : W.cell? ⟨b, i, none⟩ = some v) : W'.cell? ⟨b, i, none⟩ = some v := by
  rw [World.cell?_of_block (a := ⟨b, i, none⟩) (h.block _ (World.block_lt_of_cell? _ _ hc))]; exact hc
theorem Byt.on {w w' : World} {a : Option Addr} {len : Nat} {x : Nat → Nat} (h : Byt w a len x) (hs : Below w.heap.size w w') : Byt w' a len x := h.since (since_of_below hs)

/-- disk.copied: the same bytes in new memory. -/
theorem copied_any (a : Option Addr) (len cap : Nat) (x : Nat → Nat) (w : World) (hmax : len ≤ 281474976710656) (hc : Byt w a len x) :
    Calls Try.prog 56 #[.slice a len cap] w fun e w' => e = .returned (.slice (some ⟨w.heap.size, 0, none⟩) len len) ∧ w.Since w.heap.size w' ∧ w'.heap.size = w.heap.size + 1 ∧ w'.rowIs w.heap.size 5 len (fun j => .int .u8 (x j : Nat)) := by
  have hmk := run_make_row' (P := Try.prog) 89 5 (.int .u8 0) 1 Try.underlying89 Try.info5 rfl .i64 .i64 len (by omega) (by omega)
  have hs0 : w.Since w.heap.size (w.alloc (.cells (madeCells #[.int .u8 0] len) 5)) := (World.Since.refl _ _).alloc (Nat.le_refl _) _
  have hr0 := World.rowIs_made w (.int .u8 0) len 5
  have hz0 : (w.alloc (.cells (madeCells #[.int .u8 0] len) 5)).heap.size = w.heap.size + 1 := by simp
  generalize hW : w.alloc (.cells (madeCells #[.int .u8 0] len) 5) = W at *
  rcases Nat.eq_zero_or_pos len with rfl | hp
  · have hcp := run_copy_none (P := Try.prog) W 89 26 3 5 (some ⟨w.heap.size, 0, none⟩) a 0 0 0 cap Try.underlying89 Try.size5 (by simp)
    have hmk0 : (Instr.makeSlice 89 (.int .i64 0) (.int .i64 0)).run Try.prog w = .ok (.slice (some ⟨w.heap.size, 0, none⟩) 0 0) W := by rw [← hW]; simpa using hmk w
    clear hmk hW
    go_enter Try.func56, Try.ntmps56
    go_wp2
    go_ret
    exact ⟨rfl, hs0, hz0, hr0.congr (fun j hj => by omega)⟩
  · obtain ⟨b, off, rfl, _⟩ := hc 0 hp
    have hc' : ∀ j, j < len → w.cell? ⟨b, off + j, none⟩ = some (.int .u8 (x j : Nat)) := fun j hj => by obtain ⟨b', off', e, hh⟩ := hc j hj; cases e; exact hh
    have hcp := run_copy_cells (P := Try.prog) W 89 26 3 5 w.heap.size 0 len len ⟨b, off, none⟩ len cap ((List.range len).map fun j => .int .u8 (x j : Nat)) Try.underlying89 Try.size5 (by simp)
      (fun j v hv => by
        have hj : j < len := by have := (List.getElem?_eq_some_iff.1 hv).1; simpa using this
        have : v = .int .u8 (x j : Nat) := by rw [List.getElem?_map, List.getElem?_range hj] at hv; simpa using hv.symm
        rw [this, show (⟨b, off, none⟩ : Addr).add j = ⟨b, off + j, none⟩ by simp [Addr.add], hs0.cell (a := ⟨b, off + j, none⟩) (World.block_lt_of_cell? _ _ (hc' j hj))]
        exact hc' j hj)
      (fun j hj => by rw [Nat.zero_add, hr0.cell (by simpa using hj)]; rfl) (fun j _ => by rw [Nat.zero_add]; exact hr0.frozen j) (fun v hv => by obtain ⟨j, _, rfl⟩ := List.mem_map.1 hv; rfl)
    have hend : w.Since w.heap.size (W.setCells w.heap.size 0 ((List.range len).map fun j => .int .u8 (x j : Nat))) ∧ (W.setCells w.heap.size 0 ((List.range len).map fun j => .int .u8 (x j : Nat))).heap.size = w.heap.size + 1 ∧
        (W.setCells w.heap.size 0 ((List.range len).map fun j => .int .u8 (x j : Nat))).rowIs w.heap.size 5 len (fun j => .int .u8 (x j : Nat)) :=
      ⟨since_setCells (Nat.le_refl _) _ _ _ hs0, by rw [size_setCells]; exact hz0, (rowIs_setCells _ 0 _ _ hr0).congr (fun j hj => by
        rw [if_pos (by simp; exact hj)]; simp [List.getD, hj])⟩
    have hmk1 : (Instr.makeSlice 89 (.int .i64 len) (.int .i64 len)).run Try.prog w = .ok (.slice (some ⟨w.heap.size, 0, none⟩) len len) W := by rw [← hW]; exact hmk w
    clear hmk hW
    generalize W.setCells w.heap.size 0 ((List.range len).map fun j => .int .u8 (x j : Nat)) = W2 at *
    go_enter Try.func56, Try.ntmps56
    go_wp2
    go_ret
    exact ⟨rfl, hend⟩

/-- A file without changes. -/
structure File0 (w : World) (fb n : Nat) (x : Nat → Nat) : Prop where
  row : ∃ ra rc, w.cell? ⟨fb, 0, none⟩ = some (.slice ra n rc) ∧ Byt w ra n x
  chs : w.cell? ⟨fb, 1, none⟩ = some (.slice none 0 0)
  size : w.cell? ⟨fb, 2, none⟩ = some (.int .i64 n)
theorem File0.on {w w' : World} {fb n : Nat} {x : Nat → Nat} (h : File0 w fb n x) (hb : Below w.heap.size w w') : File0 w' fb n x := by
  obtain ⟨ra, rc, h1, h2⟩ := h.row
  exact ⟨⟨ra, rc, cel_on hb h1, h2.on hb⟩, cel_on hb h.chs, cel_on hb h.size⟩
/-- A step that writes no block of cells. -/
theorem File0.map {w w' : World} {fb n m : Nat} {x : Nat → Nat} {es : Array MapEntry} {clock : Nat} (h : File0 w fb n x) (hm : w.heap[m]? = some (.map es clock)) (hg : w.grownBy w' (some m)) : File0 w' fb n x := by
  have cc : ∀ b i v, w.cell? ⟨b, i, none⟩ = some v → w'.cell? ⟨b, i, none⟩ = some v := fun b i v hc => by
    have hne : b ≠ m := by
      rintro rfl
      simp [World.cell?, hm] at hc
    rw [World.cell?_of_block (a := ⟨b, i, none⟩) (hg.block b (World.block_lt_of_cell? _ _ hc) (fun e => hne (Option.some.inj e)))]
    exact hc
  obtain ⟨ra, rc, h1, h2⟩ := h.row
  exact ⟨⟨ra, rc, cc _ _ _ h1, fun j hj => by obtain ⟨b, o, e, hc⟩ := h2 j hj; exact ⟨b, o, e, cc _ _ _ hc⟩⟩, cc _ _ _ h.chs, cc _ _ _ h.size⟩

theorem newFile_any (a : Option Addr) (len cap : Nat) (x : Nat → Nat) (w : World) (hmax : len ≤ 281474976710656) (hc : Byt w a len x) :
    Calls Try.prog 39 #[.slice a len cap] w fun e w' => ∃ fb, e = .returned (.pointer (some ⟨fb, 0, none⟩)) ∧ w.heap.size ≤ fb ∧ fb < w'.heap.size ∧ Below w.heap.size w w' ∧ File0 w' fb len x := by
  have hcp := copied_any a len cap x w hmax hc
  go_enter Try.func39, Try.ntmps39
  go_wp2_with fail
  refine hcp.mono ?_
  rintro e w1 ⟨rfl, hs, hz, hr⟩
  clear hcp hz
  have hb1 := below_of_since hs
  go_wp2_with fail
  go_ret
  refine ⟨w1.heap.size, rfl, hb1.size, by simp, hb1.alloc hb1.size _, ⟨some ⟨w.heap.size, 0, none⟩, len, World.cell?_alloc_at (w := w1) _ _ _ 0 rfl, (Byt.of_row hr).on ((Below.refl _ _).alloc (Nat.le_refl _) _)⟩, World.cell?_alloc_at (w := w1) _ _ _ 1 rfl, World.cell?_alloc_at (w := w1) _ _ _ 2 rfl⟩

theorem units0_any {fb n : Nat} {x : Nat → Nat} {w : World} (h : File0 w fb n x) :
    Calls Try.prog 44 #[.pointer (some ⟨fb, 0, none⟩)] w fun e w' => e = .returned (.int .i64 0) ∧ w' = w := by
  have c1 := h.chs
  clear h
  go_enter Try.func44, Try.ntmps44
  go_wp2_with fail
  go_loopg [3, 11] 0 (fun q s3 s11 wx => q = 0 ∧ s3 = .int .i64 0 ∧ s11 = .int .i64 0 ∧ w = wx)
  case atStart => exact ⟨rfl, rfl, rfl, rfl⟩
  case round =>
    obtain ⟨rfl, rfl, rfl, rfl⟩ := hrel
    go_wp2_with fail
    go_ret
    exact ⟨rfl, rfl⟩

theorem after0_any {fb n : Nat} {x : Nat → Nat} {w : World} (h : File0 w fb n x) (hn : n ≤ 281474976710656) (k : Int) :
    Calls Try.prog 43 #[.pointer (some ⟨fb, 0, none⟩), .int .i64 k] w fun e w' => ∃ g, e = .returned (.slice (some ⟨g, 0, none⟩) n n) ∧ w.heap.size ≤ g ∧ Below w.heap.size w w' ∧ w'.rowIs g 5 n (fun j => .int .u8 (x j : Nat)) := by
  obtain ⟨ra, rc, c0, hb0⟩ := h.row
  have c1 := h.chs
  have hcp := copied_any ra n rc x w hn hb0
  clear h
  go_enter Try.func43, Try.ntmps43
  go_wp2_with fail
  refine hcp.mono ?_
  rintro e w1 ⟨rfl, hs, hz, hr⟩
  clear hcp hz
  have hb1 := below_of_since hs
  have d1 := cel_on hb1 c1
  have hr2 := hr.alloc (.cells #[.slice (some ⟨w.heap.size, 0, none⟩) n n] 89)
  have hb2 := hb1.alloc hb1.size (.cells #[.slice (some ⟨w.heap.size, 0, none⟩) n n] 89)
  have l0 : (w1.alloc (.cells #[.slice (some ⟨w.heap.size, 0, none⟩) n n] 89)).cell? ⟨w1.heap.size, 0, none⟩ = some (.slice (some ⟨w.heap.size, 0, none⟩) n n) := World.cell?_alloc_at (w := w1) _ _ _ 0 rfl
  have e1 : (w1.alloc (.cells #[.slice (some ⟨w.heap.size, 0, none⟩) n n] 89)).cell? ⟨fb, 1, none⟩ = some (.slice none 0 0) := cel_on ((Below.refl _ _).alloc (Nat.le_refl _) _) d1
  clear c0 c1 d1 hr hb1 hb0 hs
  go_upto_region 2 with fail
  generalize w1.alloc (.cells #[.slice (some ⟨w.heap.size, 0, none⟩) n n] 89) = W2 at *
  go_wp2_with fail
  go_loopg [19] 0 (fun q s19 wx => q = 0 ∧ s19 = .int .i64 0 ∧ W2 = wx)
  case atStart => exact ⟨rfl, rfl, rfl⟩
  case round =>
    obtain ⟨rfl, rfl, rfl⟩ := hrel
    go_wp2_with fail
    go_ret
    exact ⟨w.heap.size, rfl, Nat.le_refl _, hb2, hr2⟩
end Go.Proofs.Ytbebnjeamlmclaa
