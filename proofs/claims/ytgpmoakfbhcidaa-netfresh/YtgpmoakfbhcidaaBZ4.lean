/- The walks of a Book's looks at its other lists, which are nil, and of their growing. -/
import Derived.Test.YtgpmoakfbhcidaaBZ3
namespace Go.Proofs.Ytgpmoakfbhcidaa
open Go.RowKit
set_option maxRecDepth 100000

set_option maxHeartbeats 1600000 in
set_option maxRecDepth 100000 in
theorem book_growRows (bk : Nat) (f : Nat → Value) (w : World) (h : w.rowIs bk 44 39 f) (h0 : f 3 = .slice none 0 0) (h2 : f 5 = .int .i64 0) :
    Calls Try.prog 59 #[.pointer (some ⟨bk, 0, none⟩)] w fun e w' => e = .returned (.tuple #[]) ∧ w' = w.setCell ⟨bk, 5, none⟩ (.int .i64 0) := by
  have c0 := h.cell (i := 3) (by decide)
  rw [h0] at c0
  have c2 := h.cell (i := 5) (by decide)
  rw [h2] at c2
  have f2 := h.frozen 5
  clear h h0 h2
  go_enter Try.func59, Try.ntmps59
  go_wp2_with fail
  go_loopg [3] 0 (fun q s3 wx => q = 0 ∧ s3 = .int .i64 0 ∧ w = wx)
  case atStart => exact ⟨rfl, rfl, rfl⟩
  case round =>
    obtain ⟨rfl, rfl, rfl⟩ := hrel
    go_wp2_with fail
    go_end0
    exact ⟨rfl, rfl⟩
set_option maxHeartbeats 1600000 in
set_option maxRecDepth 100000 in
theorem book_growTexts (bk : Nat) (f : Nat → Value) (w : World) (h : w.rowIs bk 44 39 f) (h0 : f 6 = .slice none 0 0) (h2 : f 8 = .int .i64 0) :
    Calls Try.prog 60 #[.pointer (some ⟨bk, 0, none⟩)] w fun e w' => e = .returned (.tuple #[]) ∧ w' = w.setCell ⟨bk, 8, none⟩ (.int .i64 0) := by
  have c0 := h.cell (i := 6) (by decide)
  rw [h0] at c0
  have c2 := h.cell (i := 8) (by decide)
  rw [h2] at c2
  have f2 := h.frozen 8
  clear h h0 h2
  go_enter Try.func60, Try.ntmps60
  go_wp2_with fail
  go_loopg [3] 0 (fun q s3 wx => q = 0 ∧ s3 = .int .i64 0 ∧ w = wx)
  case atStart => exact ⟨rfl, rfl, rfl⟩
  case round =>
    obtain ⟨rfl, rfl, rfl⟩ := hrel
    go_wp2_with fail
    go_end0
    exact ⟨rfl, rfl⟩
set_option maxHeartbeats 1600000 in
set_option maxRecDepth 100000 in
theorem book_growInts (bk : Nat) (f : Nat → Value) (w : World) (h : w.rowIs bk 44 39 f) (h0 : f 9 = .slice none 0 0) (h2 : f 11 = .int .i64 0) :
    Calls Try.prog 61 #[.pointer (some ⟨bk, 0, none⟩)] w fun e w' => e = .returned (.tuple #[]) ∧ w' = w.setCell ⟨bk, 11, none⟩ (.int .i64 0) := by
  have c0 := h.cell (i := 9) (by decide)
  rw [h0] at c0
  have c2 := h.cell (i := 11) (by decide)
  rw [h2] at c2
  have f2 := h.frozen 11
  clear h h0 h2
  go_enter Try.func61, Try.ntmps61
  go_wp2_with fail
  go_loopg [3] 0 (fun q s3 wx => q = 0 ∧ s3 = .int .i64 0 ∧ w = wx)
  case atStart => exact ⟨rfl, rfl, rfl⟩
  case round =>
    obtain ⟨rfl, rfl, rfl⟩ := hrel
    go_wp2_with fail
    go_end0
    exact ⟨rfl, rfl⟩
set_option maxHeartbeats 1600000 in
set_option maxRecDepth 100000 in
theorem book_growWords (bk : Nat) (f : Nat → Value) (w : World) (h : w.rowIs bk 44 39 f) (h0 : f 12 = .slice none 0 0) (h2 : f 14 = .int .i64 0) :
    Calls Try.prog 62 #[.pointer (some ⟨bk, 0, none⟩)] w fun e w' => e = .returned (.tuple #[]) ∧ w' = w.setCell ⟨bk, 14, none⟩ (.int .i64 0) := by
  have c0 := h.cell (i := 12) (by decide)
  rw [h0] at c0
  have c2 := h.cell (i := 14) (by decide)
  rw [h2] at c2
  have f2 := h.frozen 14
  clear h h0 h2
  go_enter Try.func62, Try.ntmps62
  go_wp2_with fail
  go_loopg [3] 0 (fun q s3 wx => q = 0 ∧ s3 = .int .i64 0 ∧ w = wx)
  case atStart => exact ⟨rfl, rfl, rfl⟩
  case round =>
    obtain ⟨rfl, rfl, rfl⟩ := hrel
    go_wp2_with fail
    go_end0
    exact ⟨rfl, rfl⟩
set_option maxHeartbeats 1600000 in
set_option maxRecDepth 100000 in
theorem book_growDones (bk : Nat) (f : Nat → Value) (w : World) (h : w.rowIs bk 44 39 f) (h0 : f 15 = .slice none 0 0) (h2 : f 17 = .int .i64 0) :
    Calls Try.prog 63 #[.pointer (some ⟨bk, 0, none⟩)] w fun e w' => e = .returned (.tuple #[]) ∧ w' = w.setCell ⟨bk, 17, none⟩ (.int .i64 0) := by
  have c0 := h.cell (i := 15) (by decide)
  rw [h0] at c0
  have c2 := h.cell (i := 17) (by decide)
  rw [h2] at c2
  have f2 := h.frozen 17
  clear h h0 h2
  go_enter Try.func63, Try.ntmps63
  go_wp2_with fail
  go_loopg [3] 0 (fun q s3 wx => q = 0 ∧ s3 = .int .i64 0 ∧ w = wx)
  case atStart => exact ⟨rfl, rfl, rfl⟩
  case round =>
    obtain ⟨rfl, rfl, rfl⟩ := hrel
    go_wp2_with fail
    go_end0
    exact ⟨rfl, rfl⟩
set_option maxHeartbeats 1600000 in
set_option maxRecDepth 100000 in
theorem book_growAccts (bk : Nat) (f : Nat → Value) (w : World) (h : w.rowIs bk 44 39 f) (h0 : f 18 = .slice none 0 0) (h2 : f 20 = .int .i64 0) :
    Calls Try.prog 64 #[.pointer (some ⟨bk, 0, none⟩)] w fun e w' => e = .returned (.tuple #[]) ∧ w' = w.setCell ⟨bk, 20, none⟩ (.int .i64 0) := by
  have c0 := h.cell (i := 18) (by decide)
  rw [h0] at c0
  have c2 := h.cell (i := 20) (by decide)
  rw [h2] at c2
  have f2 := h.frozen 20
  clear h h0 h2
  go_enter Try.func64, Try.ntmps64
  go_wp2_with fail
  go_loopg [3] 0 (fun q s3 wx => q = 0 ∧ s3 = .int .i64 0 ∧ w = wx)
  case atStart => exact ⟨rfl, rfl, rfl⟩
  case round =>
    obtain ⟨rfl, rfl, rfl⟩ := hrel
    go_wp2_with fail
    go_end0
    exact ⟨rfl, rfl⟩
set_option maxHeartbeats 1600000 in
set_option maxRecDepth 100000 in
theorem book_growQueue (bk : Nat) (f : Nat → Value) (w : World) (h : w.rowIs bk 44 39 f) (h0 : f 21 = .slice none 0 0) (h2 : f 23 = .int .i64 0) :
    Calls Try.prog 65 #[.pointer (some ⟨bk, 0, none⟩)] w fun e w' => e = .returned (.tuple #[]) ∧ w' = w.setCell ⟨bk, 23, none⟩ (.int .i64 0) := by
  have c0 := h.cell (i := 21) (by decide)
  rw [h0] at c0
  have c2 := h.cell (i := 23) (by decide)
  rw [h2] at c2
  have f2 := h.frozen 23
  clear h h0 h2
  go_enter Try.func65, Try.ntmps65
  go_wp2_with fail
  go_loopg [3] 0 (fun q s3 wx => q = 0 ∧ s3 = .int .i64 0 ∧ w = wx)
  case atStart => exact ⟨rfl, rfl, rfl⟩
  case round =>
    obtain ⟨rfl, rfl, rfl⟩ := hrel
    go_wp2_with fail
    go_end0
    exact ⟨rfl, rfl⟩
set_option maxHeartbeats 1600000 in
set_option maxRecDepth 100000 in
theorem book_growSlots (bk : Nat) (f : Nat → Value) (w : World) (h : w.rowIs bk 44 39 f) (h0 : f 24 = .slice none 0 0) (h2 : f 26 = .int .i64 0) :
    Calls Try.prog 66 #[.pointer (some ⟨bk, 0, none⟩)] w fun e w' => e = .returned (.tuple #[]) ∧ w' = w.setCell ⟨bk, 26, none⟩ (.int .i64 0) := by
  have c0 := h.cell (i := 24) (by decide)
  rw [h0] at c0
  have c2 := h.cell (i := 26) (by decide)
  rw [h2] at c2
  have f2 := h.frozen 26
  clear h h0 h2
  go_enter Try.func66, Try.ntmps66
  go_wp2_with fail
  go_loopg [3] 0 (fun q s3 wx => q = 0 ∧ s3 = .int .i64 0 ∧ w = wx)
  case atStart => exact ⟨rfl, rfl, rfl⟩
  case round =>
    obtain ⟨rfl, rfl, rfl⟩ := hrel
    go_wp2_with fail
    go_end0
    exact ⟨rfl, rfl⟩
set_option maxHeartbeats 1600000 in
set_option maxRecDepth 100000 in
theorem book_growMsgs (bk : Nat) (f : Nat → Value) (w : World) (h : w.rowIs bk 44 39 f) (h0 : f 27 = .slice none 0 0) (h2 : f 29 = .int .i64 0) :
    Calls Try.prog 67 #[.pointer (some ⟨bk, 0, none⟩)] w fun e w' => e = .returned (.tuple #[]) ∧ w' = w.setCell ⟨bk, 29, none⟩ (.int .i64 0) := by
  have c0 := h.cell (i := 27) (by decide)
  rw [h0] at c0
  have c2 := h.cell (i := 29) (by decide)
  rw [h2] at c2
  have f2 := h.frozen 29
  clear h h0 h2
  go_enter Try.func67, Try.ntmps67
  go_wp2_with fail
  go_loopg [3] 0 (fun q s3 wx => q = 0 ∧ s3 = .int .i64 0 ∧ w = wx)
  case atStart => exact ⟨rfl, rfl, rfl⟩
  case round =>
    obtain ⟨rfl, rfl, rfl⟩ := hrel
    go_wp2_with fail
    go_end0
    exact ⟨rfl, rfl⟩
set_option maxHeartbeats 1600000 in
set_option maxRecDepth 100000 in
theorem book_growFlights (bk : Nat) (f : Nat → Value) (w : World) (h : w.rowIs bk 44 39 f) (h0 : f 30 = .slice none 0 0) (h2 : f 32 = .int .i64 0) :
    Calls Try.prog 68 #[.pointer (some ⟨bk, 0, none⟩)] w fun e w' => e = .returned (.tuple #[]) ∧ w' = w.setCell ⟨bk, 32, none⟩ (.int .i64 0) := by
  have c0 := h.cell (i := 30) (by decide)
  rw [h0] at c0
  have c2 := h.cell (i := 32) (by decide)
  rw [h2] at c2
  have f2 := h.frozen 32
  clear h h0 h2
  go_enter Try.func68, Try.ntmps68
  go_wp2_with fail
  go_loopg [3] 0 (fun q s3 wx => q = 0 ∧ s3 = .int .i64 0 ∧ w = wx)
  case atStart => exact ⟨rfl, rfl, rfl⟩
  case round =>
    obtain ⟨rfl, rfl, rfl⟩ := hrel
    go_wp2_with fail
    go_end0
    exact ⟨rfl, rfl⟩
set_option maxHeartbeats 1600000 in
set_option maxRecDepth 100000 in
theorem book_growFiles (bk : Nat) (f : Nat → Value) (w : World) (h : w.rowIs bk 44 39 f) (h0 : f 33 = .slice none 0 0) (h2 : f 35 = .int .i64 0) :
    Calls Try.prog 69 #[.pointer (some ⟨bk, 0, none⟩)] w fun e w' => e = .returned (.tuple #[]) ∧ w' = w.setCell ⟨bk, 35, none⟩ (.int .i64 0) := by
  have c0 := h.cell (i := 33) (by decide)
  rw [h0] at c0
  have c2 := h.cell (i := 35) (by decide)
  rw [h2] at c2
  have f2 := h.frozen 35
  clear h h0 h2
  go_enter Try.func69, Try.ntmps69
  go_wp2_with fail
  go_loopg [3] 0 (fun q s3 wx => q = 0 ∧ s3 = .int .i64 0 ∧ w = wx)
  case atStart => exact ⟨rfl, rfl, rfl⟩
  case round =>
    obtain ⟨rfl, rfl, rfl⟩ := hrel
    go_wp2_with fail
    go_end0
    exact ⟨rfl, rfl⟩
end Go.Proofs.Ytgpmoakfbhcidaa
