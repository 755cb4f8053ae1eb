/- The walks of an ints Book's looks at its other lists, which are nil, and of their growing. -/
import Derived.Test.YtbebnjeamlmclaaGreatIB3
namespace Go.Proofs.YtbebnjeamlmclaaGreat
open Go.RowKit
set_option maxRecDepth 100000

set_option maxHeartbeats 1600000 in
set_option maxRecDepth 100000 in
theorem book_plain (bk : Nat) (f : Nat → Value) (w : World) (h : w.rowIs bk 52 39 f) (h0 : f 0 = .slice none 0 0) (h3 : f 3 = .slice none 0 0) :
    Calls Tryz.prog 55 #[.pointer (some ⟨bk, 0, none⟩)] w fun e w' => e = .returned (.bool true) ∧ w' = w := by
  have c0 := h.cell (i := 0) (by decide)
  rw [h0] at c0
  have c3 := h.cell (i := 3) (by decide)
  rw [h3] at c3
  clear h h0 h3
  go_enter Tryz.func55, Tryz.ntmps55
  go_wp2_with fail
  go_loopg [3] 0 (fun q s3 wx => q = 0 ∧ s3 = .int .i64 0 ∧ w = wx)
  case atStart => exact ⟨rfl, rfl, rfl⟩
  case round =>
    obtain ⟨rfl, rfl, rfl⟩ := hrel
    go_wp2_with fail
    go_loopg [5] 0 (fun q s5 wx => q = 0 ∧ s5 = .int .i64 0 ∧ w = wx)
    case atStart => exact ⟨rfl, rfl, rfl⟩
    case round =>
      obtain ⟨rfl, rfl, rfl⟩ := hrel
      go_wp2_with fail
      go_ret
      exact ⟨rfl, rfl⟩
set_option maxHeartbeats 1600000 in
set_option maxRecDepth 100000 in
theorem book_growBytes (bk : Nat) (f : Nat → Value) (w : World) (h : w.rowIs bk 52 39 f) (h0 : f 0 = .slice none 0 0) (h2 : f 2 = .int .i64 0) :
    Calls Tryz.prog 59 #[.pointer (some ⟨bk, 0, none⟩)] w fun e w' => e = .returned (.tuple #[]) ∧ w' = w.setCell ⟨bk, 2, none⟩ (.int .i64 0) := by
  have c0 := h.cell (i := 0) (by decide)
  rw [h0] at c0
  have c2 := h.cell (i := 2) (by decide)
  rw [h2] at c2
  have f2 := h.frozen 2
  clear h h0 h2
  go_enter Tryz.func59, Tryz.ntmps59
  go_wp2_with fail
  go_loopg [3] 0 (fun q s3 wx => q = 0 ∧ s3 = .int .i64 0 ∧ w = wx)
  case atStart => exact ⟨rfl, rfl, rfl⟩
  case round =>
    obtain ⟨rfl, rfl, rfl⟩ := hrel
    go_wp2_with fail
    go_end0
    exact ⟨rfl, rfl⟩
set_option maxHeartbeats 1600000 in
set_option maxRecDepth 100000 in
theorem book_told (bk : Nat) (f : Nat → Value) (w : World) (h : w.rowIs bk 52 39 f) (h18 : f 18 = .slice none 0 0) (h21 : f 21 = .slice none 0 0) (h24 : f 24 = .slice none 0 0) (h27 : f 27 = .slice none 0 0) :
    Calls Tryz.prog 57 #[.pointer (some ⟨bk, 0, none⟩)] w fun e w' => e = .returned (.bool true) ∧ w' = w := by
  have c18 := h.cell (i := 18) (by decide)
  rw [h18] at c18
  have c21 := h.cell (i := 21) (by decide)
  rw [h21] at c21
  have c24 := h.cell (i := 24) (by decide)
  rw [h24] at c24
  have c27 := h.cell (i := 27) (by decide)
  rw [h27] at c27
  clear h h18 h21 h24 h27
  go_enter Tryz.func57, Tryz.ntmps57
  go_wp2_with fail
  go_loopg [3] 0 (fun q s3 wx => q = 0 ∧ s3 = .int .i64 0 ∧ w = wx)
  case atStart => exact ⟨rfl, rfl, rfl⟩
  case round =>
    obtain ⟨rfl, rfl, rfl⟩ := hrel
    go_wp2_with fail
    go_loopg [5] 0 (fun q s5 wx => q = 0 ∧ s5 = .int .i64 0 ∧ w = wx)
    case atStart => exact ⟨rfl, rfl, rfl⟩
    case round =>
      obtain ⟨rfl, rfl, rfl⟩ := hrel
      go_wp2_with fail
      go_loopg [7] 0 (fun q s7 wx => q = 0 ∧ s7 = .int .i64 0 ∧ w = wx)
      case atStart => exact ⟨rfl, rfl, rfl⟩
      case round =>
        obtain ⟨rfl, rfl, rfl⟩ := hrel
        go_wp2_with fail
        go_loopg [9] 0 (fun q s9 wx => q = 0 ∧ s9 = .int .i64 0 ∧ w = wx)
        case atStart => exact ⟨rfl, rfl, rfl⟩
        case round =>
          obtain ⟨rfl, rfl, rfl⟩ := hrel
          go_wp2_with fail
          go_ret
          exact ⟨rfl, rfl⟩
set_option maxHeartbeats 1600000 in
set_option maxRecDepth 100000 in
theorem book_held (bk : Nat) (f : Nat → Value) (w : World) (h : w.rowIs bk 52 39 f) (h30 : f 30 = .slice none 0 0) (h33 : f 33 = .slice none 0 0) :
    Calls Tryz.prog 58 #[.pointer (some ⟨bk, 0, none⟩)] w fun e w' => e = .returned (.bool true) ∧ w' = w := by
  have c30 := h.cell (i := 30) (by decide)
  rw [h30] at c30
  have c33 := h.cell (i := 33) (by decide)
  rw [h33] at c33
  clear h h30 h33
  go_enter Tryz.func58, Tryz.ntmps58
  go_wp2_with fail
  go_loopg [3] 0 (fun q s3 wx => q = 0 ∧ s3 = .int .i64 0 ∧ w = wx)
  case atStart => exact ⟨rfl, rfl, rfl⟩
  case round =>
    obtain ⟨rfl, rfl, rfl⟩ := hrel
    go_wp2_with fail
    go_loopg [7] 0 (fun q s7 wx => q = 0 ∧ s7 = .int .i64 0 ∧ w = wx)
    case atStart => exact ⟨rfl, rfl, rfl⟩
    case round =>
      obtain ⟨rfl, rfl, rfl⟩ := hrel
      go_wp2_with fail
      go_ret
      exact ⟨rfl, rfl⟩
set_option maxHeartbeats 1600000 in
set_option maxRecDepth 100000 in
theorem book_growRows (bk : Nat) (f : Nat → Value) (w : World) (h : w.rowIs bk 52 39 f) (h0 : f 3 = .slice none 0 0) (h2 : f 5 = .int .i64 0) :
    Calls Tryz.prog 60 #[.pointer (some ⟨bk, 0, none⟩)] w fun e w' => e = .returned (.tuple #[]) ∧ w' = w.setCell ⟨bk, 5, none⟩ (.int .i64 0) := by
  have c0 := h.cell (i := 3) (by decide)
  rw [h0] at c0
  have c2 := h.cell (i := 5) (by decide)
  rw [h2] at c2
  have f2 := h.frozen 5
  clear h h0 h2
  go_enter Tryz.func60, Tryz.ntmps60
  go_wp2_with fail
  go_loopg [3] 0 (fun q s3 wx => q = 0 ∧ s3 = .int .i64 0 ∧ w = wx)
  case atStart => exact ⟨rfl, rfl, rfl⟩
  case round =>
    obtain ⟨rfl, rfl, rfl⟩ := hrel
    go_wp2_with fail
    go_end0
    exact ⟨rfl, rfl⟩
set_option maxHeartbeats 1600000 in
set_option maxRecDepth 100000 in
theorem book_growTexts (bk : Nat) (f : Nat → Value) (w : World) (h : w.rowIs bk 52 39 f) (h0 : f 6 = .slice none 0 0) (h2 : f 8 = .int .i64 0) :
    Calls Tryz.prog 61 #[.pointer (some ⟨bk, 0, none⟩)] w fun e w' => e = .returned (.tuple #[]) ∧ w' = w.setCell ⟨bk, 8, none⟩ (.int .i64 0) := by
  have c0 := h.cell (i := 6) (by decide)
  rw [h0] at c0
  have c2 := h.cell (i := 8) (by decide)
  rw [h2] at c2
  have f2 := h.frozen 8
  clear h h0 h2
  go_enter Tryz.func61, Tryz.ntmps61
  go_wp2_with fail
  go_loopg [3] 0 (fun q s3 wx => q = 0 ∧ s3 = .int .i64 0 ∧ w = wx)
  case atStart => exact ⟨rfl, rfl, rfl⟩
  case round =>
    obtain ⟨rfl, rfl, rfl⟩ := hrel
    go_wp2_with fail
    go_end0
    exact ⟨rfl, rfl⟩
set_option maxHeartbeats 1600000 in
set_option maxRecDepth 100000 in
theorem book_growWords (bk : Nat) (f : Nat → Value) (w : World) (h : w.rowIs bk 52 39 f) (h0 : f 12 = .slice none 0 0) (h2 : f 14 = .int .i64 0) :
    Calls Tryz.prog 63 #[.pointer (some ⟨bk, 0, none⟩)] w fun e w' => e = .returned (.tuple #[]) ∧ w' = w.setCell ⟨bk, 14, none⟩ (.int .i64 0) := by
  have c0 := h.cell (i := 12) (by decide)
  rw [h0] at c0
  have c2 := h.cell (i := 14) (by decide)
  rw [h2] at c2
  have f2 := h.frozen 14
  clear h h0 h2
  go_enter Tryz.func63, Tryz.ntmps63
  go_wp2_with fail
  go_loopg [3] 0 (fun q s3 wx => q = 0 ∧ s3 = .int .i64 0 ∧ w = wx)
  case atStart => exact ⟨rfl, rfl, rfl⟩
  case round =>
    obtain ⟨rfl, rfl, rfl⟩ := hrel
    go_wp2_with fail
    go_end0
    exact ⟨rfl, rfl⟩
set_option maxHeartbeats 1600000 in
set_option maxRecDepth 100000 in
theorem book_growDones (bk : Nat) (f : Nat → Value) (w : World) (h : w.rowIs bk 52 39 f) (h0 : f 15 = .slice none 0 0) (h2 : f 17 = .int .i64 0) :
    Calls Tryz.prog 64 #[.pointer (some ⟨bk, 0, none⟩)] w fun e w' => e = .returned (.tuple #[]) ∧ w' = w.setCell ⟨bk, 17, none⟩ (.int .i64 0) := by
  have c0 := h.cell (i := 15) (by decide)
  rw [h0] at c0
  have c2 := h.cell (i := 17) (by decide)
  rw [h2] at c2
  have f2 := h.frozen 17
  clear h h0 h2
  go_enter Tryz.func64, Tryz.ntmps64
  go_wp2_with fail
  go_loopg [3] 0 (fun q s3 wx => q = 0 ∧ s3 = .int .i64 0 ∧ w = wx)
  case atStart => exact ⟨rfl, rfl, rfl⟩
  case round =>
    obtain ⟨rfl, rfl, rfl⟩ := hrel
    go_wp2_with fail
    go_end0
    exact ⟨rfl, rfl⟩
set_option maxHeartbeats 1600000 in
set_option maxRecDepth 100000 in
theorem book_growAccts (bk : Nat) (f : Nat → Value) (w : World) (h : w.rowIs bk 52 39 f) (h0 : f 18 = .slice none 0 0) (h2 : f 20 = .int .i64 0) :
    Calls Tryz.prog 65 #[.pointer (some ⟨bk, 0, none⟩)] w fun e w' => e = .returned (.tuple #[]) ∧ w' = w.setCell ⟨bk, 20, none⟩ (.int .i64 0) := by
  have c0 := h.cell (i := 18) (by decide)
  rw [h0] at c0
  have c2 := h.cell (i := 20) (by decide)
  rw [h2] at c2
  have f2 := h.frozen 20
  clear h h0 h2
  go_enter Tryz.func65, Tryz.ntmps65
  go_wp2_with fail
  go_loopg [3] 0 (fun q s3 wx => q = 0 ∧ s3 = .int .i64 0 ∧ w = wx)
  case atStart => exact ⟨rfl, rfl, rfl⟩
  case round =>
    obtain ⟨rfl, rfl, rfl⟩ := hrel
    go_wp2_with fail
    go_end0
    exact ⟨rfl, rfl⟩
set_option maxHeartbeats 1600000 in
set_option maxRecDepth 100000 in
theorem book_growQueue (bk : Nat) (f : Nat → Value) (w : World) (h : w.rowIs bk 52 39 f) (h0 : f 21 = .slice none 0 0) (h2 : f 23 = .int .i64 0) :
    Calls Tryz.prog 66 #[.pointer (some ⟨bk, 0, none⟩)] w fun e w' => e = .returned (.tuple #[]) ∧ w' = w.setCell ⟨bk, 23, none⟩ (.int .i64 0) := by
  have c0 := h.cell (i := 21) (by decide)
  rw [h0] at c0
  have c2 := h.cell (i := 23) (by decide)
  rw [h2] at c2
  have f2 := h.frozen 23
  clear h h0 h2
  go_enter Tryz.func66, Tryz.ntmps66
  go_wp2_with fail
  go_loopg [3] 0 (fun q s3 wx => q = 0 ∧ s3 = .int .i64 0 ∧ w = wx)
  case atStart => exact ⟨rfl, rfl, rfl⟩
  case round =>
    obtain ⟨rfl, rfl, rfl⟩ := hrel
    go_wp2_with fail
    go_end0
    exact ⟨rfl, rfl⟩
set_option maxHeartbeats 1600000 in
set_option maxRecDepth 100000 in
theorem book_growSlots (bk : Nat) (f : Nat → Value) (w : World) (h : w.rowIs bk 52 39 f) (h0 : f 24 = .slice none 0 0) (h2 : f 26 = .int .i64 0) :
    Calls Tryz.prog 67 #[.pointer (some ⟨bk, 0, none⟩)] w fun e w' => e = .returned (.tuple #[]) ∧ w' = w.setCell ⟨bk, 26, none⟩ (.int .i64 0) := by
  have c0 := h.cell (i := 24) (by decide)
  rw [h0] at c0
  have c2 := h.cell (i := 26) (by decide)
  rw [h2] at c2
  have f2 := h.frozen 26
  clear h h0 h2
  go_enter Tryz.func67, Tryz.ntmps67
  go_wp2_with fail
  go_loopg [3] 0 (fun q s3 wx => q = 0 ∧ s3 = .int .i64 0 ∧ w = wx)
  case atStart => exact ⟨rfl, rfl, rfl⟩
  case round =>
    obtain ⟨rfl, rfl, rfl⟩ := hrel
    go_wp2_with fail
    go_end0
    exact ⟨rfl, rfl⟩
set_option maxHeartbeats 1600000 in
set_option maxRecDepth 100000 in
theorem book_growMsgs (bk : Nat) (f : Nat → Value) (w : World) (h : w.rowIs bk 52 39 f) (h0 : f 27 = .slice none 0 0) (h2 : f 29 = .int .i64 0) :
    Calls Tryz.prog 68 #[.pointer (some ⟨bk, 0, none⟩)] w fun e w' => e = .returned (.tuple #[]) ∧ w' = w.setCell ⟨bk, 29, none⟩ (.int .i64 0) := by
  have c0 := h.cell (i := 27) (by decide)
  rw [h0] at c0
  have c2 := h.cell (i := 29) (by decide)
  rw [h2] at c2
  have f2 := h.frozen 29
  clear h h0 h2
  go_enter Tryz.func68, Tryz.ntmps68
  go_wp2_with fail
  go_loopg [3] 0 (fun q s3 wx => q = 0 ∧ s3 = .int .i64 0 ∧ w = wx)
  case atStart => exact ⟨rfl, rfl, rfl⟩
  case round =>
    obtain ⟨rfl, rfl, rfl⟩ := hrel
    go_wp2_with fail
    go_end0
    exact ⟨rfl, rfl⟩
set_option maxHeartbeats 1600000 in
set_option maxRecDepth 100000 in
theorem book_growFlights (bk : Nat) (f : Nat → Value) (w : World) (h : w.rowIs bk 52 39 f) (h0 : f 30 = .slice none 0 0) (h2 : f 32 = .int .i64 0) :
    Calls Tryz.prog 69 #[.pointer (some ⟨bk, 0, none⟩)] w fun e w' => e = .returned (.tuple #[]) ∧ w' = w.setCell ⟨bk, 32, none⟩ (.int .i64 0) := by
  have c0 := h.cell (i := 30) (by decide)
  rw [h0] at c0
  have c2 := h.cell (i := 32) (by decide)
  rw [h2] at c2
  have f2 := h.frozen 32
  clear h h0 h2
  go_enter Tryz.func69, Tryz.ntmps69
  go_wp2_with fail
  go_loopg [3] 0 (fun q s3 wx => q = 0 ∧ s3 = .int .i64 0 ∧ w = wx)
  case atStart => exact ⟨rfl, rfl, rfl⟩
  case round =>
    obtain ⟨rfl, rfl, rfl⟩ := hrel
    go_wp2_with fail
    go_end0
    exact ⟨rfl, rfl⟩
set_option maxHeartbeats 1600000 in
set_option maxRecDepth 100000 in
theorem book_growFiles (bk : Nat) (f : Nat → Value) (w : World) (h : w.rowIs bk 52 39 f) (h0 : f 33 = .slice none 0 0) (h2 : f 35 = .int .i64 0) :
    Calls Tryz.prog 70 #[.pointer (some ⟨bk, 0, none⟩)] w fun e w' => e = .returned (.tuple #[]) ∧ w' = w.setCell ⟨bk, 35, none⟩ (.int .i64 0) := by
  have c0 := h.cell (i := 33) (by decide)
  rw [h0] at c0
  have c2 := h.cell (i := 35) (by decide)
  rw [h2] at c2
  have f2 := h.frozen 35
  clear h h0 h2
  go_enter Tryz.func70, Tryz.ntmps70
  go_wp2_with fail
  go_loopg [3] 0 (fun q s3 wx => q = 0 ∧ s3 = .int .i64 0 ∧ w = wx)
  case atStart => exact ⟨rfl, rfl, rfl⟩
  case round =>
    obtain ⟨rfl, rfl, rfl⟩ := hrel
    go_wp2_with fail
    go_end0
    exact ⟨rfl, rfl⟩
end Go.Proofs.YtbebnjeamlmclaaGreat
