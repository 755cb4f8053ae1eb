/- The walks of a Book's looks at its other lists, which are nil, and of their growing. -/
import Derived.Test.YtbmdnlomhnodeabDoorBook4
namespace Go.Proofs.YtbmdnlomhnodeabDoor
open Go.RowKit
set_option maxRecDepth 100000

set_option maxHeartbeats 1600000 in
set_option maxRecDepth 100000 in
theorem book_kept (bk : Nat) (f : Nat → Value) (w : World) (h : w.rowIs bk 73 39 f) (h6 : f 6 = .slice none 0 0) (h9 : f 9 = .slice none 0 0) (h12 : f 12 = .slice none 0 0) (h15 : f 15 = .slice none 0 0) :
    Calls Tryd.prog 74 #[.pointer (some ⟨bk, 0, none⟩)] w fun e w' => e = .returned (.bool true) ∧ w' = w := by
  have c6 := h.cell (i := 6) (by decide)
  rw [h6] at c6
  have c9 := h.cell (i := 9) (by decide)
  rw [h9] at c9
  have c12 := h.cell (i := 12) (by decide)
  rw [h12] at c12
  have c15 := h.cell (i := 15) (by decide)
  rw [h15] at c15
  clear h h6 h9 h12 h15
  go_enter Tryd.func74, Tryd.ntmps74
  go_wp2_with fail
  go_loopg [3] 0 (fun q s3 wx => q = 0 ∧ s3 = .int .i64 0 ∧ w = wx)
  case atStart => exact ⟨rfl, rfl, rfl⟩
  case round =>
    obtain ⟨rfl, rfl, rfl⟩ := hrel
    go_wp2_with fail
    go_loopg [5] 0 (fun q s5 wx => q = 0 ∧ s5 = .int .i64 0 ∧ w = wx)
    case atStart => exact ⟨rfl, rfl, rfl⟩
    case round =>
      obtain ⟨rfl, rfl, rfl⟩ := hrel
      go_wp2_with fail
      go_loopg [7] 0 (fun q s7 wx => q = 0 ∧ s7 = .int .i64 0 ∧ w = wx)
      case atStart => exact ⟨rfl, rfl, rfl⟩
      case round =>
        obtain ⟨rfl, rfl, rfl⟩ := hrel
        go_wp2_with fail
        go_loopg [9] 0 (fun q s9 wx => q = 0 ∧ s9 = .int .i64 0 ∧ w = wx)
        case atStart => exact ⟨rfl, rfl, rfl⟩
        case round =>
          obtain ⟨rfl, rfl, rfl⟩ := hrel
          go_wp2_with fail
          go_ret
          exact ⟨rfl, rfl⟩
set_option maxHeartbeats 1600000 in
set_option maxRecDepth 100000 in
theorem book_told (bk : Nat) (f : Nat → Value) (w : World) (h : w.rowIs bk 73 39 f) (h18 : f 18 = .slice none 0 0) (h21 : f 21 = .slice none 0 0) (h24 : f 24 = .slice none 0 0) (h27 : f 27 = .slice none 0 0) :
    Calls Tryd.prog 75 #[.pointer (some ⟨bk, 0, none⟩)] w fun e w' => e = .returned (.bool true) ∧ w' = w := by
  have c18 := h.cell (i := 18) (by decide)
  rw [h18] at c18
  have c21 := h.cell (i := 21) (by decide)
  rw [h21] at c21
  have c24 := h.cell (i := 24) (by decide)
  rw [h24] at c24
  have c27 := h.cell (i := 27) (by decide)
  rw [h27] at c27
  clear h h18 h21 h24 h27
  go_enter Tryd.func75, Tryd.ntmps75
  go_wp2_with fail
  go_loopg [3] 0 (fun q s3 wx => q = 0 ∧ s3 = .int .i64 0 ∧ w = wx)
  case atStart => exact ⟨rfl, rfl, rfl⟩
  case round =>
    obtain ⟨rfl, rfl, rfl⟩ := hrel
    go_wp2_with fail
    go_loopg [5] 0 (fun q s5 wx => q = 0 ∧ s5 = .int .i64 0 ∧ w = wx)
    case atStart => exact ⟨rfl, rfl, rfl⟩
    case round =>
      obtain ⟨rfl, rfl, rfl⟩ := hrel
      go_wp2_with fail
      go_loopg [7] 0 (fun q s7 wx => q = 0 ∧ s7 = .int .i64 0 ∧ w = wx)
      case atStart => exact ⟨rfl, rfl, rfl⟩
      case round =>
        obtain ⟨rfl, rfl, rfl⟩ := hrel
        go_wp2_with fail
        go_loopg [9] 0 (fun q s9 wx => q = 0 ∧ s9 = .int .i64 0 ∧ w = wx)
        case atStart => exact ⟨rfl, rfl, rfl⟩
        case round =>
          obtain ⟨rfl, rfl, rfl⟩ := hrel
          go_wp2_with fail
          go_ret
          exact ⟨rfl, rfl⟩
set_option maxHeartbeats 1600000 in
set_option maxRecDepth 100000 in
theorem book_held (bk : Nat) (f : Nat → Value) (w : World) (h : w.rowIs bk 73 39 f) (h30 : f 30 = .slice none 0 0) (h33 : f 33 = .slice none 0 0) :
    Calls Tryd.prog 76 #[.pointer (some ⟨bk, 0, none⟩)] w fun e w' => e = .returned (.bool true) ∧ w' = w := by
  have c30 := h.cell (i := 30) (by decide)
  rw [h30] at c30
  have c33 := h.cell (i := 33) (by decide)
  rw [h33] at c33
  clear h h30 h33
  go_enter Tryd.func76, Tryd.ntmps76
  go_wp2_with fail
  go_loopg [3] 0 (fun q s3 wx => q = 0 ∧ s3 = .int .i64 0 ∧ w = wx)
  case atStart => exact ⟨rfl, rfl, rfl⟩
  case round =>
    obtain ⟨rfl, rfl, rfl⟩ := hrel
    go_wp2_with fail
    go_loopg [7] 0 (fun q s7 wx => q = 0 ∧ s7 = .int .i64 0 ∧ w = wx)
    case atStart => exact ⟨rfl, rfl, rfl⟩
    case round =>
      obtain ⟨rfl, rfl, rfl⟩ := hrel
      go_wp2_with fail
      go_ret
      exact ⟨rfl, rfl⟩
set_option maxHeartbeats 1600000 in
set_option maxRecDepth 100000 in
theorem book_growRows (bk : Nat) (f : Nat → Value) (w : World) (h : w.rowIs bk 73 39 f) (h0 : f 3 = .slice none 0 0) (h2 : f 5 = .int .i64 0) :
    Calls Tryd.prog 78 #[.pointer (some ⟨bk, 0, none⟩)] w fun e w' => e = .returned (.tuple #[]) ∧ w' = w.setCell ⟨bk, 5, none⟩ (.int .i64 0) := by
  have c0 := h.cell (i := 3) (by decide)
  rw [h0] at c0
  have c2 := h.cell (i := 5) (by decide)
  rw [h2] at c2
  have f2 := h.frozen 5
  clear h h0 h2
  go_enter Tryd.func78, Tryd.ntmps78
  go_wp2_with fail
  go_loopg [3] 0 (fun q s3 wx => q = 0 ∧ s3 = .int .i64 0 ∧ w = wx)
  case atStart => exact ⟨rfl, rfl, rfl⟩
  case round =>
    obtain ⟨rfl, rfl, rfl⟩ := hrel
    go_wp2_with fail
    go_end0
    exact ⟨rfl, rfl⟩
set_option maxHeartbeats 1600000 in
set_option maxRecDepth 100000 in
theorem book_growTexts (bk : Nat) (f : Nat → Value) (w : World) (h : w.rowIs bk 73 39 f) (h0 : f 6 = .slice none 0 0) (h2 : f 8 = .int .i64 0) :
    Calls Tryd.prog 79 #[.pointer (some ⟨bk, 0, none⟩)] w fun e w' => e = .returned (.tuple #[]) ∧ w' = w.setCell ⟨bk, 8, none⟩ (.int .i64 0) := by
  have c0 := h.cell (i := 6) (by decide)
  rw [h0] at c0
  have c2 := h.cell (i := 8) (by decide)
  rw [h2] at c2
  have f2 := h.frozen 8
  clear h h0 h2
  go_enter Tryd.func79, Tryd.ntmps79
  go_wp2_with fail
  go_loopg [3] 0 (fun q s3 wx => q = 0 ∧ s3 = .int .i64 0 ∧ w = wx)
  case atStart => exact ⟨rfl, rfl, rfl⟩
  case round =>
    obtain ⟨rfl, rfl, rfl⟩ := hrel
    go_wp2_with fail
    go_end0
    exact ⟨rfl, rfl⟩
set_option maxHeartbeats 1600000 in
set_option maxRecDepth 100000 in
theorem book_growInts (bk : Nat) (f : Nat → Value) (w : World) (h : w.rowIs bk 73 39 f) (h0 : f 9 = .slice none 0 0) (h2 : f 11 = .int .i64 0) :
    Calls Tryd.prog 80 #[.pointer (some ⟨bk, 0, none⟩)] w fun e w' => e = .returned (.tuple #[]) ∧ w' = w.setCell ⟨bk, 11, none⟩ (.int .i64 0) := by
  have c0 := h.cell (i := 9) (by decide)
  rw [h0] at c0
  have c2 := h.cell (i := 11) (by decide)
  rw [h2] at c2
  have f2 := h.frozen 11
  clear h h0 h2
  go_enter Tryd.func80, Tryd.ntmps80
  go_wp2_with fail
  go_loopg [3] 0 (fun q s3 wx => q = 0 ∧ s3 = .int .i64 0 ∧ w = wx)
  case atStart => exact ⟨rfl, rfl, rfl⟩
  case round =>
    obtain ⟨rfl, rfl, rfl⟩ := hrel
    go_wp2_with fail
    go_end0
    exact ⟨rfl, rfl⟩
set_option maxHeartbeats 1600000 in
set_option maxRecDepth 100000 in
theorem book_growWords (bk : Nat) (f : Nat → Value) (w : World) (h : w.rowIs bk 73 39 f) (h0 : f 12 = .slice none 0 0) (h2 : f 14 = .int .i64 0) :
    Calls Tryd.prog 81 #[.pointer (some ⟨bk, 0, none⟩)] w fun e w' => e = .returned (.tuple #[]) ∧ w' = w.setCell ⟨bk, 14, none⟩ (.int .i64 0) := by
  have c0 := h.cell (i := 12) (by decide)
  rw [h0] at c0
  have c2 := h.cell (i := 14) (by decide)
  rw [h2] at c2
  have f2 := h.frozen 14
  clear h h0 h2
  go_enter Tryd.func81, Tryd.ntmps81
  go_wp2_with fail
  go_loopg [3] 0 (fun q s3 wx => q = 0 ∧ s3 = .int .i64 0 ∧ w = wx)
  case atStart => exact ⟨rfl, rfl, rfl⟩
  case round =>
    obtain ⟨rfl, rfl, rfl⟩ := hrel
    go_wp2_with fail
    go_end0
    exact ⟨rfl, rfl⟩
set_option maxHeartbeats 1600000 in
set_option maxRecDepth 100000 in
theorem book_growDones (bk : Nat) (f : Nat → Value) (w : World) (h : w.rowIs bk 73 39 f) (h0 : f 15 = .slice none 0 0) (h2 : f 17 = .int .i64 0) :
    Calls Tryd.prog 82 #[.pointer (some ⟨bk, 0, none⟩)] w fun e w' => e = .returned (.tuple #[]) ∧ w' = w.setCell ⟨bk, 17, none⟩ (.int .i64 0) := by
  have c0 := h.cell (i := 15) (by decide)
  rw [h0] at c0
  have c2 := h.cell (i := 17) (by decide)
  rw [h2] at c2
  have f2 := h.frozen 17
  clear h h0 h2
  go_enter Tryd.func82, Tryd.ntmps82
  go_wp2_with fail
  go_loopg [3] 0 (fun q s3 wx => q = 0 ∧ s3 = .int .i64 0 ∧ w = wx)
  case atStart => exact ⟨rfl, rfl, rfl⟩
  case round =>
    obtain ⟨rfl, rfl, rfl⟩ := hrel
    go_wp2_with fail
    go_end0
    exact ⟨rfl, rfl⟩
set_option maxHeartbeats 1600000 in
set_option maxRecDepth 100000 in
theorem book_growAccts (bk : Nat) (f : Nat → Value) (w : World) (h : w.rowIs bk 73 39 f) (h0 : f 18 = .slice none 0 0) (h2 : f 20 = .int .i64 0) :
    Calls Tryd.prog 83 #[.pointer (some ⟨bk, 0, none⟩)] w fun e w' => e = .returned (.tuple #[]) ∧ w' = w.setCell ⟨bk, 20, none⟩ (.int .i64 0) := by
  have c0 := h.cell (i := 18) (by decide)
  rw [h0] at c0
  have c2 := h.cell (i := 20) (by decide)
  rw [h2] at c2
  have f2 := h.frozen 20
  clear h h0 h2
  go_enter Tryd.func83, Tryd.ntmps83
  go_wp2_with fail
  go_loopg [3] 0 (fun q s3 wx => q = 0 ∧ s3 = .int .i64 0 ∧ w = wx)
  case atStart => exact ⟨rfl, rfl, rfl⟩
  case round =>
    obtain ⟨rfl, rfl, rfl⟩ := hrel
    go_wp2_with fail
    go_end0
    exact ⟨rfl, rfl⟩
set_option maxHeartbeats 1600000 in
set_option maxRecDepth 100000 in
theorem book_growQueue (bk : Nat) (f : Nat → Value) (w : World) (h : w.rowIs bk 73 39 f) (h0 : f 21 = .slice none 0 0) (h2 : f 23 = .int .i64 0) :
    Calls Tryd.prog 84 #[.pointer (some ⟨bk, 0, none⟩)] w fun e w' => e = .returned (.tuple #[]) ∧ w' = w.setCell ⟨bk, 23, none⟩ (.int .i64 0) := by
  have c0 := h.cell (i := 21) (by decide)
  rw [h0] at c0
  have c2 := h.cell (i := 23) (by decide)
  rw [h2] at c2
  have f2 := h.frozen 23
  clear h h0 h2
  go_enter Tryd.func84, Tryd.ntmps84
  go_wp2_with fail
  go_loopg [3] 0 (fun q s3 wx => q = 0 ∧ s3 = .int .i64 0 ∧ w = wx)
  case atStart => exact ⟨rfl, rfl, rfl⟩
  case round =>
    obtain ⟨rfl, rfl, rfl⟩ := hrel
    go_wp2_with fail
    go_end0
    exact ⟨rfl, rfl⟩
set_option maxHeartbeats 1600000 in
set_option maxRecDepth 100000 in
theorem book_growSlots (bk : Nat) (f : Nat → Value) (w : World) (h : w.rowIs bk 73 39 f) (h0 : f 24 = .slice none 0 0) (h2 : f 26 = .int .i64 0) :
    Calls Tryd.prog 85 #[.pointer (some ⟨bk, 0, none⟩)] w fun e w' => e = .returned (.tuple #[]) ∧ w' = w.setCell ⟨bk, 26, none⟩ (.int .i64 0) := by
  have c0 := h.cell (i := 24) (by decide)
  rw [h0] at c0
  have c2 := h.cell (i := 26) (by decide)
  rw [h2] at c2
  have f2 := h.frozen 26
  clear h h0 h2
  go_enter Tryd.func85, Tryd.ntmps85
  go_wp2_with fail
  go_loopg [3] 0 (fun q s3 wx => q = 0 ∧ s3 = .int .i64 0 ∧ w = wx)
  case atStart => exact ⟨rfl, rfl, rfl⟩
  case round =>
    obtain ⟨rfl, rfl, rfl⟩ := hrel
    go_wp2_with fail
    go_end0
    exact ⟨rfl, rfl⟩
set_option maxHeartbeats 1600000 in
set_option maxRecDepth 100000 in
theorem book_growMsgs (bk : Nat) (f : Nat → Value) (w : World) (h : w.rowIs bk 73 39 f) (h0 : f 27 = .slice none 0 0) (h2 : f 29 = .int .i64 0) :
    Calls Tryd.prog 86 #[.pointer (some ⟨bk, 0, none⟩)] w fun e w' => e = .returned (.tuple #[]) ∧ w' = w.setCell ⟨bk, 29, none⟩ (.int .i64 0) := by
  have c0 := h.cell (i := 27) (by decide)
  rw [h0] at c0
  have c2 := h.cell (i := 29) (by decide)
  rw [h2] at c2
  have f2 := h.frozen 29
  clear h h0 h2
  go_enter Tryd.func86, Tryd.ntmps86
  go_wp2_with fail
  go_loopg [3] 0 (fun q s3 wx => q = 0 ∧ s3 = .int .i64 0 ∧ w = wx)
  case atStart => exact ⟨rfl, rfl, rfl⟩
  case round =>
    obtain ⟨rfl, rfl, rfl⟩ := hrel
    go_wp2_with fail
    go_end0
    exact ⟨rfl, rfl⟩
set_option maxHeartbeats 1600000 in
set_option maxRecDepth 100000 in
theorem book_growFlights (bk : Nat) (f : Nat → Value) (w : World) (h : w.rowIs bk 73 39 f) (h0 : f 30 = .slice none 0 0) (h2 : f 32 = .int .i64 0) :
    Calls Tryd.prog 87 #[.pointer (some ⟨bk, 0, none⟩)] w fun e w' => e = .returned (.tuple #[]) ∧ w' = w.setCell ⟨bk, 32, none⟩ (.int .i64 0) := by
  have c0 := h.cell (i := 30) (by decide)
  rw [h0] at c0
  have c2 := h.cell (i := 32) (by decide)
  rw [h2] at c2
  have f2 := h.frozen 32
  clear h h0 h2
  go_enter Tryd.func87, Tryd.ntmps87
  go_wp2_with fail
  go_loopg [3] 0 (fun q s3 wx => q = 0 ∧ s3 = .int .i64 0 ∧ w = wx)
  case atStart => exact ⟨rfl, rfl, rfl⟩
  case round =>
    obtain ⟨rfl, rfl, rfl⟩ := hrel
    go_wp2_with fail
    go_end0
    exact ⟨rfl, rfl⟩
set_option maxHeartbeats 1600000 in
set_option maxRecDepth 100000 in
theorem book_growFiles (bk : Nat) (f : Nat → Value) (w : World) (h : w.rowIs bk 73 39 f) (h0 : f 33 = .slice none 0 0) (h2 : f 35 = .int .i64 0) :
    Calls Tryd.prog 88 #[.pointer (some ⟨bk, 0, none⟩)] w fun e w' => e = .returned (.tuple #[]) ∧ w' = w.setCell ⟨bk, 35, none⟩ (.int .i64 0) := by
  have c0 := h.cell (i := 33) (by decide)
  rw [h0] at c0
  have c2 := h.cell (i := 35) (by decide)
  rw [h2] at c2
  have f2 := h.frozen 35
  clear h h0 h2
  go_enter Tryd.func88, Tryd.ntmps88
  go_wp2_with fail
  go_loopg [3] 0 (fun q s3 wx => q = 0 ∧ s3 = .int .i64 0 ∧ w = wx)
  case atStart => exact ⟨rfl, rfl, rfl⟩
  case round =>
    obtain ⟨rfl, rfl, rfl⟩ := hrel
    go_wp2_with fail
    go_end0
    exact ⟨rfl, rfl⟩
end Go.Proofs.YtbmdnlomhnodeabDoor
