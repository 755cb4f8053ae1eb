/- The lists that are written full, of ints alone: the kinds that are nil, and the marking. -/
import Derived.Test.YtbebnjeamlmclaaGreatIntFam
import Derived.Deep.OwnRows
import Derived.Deep.LoopGhost
import Derived.Deep.Light
import Derived.Deep.QuietTactic
import Derived.BigQuiet
namespace Go.Proofs.YtbebnjeamlmclaaGreat
open Go.RowKit
set_option maxRecDepth 100000

/-- A spread of ints alone. -/
def sprCell (v : Value) (i : Nat) : Value := if i = 0 then v else .slice none 0 0

theorem row_apart {w : World} {K n yb m : Nat} {e T : TypeId} {v : Value} {xs : List Value} {f : Nat → Value} (h : w.ownsRow K e 1 v n xs) (hr : w.rowIs yb T m f) (hne : T ≠ e) : v.ownBlock ≠ some yb := by
  intro hb
  obtain ⟨c, hc, _⟩ := hr
  rcases h.2 with ⟨rfl, _⟩ | ⟨g, cap, cur, rfl, _, hq, _⟩
  · cases hb
  · obtain rfl : g = yb := by simpa [Value.ownBlock] using hb
    rw [hc] at hq
    simp only [Option.some.injEq, Obj.cells.injEq] at hq
    exact hne hq.2.1

set_option maxHeartbeats 1600000 in
set_option maxRecDepth 100000 in
theorem spr_others (yb : Nat) (v : Value) (w : World) (h : w.rowIs yb 61 8 (sprCell v)) :
    Calls Tryz.prog 45 #[.pointer (some ⟨yb, 0, none⟩)] w fun e w' => e = .returned (.bool true) ∧ w' = w := by
  have c4 : w.cell? ⟨yb, 4, none⟩ = some (.slice none 0 0) := h.cell (i := 4) (by decide)
  have c5 : w.cell? ⟨yb, 5, none⟩ = some (.slice none 0 0) := h.cell (i := 5) (by decide)
  have c6 : w.cell? ⟨yb, 6, none⟩ = some (.slice none 0 0) := h.cell (i := 6) (by decide)
  have c7 : w.cell? ⟨yb, 7, none⟩ = some (.slice none 0 0) := h.cell (i := 7) (by decide)
  clear h
  go_enter Tryz.func45, Tryz.ntmps45
  go_wp2_with fail
  go_loopg [3] 0 (fun q s3 wx => q = 0 ∧ s3 = .int .i64 0 ∧ w = wx)
  case atStart => exact ⟨rfl, rfl, rfl⟩
  case round =>
    obtain ⟨rfl, rfl, rfl⟩ := hrel
    go_wp2_with fail
    go_loopg [5] 0 (fun q s5 wx => q = 0 ∧ s5 = .int .i64 0 ∧ w = wx)
    case atStart => exact ⟨rfl, rfl, rfl⟩
    case round =>
      obtain ⟨rfl, rfl, rfl⟩ := hrel
      go_wp2_with fail
      go_loopg [7] 0 (fun q s7 wx => q = 0 ∧ s7 = .int .i64 0 ∧ w = wx)
      case atStart => exact ⟨rfl, rfl, rfl⟩
      case round =>
        obtain ⟨rfl, rfl, rfl⟩ := hrel
        go_wp2_with fail
        go_loopg [9] 0 (fun q s9 wx => q = 0 ∧ s9 = .int .i64 0 ∧ w = wx)
        case atStart => exact ⟨rfl, rfl, rfl⟩
        case round =>
          obtain ⟨rfl, rfl, rfl⟩ := hrel
          go_wp2_with fail
          go_ret
          exact ⟨rfl, rfl⟩
set_option maxHeartbeats 1600000 in
set_option maxRecDepth 100000 in
theorem spr_rest (yb : Nat) (z v : Value) (w : World) (h : w.rowIs yb 61 8 (sprCell v)) :
    Calls Tryz.prog 43 #[.pointer (some ⟨yb, 0, none⟩), z] w fun e w' => e = .returned (.tuple #[]) ∧ w' = w := by
  have c4 : w.cell? ⟨yb, 4, none⟩ = some (.slice none 0 0) := h.cell (i := 4) (by decide)
  have c5 : w.cell? ⟨yb, 5, none⟩ = some (.slice none 0 0) := h.cell (i := 5) (by decide)
  have c6 : w.cell? ⟨yb, 6, none⟩ = some (.slice none 0 0) := h.cell (i := 6) (by decide)
  have c7 : w.cell? ⟨yb, 7, none⟩ = some (.slice none 0 0) := h.cell (i := 7) (by decide)
  clear h
  go_enter Tryz.func43, Tryz.ntmps43
  go_wp2_with fail
  go_loopg [4] 0 (fun q s4 wx => q = 0 ∧ s4 = .int .i64 0 ∧ w = wx)
  case atStart => exact ⟨rfl, rfl, rfl⟩
  case round =>
    obtain ⟨rfl, rfl, rfl⟩ := hrel
    go_wp2_with fail
    go_loopg [7] 0 (fun q s7 wx => q = 0 ∧ s7 = .int .i64 0 ∧ w = wx)
    case atStart => exact ⟨rfl, rfl, rfl⟩
    case round =>
      obtain ⟨rfl, rfl, rfl⟩ := hrel
      go_wp2_with fail
      go_loopg [10] 0 (fun q s10 wx => q = 0 ∧ s10 = .int .i64 0 ∧ w = wx)
      case atStart => exact ⟨rfl, rfl, rfl⟩
      case round =>
        obtain ⟨rfl, rfl, rfl⟩ := hrel
        go_wp2_with fail
        go_loopg [13] 0 (fun q s13 wx => q = 0 ∧ s13 = .int .i64 0 ∧ w = wx)
        case atStart => exact ⟨rfl, rfl, rfl⟩
        case round =>
          obtain ⟨rfl, rfl, rfl⟩ := hrel
          go_wp2_with fail
          go_end0
          exact ⟨rfl, rfl⟩
end Go.Proofs.YtbebnjeamlmclaaGreat
