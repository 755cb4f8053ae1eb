/- What the bound of the second form gives of a script's first list of bytes. -/
import Derived.Test.YtbmdnlomhnodeabDoorBulk
namespace Go.Proofs.YtbmdnlomhnodeabDoor
open Go.ChangeShapes Go.WideShapes Go.ChangeAt Go.RowKit Go.Deep
set_option maxRecDepth 100000

set_option maxHeartbeats 800000 in
theorem bulk_in0 {H : Type} {enc : TypeId × Value → H} {W : World} {a0 : Option Addr} {len0 cap0 : Nat} {u1 u2 : Value} {d : DataW H} {p : List MemPlace} (h : DataW.Trod enc Tryd.prog W 0 (fun _ => true) true 26 (.agg #[.slice a0 len0 cap0, u1, u2]) d p) : len0 ≤ Rows.uptoBulk d := by
  obtain ⟨fuel, hf0⟩ := h
  obtain ⟨xs, m, _, hx, _, hlen, hfs⟩ := DataW.trod_struct Tryd.underlying26 hf0
  obtain ⟨y0, y1, rfl⟩ : ∃ y0 y1, xs = [y0, y1] := by
    match xs, hlen with
    | [a, b], _ => exact ⟨a, b, rfl⟩
  have f0 := hfs 0 _ rfl
  simp [Value.cells, cells38] at f0
  simp only [Prod.mk.injEq] at hx
  obtain ⟨hd, _⟩ := hx
  have hp : Rows.uptoBulk y0.1 ≤ Rows.uptoBulk d := by
    rw [hd]
    simp only [Rows.uptoBulk, List.map]
    have hp : Rows.uptoBulk y0.1 ≤ Rows.uptoBulkAll [y0.1, y1.1] := bulk_part (by simp)
    omega
  refine Nat.le_trans ?_ hp
  obtain ⟨ys, m2, _, hy, _, hylen, hys⟩ := DataW.trod_array Tryd.underlying23 f0
  obtain ⟨q0, q1, rfl⟩ : ∃ q0 q1, ys = [q0, q1] := by
    match ys, hylen with
    | [a, b], _ => exact ⟨a, b, rfl⟩
  have g0 := hys 0 (by decide)
  simp [cells27] at g0
  have hb := bulk_bytes g0 rfl
  rw [hy]
  simp only [Rows.uptoBulk, List.map]
  have hp : Rows.uptoBulk q0.1 ≤ Rows.uptoBulkAll [q0.1, q1.1] := bulk_part (by simp)
  omega
end Go.Proofs.YtbmdnlomhnodeabDoor
