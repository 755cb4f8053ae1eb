/- An argument that is words and gaps. -/
import Derived.Test.YthoeehgnkolgpaaDoorFrame2
namespace Go.Proofs.YthoeehgnkolgpaaDoor
open Go.ChangeShapes Go.WideShapes Go.ChangeAt Go.RowKit Go.Deep

set_option maxHeartbeats 800000 in
set_option maxRecDepth 100000 in
theorem open_line {H : Type} {enc : TypeId × Value → H} {W : World} {base : Nat} {v : Value} {d : DataW H} {p : List MemPlace} (hv : Value.okWide Tryd.prog W .any base 46 v) (h : DataW.Trod enc Tryd.prog W 0 (fun _ => true) true 46 v d p) (hf : Fits 46 d) :
    ∃ a len cap z a' len' cap' z', v = .agg #[.slice a len cap, .slice a' len' cap'] ∧ TextsIn W a len z (Rows.uptoBulk d) ∧ NumsIn .i64 W a' len' z' (Rows.uptoBulk d) := by
  obtain ⟨cs, rfl, hcsz⟩ := okWide_struct Tryd.underlying46 hv
  rw [show Tryd.prog.cellsOf 46 = 2 by kernel_rfl] at hcsz
  obtain ⟨u0, u1, rfl⟩ : ∃ u0 u1, cs = #[u0, u1] := by
    rcases cs with ⟨l⟩
    obtain ⟨a, b, rfl⟩ := two_of (l := l) (by simpa using hcsz)
    exact ⟨a, b, rfl⟩
  obtain ⟨fuel, hf0⟩ := h
  obtain ⟨xs, m, _, hx, _, hlen, hfs⟩ := DataW.trod_struct Tryd.underlying46 hf0
  obtain ⟨y0, y1, rfl⟩ := two_of (l := xs) hlen
  have f0 := hfs 0 _ rfl
  have f1 := hfs 1 _ rfl
  simp [Value.cells, show Tryd.prog.cellsOf 22 = 1 by kernel_rfl] at f0
  simp [Value.cells, show Tryd.prog.cellsOf 44 = 1 by kernel_rfl] at f1
  simp only [Prod.mk.injEq] at hx
  obtain ⟨hd, _⟩ := hx
  have fit0 : Fits 22 y0.1 := fun n hn => hf n (by
    rw [hd]
    simp only [DataW.weights, Tryd.underlying46]
    exact DataW.weights_mem_each (j := 0) rfl rfl n hn)
  have fit1 : Fits 44 y1.1 := fun n hn => hf n (by
    rw [hd]
    simp only [DataW.weights, Tryd.underlying46]
    exact DataW.weights_mem_each (j := 1) rfl rfl n hn)
  obtain ⟨a, len, cap, z, rfl, h0⟩ := open_texts f0 fit0
  obtain ⟨a', len', cap', z', rfl, h1⟩ := open_nums Tryd.underlying44 Tryd.underlying3 cells3 bytes3 f1 fit1
  have p0 : Rows.uptoBulk y0.1 ≤ Rows.uptoBulk d := by
    have : Rows.uptoBulk y0.1 ≤ Rows.uptoBulkAll [y0.1, y1.1] := bulk_part (by simp)
    rw [hd]; simp only [Rows.uptoBulk, List.map]; omega
  have p1 : Rows.uptoBulk y1.1 ≤ Rows.uptoBulk d := by
    have : Rows.uptoBulk y1.1 ≤ Rows.uptoBulkAll [y0.1, y1.1] := bulk_part (by simp)
    rw [hd]; simp only [Rows.uptoBulk, List.map]; omega
  exact ⟨a, len, cap, z, a', len', cap', z', rfl, h0.mono p0, h1.mono p1⟩
end Go.Proofs.YthoeehgnkolgpaaDoor
