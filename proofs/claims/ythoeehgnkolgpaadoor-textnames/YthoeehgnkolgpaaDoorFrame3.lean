/- Arguments that are texts and a number; the table of package code. -/
import Derived.Test.YthoeehgnkolgpaaDoorFrame2
import Derived.Test.YthoeehgnkolgpaaDoorHome
namespace Go.Proofs.YthoeehgnkolgpaaDoor
open Go.ChangeShapes Go.WideShapes Go.ChangeAt Go.RowKit Go.Deep

theorem steps_eq : (Rows.laid_tally_code_sumSteps : DataW Unit) = Lib.tabData .u32 Crc.tab := by kernel_rfl
theorem sumTab_of {W : World} {laid : List (String × DataW Unit)} {ps : List MemPlace} (h : DataW.LaidVars Tryd.prog W laid ps) (m1 : ("tally/code.sumSteps", Rows.laid_tally_code_sumSteps) ∈ laid) : SumTab W := by
  have r1 := Lib.LaidVars_reads h _ _ m1
  rw [steps_eq] at r1
  have hg : Tryd.prog.globalNamed "tally/code.sumSteps" = some 1 := by kernel_rfl
  have ht := tab_of (g := 1) hg (by kernel_rfl) Tryd.underlying87 Tryd.underlying74 (by kernel_rfl) (by kernel_rfl) r1
  intro i hi
  rw [ht.cell hg i hi]
  have : ∀ j : Fin 16, Crc.tab.getD j.val 0 = ((Crc.T j.val : Nat) : Int) := by decide +kernel
  rw [this ⟨i, hi⟩]
set_option maxHeartbeats 800000 in
set_option maxRecDepth 100000 in
theorem open_names {H : Type} {enc : TypeId × Value → H} {W : World} {base : Nat} {v : Value} {d : DataW H} {p : List MemPlace} (hv : Value.okWide Tryd.prog W .any base 36 v) (h : DataW.Trod enc Tryd.prog W 0 (fun _ => true) true 36 v d p) (hf : Fits 36 d) :
    ∃ a len cap z n, v = .agg #[.slice a len cap, .int .i64 n] ∧ TextsIn W a len z (Rows.uptoBulk d) ∧ -9223372036854775808 ≤ n ∧ n ≤ 9223372036854775807 := by
  obtain ⟨cs, rfl, hcsz⟩ := okWide_struct Tryd.underlying36 hv
  rw [show Tryd.prog.cellsOf 36 = 2 by kernel_rfl] at hcsz
  obtain ⟨u0, u1, rfl⟩ : ∃ u0 u1, cs = #[u0, u1] := by
    rcases cs with ⟨l⟩
    obtain ⟨a, b, rfl⟩ := two_of (l := l) (by simpa using hcsz)
    exact ⟨a, b, rfl⟩
  obtain ⟨fuel, hf0⟩ := h
  obtain ⟨xs, m, _, hx, _, hlen, hfs⟩ := DataW.trod_struct Tryd.underlying36 hf0
  obtain ⟨y0, y1, rfl⟩ := two_of (l := xs) hlen
  have f0 := hfs 0 _ rfl
  have f1 := hfs 1 _ rfl
  simp [Value.cells, show Tryd.prog.cellsOf 22 = 1 by kernel_rfl] at f0
  simp [Value.cells, cells3] at f1
  simp only [Prod.mk.injEq] at hx
  obtain ⟨hd, _⟩ := hx
  have fit0 : Fits 22 y0.1 := fun n hn => hf n (by
    rw [hd]
    simp only [DataW.weights, Tryd.underlying36]
    exact DataW.weights_mem_each (j := 0) rfl rfl n hn)
  obtain ⟨a, len, cap, z, rfl, h0⟩ := open_texts f0 fit0
  obtain ⟨n, hc, _, hwf⟩ := DataW.trod_int Tryd.underlying3 f1
  have p0 : Rows.uptoBulk y0.1 ≤ Rows.uptoBulk d := by
    have : Rows.uptoBulk y0.1 ≤ Rows.uptoBulkAll [y0.1, y1.1] := bulk_part (by simp)
    rw [hd]; simp only [Rows.uptoBulk, List.map]; omega
  have hb := bounds_i64 hwf
  have hu : u1 = .int .i64 n := by simpa using hc
  subst hu
  exact ⟨a, len, cap, z, n, rfl, h0.mono p0, by omega, by omega⟩
end Go.Proofs.YthoeehgnkolgpaaDoor
