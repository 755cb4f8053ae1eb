/- SettleDrains: for every input the law returns true and the input reads as it did. No condition. -/
import Derived.Test.YtflppkmicgglfaaRows
import Derived.Test.YtflppkmicgglfaaM7
import Derived.ProofKit
import Derived.OpenShut
import Derived.SizedLaws
import Derived.HandedShaped
import Derived.Lib.SmallJoins
namespace Go.Proofs.Ytflppkmicgglfaa.settleDrains
open Go.ChangeShapes Go.WideShapes Go.ChangeAt Go.RowKit Go.Deep Go.Joins
set_option maxRecDepth 100000

theorem own : ownKnob Try.prog.godebug = none := by kernel_rfl
theorem laidOut : laidOutB Try.prog = true := by kernel_rfl

set_option maxHeartbeats 1600000 in
set_option maxRecDepth 100000 in
theorem contract (H : Type) (enc : TypeId × Value → H) (W : World) (base : Nat) (args : Array Value) (ds gs : List (DataW H)) (before : List MemPlace)
    (hval : ∀ (j : Nat) t v, Try.f4.params[j]? = some t → args[j]? = some v → Value.okWide Try.prog W .any base t v)
    (hW : DataW.Whole enc Try.prog Try.f4.params.toList Rows.settleDrainsSpec.vars false W args.toList ds gs before)
    (hsz : (DataW.weightsEach Try.prog (Try.f4.params.toList ++ Rows.settleDrainsSpec.plain.varTypes Try.prog) (ds ++ gs)).all (· ≤ reachBytes) = true) :
    Calls Try.prog 4 args W fun e W' => ∃ v, e = .returned v ∧ Rows.settleDrainsSpec.post enc Try.prog Try.f4 false true false false W args v W' := by
  have hW' := hW
  obtain ⟨p, q, hA0, hV, rfl, hfz, hnd⟩ := hW
  have hA : DataW.TrodAll enc Try.prog W 0 (fun _ => true) true Try.f4.params.toList args.toList ds p := hA0
  rw [Try.params4] at hA hval hsz
  obtain ⟨v0, d0, rfl, rfl, h0⟩ := trodAll_one hA
  obtain ⟨rfl, rfl⟩ := trodVars_none hV
  clear hA0 hA
  simp only [List.append_nil] at hW' hsz
  have hlt : ∀ x ∈ p, x.block < W.heap.size := fun x hx => hW'.lt x (by simp [hx])
  have tail : ∀ W', RowKit.Below W.heap.size W W' → Rows.settleDrainsSpec.post enc Try.prog Try.f4 false true false false W #[v0] (.bool true) W' := by
    intro W' hs
    have ARG := Below.trod laidOut (by kernel_rfl) (of_decide_eq_true (by kernel_rfl)) h0 hs hlt
    refine ⟨_, _, _, [], p, [], hW', ?_, ?_, rfl, hs.frame _, fun h => by cases h⟩
    · exact trodAll_mk1 (shut_bool Try.underlying4 true)
    · exact trodAll_mk1 ARG
  have hfit : Fits 24 d0 := fits_of_each (each_of_all hsz) (j := 0) rfl rfl
  obtain ⟨cs, rfl, hcsz⟩ := okWide_struct Try.underlying24 (hval 0 24 v0 rfl rfl)
  rw [show Try.prog.cellsOf 24 = 8 by kernel_rfl] at hcsz
  obtain ⟨u0, u1, u2, u3, u4, u5, u6, u7, rfl⟩ : ∃ u0 u1 u2 u3 u4 u5 u6 u7, cs = #[u0, u1, u2, u3, u4, u5, u6, u7] := by
    rcases cs with ⟨l⟩
    match l, hcsz with
    | [a, b, c, d, e, f, g, h], _ => exact ⟨a, b, c, d, e, f, g, h, rfl⟩
  obtain ⟨fuel, hf0⟩ := h0
  obtain ⟨xs, m, _, hx, _, hlen, hfs⟩ := DataW.trod_struct Try.underlying24 hf0
  obtain ⟨y0, y1, y2, y3, y4, y5, y6, y7, rfl⟩ : ∃ y0 y1 y2 y3 y4 y5 y6 y7, xs = [y0, y1, y2, y3, y4, y5, y6, y7] := by
    match xs, hlen with
    | [a, b, c, d, e, f, g, h], _ => exact ⟨a, b, c, d, e, f, g, h, rfl⟩
  have f0 := hfs 0 _ rfl
  have f1 := hfs 1 _ rfl
  have f2 := hfs 2 _ rfl
  have f3 := hfs 3 _ rfl
  have f4 := hfs 4 _ rfl
  have f5 := hfs 5 _ rfl
  have f6 := hfs 6 _ rfl
  have f7 := hfs 7 _ rfl
  simp [Value.cells, cellsI] at f0
  simp [Value.cells, cellsI] at f1
  simp [Value.cells, cellsI] at f2
  simp [Value.cells, cellsI] at f3
  simp [Value.cells, cellsI] at f4
  simp [Value.cells, cellsIs] at f5
  simp [Value.cells, cellsIs] at f6
  simp [Value.cells, cellsIs] at f7
  obtain ⟨a0, e0, _, _⟩ := DataW.trod_int Try.underlying3 f0
  obtain rfl : u0 = .int .i64 a0 := by simpa using e0
  obtain ⟨a1, e1, _, _⟩ := DataW.trod_int Try.underlying3 f1
  obtain rfl : u1 = .int .i64 a1 := by simpa using e1
  obtain ⟨a2, e2, _, _⟩ := DataW.trod_int Try.underlying3 f2
  obtain rfl : u2 = .int .i64 a2 := by simpa using e2
  obtain ⟨a3, e3, _, _⟩ := DataW.trod_int Try.underlying3 f3
  obtain rfl : u3 = .int .i64 a3 := by simpa using e3
  obtain ⟨a4, e4, _, _⟩ := DataW.trod_int Try.underlying3 f4
  obtain rfl : u4 = .int .i64 a4 := by simpa using e4
  have hf5 : Fits 22 y5.1 := fun n hn => hfit n (by
    rw [show d0 = _ from congrArg Prod.fst hx]
    simp only [DataW.weights, Try.underlying24]
    exact DataW.weights_mem_each (j := 5) rfl rfl n hn)
  have hf6 : Fits 22 y6.1 := fun n hn => hfit n (by
    rw [show d0 = _ from congrArg Prod.fst hx]
    simp only [DataW.weights, Try.underlying24]
    exact DataW.weights_mem_each (j := 6) rfl rfl n hn)
  have hf7 : Fits 22 y7.1 := fun n hn => hfit n (by
    rw [show d0 = _ from congrArg Prod.fst hx]
    simp only [DataW.weights, Try.underlying24]
    exact DataW.weights_mem_each (j := 7) rfl rfl n hn)
  obtain ⟨ma, mc, ms, rfl, hM, hml⟩ := open_ints f5 hf5
  obtain ⟨ha, hc, hs, rfl, hH, hhl⟩ := open_ints f6 hf6
  obtain ⟨xa, xc, xs, rfl, hX, hxl⟩ := open_ints f7 hf7
  refine (drains_any a0 a1 a2 a3 a4 hM hml hH hhl hX hxl).mono fun e W' ⟨he, hsi⟩ => ?_
  have hg : RowKit.Below W.heap.size W W' := ⟨hsi.os, hsi.tape, hsi.output, hsi.size, hsi.block⟩
  subst he
  exact ⟨_, rfl, tail W' hg⟩

set_option maxHeartbeats 1600000 in
set_option maxRecDepth 100000 in
theorem lifted (os : Os) (started : os.Started) (H : Type) (enc : TypeId × Value → H) :
    ReturnsInHanded {} Try.checked os 4 .any (Rows.settleDrainsSpec.pre6 enc Try.prog Try.f4 Rows.settleDrainsRow.domain false) (Rows.settleDrainsSpec.post enc Try.prog Try.f4 false true false false) := by
  refine returnsInHanded_of_change_shaped (C := Try.checked) own started (by kernel_rfl) Try.func4
    (ChangeSpec.witness6 (enc := enc) (C := Try.checked) false ⟨#[], #[.agg #[.int .i64 0, .int .i64 0, .int .i64 0, .int .i64 0, .int .i64 0, .slice none 0 0, .slice none 0 0, .slice none 0 0]], []⟩ 8 (by kernel_rfl) (by kernel_rfl) (by kernel_rfl) (by kernel_rfl)) ?_
  intro W base args ds gs before hval hW _ hsz _ _
  exact contract H enc W base args ds gs before hval hW hsz

theorem over : Rows.settleDrainsRow.holds Try.pinned (OpenSpec.ofChange Rows.settleDrainsSpec) :=
  OpenClaim.holds_of_wide 4 Try.f4 rfl rfl rfl rfl rfl rfl rfl ⟨rfl, rfl, rfl, rfl, rfl⟩ rfl rfl rfl rfl rfl (by kernel_rfl) Try.func4 (by kernel_rfl)
    (of_decide_eq_true (by kernel_rfl)) (by unfold Func.isWrapper; first | (rw [if_pos (by decide +kernel)]; kernel_rfl) | (rw [if_neg (by decide +kernel)]; exact ⟨rfl, rfl⟩))
    (fun os started H enc _ => lifted os started H enc)
end Go.Proofs.Ytflppkmicgglfaa.settleDrains
namespace Go.Proofs.Ytflppkmicgglfaa
theorem settleDrains_said : Rows.SettleDrainsSaid := settleDrains.over
end Go.Proofs.Ytflppkmicgglfaa
