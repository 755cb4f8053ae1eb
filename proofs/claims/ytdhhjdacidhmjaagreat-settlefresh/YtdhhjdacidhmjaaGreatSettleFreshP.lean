/- SettleFresh: for every input the law returns true and the input reads as it did. No condition. -/
import Derived.Test.YtdhhjdacidhmjaaGreatRows
import Derived.Test.YtdhhjdacidhmjaaGreatM12
import Derived.Test.YtdhhjdacidhmjaaGreatM10
import Derived.ProofKit
import Derived.OpenShut
import Derived.SizedLaws
import Derived.HandedShaped
import Derived.Lib.SmallJoins
namespace Go.Proofs.YtdhhjdacidhmjaaGreat.settleFresh
open Go.ChangeShapes Go.WideShapes Go.ChangeAt Go.RowKit Go.Deep Go.Joins
set_option maxRecDepth 100000

theorem own : ownKnob Tryz.prog.godebug = none := by kernel_rfl
theorem laidOut : laidOutB Tryz.prog = true := by kernel_rfl

set_option maxHeartbeats 1600000 in
set_option maxRecDepth 100000 in
theorem contract (H : Type) (enc : TypeId × Value → H) (W : World) (base : Nat) (args : Array Value) (ds gs : List (DataW H)) (before : List MemPlace)
    (hval : ∀ (j : Nat) t v, Tryz.f4.params[j]? = some t → args[j]? = some v → Value.okWide Tryz.prog W .any base t v)
    (hW : DataW.Whole enc Tryz.prog Tryz.f4.params.toList Rows.settleFreshSpec.vars false W args.toList ds gs before)
    (hsz : (DataW.weightsEach Tryz.prog (Tryz.f4.params.toList ++ Rows.settleFreshSpec.plain.varTypes Tryz.prog) (ds ++ gs)).all (· ≤ reachBytes) = true) :
    Calls Tryz.prog 4 args W fun e W' => ∃ v, e = .returned v ∧ Rows.settleFreshSpec.post enc Tryz.prog Tryz.f4 false true false false W args v W' := by
  have hW' := hW
  obtain ⟨p, q, hA0, hV, rfl, hfz, hnd⟩ := hW
  have hA : DataW.TrodAll enc Tryz.prog W 0 (fun _ => true) true Tryz.f4.params.toList args.toList ds p := hA0
  rw [Tryz.params4] at hA hval hsz
  obtain ⟨v0, d0, rfl, rfl, h0⟩ := trodAll_one hA
  obtain ⟨rfl, rfl⟩ := trodVars_none hV
  clear hA0 hA
  simp only [List.append_nil] at hW' hsz
  have hlt : ∀ x ∈ p, x.block < W.heap.size := fun x hx => hW'.lt x (by simp [hx])
  have tail : ∀ W', RowKit.Below W.heap.size W W' → Rows.settleFreshSpec.post enc Tryz.prog Tryz.f4 false true false false W #[v0] (.bool true) W' := by
    intro W' hs
    have ARG := Below.trod laidOut (by kernel_rfl) (of_decide_eq_true (by kernel_rfl)) h0 hs hlt
    refine ⟨_, _, _, [], p, [], hW', ?_, ?_, rfl, hs.frame _, fun h => by cases h⟩
    · exact trodAll_mk1 (shut_bool Tryz.underlying4 true)
    · exact trodAll_mk1 ARG
  have hfit : Fits 25 d0 := fits_of_each (each_of_all hsz) (j := 0) rfl rfl
  obtain ⟨cs, rfl, hcsz⟩ := okWide_struct Tryz.underlying25 (hval 0 25 v0 rfl rfl)
  rw [show Tryz.prog.cellsOf 25 = 13 by kernel_rfl] at hcsz
  obtain ⟨u0, u1, u2, u3, u4, u5, u6, u7, u8, u9, u10, u11, u12, rfl⟩ : ∃ u0 u1 u2 u3 u4 u5 u6 u7 u8 u9 u10 u11 u12, cs = #[u0, u1, u2, u3, u4, u5, u6, u7, u8, u9, u10, u11, u12] := by
    rcases cs with ⟨l⟩
    match l, hcsz with
    | [a, b, c, d, e, f, g, h, i, j, k, l, m], _ => exact ⟨a, b, c, d, e, f, g, h, i, j, k, l, m, rfl⟩
  obtain ⟨fuel, hf0⟩ := h0
  obtain ⟨xs, m, _, hx, _, hlen, hfs⟩ := DataW.trod_struct Tryz.underlying25 hf0
  obtain ⟨y0, y1, y2, y3, y4, y5, y6, rfl⟩ : ∃ y0 y1 y2 y3 y4 y5 y6, xs = [y0, y1, y2, y3, y4, y5, y6] := by
    match xs, hlen with
    | [a, b, c, d, e, f, g], _ => exact ⟨a, b, c, d, e, f, g, rfl⟩
  have f0 := hfs 0 _ rfl
  have f1 := hfs 1 _ rfl
  have f2 := hfs 2 _ rfl
  have f3 := hfs 3 _ rfl
  have f4 := hfs 4 _ rfl
  have f5 := hfs 5 _ rfl
  have f6 := hfs 6 _ rfl
  simp [Value.cells, cells2] at f0
  simp [Value.cells, cells2] at f1
  simp [Value.cells, cells2] at f2
  simp [Value.cells, cells2] at f3
  simp [Value.cells, cells2] at f4
  simp [Value.cells, cells2] at f5
  simp [Value.cells, cellsOps] at f6
  obtain ⟨a0, a1, rfl, rfl⟩ := open_pair f0
  obtain ⟨a2, a3, rfl, rfl⟩ := open_pair f1
  obtain ⟨a4, a5, rfl, rfl⟩ := open_pair f2
  obtain ⟨a6, a7, rfl, rfl⟩ := open_pair f3
  obtain ⟨a8, a9, rfl, rfl⟩ := open_pair f4
  obtain ⟨a10, a11, rfl, rfl⟩ := open_pair f5
  have hf6 : Fits 23 y6.1 := fun n hn => hfit n (by
    rw [show d0 = _ from congrArg Prod.fst hx]
    simp only [DataW.weights, Tryz.underlying25]
    exact DataW.weights_mem_each (j := 6) rfl rfl n hn)
  obtain ⟨oa, on, oc, OO, rfl, hOO, hon⟩ := open_sops f6 hf6
  refine (settle_fresh (fun j => [a0, a1, a2, a3, a4, a5, a6, a7, a8, a9, a10, a11].getD j 0) hOO hon).mono fun e W' ⟨he, hsi⟩ => ?_
  have hg : RowKit.Below W.heap.size W W' := ⟨hsi.os, hsi.tape, hsi.output, hsi.size, hsi.block⟩
  subst he
  exact ⟨_, rfl, tail W' hg⟩

set_option maxHeartbeats 1600000 in
set_option maxRecDepth 100000 in
theorem lifted (os : Os) (started : os.Started) (H : Type) (enc : TypeId × Value → H) :
    ReturnsInHanded {} Tryz.checked os 4 .any (Rows.settleFreshSpec.pre6 enc Tryz.prog Tryz.f4 Rows.settleFreshRow.domain false) (Rows.settleFreshSpec.post enc Tryz.prog Tryz.f4 false true false false) := by
  refine returnsInHanded_of_change_shaped (C := Tryz.checked) own started (by kernel_rfl) Tryz.func4
    (ChangeSpec.witness6 (enc := enc) (C := Tryz.checked) false ⟨#[], #[.agg #[.int .i64 0, .int .i64 0, .int .i64 0, .int .i64 0, .int .i64 0, .int .i64 0, .int .i64 0, .int .i64 0, .int .i64 0, .int .i64 0, .int .i64 0, .int .i64 0, .slice none 0 0]], []⟩ 8 (by kernel_rfl) (by kernel_rfl) (by kernel_rfl) (by kernel_rfl)) ?_
  intro W base args ds gs before hval hW _ hsz _ _
  exact contract H enc W base args ds gs before hval hW hsz

theorem over : Rows.settleFreshRow.holds Tryz.pinned (OpenSpec.ofChange Rows.settleFreshSpec) :=
  OpenClaim.holds_of_wide 4 Tryz.f4 rfl rfl rfl rfl rfl rfl rfl ⟨rfl, rfl, rfl, rfl, rfl⟩ rfl rfl rfl rfl rfl (by kernel_rfl) Tryz.func4 (by kernel_rfl)
    (of_decide_eq_true (by kernel_rfl)) (by unfold Func.isWrapper; first | (rw [if_pos (by decide +kernel)]; kernel_rfl) | (rw [if_neg (by decide +kernel)]; exact ⟨rfl, rfl⟩))
    (fun os started H enc _ => lifted os started H enc)
end Go.Proofs.YtdhhjdacidhmjaaGreat.settleFresh
namespace Go.Proofs.YtdhhjdacidhmjaaGreat
theorem settleFresh_said : Rows.SettleFreshSaid := settleFresh.over
end Go.Proofs.YtdhhjdacidhmjaaGreat
