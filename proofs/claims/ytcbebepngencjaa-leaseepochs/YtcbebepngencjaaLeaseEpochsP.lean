/- LeaseEpochs: for every input the law returns true and the input reads as it did. No condition. -/
import Derived.Test.YtcbebepngencjaaRows
import Derived.Test.YtcbebepngencjaaM2
import Derived.ProofKit
import Derived.OpenShut
import Derived.Lib.SmallJoins
namespace Go.Proofs.Ytcbebepngencjaa.leaseEpochs
open Go.ChangeShapes Go.WideShapes Go.ChangeAt Go.RowKit Go.Deep Go.Joins
set_option maxRecDepth 100000

theorem own : ownKnob Try.prog.godebug = none := by kernel_rfl
theorem laidOut : laidOutB Try.prog = true := by kernel_rfl

set_option maxHeartbeats 1600000 in
set_option maxRecDepth 100000 in
theorem contract (H : Type) (enc : TypeId × Value → H) (W : World) (base : Nat) (args : Array Value) (ds gs : List (DataW H)) (before : List MemPlace)
    (hval : ∀ (j : Nat) t v, Try.f4.params[j]? = some t → args[j]? = some v → Value.okWide Try.prog W .any base t v)
    (hW : DataW.Whole enc Try.prog Try.f4.params.toList Rows.leaseEpochsSpec.vars false W args.toList ds gs before) :
    Calls Try.prog 4 args W fun e W' => ∃ v, e = .returned v ∧ Rows.leaseEpochsSpec.post enc Try.prog Try.f4 false true false false W args v W' := by
  have hW' := hW
  obtain ⟨p, q, hA0, hV, rfl, hfz, hnd⟩ := hW
  have hA : DataW.TrodAll enc Try.prog W 0 (fun _ => true) true Try.f4.params.toList args.toList ds p := hA0
  rw [Try.params4] at hA hval
  obtain ⟨v0, d0, rfl, rfl, h0⟩ := trodAll_one hA
  obtain ⟨rfl, rfl⟩ := trodVars_none hV
  clear hA0 hA
  simp only [List.append_nil] at hW'
  have hlt : ∀ x ∈ p, x.block < W.heap.size := fun x hx => hW'.lt x (by simp [hx])
  have tail : ∀ W', RowKit.Below W.heap.size W W' → Rows.leaseEpochsSpec.post enc Try.prog Try.f4 false true false false W #[v0] (.bool true) W' := by
    intro W' hs
    have ARG := Below.trod laidOut (by kernel_rfl) (of_decide_eq_true (by kernel_rfl)) h0 hs hlt
    refine ⟨_, _, _, [], p, [], hW', ?_, ?_, rfl, hs.frame _, fun h => by cases h⟩
    · exact trodAll_mk1 (shut_bool Try.underlying4 true)
    · exact trodAll_mk1 ARG
  obtain ⟨cs, rfl, hcsz⟩ := okWide_struct Try.underlying38 (hval 0 38 v0 rfl rfl)
  have hc2 : Try.prog.cellsOf 38 = 5 := by kernel_rfl
  rw [hc2] at hcsz
  obtain ⟨u0, u1, u2, u3, u4, rfl⟩ : ∃ u0 u1 u2 u3 u4, cs = #[u0, u1, u2, u3, u4] := by
    rcases cs with ⟨l⟩
    match l, hcsz with
    | [a, b, c, d, e], _ => exact ⟨a, b, c, d, e, rfl⟩
  obtain ⟨fuel, hf0⟩ := h0
  obtain ⟨xs, m, _, hx, _, hlen, hfs⟩ := DataW.trod_struct Try.underlying38 hf0
  obtain ⟨y0, y1, y2, y3, y4, rfl⟩ : ∃ y0 y1 y2 y3 y4, xs = [y0, y1, y2, y3, y4] := by
    match xs, hlen with
    | [a, b, c, d, e], _ => exact ⟨a, b, c, d, e, rfl⟩
  have f0 := hfs 0 _ rfl
  have f1 := hfs 1 _ rfl
  have f2 := hfs 2 _ rfl
  have f3 := hfs 3 _ rfl
  have f4 := hfs 4 _ rfl
  simp [Value.cells, cellsI] at f0
  simp [Value.cells, cellsI] at f1
  simp [Value.cells, cellsI] at f2
  simp [Value.cells, cellsU] at f3
  simp [Value.cells, cellsOps] at f4
  obtain ⟨K0, e0, _, wf0⟩ := DataW.trod_int Try.underlying3 f0
  obtain rfl : u0 = .int .i64 K0 := by simpa using e0
  have hw0 := i64_of wf0
  obtain ⟨K1, e1, _, wf1⟩ := DataW.trod_int Try.underlying3 f1
  obtain rfl : u1 = .int .i64 K1 := by simpa using e1
  have hw1 := i64_of wf1
  obtain ⟨K2, e2, _, wf2⟩ := DataW.trod_int Try.underlying3 f2
  obtain rfl : u2 = .int .i64 K2 := by simpa using e2
  have hw2 := i64_of wf2
  obtain ⟨N3, e3, _, wf3⟩ := DataW.trod_int Try.underlying29 f3
  obtain ⟨K3, hk3, hw3⟩ := u64_of wf3
  obtain rfl : u3 = .int .u64 (K3 : Nat) := by rw [hk3] at e3; simpa using e3
  obtain ⟨oa, oc, ops, rfl, hO⟩ := open_lops f4
  clear hw0 hw1 hw2 hw3
  refine (epochsLaw K0 K1 K2 K3 oa oc ops W hO).mono fun e W' ⟨he, hg⟩ => ?_
  subst he
  exact ⟨_, rfl, tail W' hg⟩

set_option maxHeartbeats 1600000 in
set_option maxRecDepth 100000 in
theorem lifted (os : Os) (started : os.Started) (H : Type) (enc : TypeId × Value → H) :
    ReturnsInHanded {} Try.checked os 4 .any (Rows.leaseEpochsSpec.pre6 enc Try.prog Try.f4 Rows.leaseEpochsRow.domain false) (Rows.leaseEpochsSpec.post enc Try.prog Try.f4 false true false false) := by
  refine returnsInHanded_of_change (C := Try.checked) own started (by kernel_rfl) Try.func4
    (ChangeSpec.witness6 (enc := enc) (C := Try.checked) false ⟨#[], #[.agg #[.int .i64 0, .int .i64 0, .int .i64 0, .int .u64 0, .slice none 0 0]], []⟩ 8 (by kernel_rfl) (by kernel_rfl) (by kernel_rfl) (by kernel_rfl)) ?_
  intro W base args ds gs before hval hW _ _
  exact contract H enc W base args ds gs before hval hW

theorem over : Rows.leaseEpochsRow.holds Try.pinned (OpenSpec.ofChange Rows.leaseEpochsSpec) :=
  OpenClaim.holds_of_wide 4 Try.f4 rfl rfl rfl rfl rfl rfl rfl ⟨rfl, rfl, rfl, rfl, rfl⟩ rfl rfl rfl rfl rfl (by kernel_rfl) Try.func4 (by kernel_rfl)
    (of_decide_eq_true (by kernel_rfl)) (by unfold Func.isWrapper; first | (rw [if_pos (by decide +kernel)]; kernel_rfl) | (rw [if_neg (by decide +kernel)]; exact ⟨rfl, rfl⟩))
    (fun os started H enc _ => lifted os started H enc)
end Go.Proofs.Ytcbebepngencjaa.leaseEpochs
namespace Go.Proofs.Ytcbebepngencjaa
theorem leaseEpochs_said : Rows.LeaseEpochsSaid := leaseEpochs.over
end Go.Proofs.Ytcbebepngencjaa
