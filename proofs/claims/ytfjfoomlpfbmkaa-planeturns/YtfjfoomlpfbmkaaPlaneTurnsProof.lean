/- PlaneTurns: for every input the law returns true and the input reads as it did. No condition. -/
import Derived.Test.YtfjfoomlpfbmkaaRows
import Derived.Test.YtfjfoomlpfbmkaaPlaneTurns2
import Derived.ProofKit
import Derived.OpenShut
import Derived.Lib.SmallJoins
namespace Go.Proofs.Ytfjfoomlpfbmkaa.planeTurns
open Go.ChangeShapes Go.WideShapes Go.ChangeAt Go.RowKit Go.Deep Go.Joins
set_option maxRecDepth 100000

theorem array6 {α : Type} {cs : Array α} (h : cs.size = 6) : ∃ c0 c1 c2 c3 c4 c5, cs = #[c0, c1, c2, c3, c4, c5] := by
  obtain ⟨l⟩ := cs
  match l, h with
  | [c0, c1, c2, c3, c4, c5], _ => exact ⟨c0, c1, c2, c3, c4, c5, rfl⟩

theorem spot_cells {H : Type} {enc : TypeId × Value → H} {w : World} {base : Nat} {spare : Nat → Bool} {held : Bool} {n : Nat} {c0 c1 : Value} {y : DataW H × List MemPlace} (h : DataW.trod enc Try.prog w base spare held n 39 [c0, c1] = some y) :
    ∃ x z, c0 = .int .i64 x ∧ c1 = .int .i64 z := by
  obtain ⟨y0, y1, m, _, _, t0, t1⟩ := trod_struct2 Try.underlying39 h
  have e1 : Try.prog.cellsOf 3 = 1 := by kernel_rfl
  simp only [e1] at t0 t1
  obtain ⟨x, ex, _, _⟩ := DataW.trod_int Try.underlying3 t0
  obtain ⟨z, ez, _, _⟩ := DataW.trod_int Try.underlying3 t1
  exact ⟨x, z, (List.cons.inj ex).1, (List.cons.inj ez).1⟩

theorem own : ownKnob Try.prog.godebug = none := by kernel_rfl
theorem laidOut : laidOutB Try.prog = true := by kernel_rfl

set_option maxHeartbeats 1600000 in
set_option maxRecDepth 100000 in
theorem lifted (os : Os) (started : os.Started) (H : Type) (enc : TypeId × Value → H) :
    ReturnsInHanded {} Try.checked os 5 .any (Rows.planeTurnsSpec.pre6 enc Try.prog Try.f5 Rows.planeTurnsRow.domain false) (Rows.planeTurnsSpec.post enc Try.prog Try.f5 false true false false) := by
  refine returnsInHanded_of_change (C := Try.checked) own started (by kernel_rfl) Try.func5
    (ChangeSpec.witness6 (enc := enc) (C := Try.checked) false ⟨#[], #[.agg #[.int .i64 0, .int .i64 0, .int .i64 0, .int .i64 0, .int .i64 0, .int .i64 0]], []⟩ 8 (by kernel_rfl) (by kernel_rfl) (by kernel_rfl) (by kernel_rfl)) ?_
  intro W base args ds gs before hval0 hW _ _
  have hval : ∀ (j : Nat) t v, Try.f5.params[j]? = some t → args[j]? = some v → Value.okWide Try.prog W .any base t v := hval0
  have hW' := hW
  obtain ⟨p, q, hA0, hV, rfl, hfz, hnd⟩ := hW
  have hA : DataW.TrodAll enc Try.prog W 0 (fun _ => true) true Try.f5.params.toList args.toList ds p := hA0
  rw [Try.params5] at hA hval
  obtain ⟨v0, d0, rfl, rfl, h0⟩ := trodAll_one hA
  obtain ⟨rfl, rfl⟩ := trodVars_none hV
  clear hA0 hA
  simp only [List.append_nil] at hW'
  have hlt : ∀ x ∈ p, x.block < W.heap.size := fun x hx => hW'.lt x (by simp [hx])
  have tail : ∀ W', RowKit.Below W.heap.size W W' → Rows.planeTurnsSpec.post enc Try.prog Try.f5 false true false false W #[v0] (.bool true) W' := by
    intro W' hs
    have ARG := Below.trod laidOut (by kernel_rfl) (of_decide_eq_true (by kernel_rfl)) h0 hs hlt
    refine ⟨_, _, _, [], p, [], hW', ?_, ?_, rfl, hs.frame _, fun h => by cases h⟩
    · exact trodAll_mk1 (shut_bool Try.underlying4 true)
    · exact trodAll_mk1 ARG
  obtain ⟨cs, rfl, hsz⟩ := okWide_struct Try.underlying46 (hval 0 46 v0 rfl rfl)
  obtain ⟨c0, c1, c2, c3, c4, c5, rfl⟩ := array6 (hsz.trans (show Try.prog.cellsOf 46 = 6 by kernel_rfl))
  obtain ⟨fuel, hf⟩ := h0
  obtain ⟨y0, y1, y2, y3, n, _, _, t0, t1, t2, t3⟩ := trod_struct4 Try.underlying46 hf
  have e2 : Try.prog.cellsOf 39 = 2 := by kernel_rfl
  have e1 : Try.prog.cellsOf 3 = 1 := by kernel_rfl
  simp only [Value.cells, e2, e1] at t0 t1 t2 t3
  obtain ⟨PX, PY, rfl, rfl⟩ := spot_cells t0
  obtain ⟨QX, QY, rfl, rfl⟩ := spot_cells t1
  obtain ⟨A, eA, _, _⟩ := DataW.trod_int Try.underlying3 t2
  obtain ⟨B, eB, _, _⟩ := DataW.trod_int Try.underlying3 t3
  obtain rfl : c4 = _ := (List.cons.inj eA).1
  obtain rfl : c5 = _ := (List.cons.inj eB).1
  refine (turns_any PX PY QX QY A B W).mono fun e W' ⟨he, hg⟩ => ?_
  subst he
  exact ⟨_, rfl, tail W' hg⟩

theorem over : Rows.planeTurnsRow.holds Try.pinned (OpenSpec.ofChange Rows.planeTurnsSpec) :=
  OpenClaim.holds_of_wide 5 Try.f5 rfl rfl rfl rfl rfl rfl rfl ⟨rfl, rfl, rfl, rfl, rfl⟩ rfl rfl rfl rfl rfl (by kernel_rfl) Try.func5 (by kernel_rfl)
    (of_decide_eq_true (by kernel_rfl)) (by unfold Func.isWrapper; first | (rw [if_pos (by decide +kernel)]; kernel_rfl) | (rw [if_neg (by decide +kernel)]; exact ⟨rfl, rfl⟩))
    (fun os started H enc _ => lifted os started H enc)
end Go.Proofs.Ytfjfoomlpfbmkaa.planeTurns
namespace Go.Proofs.Ytfjfoomlpfbmkaa
theorem planeTurns_said : Rows.PlaneTurnsSaid := planeTurns.over
end Go.Proofs.Ytfjfoomlpfbmkaa
