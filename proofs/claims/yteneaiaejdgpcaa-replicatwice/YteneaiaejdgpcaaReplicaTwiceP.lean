/- ReplicaTwice: for every input the law returns true and the input reads as it did. No condition. -/
import Derived.Test.YteneaiaejdgpcaaRows
import Derived.Test.YteneaiaejdgpcaaM3
import Derived.Test.YteneaiaejdgpcaaM4
import Derived.ProofKit
import Derived.OpenShut
import Derived.Lib.SmallJoins
import Derived.SizedLaws
import Derived.HandedShaped
namespace Go.Proofs.Yteneaiaejdgpcaa.replicaTwice
open Go.ChangeShapes Go.WideShapes Go.ChangeAt Go.RowKit Go.Deep Go.Joins
set_option maxRecDepth 100000


set_option maxHeartbeats 1600000 in
set_option maxRecDepth 100000 in
theorem contract (H : Type) (enc : TypeId × Value → H) (W : World) (base : Nat) (args : Array Value) (ds gs : List (DataW H)) (before : List MemPlace)
    (hval : ∀ (j : Nat) t v, Try.f4.params[j]? = some t → args[j]? = some v → Value.okWide Try.prog W .any base t v)
    (hW : DataW.Whole enc Try.prog Try.f4.params.toList Rows.replicaTwiceSpec.vars false W args.toList ds gs before)
    (hsz : (DataW.weightsEach Try.prog (Try.f4.params.toList ++ Rows.replicaTwiceSpec.plain.varTypes Try.prog) (ds ++ gs)).all (· ≤ reachBytes) = true) :
    Calls Try.prog 4 args W fun e W' => ∃ v, e = .returned v ∧ Rows.replicaTwiceSpec.post enc Try.prog Try.f4 false true false false W args v W' := by
  have hW' := hW
  obtain ⟨p, q, hA0, hV, rfl, hfz, hnd⟩ := hW
  have hA : DataW.TrodAll enc Try.prog W 0 (fun _ => true) true Try.f4.params.toList args.toList ds p := hA0
  rw [Try.params4] at hA hval hsz
  obtain ⟨v0, d0, rfl, rfl, h0⟩ := trodAll_one hA
  obtain ⟨rfl, rfl⟩ := trodVars_none hV
  clear hA0 hA
  simp only [List.append_nil] at hW' hsz
  have hlt : ∀ x ∈ p, x.block < W.heap.size := fun x hx => hW'.lt x (by simp [hx])
  have tail : ∀ W', RowKit.Below W.heap.size W W' → Rows.replicaTwiceSpec.post enc Try.prog Try.f4 false true false false W #[v0] (.bool true) W' := by
    intro W' hs
    have ARG := Below.trod laidOut (by kernel_rfl) (of_decide_eq_true (by kernel_rfl)) h0 hs hlt
    refine ⟨_, _, _, [], p, [], hW', ?_, ?_, rfl, hs.frame _, fun h => by cases h⟩
    · exact trodAll_mk1 (shut_bool Try.underlying4 true)
    · exact trodAll_mk1 ARG
  have hfit : Fits 30 d0 := fits_of_each (each_of_all hsz) (j := 0) rfl rfl
  obtain ⟨cs, rfl, hcsz⟩ := okWide_struct Try.underlying30 (hval 0 30 v0 rfl rfl)
  rw [cellsLf] at hcsz
  obtain ⟨u0, u1, u2, u3, u4, u5, rfl⟩ : ∃ u0 u1 u2 u3 u4 u5, cs = #[u0, u1, u2, u3, u4, u5] := by
    rcases cs with ⟨l⟩
    match l, hcsz with
    | [a, b, c, d, e, f], _ => exact ⟨a, b, c, d, e, f, rfl⟩
  obtain ⟨fuel, hf0⟩ := h0
  obtain ⟨xs, m, _, hx, _, hlen, hfs⟩ := DataW.trod_struct Try.underlying30 hf0
  obtain ⟨y0, y1, y2, rfl⟩ : ∃ y0 y1 y2, xs = [y0, y1, y2] := by
    match xs, hlen with
    | [a, b, c], _ => exact ⟨a, b, c, rfl⟩
  have f0 := hfs 0 _ rfl
  have f1 := hfs 1 _ rfl
  have f2 := hfs 2 _ rfl
  simp [Value.cells, cellsSt] at f0
  simp [Value.cells, cellsI] at f1
  simp [Value.cells, cellsOps] at f2
  have hfa : Fits 27 y0.1 := fun n hn => hfit n (by
    rw [show d0 = _ from congrArg Prod.fst hx]
    simp only [DataW.weights, Try.underlying30]
    exact DataW.weights_mem_each (j := 0) rfl rfl n hn)
  have hfb : Fits 28 y2.1 := fun n hn => hfit n (by
    rw [show d0 = _ from congrArg Prod.fst hx]
    simp only [DataW.weights, Try.underlying30]
    exact DataW.weights_mem_each (j := 2) rfl rfl n hn)
  obtain ⟨pp, te, ts, sa, sn, sc, z, rfl, rfl, rfl, rfl, hp, hte, hts, hsl, hsc, hz, hb, hnil⟩ := open_stored f0 hfa
  obtain ⟨span, e1, _, w1⟩ := DataW.trod_int Try.underlying3 f1
  obtain rfl : u4 = .int .i64 span := by simpa using e1
  have hspan := bounds_i64 w1
  obtain ⟨oa, on, oc, O, rfl, hO, hon⟩ := open_ops f2 hfb
  have hL : LifeIn W pp te ts sa sn sc z span oa on oc O := ⟨hp, hte, hts, fun j hj => hb j (by omega), hz, fun e => (hnil e).1, by omega, by omega, hO, hon⟩
  refine (twice_any hL).mono fun e W' ⟨he, hgs⟩ => ?_
  have hg : RowKit.Below W.heap.size W W' := ⟨hgs.os, hgs.tape, hgs.output, hgs.size, hgs.block⟩
  subst he
  exact ⟨_, rfl, tail W' hg⟩

set_option maxHeartbeats 1600000 in
set_option maxRecDepth 100000 in
theorem lifted (os : Os) (started : os.Started) (H : Type) (enc : TypeId × Value → H) :
    ReturnsInHanded {} Try.checked os 4 .any (Rows.replicaTwiceSpec.pre6 enc Try.prog Try.f4 Rows.replicaTwiceRow.domain false) (Rows.replicaTwiceSpec.post enc Try.prog Try.f4 false true false false) := by
  refine returnsInHanded_of_change_shaped (C := Try.checked) own started (by kernel_rfl) Try.func4
    (ChangeSpec.witness6 (enc := enc) (C := Try.checked) false ⟨#[], #[.agg #[.int .u64 0, .int .u64 0, .int .u64 0, .slice none 0 0, .int .i64 0, .slice none 0 0]], []⟩ 8 (by kernel_rfl) (by kernel_rfl) (by kernel_rfl) (by kernel_rfl)) ?_
  intro W base args ds gs before hval hW _ hsz _ _
  exact contract H enc W base args ds gs before hval hW hsz

theorem over : Rows.replicaTwiceRow.holds Try.pinned (OpenSpec.ofChange Rows.replicaTwiceSpec) :=
  OpenClaim.holds_of_wide 4 Try.f4 rfl rfl rfl rfl rfl rfl rfl ⟨rfl, rfl, rfl, rfl, rfl⟩ rfl rfl rfl rfl rfl (by kernel_rfl) Try.func4 (by kernel_rfl)
    (of_decide_eq_true (by kernel_rfl)) (by unfold Func.isWrapper; first | (rw [if_pos (by decide +kernel)]; kernel_rfl) | (rw [if_neg (by decide +kernel)]; exact ⟨rfl, rfl⟩))
    (fun os started H enc _ => lifted os started H enc)
end Go.Proofs.Yteneaiaejdgpcaa.replicaTwice
namespace Go.Proofs.Yteneaiaejdgpcaa
theorem replicaTwice_said : Rows.ReplicaTwiceSaid := replicaTwice.over
end Go.Proofs.Yteneaiaejdgpcaa
