/- CodeFresh holds: whatever bytes and calls it is given, what Out, Bytes and Raw hand out is the caller's own: it is left as it is for a while, then written full, spare room too, and nothing else is changed by that, then or later; the call answers true and leaves its argument as it was. Its conditions: those of the given row and card alone, among them the bound of the second form (at most 1048576 values); the table widths of package code is tied to the program's text. -/
import Derived.Test.YtbmdnlomhnodeabDoorScript
import Derived.Test.YtbmdnlomhnodeabDoorFresh4
import Derived.Test.YtbmdnlomhnodeabDoorBulkIn
namespace Go.Proofs.YtbmdnlomhnodeabDoor.fresh
open Go.ChangeShapes Go.WideShapes Go.ChangeAt Go.RowKit Go.Deep
set_option maxRecDepth 100000

set_option maxHeartbeats 1600000 in
set_option maxRecDepth 100000 in
theorem contract (H : Type) (enc : TypeId × Value → H) (W : World) (base : Nat) (args : Array Value) (ds gs : List (DataW H)) (before : List MemPlace)
    (hval : ∀ (j : Nat) t v, Tryd.f7.params[j]? = some t → args[j]? = some v → Value.okWide Tryd.prog W .any base t v)
    (hW : DataW.Whole enc Tryd.prog Tryd.f7.params.toList Rows.codeFreshSpec.vars false W args.toList ds gs before)
    (hsz : (DataW.weightsEach Tryd.prog (Tryd.f7.params.toList ++ Rows.codeFreshSpec.plain.varTypes Tryd.prog) (ds ++ gs)).all (· ≤ reachBytes) = true)
    (hk : Rows.uptoSmall H (ds ++ gs) = true)
    (hL : laidMetH Tryd.prog Rows.codeFreshUptoRow.laid W) :
    Calls Tryd.prog 7 args W fun e W' => ∃ v, e = .returned v ∧ Rows.codeFreshSpec.post enc Tryd.prog Tryd.f7 false true false false W args v W' := by
  have hW' := hW
  obtain ⟨p, q, hA0, hV, rfl, hfz, hnd⟩ := hW
  have hA : DataW.TrodAll enc Tryd.prog W 0 (fun _ => true) true Tryd.f7.params.toList args.toList ds p := hA0
  rw [Tryd.params7] at hA hval hsz
  obtain ⟨v0, d0, rfl, rfl, h0⟩ := trodAll_one hA
  obtain ⟨rfl, rfl⟩ := trodVars_none hV
  clear hA0 hA
  simp only [List.append_nil] at hW' hfz hsz
  have hlt : ∀ x ∈ p, x.block < W.heap.size := fun x hx => hW'.lt x (by simp [hx])
  have tail : ∀ W', W.Since W.heap.size W' → Rows.codeFreshSpec.post enc Tryd.prog Tryd.f7 false true false false W #[v0] (.bool true) W' := by
    intro W' hs
    have ARG : DataW.Trod enc Tryd.prog W' 0 (fun x => decide (x < W.heap.size)) true 26 v0 d0 p :=
      WideElems.Trod_stays laidOut (by kernel_rfl) (of_decide_eq_true (by kernel_rfl)) h0 (fun x hx => hs.sameAt (hlt x hx)) (fun x hx => by simpa using hlt x hx)
    refine ⟨_, _, _, [], p, [], hW', ?_, ?_, rfl, hs.frame _, fun h => by cases h⟩
    · exact trodAll_mk1 (shut_bool Tryd.underlying4 true)
    · exact trodAll_mk1 ARG
  have hfit : Fits 26 d0 := fits_of_each (each_of_all hsz) (j := 0) rfl rfl
  obtain ⟨a0, len0, cap0, x0, a1, len1, cap1, x1, oa, ob, oo, olen, ocap, rfl, hS⟩ := open_script (hval 0 26 v0 rfl rfl) h0 hfit
  have hbk : Rows.uptoBulk d0 ≤ 1048576 := by
    have := bulk_bound hk
    simp only [List.append_nil, Rows.uptoBulkAll] at this
    omega
  have hch : ∀ i, ∃ o : OpD, i < olen → OpIs W ob (oo + i * 5) o.K o.WH o.M o.N o.ba o.bl o.bc o.zb := fun i => by
    by_cases hi : i < olen
    · obtain ⟨K, WH, M, N, ba, bl, bc, zb, h⟩ := hS.op i hi
      exact ⟨⟨K, WH, M, N, ba, bl, bc, zb⟩, fun _ => h⟩
    · exact ⟨⟨0, 0, 0, 0, none, 0, 0, fun _ => 0⟩, fun h => absurd h hi⟩
  obtain ⟨F, hF⟩ := Classical.axiomOfChoice hch
  have hO : Ops W ob oo olen F := by
    refine ⟨fun i hi => ⟨(hF i hi).c0, (hF i hi).c1, (hF i hi).c2, (hF i hi).c3, (hF i hi).c4⟩, fun i hi => (hF i hi).n1, fun i hi => (hF i hi).byt.le (hF i hi).bl1, fun i hi hn => ?_, fun i hi => ?_, fun i hi => (hF i hi).zb1⟩
    · have hb0 : (F i).bc = 0 := by
        rcases Nat.eq_zero_or_pos (F i).bc with e | e
        · exact e
        · obtain ⟨b, off, e', _⟩ := (hF i hi).byt 0 e
          rw [hn] at e'
          cases e'
      have := (hF i hi).bl1
      exact ⟨by omega, hb0⟩
    · have hoa := hS.oa1 (by omega)
      subst hoa
      exact Nat.le_trans (bulk_script h0 i hi (hF i hi).c4) hbk
  have hwalk : Calls Tryd.prog 7 #[.agg #[.slice a0 len0 cap0, .slice a1 len1 cap1, .slice oa olen ocap]] W fun e w' => e = .returned (.bool true) ∧ W.Since W.heap.size w' :=
    fresh_walk a0 len0 cap0 a1 len1 cap1 x0 oa ob oo olen ocap F W (by have := hS.olen1; omega) (wid_table hL) hS.oa1 hO (fun i hi => (hF i hi).m1.2) hS.b0 hS.z0 hS.l0 (Nat.le_trans (bulk_in0 h0) hbk) hS.m0
  refine hwalk.mono fun e W' ⟨he, hs⟩ => ?_
  subst he
  exact ⟨_, rfl, tail W' hs⟩

abbrev wit : Array Value := #[.agg #[.slice none 0 0, .slice none 0 0, .slice none 0 0]]
theorem laid_met (os : Os) : laidMet Tryd.prog Rows.codeFreshUptoRow.laid ((laidWorld os).forCall (fun _ _ => 0) ⟨#[], wit, []⟩).memory :=
  laidMet_of_run' 8 (by kernel_rfl) (by kernel_rfl)
theorem reads (os : Os) {H : Type} (enc : TypeId × Value → H) : ∃ places, DataW.whole enc Tryd.prog ((laidWorld os).forCall (fun _ _ => 0) ⟨#[], wit, []⟩).memory Tryd.f7.params.toList Rows.codeFreshSpec.vars false wit.toList 8 = some ([.agg [.agg [.nil, .nil], .nil]], [], places) :=
  ⟨[], by kernel_rfl⟩

set_option maxRecDepth 100000 in
theorem lifted (os : Os) (started : os.Started) (H : Type) (enc : TypeId × Value → H) (F : Stop.Interp) :
    ReturnsInHanded {} Tryd.checked os 7 .any ((Rows.OpenSpec.upto Rows.codeFreshSpec).preRow enc Tryd.prog Tryd.f7 Rows.codeFreshUptoRow.domain false Rows.codeFreshUptoRow.laid) (((Rows.OpenSpec.upto Rows.codeFreshSpec).at F).post enc Tryd.prog Tryd.f7 false true false false) := by
  obtain ⟨places, hx⟩ := reads os enc
  refine returnsInHanded_of_row (C := Tryd.checked) (s := Rows.OpenSpec.upto Rows.codeFreshSpec) own started (by kernel_rfl) Tryd.func7
    (witness_row_at (enc := enc) (C := Tryd.checked) false (laidWorld os) wit rfl (by kernel_rfl) (by kernel_rfl) (by kernel_rfl)
      (OpenSpec.preRow_of_cond 8 hx (by kernel_rfl) (fun k hk => by cases hk; kernel_rfl) (by kernel_rfl) (laid_met os))) ?_
  intro W base args ds gs before hval hW _ hcond hsz hL _ _
  exact contract H enc W base args ds gs before hval hW hsz (hcond _ rfl) hL

theorem said : Rows.CodeFreshUptoSaid :=
  OpenClaim.holds_of_cond 7 Tryd.f7 rfl rfl rfl rfl rfl rfl rfl ⟨rfl, rfl, rfl, rfl, rfl⟩ rfl rfl rfl rfl rfl (by kernel_rfl) Tryd.func7 (by kernel_rfl)
    (of_decide_eq_true (by kernel_rfl)) (by unfold Func.isWrapper; rw [if_neg (of_decide_eq_false (by kernel_rfl))]; exact ⟨rfl, rfl⟩)
    (fun os started H enc _ F => by rw [OpenClaim.pre_eq_preRow]; exact lifted os started H enc F)

/-- No parameter wants a stand-in; the program's own looks are off: what the card asks. -/
theorem plain (f : FuncId) (fn : Func) (hf : Tryd.pinned.checked.prog.funcNamed "tally/tallylaw1.CodeFresh" = some f) (hfn : Tryd.pinned.checked.prog.funcs[f]? = some fn) :
    false = Tryd.pinned.checked.prog.looks [] ∧ ∀ (j : Nat) t, fn.params[j]? = some t → Tryd.pinned.checked.prog.wantsStandIn t = false := by
  obtain rfl : f = 7 := Option.some.inj ((show Tryd.prog.funcNamed "tally/tallylaw1.CodeFresh" = some 7 by kernel_rfl).symm.trans hf) |>.symm
  obtain rfl : fn = Tryd.f7 := (Option.some.inj (Tryd.func7.symm.trans hfn)).symm
  refine ⟨by kernel_rfl, fun j t ht => ?_⟩
  rw [Tryd.params7] at ht
  obtain rfl : t = 26 := by simpa using Array.mem_of_getElem? ht
  exact (show Tryd.prog.wantsStandIn 26 = false by kernel_rfl)

theorem card : Rows.CodeFreshUptoCardSaid :=
  Claim7.holds_tied_plain_at .later [] _ _ _ _ said (fun _ h => by cases h) (by kernel_rfl) (fun _ h => by cases h) codeFreshUpto_row_tie rfl ⟨rfl, rfl⟩ (by kernel_rfl) rfl plain (by kernel_rfl)
end Go.Proofs.YtbmdnlomhnodeabDoor.fresh
namespace Go.Proofs.YtbmdnlomhnodeabDoor
theorem codeFreshUpto_card : Rows.CodeFreshUptoCardSaid := fresh.card
end Go.Proofs.YtbmdnlomhnodeabDoor
