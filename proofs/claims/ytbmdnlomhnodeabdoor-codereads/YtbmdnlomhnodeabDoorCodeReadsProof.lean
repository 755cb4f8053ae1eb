/- CodeReads holds: whatever bytes two Readers are made of and whatever calls are made on them in turns, every answer, place and fault is the document's, and what they were made of may be changed behind that; the call answers true and leaves its argument as it was. Its conditions: those of the given row and card alone (the table widths of package code is tied to the program's text). -/
import Derived.Test.YtbmdnlomhnodeabDoorScript
import Derived.Test.YtbmdnlomhnodeabDoorCodeReads2
namespace Go.Proofs.YtbmdnlomhnodeabDoor.codeReads
open Go.ChangeShapes Go.WideShapes Go.ChangeAt Go.RowKit Go.Deep
set_option maxRecDepth 100000

set_option maxHeartbeats 1600000 in
set_option maxRecDepth 100000 in
theorem contract (H : Type) (enc : TypeId × Value → H) (W : World) (base : Nat) (args : Array Value) (ds gs : List (DataW H)) (before : List MemPlace)
    (hval : ∀ (j : Nat) t v, Tryd.f5.params[j]? = some t → args[j]? = some v → Value.okWide Tryd.prog W .any base t v)
    (hW : DataW.Whole enc Tryd.prog Tryd.f5.params.toList Rows.codeReadsSpec.vars false W args.toList ds gs before)
    (hsz : (DataW.weightsEach Tryd.prog (Tryd.f5.params.toList ++ Rows.codeReadsSpec.plain.varTypes Tryd.prog) (ds ++ gs)).all (· ≤ reachBytes) = true)
    (hL : laidMetH Tryd.prog Rows.codeReadsRow.laid W) :
    Calls Tryd.prog 5 args W fun e W' => ∃ v, e = .returned v ∧ Rows.codeReadsSpec.post enc Tryd.prog Tryd.f5 false true false false W args v W' := by
  have hW' := hW
  obtain ⟨p, q, hA0, hV, rfl, hfz, hnd⟩ := hW
  have hA : DataW.TrodAll enc Tryd.prog W 0 (fun _ => true) true Tryd.f5.params.toList args.toList ds p := hA0
  rw [Tryd.params5] at hA hval hsz
  obtain ⟨v0, d0, rfl, rfl, h0⟩ := trodAll_one hA
  obtain ⟨rfl, rfl⟩ := trodVars_none hV
  clear hA0 hA
  simp only [List.append_nil] at hW' hfz hsz
  have hlt : ∀ x ∈ p, x.block < W.heap.size := fun x hx => hW'.lt x (by simp [hx])
  have tail : ∀ W', W.Since W.heap.size W' → Rows.codeReadsSpec.post enc Tryd.prog Tryd.f5 false true false false W #[v0] (.bool true) W' := by
    intro W' hs
    have ARG : DataW.Trod enc Tryd.prog W' 0 (fun x => decide (x < W.heap.size)) true 26 v0 d0 p :=
      WideElems.Trod_stays laidOut (by kernel_rfl) (of_decide_eq_true (by kernel_rfl)) h0 (fun x hx => hs.sameAt (hlt x hx)) (fun x hx => by simpa using hlt x hx)
    refine ⟨_, _, _, [], p, [], hW', ?_, ?_, rfl, hs.frame _, fun h => by cases h⟩
    · exact trodAll_mk1 (shut_bool Tryd.underlying4 true)
    · exact trodAll_mk1 ARG
  have hfit : Fits 26 d0 := fits_of_each (each_of_all hsz) (j := 0) rfl rfl
  obtain ⟨a0, len0, cap0, x0, a1, len1, cap1, x1, oa, ob, oo, olen, ocap, rfl, hS⟩ := open_script (hval 0 26 v0 rfl rfl) h0 hfit
  have hnil : ∀ {a : Option Addr} {len cap : Nat} {x : Nat → Nat}, len ≤ cap → Byt W a cap x → a = none → len = 0 ∧ cap = 0 := fun {a len cap x} hl hb hn => by
    have hb0 : cap = 0 := by
      rcases Nat.eq_zero_or_pos cap with e | e
      · exact e
      · obtain ⟨b, off, e', _⟩ := hb 0 e
        rw [hn] at e'
        cases e'
    exact ⟨by omega, hb0⟩
  have two : ∀ {P : Nat → Prop}, P 0 → P 1 → ∀ k, k < 2 → P k := fun {P} h0 h1 k hk => by
    match k, hk with
    | 0, _ => exact h0
    | 1, _ => exact h1
  refine (codeReads_walk (fun k => match k with | 0 => a0 | _ => a1) (fun k => match k with | 0 => len0 | _ => len1) (fun k => match k with | 0 => cap0 | _ => cap1) (fun k => match k with | 0 => x0 | _ => x1) oa ob oo olen ocap W (by have := hS.olen1; omega) (wid_table hL) hS.oa1
    (two (hS.b0.le hS.l0) (hS.b1.le hS.l1)) (two (hnil hS.l0 hS.b0) (hnil hS.l1 hS.b1)) (two hS.z0 hS.z1) (two (Nat.le_trans hS.l0 hS.m0) (Nat.le_trans hS.l1 hS.m1)) (fun i hi => ?_)).mono fun e W' ⟨he, hs⟩ => ?_
  · obtain ⟨K, WH, M, N, ba, bl, bc, zb, h⟩ := hS.op i hi
    exact ⟨K, WH, M, N, ba, bl, bc, h.c0, h.c1, h.c2, h.c3, h.c4, h.m1.2⟩
  subst he
  exact ⟨_, rfl, tail W' hs⟩

abbrev wit : Array Value := #[.agg #[.slice none 0 0, .slice none 0 0, .slice none 0 0]]
theorem laid_met (os : Os) : laidMet Tryd.prog Rows.codeReadsRow.laid ((laidWorld os).forCall (fun _ _ => 0) ⟨#[], wit, []⟩).memory :=
  laidMet_of_run' 8 (by kernel_rfl) (by kernel_rfl)
theorem reads (os : Os) {H : Type} (enc : TypeId × Value → H) : ∃ places, DataW.whole enc Tryd.prog ((laidWorld os).forCall (fun _ _ => 0) ⟨#[], wit, []⟩).memory Tryd.f5.params.toList Rows.codeReadsSpec.vars false wit.toList 8 = some ([.agg [.agg [.nil, .nil], .nil]], [], places) :=
  ⟨[], by kernel_rfl⟩

set_option maxRecDepth 100000 in
theorem lifted (os : Os) (started : os.Started) (H : Type) (enc : TypeId × Value → H) (F : Stop.Interp) :
    ReturnsInHanded {} Tryd.checked os 5 .any ((OpenSpec.ofChange Rows.codeReadsSpec).preRow enc Tryd.prog Tryd.f5 Rows.codeReadsRow.domain false Rows.codeReadsRow.laid) (((OpenSpec.ofChange Rows.codeReadsSpec).at F).post enc Tryd.prog Tryd.f5 false true false false) := by
  obtain ⟨places, hx⟩ := reads os enc
  refine returnsInHanded_of_row (C := Tryd.checked) (s := OpenSpec.ofChange Rows.codeReadsSpec) own started (by kernel_rfl) Tryd.func5
    (witness_row_at (enc := enc) (C := Tryd.checked) false (laidWorld os) wit rfl (by kernel_rfl) (by kernel_rfl) (by kernel_rfl)
      (OpenSpec.preRow_of_cond 8 hx (by kernel_rfl) (fun k hk => by cases hk) (by kernel_rfl) (laid_met os))) ?_
  intro W base args ds gs before hval hW _ _ hsz hL _ _
  exact contract H enc W base args ds gs before hval hW hsz hL

theorem said : Rows.CodeReadsSaid :=
  OpenClaim.holds_of_cond 5 Tryd.f5 rfl rfl rfl rfl rfl rfl rfl ⟨rfl, rfl, rfl, rfl, rfl⟩ rfl rfl rfl rfl rfl (by kernel_rfl) Tryd.func5 (by kernel_rfl)
    (of_decide_eq_true (by kernel_rfl)) (by unfold Func.isWrapper; rw [if_neg (of_decide_eq_false (by kernel_rfl))]; exact ⟨rfl, rfl⟩)
    (fun os started H enc _ F => by rw [OpenClaim.pre_eq_preRow]; exact lifted os started H enc F)

/-- No parameter wants a stand-in; the program's own looks are off: what the card asks. -/
theorem plain (f : FuncId) (fn : Func) (hf : Tryd.pinned.checked.prog.funcNamed "tally/tallylaw1.CodeReads" = some f) (hfn : Tryd.pinned.checked.prog.funcs[f]? = some fn) :
    false = Tryd.pinned.checked.prog.looks [] ∧ ∀ (j : Nat) t, fn.params[j]? = some t → Tryd.pinned.checked.prog.wantsStandIn t = false := by
  obtain rfl : f = 5 := Option.some.inj ((show Tryd.prog.funcNamed "tally/tallylaw1.CodeReads" = some 5 by kernel_rfl).symm.trans hf) |>.symm
  obtain rfl : fn = Tryd.f5 := (Option.some.inj (Tryd.func5.symm.trans hfn)).symm
  refine ⟨by kernel_rfl, fun j t ht => ?_⟩
  rw [Tryd.params5] at ht
  obtain rfl : t = 26 := by simpa using Array.mem_of_getElem? ht
  exact (show Tryd.prog.wantsStandIn 26 = false by kernel_rfl)

theorem card : Rows.CodeReadsCardSaid :=
  Claim7.holds_tied_plain_at .later [] _ _ _ _ said (fun _ h => by cases h) (by kernel_rfl) (fun _ h => by cases h) codeReads_row_tie rfl ⟨rfl, rfl⟩ (by kernel_rfl) rfl plain (by kernel_rfl)
end Go.Proofs.YtbmdnlomhnodeabDoor.codeReads
namespace Go.Proofs.YtbmdnlomhnodeabDoor
theorem codeReads_card : Rows.CodeReadsCardSaid := codeReads.card
end Go.Proofs.YtbmdnlomhnodeabDoor
