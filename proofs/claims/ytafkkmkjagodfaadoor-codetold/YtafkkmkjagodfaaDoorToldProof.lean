/- CodeTold holds: whatever text and numbers it is given, the call answers true and leaves them as they were. Its conditions: those of the given row and card alone (the table sumSteps of package code is tied to the program's text). -/
import Derived.Test.YtafkkmkjagodfaaDoorFrame
import Derived.Test.YtafkkmkjagodfaaDoorTold
namespace Go.Proofs.YtafkkmkjagodfaaDoor.told
open Go.ChangeShapes Go.WideShapes Go.ChangeAt Go.RowKit Go.Deep

theorem cells30 : Tryd.prog.cellsOf 30 = 5 := by kernel_rfl
theorem five {cs : Array Value} (h : cs.size = 5) : ∃ a b c d e, cs = #[a, b, c, d, e] := by
  rcases cs with ⟨l⟩
  match l, h with
  | [a, b, c, d, e], _ => exact ⟨a, b, c, d, e, rfl⟩

set_option maxHeartbeats 1600000 in
set_option maxRecDepth 100000 in
theorem contract (H : Type) (enc : TypeId × Value → H) (W : World) (base : Nat) (args : Array Value) (ds gs : List (DataW H)) (before : List MemPlace)
    (hval : ∀ (j : Nat) t v, Tryd.f4.params[j]? = some t → args[j]? = some v → Value.okWide Tryd.prog W .any base t v)
    (hW : DataW.Whole enc Tryd.prog Tryd.f4.params.toList Rows.codeToldSpec.vars false W args.toList ds gs before)
    (hsz : (DataW.weightsEach Tryd.prog (Tryd.f4.params.toList ++ Rows.codeToldSpec.plain.varTypes Tryd.prog) (ds ++ gs)).all (· ≤ reachBytes) = true)
    (hL : laidMetH Tryd.prog Rows.codeToldRow.laid W) :
    Calls Tryd.prog 4 args W fun e W' => ∃ v, e = .returned v ∧ Rows.codeToldSpec.post enc Tryd.prog Tryd.f4 false true false false W args v W' := by
  have hW' := hW
  obtain ⟨p, q, hA0, hV, rfl, hfz, hnd⟩ := hW
  have hA : DataW.TrodAll enc Tryd.prog W 0 (fun _ => true) true Tryd.f4.params.toList args.toList ds p := hA0
  rw [Tryd.params4] at hA hval hsz
  obtain ⟨v0, d0, rfl, rfl, h0⟩ := trodAll_one hA
  obtain ⟨rfl, rfl⟩ := trodVars_none hV
  have h0k := h0
  clear hA0 hA
  simp only [List.append_nil] at hW' hfz hsz
  have hlt : ∀ x ∈ p, x.block < W.heap.size := fun x hx => hW'.lt x (by simp [hx])
  have tail : ∀ W', W.Since W.heap.size W' → Rows.codeToldSpec.post enc Tryd.prog Tryd.f4 false true false false W #[v0] (.bool true) W' := by
    intro W' hs
    have ARG : DataW.Trod enc Tryd.prog W' 0 (fun x => decide (x < W.heap.size)) true 30 v0 d0 p :=
      WideElems.Trod_stays laidOut (by kernel_rfl) (of_decide_eq_true (by kernel_rfl)) h0k (fun x hx => hs.sameAt (hlt x hx)) (fun x hx => by simpa using hlt x hx)
    refine ⟨_, _, _, [], p, [], hW', ?_, ?_, rfl, hs.frame _, fun h => by cases h⟩
    · exact trodAll_mk1 (shut_bool Tryd.underlying4 true)
    · exact trodAll_mk1 ARG
  obtain ⟨cs, rfl, hcsz⟩ := okWide_struct Tryd.underlying30 (hval 0 30 v0 rfl rfl)
  rw [cells30] at hcsz
  obtain ⟨u0, u1, u2, u3, u4, rfl⟩ := five hcsz
  obtain ⟨fuel, hf⟩ := h0
  obtain ⟨xs, m, _, hx, _, hlen, hfs⟩ := DataW.trod_struct Tryd.underlying30 hf
  obtain ⟨y0, y1, y2, y3, y4, rfl⟩ : ∃ y0 y1 y2 y3 y4, xs = [y0, y1, y2, y3, y4] := by
    match xs, hlen with
    | [a, b, c, d, e], _ => exact ⟨a, b, c, d, e, rfl⟩
  have f0 := hfs 0 _ rfl
  have f1 := hfs 1 _ rfl
  have f2 := hfs 2 _ rfl
  have f3 := hfs 3 _ rfl
  have f4 := hfs 4 _ rfl
  simp [Value.cells, cells27] at f0
  simp [Value.cells, cells3] at f1
  simp [Value.cells, cells25] at f2
  simp [Value.cells, cells3] at f3
  simp [Value.cells, cells3] at f4
  simp only [Prod.mk.injEq] at hx
  obtain ⟨hd0, _⟩ := hx
  obtain ⟨n1, e1, _, _⟩ := DataW.trod_int Tryd.underlying3 f1
  obtain ⟨n2, e2, _, w2⟩ := DataW.trod_int Tryd.underlying25 f2
  obtain ⟨n3, e3, _, _⟩ := DataW.trod_int Tryd.underlying3 f3
  obtain ⟨n4, e4, _, _⟩ := DataW.trod_int Tryd.underlying3 f4
  obtain rfl : u1 = .int .i64 n1 := by simpa using e1
  obtain rfl : u2 = .int .u32 n2 := by simpa using e2
  obtain rfl : u3 = .int .i64 n3 := by simpa using e3
  obtain rfl : u4 = .int .i64 n4 := by simpa using e4
  have b2 := bounds_u32 w2
  obtain ⟨B, rfl⟩ : ∃ B : Nat, n2 = B := ⟨n2.toNat, by omega⟩
  have hfit : Fits 30 d0 := fits_of_each (each_of_all hsz) (j := 0) rfl rfl
  have hfit0 : Fits 27 y0.1 := fun n hn => hfit n (by
    rw [hd0]
    simp only [DataW.weights, Tryd.underlying30]
    exact DataW.weights_mem_each (j := 0) rfl rfl n hn)
  obtain ⟨a, len, cap, z, rfl, hl, hcap, hz, hb⟩ := open_bytes f0 hfit0
  refine (told_walk a len cap z n1 n3 n4 B W (by omega) (hb.le hl) hz (by omega) (sum_table hL)).mono fun e W' ⟨he, hs⟩ => ?_
  subst he
  exact ⟨_, rfl, tail W' hs⟩

abbrev wit : Array Value := #[.agg #[.slice none 0 0, .int .i64 0, .int .u32 0, .int .i64 0, .int .i64 0]]
theorem laid_met (os : Os) : laidMet Tryd.prog Rows.codeToldRow.laid ((laidWorld os).forCall (fun _ _ => 0) ⟨#[], wit, []⟩).memory :=
  laidMet_of_run' 8 (by kernel_rfl) (by kernel_rfl)
theorem reads (os : Os) {H : Type} (enc : TypeId × Value → H) : ∃ places, DataW.whole enc Tryd.prog ((laidWorld os).forCall (fun _ _ => 0) ⟨#[], wit, []⟩).memory Tryd.f4.params.toList Rows.codeToldSpec.vars false wit.toList 8 = some ([.agg [.nil, .lit (.int .i64 0), .lit (.int .u32 0), .lit (.int .i64 0), .lit (.int .i64 0)]], [], places) :=
  ⟨[], by kernel_rfl⟩

set_option maxRecDepth 100000 in
theorem lifted (os : Os) (started : os.Started) (H : Type) (enc : TypeId × Value → H) (F : Stop.Interp) :
    ReturnsInHanded {} Tryd.checked os 4 .any ((OpenSpec.ofChange Rows.codeToldSpec).preRow enc Tryd.prog Tryd.f4 Rows.codeToldRow.domain false Rows.codeToldRow.laid) (((OpenSpec.ofChange Rows.codeToldSpec).at F).post enc Tryd.prog Tryd.f4 false true false false) := by
  obtain ⟨places, hx⟩ := reads os enc
  refine returnsInHanded_of_row (C := Tryd.checked) (s := OpenSpec.ofChange Rows.codeToldSpec) own started (by kernel_rfl) Tryd.func4
    (witness_row_at (enc := enc) (C := Tryd.checked) false (laidWorld os) wit rfl (by kernel_rfl) (by kernel_rfl) (by kernel_rfl)
      (OpenSpec.preRow_of_cond 8 hx (by kernel_rfl) (fun k hk => by cases hk) (by kernel_rfl) (laid_met os))) ?_
  intro W base args ds gs before hval hW _ _ hsz hL _ _
  exact contract H enc W base args ds gs before hval hW hsz hL

theorem said : Rows.CodeToldSaid :=
  OpenClaim.holds_of_cond 4 Tryd.f4 rfl rfl rfl rfl rfl rfl rfl ⟨rfl, rfl, rfl, rfl, rfl⟩ rfl rfl rfl rfl rfl (by kernel_rfl) Tryd.func4 (by kernel_rfl)
    (of_decide_eq_true (by kernel_rfl)) (by unfold Func.isWrapper; rw [if_neg (of_decide_eq_false (by kernel_rfl))]; exact ⟨rfl, rfl⟩)
    (fun os started H enc _ F => by rw [OpenClaim.pre_eq_preRow]; exact lifted os started H enc F)

/-- No parameter wants a stand-in; the program's own looks are off: what the card asks. -/
theorem plain (f : FuncId) (fn : Func) (hf : Tryd.pinned.checked.prog.funcNamed "tally/tallylaw1.CodeTold" = some f) (hfn : Tryd.pinned.checked.prog.funcs[f]? = some fn) :
    false = Tryd.pinned.checked.prog.looks [] ∧ ∀ (j : Nat) t, fn.params[j]? = some t → Tryd.pinned.checked.prog.wantsStandIn t = false := by
  obtain rfl : f = 4 := Option.some.inj ((show Tryd.prog.funcNamed "tally/tallylaw1.CodeTold" = some 4 by kernel_rfl).symm.trans hf) |>.symm
  obtain rfl : fn = Tryd.f4 := (Option.some.inj (Tryd.func4.symm.trans hfn)).symm
  refine ⟨by kernel_rfl, fun j t ht => ?_⟩
  rw [Tryd.params4] at ht
  obtain rfl : t = 30 := by simpa using Array.mem_of_getElem? ht
  exact (show Tryd.prog.wantsStandIn 30 = false by kernel_rfl)

theorem card : Rows.CodeToldCardSaid :=
  Claim7.holds_tied_plain_at .later [] _ _ _ _ said (fun _ h => by cases h) (by kernel_rfl) (fun _ h => by cases h) codeTold_row_tie rfl ⟨rfl, rfl⟩ (by kernel_rfl) rfl plain (by kernel_rfl)
end Go.Proofs.YtafkkmkjagodfaaDoor.told
namespace Go.Proofs.YtafkkmkjagodfaaDoor
theorem codeTold_card : Rows.CodeToldCardSaid := told.card
end Go.Proofs.YtafkkmkjagodfaaDoor
