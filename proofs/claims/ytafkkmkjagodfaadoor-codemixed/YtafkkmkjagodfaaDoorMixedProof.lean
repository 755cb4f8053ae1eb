/- CodeMixed holds: whatever texts it is given, the call answers true and leaves them as they were. Its conditions: those of the given row and card alone (the table sumSteps of package code is tied to the program's text). -/
import Derived.Test.YtafkkmkjagodfaaDoorCards
import Derived.Test.YtafkkmkjagodfaaDoorTie
import Derived.Test.YtafkkmkjagodfaaDoorMixed
import Derived.WalkKit
import Derived.ProofKit
import Derived.OpenShut
import Derived.SizedLaws
import Derived.Deep.Modes
import Derived.Deep.Frames
import Derived.Deep.Matrix
import Derived.Deep.DeepHandedRow
import Derived.Lib.LaidTab
namespace Go.Proofs.YtafkkmkjagodfaaDoor.mixed
open Go.ChangeShapes Go.WideShapes Go.ChangeAt Go.RowKit Go.Deep

theorem add_at (b o : Nat) (r : Nat) : (⟨b, o, none⟩ : Addr).add r = ⟨b, o + r, none⟩ := by simp [Addr.add]
theorem own : ownKnob Tryd.prog.godebug = none := by kernel_rfl
theorem laidOut : laidOutB Tryd.prog = true := by kernel_rfl
theorem gTab : Tryd.prog.globalNamed "tally/code.sumSteps" = some 0 := by kernel_rfl
theorem gTabType : (Tryd.prog.globals[0]?).map (·.type) = some 69 := by kernel_rfl
theorem cells69 : Tryd.prog.cellsOf 69 = 16 := by kernel_rfl
theorem cells25 : Tryd.prog.cellsOf 25 = 1 := by kernel_rfl
theorem cells27 : Tryd.prog.cellsOf 27 = 1 := by kernel_rfl
theorem cells24 : Tryd.prog.cellsOf 24 = 1 := by kernel_rfl
theorem cells22 : Tryd.prog.cellsOf 22 = 1 := by kernel_rfl
theorem cells5 : Tryd.prog.cellsOf 5 = 1 := by kernel_rfl
theorem bytes5 : Tryd.prog.bytesOf 5 = 1 := by kernel_rfl
theorem bytes27 : Tryd.prog.bytesOf 27 = 24 := by kernel_rfl
theorem reach_eq : reachBytes = 140737488351232 := rfl

theorem table {W : World} (h : laidMetH Tryd.prog Rows.codeMixedRow.laid W) : Lib.TabIs Tryd.prog W "tally/code.sumSteps" .u32 Crc.tab :=
  Lib.tabIs_of_head (rest := []) gTab gTabType Tryd.underlying69 Tryd.underlying25 cells25 cells69 h
theorem table_cells {W : World} (h : laidMetH Tryd.prog Rows.codeMixedRow.laid W) (i : Nat) (hi : i < 16) : W.cell? ⟨0, i, none⟩ = some (.int .u32 (Crc.T i : Nat)) := by
  have hc := (table h).cell gTab i hi
  rw [hc]
  have : ∀ j : Fin 16, Crc.tab.getD j.val 0 = ((Crc.T j.val : Nat) : Int) := by decide +kernel
  rw [this ⟨i, hi⟩]

theorem weightsAll_mem {H : Type} {P : Program} {e : TypeId} : ∀ {l : List (DataW H)} {d : DataW H}, d ∈ l → ∀ n ∈ d.weights P e, n ∈ DataW.weightsAll P e l
  | d' :: r, d, hd, n, hn => by
    simp only [DataW.weightsAll, List.mem_append]
    rcases List.mem_cons.1 hd with rfl | h
    · exact Or.inl hn
    · exact Or.inr (weightsAll_mem h n hn)

/-- THE FORM's OWN REACH, OF A ROW INSIDE A SLICE OF SLICES. -/
theorem sized_inner {H : Type} {P : Program} {ts : List TypeId} {ds : List (DataW H)} (h : (DataW.weightsEach P ts ds).all (· ≤ reachBytes) = true) {j : Nat} {t e q : TypeId} {elems spare e' sp' : List (DataW H)}
    (ht : ts[j]? = some t) (hd : ds[j]? = some (.slice elems spare)) (hu : P.underlying t = some (.slice e)) (hu2 : P.underlying e = some (.slice q)) (hx : DataW.slice e' sp' ∈ elems) : (e'.length + sp'.length) * P.bytesOf q ≤ reachBytes := by
  refine of_decide_eq_true (List.all_eq_true.1 h _ (DataW.weights_mem_each ht hd _ ?_))
  simp only [DataW.weights, hu, List.mem_cons, List.mem_append]
  exact Or.inr (Or.inl (weightsAll_mem hx _ (by simp [DataW.weights, hu2])))

/-- A byte that is well formed, as a natural number. -/
theorem byte_of {n : Int} (h : (Lit.int .u8 n).wf = true) : ∃ m : Nat, n = m ∧ m < 256 := by
  have := bounds_u8 h
  exact ⟨n.toNat, by omega, by omega⟩

set_option maxHeartbeats 1600000 in
set_option maxRecDepth 100000 in
theorem contract (H : Type) (enc : TypeId × Value → H) (W : World) (base : Nat) (args : Array Value) (ds gs : List (DataW H)) (before : List MemPlace)
    (hval : ∀ (j : Nat) t v, Tryd.f3.params[j]? = some t → args[j]? = some v → Value.okWide Tryd.prog W .any base t v)
    (hW : DataW.Whole enc Tryd.prog Tryd.f3.params.toList Rows.codeMixedSpec.vars false W args.toList ds gs before)
    (hsz : (DataW.weightsEach Tryd.prog (Tryd.f3.params.toList ++ Rows.codeMixedSpec.plain.varTypes Tryd.prog) (ds ++ gs)).all (· ≤ reachBytes) = true)
    (hL : laidMetH Tryd.prog Rows.codeMixedRow.laid W) :
    Calls Tryd.prog 3 args W fun e W' => ∃ v, e = .returned v ∧ Rows.codeMixedSpec.post enc Tryd.prog Tryd.f3 false true false false W args v W' := by
  have hW' := hW
  obtain ⟨p, q, hA0, hV, rfl, hfz, hnd⟩ := hW
  have hA : DataW.TrodAll enc Tryd.prog W 0 (fun _ => true) true Tryd.f3.params.toList args.toList ds p := hA0
  rw [Tryd.params3] at hA hval hsz
  obtain ⟨v0, d0, rfl, rfl, h0⟩ := trodAll_one hA
  obtain ⟨rfl, rfl⟩ := trodVars_none hV
  have h0k := h0
  clear hA0 hA
  simp only [List.append_nil] at hW' hfz hsz
  have hlt : ∀ x ∈ p, x.block < W.heap.size := fun x hx => hW'.lt x (by simp [hx])
  have tail : ∀ W', W.Since W.heap.size W' → Rows.codeMixedSpec.post enc Tryd.prog Tryd.f3 false true false false W #[v0] (.bool true) W' := by
    intro W' hs
    have ARG : DataW.Trod enc Tryd.prog W' 0 (fun x => decide (x < W.heap.size)) true 24 v0 d0 p :=
      WideElems.Trod_stays laidOut (by kernel_rfl) (of_decide_eq_true (by kernel_rfl)) h0k (fun x hx => hs.sameAt (hlt x hx)) (fun x hx => by simpa using hlt x hx)
    refine ⟨_, _, _, [], p, [], hW', ?_, ?_, rfl, hs.frame _, fun h => by cases h⟩
    · exact trodAll_mk1 (shut_bool Tryd.underlying4 true)
    · exact trodAll_mk1 ARG
  have hpos : 0 < W.heap.size := World.block_lt_of_cell? _ _ (table_cells hL 0 (by decide))
  obtain ⟨cs, rfl, hcsz⟩ := okWide_struct Tryd.underlying24 (hval 0 24 v0 rfl rfl)
  obtain ⟨v, rfl⟩ : ∃ v, cs = #[v] := by
    rw [cells24] at hcsz
    rcases cs with ⟨_ | ⟨v, _ | ⟨_, _⟩⟩⟩
    · simp at hcsz
    · exact ⟨v, rfl⟩
    · simp at hcsz
  obtain ⟨fuel, hf⟩ := h0
  obtain ⟨y0, m, hx, _, hy⟩ := trod_struct1 Tryd.underlying24 hf
  simp [Value.cells, cells22] at hy
  simp only [Prod.mk.injEq] at hx
  obtain ⟨hd0, hp0⟩ := hx
  have hsz' : (DataW.weightsEach Tryd.prog [22] [y0.1]).all (· ≤ reachBytes) = true := by
    subst hd0
    rw [List.all_eq_true] at hsz ⊢
    intro n hn
    refine hsz n ?_
    simp only [DataW.weightsEach, List.append_nil, List.cons_append, List.mem_append] at hn ⊢
    exact Or.inl (by simp only [DataW.weights, Tryd.underlying24]; simpa [DataW.weightsEach] using hn)
  rcases open_int_rows Tryd.underlying22 Tryd.underlying27 Tryd.underlying5 cells27 cells5 hy with ⟨hcs, hx⟩ | ⟨a, len, cap, A, L, C, Z, hcs, _, hl, hm, hx, hrows⟩
  · obtain rfl : v = .slice none 0 0 := by simpa using hcs
    refine (mixed_walk none 0 0 0 0 (fun _ => none) (fun _ => 0) (fun _ => 0) (fun _ => 0) (fun _ => 0) (fun _ _ => 0) W (fun h => absurd h (Nat.lt_irrefl _)) (by omega) (fun _ h => absurd h (Nat.not_lt_zero _)) (fun _ h => absurd h (Nat.not_lt_zero _))
      (fun _ h => absurd h (Nat.not_lt_zero _)) (fun _ h => absurd h (Nat.not_lt_zero _)) (fun _ _ => by decide) hpos (table_cells hL)).mono fun e W' ⟨he, hs⟩ => ?_
    subst he
    exact ⟨_, rfl, tail W' hs⟩
  obtain rfl : v = .slice (some a) len cap := by simpa using hcs
  have hy1 : y0.1 = .slice ((List.range len).map fun r => intRow .u8 (A r) (L r) (Z r)) ((List.range (cap - len)).map fun j => intRow .u8 (A (len + j)) (L (len + j)) (Z (len + j))) := by rw [hx]
  rw [hy1] at hsz'
  have hout := sized_slice hsz' (j := 0) (t := 22) (e := 27) rfl rfl Tryd.underlying22
  simp only [List.length_map, List.length_range, bytes27, reach_eq] at hout
  have hnil : ∀ r, r < len → A r = none → L r = 0 := fun r hr hA => by
    obtain ⟨_, h1, _, _, _, h3, _⟩ := hrows r (by omega)
    have := h3 hA
    omega
  have hLb : ∀ r, r < len → L r ≤ 281474976710656 := fun r hr => by
    cases hA : A r with
    | none => rw [hnil r hr hA]; omega
    | some a' =>
      obtain ⟨_, h1, _, hz, _⟩ := hrows r (by omega)
      have hin := sized_inner hsz' (j := 0) (t := 22) (e := 27) (q := 5) rfl rfl Tryd.underlying22 Tryd.underlying27
        (e' := lits .u8 ((Z r).take (L r))) (sp' := lits .u8 ((Z r).drop (L r)))
        (List.mem_map.2 ⟨r, List.mem_range.2 hr, by simp [intRow, hA]⟩)
      simp only [lits, List.length_map, List.length_take, List.length_drop, bytes5, reach_eq] at hin
      omega
  obtain ⟨gb, go, gs⟩ := a
  rcases Nat.eq_zero_or_pos len with hl0 | hlp
  · subst hl0
    refine (mixed_walk (some ⟨gb, go, gs⟩) 0 0 0 cap A L C (fun _ => 0) (fun _ => 0) (fun _ _ => 0) W (fun h => absurd h (Nat.lt_irrefl _)) (by omega) (fun _ h => absurd h (Nat.not_lt_zero _)) (fun _ h => absurd h (Nat.not_lt_zero _))
      (fun _ h => absurd h (Nat.not_lt_zero _)) (fun _ h => absurd h (Nat.not_lt_zero _)) (fun _ _ => by decide) hpos (table_cells hL)).mono fun e W' ⟨he, hs⟩ => ?_
    subst he
    exact ⟨_, rfl, tail W' hs⟩
  have hgs : gs = none := by simpa [Addr.add] using World.cell?_spot (hrows 0 (by omega)).1
  subst hgs
  have hrow : ∀ r, r < len → W.cell? ⟨gb, go + r, none⟩ = some (.slice (A r) (L r) (C r)) := fun r hr => by rw [← add_at]; exact (hrows r (by omega)).1
  have hAdr : ∀ r, r < len → ∀ c, c < L r → A r = some ⟨((A r).getD default).block, ((A r).getD default).off, none⟩ ∧ W.cell? ⟨((A r).getD default).block, ((A r).getD default).off + c, none⟩ = some (.int .u8 (((Z r).getD c 0).toNat % 256 : Nat)) := fun r hr c hc => by
    obtain ⟨_, h1, _, hz, hwf, h3, h4⟩ := hrows r (by omega)
    cases hA : A r with
    | none => have := h3 hA; omega
    | some a' =>
      obtain ⟨ab, ao, asp⟩ := a'
      obtain ⟨_, hcell⟩ := h4 _ hA
      have has : asp = none := by simpa [Addr.add] using World.cell?_spot (hcell 0 (by omega))
      subst has
      refine ⟨rfl, ?_⟩
      have h5 := hcell c (by omega)
      rw [add_at] at h5
      have hmem : (Z r).getD c 0 ∈ Z r := by
        rw [List.getD_eq_getElem?_getD, List.getElem?_eq_getElem (by omega)]; exact List.getElem_mem _
      obtain ⟨m, hm1, hm2⟩ := byte_of (hwf _ hmem)
      rw [hm1] at h5 ⊢
      rw [Int.toNat_natCast, Nat.mod_eq_of_lt hm2]
      exact h5
  refine (mixed_walk (some ⟨gb, go, none⟩) gb go len cap A L C _ _ (fun r c => ((Z r).getD c 0).toNat % 256) W (fun _ => rfl) (by omega) hLb (fun r hr => (hrows r (by omega)).2.1) hrow hAdr (fun _ _ => Nat.mod_lt _ (by decide)) hpos (table_cells hL)).mono fun e W' ⟨he, hs⟩ => ?_
  subst he
  exact ⟨_, rfl, tail W' hs⟩

/-- A WORLD FOR THE WITNESS: the settled one, the table holding what its initialiser lays. -/
noncomputable def laidWorld (os : Os) : World :=
  { World.holding Tryd.prog os ⟨#[], #[], []⟩ with heap := (World.holding Tryd.prog os ⟨#[], #[], []⟩).heap.modify 0 fun
      | .cells _ t frozen => .cells (Crc.tab.map (Value.int .u32)).toArray t frozen
      | o => o }
theorem laid_met (os : Os) : laidMet Tryd.prog Rows.codeMixedRow.laid ((laidWorld os).forCall (fun _ _ => 0) ⟨#[], #[.agg #[.slice none 0 0]], []⟩).memory :=
  laidMet_of_run' 8 (by kernel_rfl) (by kernel_rfl)
theorem reads (os : Os) {H : Type} (enc : TypeId × Value → H) : ∃ places, DataW.whole enc Tryd.prog ((laidWorld os).forCall (fun _ _ => 0) ⟨#[], #[.agg #[.slice none 0 0]], []⟩).memory Tryd.f3.params.toList Rows.codeMixedSpec.vars false #[Value.agg #[.slice none 0 0]].toList 8 = some ([.agg [.nil]], [], places) :=
  ⟨[], by kernel_rfl⟩

set_option maxRecDepth 100000 in
theorem lifted (os : Os) (started : os.Started) (H : Type) (enc : TypeId × Value → H) (F : Stop.Interp) :
    ReturnsInHanded {} Tryd.checked os 3 .any ((OpenSpec.ofChange Rows.codeMixedSpec).preRow enc Tryd.prog Tryd.f3 Rows.codeMixedRow.domain false Rows.codeMixedRow.laid) (((OpenSpec.ofChange Rows.codeMixedSpec).at F).post enc Tryd.prog Tryd.f3 false true false false) := by
  obtain ⟨places, hx⟩ := reads os enc
  refine returnsInHanded_of_row (C := Tryd.checked) (s := OpenSpec.ofChange Rows.codeMixedSpec) own started (by kernel_rfl) Tryd.func3
    (witness_row_at (enc := enc) (C := Tryd.checked) false (laidWorld os) #[.agg #[.slice none 0 0]] rfl (by kernel_rfl) (by kernel_rfl) (by kernel_rfl)
      (OpenSpec.preRow_of_cond 8 hx (by kernel_rfl) (fun k hk => by cases hk) (by kernel_rfl) (laid_met os))) ?_
  intro W base args ds gs before hval hW _ _ hsz hL _ _
  exact contract H enc W base args ds gs before hval hW hsz hL

theorem said : Rows.CodeMixedSaid :=
  OpenClaim.holds_of_cond 3 Tryd.f3 rfl rfl rfl rfl rfl rfl rfl ⟨rfl, rfl, rfl, rfl, rfl⟩ rfl rfl rfl rfl rfl (by kernel_rfl) Tryd.func3 (by kernel_rfl)
    (of_decide_eq_true (by kernel_rfl)) (by unfold Func.isWrapper; rw [if_neg (of_decide_eq_false (by kernel_rfl))]; exact ⟨rfl, rfl⟩)
    (fun os started H enc _ F => by rw [OpenClaim.pre_eq_preRow]; exact lifted os started H enc F)

/-- No parameter wants a stand-in; the program's own looks are off: what the card asks. -/
theorem plain (f : FuncId) (fn : Func) (hf : Tryd.pinned.checked.prog.funcNamed "tally/tallylaw1.CodeMixed" = some f) (hfn : Tryd.pinned.checked.prog.funcs[f]? = some fn) :
    false = Tryd.pinned.checked.prog.looks [] ∧ ∀ (j : Nat) t, fn.params[j]? = some t → Tryd.pinned.checked.prog.wantsStandIn t = false := by
  obtain rfl : f = 3 := Option.some.inj ((show Tryd.prog.funcNamed "tally/tallylaw1.CodeMixed" = some 3 by kernel_rfl).symm.trans hf) |>.symm
  obtain rfl : fn = Tryd.f3 := (Option.some.inj (Tryd.func3.symm.trans hfn)).symm
  refine ⟨by kernel_rfl, fun j t ht => ?_⟩
  rw [Tryd.params3] at ht
  obtain rfl : t = 24 := by simpa using Array.mem_of_getElem? ht
  exact (show Tryd.prog.wantsStandIn 24 = false by kernel_rfl)

theorem card : Rows.CodeMixedCardSaid :=
  Claim7.holds_tied_plain_at .later [] _ _ _ _ said (fun _ h => by cases h) (by kernel_rfl) (fun _ h => by cases h) codeMixed_row_tie rfl ⟨rfl, rfl⟩ (by kernel_rfl) rfl plain (by kernel_rfl)
end Go.Proofs.YtafkkmkjagodfaaDoor.mixed
namespace Go.Proofs.YtafkkmkjagodfaaDoor
theorem codeMixed_card : Rows.CodeMixedCardSaid := mixed.card
end Go.Proofs.YtafkkmkjagodfaaDoor
