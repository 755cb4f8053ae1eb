/- What the proofs of this seat's rows share: the program's closed facts, the tables, arguments that are lists of texts or of numbers, a world for a witness. -/
import Derived.Test.YthoeehgnkolgpaaDoorCards
import Derived.Test.YthoeehgnkolgpaaDoorTie
import Derived.Test.YthoeehgnkolgpaaDoorBegun
import Derived.WalkKit
import Derived.ProofKit
import Derived.OpenShut
import Derived.SizedLaws
import Derived.Deep.Modes
import Derived.Deep.Frames
import Derived.Deep.Matrix
import Derived.Deep.DeepHandedRow
import Derived.Lib.LaidTab
import Derived.Lib.LaidU8T
namespace Go.Proofs.YthoeehgnkolgpaaDoor
open Go.ChangeShapes Go.WideShapes Go.ChangeAt Go.RowKit Go.Deep

theorem own : ownKnob Tryd.prog.godebug = none := by kernel_rfl
theorem laidOut : laidOutB Tryd.prog = true := by kernel_rfl
theorem cells9 : Tryd.prog.cellsOf 9 = 1 := by kernel_rfl
theorem cells3 : Tryd.prog.cellsOf 3 = 1 := by kernel_rfl
theorem cells28 : Tryd.prog.cellsOf 28 = 1 := by kernel_rfl
theorem bytes9 : Tryd.prog.bytesOf 9 = 16 := by kernel_rfl
theorem bytes28 : Tryd.prog.bytesOf 28 = 8 := by kernel_rfl
theorem bytes3 : Tryd.prog.bytesOf 3 = 8 := by kernel_rfl
theorem reach_eq : reachBytes = 140737488351232 := rfl
theorem add_at (b o : Nat) (r : Nat) : (⟨b, o, none⟩ : Addr).add r = ⟨b, o + r, none⟩ := by simp [Addr.add]

/-! ### The tables -/
theorem tab_of {W : World} {name : String} {k : IntKind} {zs : List Int} {g : Nat} {t e : TypeId} {n : Nat}
    (hg : Tryd.prog.globalNamed name = some g) (hty : (Tryd.prog.globals[g]?).map (·.type) = some t) (ht : Tryd.prog.underlying t = some (.array n e)) (he : Tryd.prog.underlying e = some (.int k)) (hce : Tryd.prog.cellsOf e = 1) (hct : Tryd.prog.cellsOf t = n)
    (h : Lib.VarReads Tryd.prog W name (Lib.tabData k zs)) : Lib.TabIs Tryd.prog W name k zs := by
  obtain ⟨g', t', cs, fuel, p, hg', ht', hvar, hd⟩ := h
  obtain rfl := Option.some.inj (hg.symm.trans hg')
  obtain rfl := Option.some.inj (hty.symm.trans ht')
  unfold Lib.TabIs
  rw [hvar, ← Lib.cells_of_tab ht he hce hct hd]
theorem pow_eq : (Rows.laid_internal_strconv_uint64pow10 : DataW Unit) = Lib.tabData .u64 Lib.pow10Tab := by kernel_rfl
theorem first_eq : Rows.laid_unicode_utf8_first = Lib.firstData := by kernel_rfl
theorem accept_eq : (Rows.laid_unicode_utf8_acceptRanges : DataW Unit) = Lib.acceptData := by kernel_rfl
theorem u8extra : U8Extra Tryd.prog Tryd.lays196_ren := ⟨by kernel_rfl, by kernel_rfl, by kernel_rfl, by kernel_rfl, by kernel_rfl, by kernel_rfl, by kernel_rfl⟩
theorem fold_of {W : World} (h : Lib.VarReads Tryd.prog W "tally/text.folds" Rows.laid_tally_text_folds) : FoldTab W := by
  obtain ⟨g, t, cs, fuel, p, hg, hty, hvar, hd⟩ := h
  obtain rfl := Option.some.inj ((show Tryd.prog.globalNamed "tally/text.folds" = some 0 by kernel_rfl).symm.trans hg)
  obtain rfl := Option.some.inj ((show (Tryd.prog.globals[0]?).map (·.type) = some 86 by kernel_rfl).symm.trans hty)
  have two : ∀ i, i < 3 → ∀ (a b : Int), ([(65, 90), (192, 214), (216, 222)] : List (Int × Int))[i]? = some (a, b) → W.cell? ⟨0, 2 * i, none⟩ = some (.int .i32 a) ∧ W.cell? ⟨0, 2 * i + 1, none⟩ = some (.int .i32 b) := by
    intro i hi a b hab
    obtain ⟨fuel', d, q, hdi, he⟩ := Lib.array_elem Tryd.underlying86 hd i hi
    have hd2 : d = .agg ([a, b].map fun z => .lit (.int .i32 z)) := by
      have : i = 0 ∨ i = 1 ∨ i = 2 := by omega
      rcases this with rfl | rfl | rfl
      · simp at hab; obtain ⟨rfl, rfl⟩ := hab; exact (Option.some.inj hdi).symm
      · simp at hab; obtain ⟨rfl, rfl⟩ := hab; exact (Option.some.inj hdi).symm
      · simp at hab; obtain ⟨rfl, rfl⟩ := hab; exact (Option.some.inj hdi).symm
    subst hd2
    rw [show Tryd.prog.cellsOf 85 = 2 by kernel_rfl] at he
    have hcs := Lib.ints_of_struct Tryd.underlying85 (fun j f hj => by
      match j, hj with
      | 0, hj => simp at hj; subst hj; exact ⟨Tryd.underlying21, rfl, by kernel_rfl⟩
      | 1, hj => simp at hj; subst hj; exact ⟨Tryd.underlying21, rfl, by kernel_rfl⟩
      | j + 2, hj => simp at hj) (by kernel_rfl) he
    have e0 := congrArg (·[0]?) hcs
    have e1 := congrArg (·[1]?) hcs
    simp only [List.getElem?_take, List.getElem?_drop] at e0 e1
    constructor
    · rw [World.var?_cell hg hvar (2 * i), ← Array.getElem?_toList]
      simpa [Nat.mul_comm] using e0
    · rw [World.var?_cell hg hvar (2 * i + 1), ← Array.getElem?_toList]
      simpa [Nat.mul_comm] using e1
  exact ⟨(two 0 (by decide) _ _ rfl).1, (two 0 (by decide) _ _ rfl).2, (two 1 (by decide) _ _ rfl).1, (two 1 (by decide) _ _ rfl).2, (two 2 (by decide) _ _ rfl).1, (two 2 (by decide) _ _ rfl).2⟩
theorem tabs_of {W : World} {laid : List (String × DataW Unit)} {ps : List MemPlace} (h : DataW.LaidVars Tryd.prog W laid ps)
    (m1 : ("internal/strconv.uint64pow10", Rows.laid_internal_strconv_uint64pow10) ∈ laid) (m2 : ("unicode/utf8.first", Rows.laid_unicode_utf8_first) ∈ laid) (m3 : ("unicode/utf8.acceptRanges", Rows.laid_unicode_utf8_acceptRanges) ∈ laid) (m4 : ("tally/text.folds", Rows.laid_tally_text_folds) ∈ laid)
    (hsh : W.ShapedOpen Tryd.prog) : ∃ m, Tabs m W := by
  obtain ⟨m, hm⟩ : ∃ m, W.cell? ⟨5, 0, none⟩ = some (.int .i64 m) := cell_of_shapedOpen_int (zero := #[.int .i64 0]) (t := 3) hsh (of_decide_eq_true (by kernel_rfl)) (by kernel_rfl) rfl (by kernel_rfl) (by kernel_rfl) Tryd.underlying3
  have r1 := Lib.LaidVars_reads h _ _ m1
  have r2 := Lib.LaidVars_reads h _ _ m2
  have r3 := Lib.LaidVars_reads h _ _ m3
  have r4 := Lib.LaidVars_reads h _ _ m4
  rw [pow_eq] at r1
  rw [first_eq] at r2
  rw [accept_eq] at r3
  exact ⟨m, hm, tab_of (g := 4) (by kernel_rfl) (by kernel_rfl) Tryd.underlying109 Tryd.underlying28 (by kernel_rfl) (by kernel_rfl) r1, utf8Tabs_of_readsT (U8Types.of196 Tryd.lays196) u8extra r2 r3, fold_of r4⟩

/-- What is read is within the form's own reach. -/
def Fits {H : Type} (t : TypeId) (d : DataW H) : Prop := ∀ n, n ∈ d.weights Tryd.prog t → n ≤ reachBytes
theorem fits_of_each {H : Type} {ts : List TypeId} {ds : List (DataW H)} (h : ∀ n, n ∈ DataW.weightsEach Tryd.prog ts ds → n ≤ reachBytes) {j : Nat} {t : TypeId} {d : DataW H} (ht : ts[j]? = some t) (hd : ds[j]? = some d) : Fits t d :=
  fun n hn => h n (DataW.weights_mem_each ht hd n hn)
theorem each_of_all {H : Type} {ts : List TypeId} {ds : List (DataW H)} (h : (DataW.weightsEach Tryd.prog ts ds).all (· ≤ reachBytes) = true) : ∀ n, n ∈ DataW.weightsEach Tryd.prog ts ds → n ≤ reachBytes :=
  fun n hn => of_decide_eq_true (List.all_eq_true.1 h n hn)
theorem weightsAll_mem {H : Type} {P : Program} {e : TypeId} : ∀ {l : List (DataW H)} {d : DataW H}, d ∈ l → ∀ n ∈ d.weights P e, n ∈ DataW.weightsAll P e l
  | d' :: r, d, hd, n, hn => by
    simp only [DataW.weightsAll, List.mem_append]
    rcases List.mem_cons.1 hd with rfl | h
    · exact Or.inl hn
    · exact Or.inr (weightsAll_mem h n hn)


/-! ### A world for a witness -/
def lit1 : DataW Unit → List Value
  | .lit (.int k z) => [.int k z]
  | _ => []
def lit2 : DataW Unit → List Value
  | .agg ds => ds.flatMap lit1
  | d => lit1 d
def lit3 : DataW Unit → List Value
  | .agg ds => ds.flatMap lit2
  | d => lit2 d
/-- A block's cells, laid anew. -/
def putCells (cs : Array Value) : Obj → Obj
  | .cells _ t frozen => .cells cs t frozen
  | o => o
/-- The settled one, the tables holding what their initialisers lay. -/
noncomputable def laidWorld (os : Os) : World :=
  { World.holding Tryd.prog os ⟨#[], #[], []⟩ with heap := (((((((World.holding Tryd.prog os ⟨#[], #[], []⟩).heap.modify 0 (putCells (lit3 Rows.laid_tally_text_folds).toArray)).modify 1 (putCells (lit3 Rows.laid_tally_code_sumSteps).toArray)).modify 2 (putCells (lit3 Rows.laid_unicode_utf8_first).toArray)).modify 3 (putCells (lit3 Rows.laid_unicode_utf8_acceptRanges).toArray)).modify 4 (putCells (lit3 Rows.laid_internal_strconv_uint64pow10).toArray)).modify 6 (putCells (lit3 Rows.laid_math_bits_deBruijn32tab).toArray)).modify 7 (putCells (lit3 Rows.laid_math_bits_deBruijn64tab).toArray) }

/-! ### Lists -/
theorem bulk_one {H : Type} (d : DataW H) : 1 ≤ Rows.uptoBulk d := by
  cases d with
  | lit l => cases l <;> simp [Rows.uptoBulk]
  | nil => simp [Rows.uptoBulk]
  | ptr d => simp [Rows.uptoBulk]
  | slice elems spare => simp [Rows.uptoBulk]
  | agg parts => simp [Rows.uptoBulk]
  | iface t d => simp [Rows.uptoBulk]
  | map entries => simp [Rows.uptoBulk]
  | held h => simp [Rows.uptoBulk]
theorem bulk_part {H : Type} {d : DataW H} {l : List (DataW H)} (h : d ∈ l) : Rows.uptoBulk d ≤ Rows.uptoBulkAll l := by
  induction l with
  | nil => cases h
  | cons x r ih =>
    simp only [Rows.uptoBulkAll]
    cases List.mem_cons.1 h with
    | inl e => subst e; omega
    | inr e => have := ih e; omega
theorem bulk_length {H : Type} (l : List (DataW H)) : l.length ≤ Rows.uptoBulkAll l := by
  induction l with
  | nil => simp [Rows.uptoBulkAll]
  | cons x r ih => have := bulk_one x; simp only [Rows.uptoBulkAll, List.length_cons]; omega
theorem bulk_bound {H : Type} {ds : List (DataW H)} (h : Rows.uptoSmall H ds = true) : Rows.uptoBulkAll ds ≤ 1048576 := of_decide_eq_true h

/-- A list of texts that was handed in. -/
structure TextsIn (W : World) (a : Option Addr) (len : Nat) (z : Nat → ByteArray) (B : Nat) : Prop where
  cell : ∀ j, j < len → ∃ b o, a = some ⟨b, o, none⟩ ∧ W.cell? ⟨b, o + j, none⟩ = some (.string (z j))
  sz : ∀ j, j < len → (z j).size ≤ 140737488351232
  ln : len ≤ 8796093021952
  bsz : ∀ j, j < len → (z j).size ≤ B
  bln : len ≤ B
/-- A list of numbers that was handed in. -/
structure NumsIn (k : IntKind) (W : World) (a : Option Addr) (len : Nat) (z : Nat → Int) (B : Nat) : Prop where
  cell : ∀ j, j < len → ∃ b o, a = some ⟨b, o, none⟩ ∧ W.cell? ⟨b, o + j, none⟩ = some (.int k (z j))
  wf : ∀ j, j < len → (Lit.int k (z j)).wf = true
  ln : len ≤ 17592186043904
  bln : len ≤ B
theorem TextsIn.mono {W : World} {a : Option Addr} {len : Nat} {z : Nat → ByteArray} {B C : Nat} (h : TextsIn W a len z B) (hB : B ≤ C) : TextsIn W a len z C := ⟨h.cell, h.sz, h.ln, fun j hj => Nat.le_trans (h.bsz j hj) hB, Nat.le_trans h.bln hB⟩
theorem NumsIn.mono {k : IntKind} {W : World} {a : Option Addr} {len : Nat} {z : Nat → Int} {B C : Nat} (h : NumsIn k W a len z B) (hB : B ≤ C) : NumsIn k W a len z C := ⟨h.cell, h.wf, h.ln, Nat.le_trans h.bln hB⟩

theorem open_texts {H : Type} {enc : TypeId × Value → H} {W : World} {fuel : Nat} {v : Value} {y : DataW H × List MemPlace} (h : DataW.trod enc Tryd.prog W 0 (fun _ => true) true fuel 22 [v] = some y) (hf : Fits 22 y.1) :
    ∃ a len cap z, v = .slice a len cap ∧ TextsIn W a len z (Rows.uptoBulk y.1) := by
  rcases open_strings Tryd.underlying22 Tryd.underlying9 cells9 h with ⟨hcs, _⟩ | ⟨a, len, cap, ss, hcs, _, hl, hm, hz, hx, hcell, hwf⟩
  · exact ⟨none, 0, 0, fun _ => ByteArray.empty, by simpa using hcs, fun j hj => absurd hj (Nat.not_lt_zero _), fun j hj => absurd hj (Nat.not_lt_zero _), by omega, fun j hj => absurd hj (Nat.not_lt_zero _), Nat.zero_le _⟩
  · simp only [if_true] at hz
    obtain ⟨b, off, sp⟩ := a
    have hle : (ss.take len).length = len := by rw [List.length_take]; omega
    have hmem : ∀ j, j < len → (DataW.lit (.string (ss.getD j ByteArray.empty).data.toList) : DataW H) ∈ (ChangeShapes.strs (ss.take len) : List (DataW H)) := fun j hj => by
      simp only [ChangeShapes.strs, List.mem_map]
      refine ⟨ss.getD j ByteArray.empty, ?_, rfl⟩
      rw [List.getD_eq_getElem?_getD, List.getElem?_eq_getElem (by omega), Option.getD_some]
      rw [List.mem_take_iff_getElem]
      exact ⟨j, by omega, rfl⟩
    have hsp : 0 < len → sp = none := fun h0 => by simpa [Addr.add] using World.cell?_spot (hcell 0 (by omega))
    rw [hx] at hf
    refine ⟨some ⟨b, off, sp⟩, len, cap, fun j => ss.getD j ByteArray.empty, by simpa using hcs, fun j hj => ?_, fun j hj => ?_, ?_, fun j hj => ?_, ?_⟩
    · obtain rfl := hsp (by omega)
      have h5 := hcell j (by omega)
      rw [add_at] at h5
      exact ⟨b, off, rfl, h5⟩
    · have := hf (ss.getD j ByteArray.empty).data.toList.length (by
        simp only [DataW.weights, Tryd.underlying22]
        exact List.mem_cons_of_mem _ (List.mem_append_left _ (weightsAll_mem (hmem j hj) _ (by simp [DataW.weights]))))
      rw [list_size, reach_eq] at this
      exact this
    · have hw := hf (((ChangeShapes.strs (ss.take len) : List (DataW H)).length + (ChangeShapes.strs (ss.drop len) : List (DataW H)).length) * 16) (by simp only [DataW.weights, Tryd.underlying22, bytes9]; exact List.mem_cons_self)
      simp only [ChangeShapes.strs, List.length_map, List.length_take, List.length_drop, reach_eq] at hw
      omega
    · rw [hx]
      have h1 := bulk_part (hmem j hj)
      simp only [Rows.uptoBulk] at h1 ⊢
      rw [list_size] at h1
      show (ss.getD j ByteArray.empty).size ≤ _
      omega
    · rw [hx]
      have h1 := bulk_length (ChangeShapes.strs (ss.take len) : List (DataW H))
      simp only [ChangeShapes.strs, List.length_map, hle] at h1
      simp only [Rows.uptoBulk, ChangeShapes.strs]
      omega
theorem open_nums {H : Type} {enc : TypeId × Value → H} {W : World} {fuel : Nat} {v : Value} {y : DataW H × List MemPlace} {t e : TypeId} {k : IntKind} (ht : Tryd.prog.underlying t = some (.slice e)) (he : Tryd.prog.underlying e = some (.int k)) (hc : Tryd.prog.cellsOf e = 1) (hb : Tryd.prog.bytesOf e = 8)
    (h : DataW.trod enc Tryd.prog W 0 (fun _ => true) true fuel t [v] = some y) (hf : Fits t y.1) :
    ∃ a len cap z, v = .slice a len cap ∧ NumsIn k W a len z (Rows.uptoBulk y.1) := by
  rcases open_ints ht he hc h with ⟨hcs, _⟩ | ⟨a, len, cap, zs, hcs, _, hl, hm, hz, hx, hcell, hwf⟩
  · exact ⟨none, 0, 0, fun _ => 0, by simpa using hcs, fun j hj => absurd hj (Nat.not_lt_zero _), fun j hj => absurd hj (Nat.not_lt_zero _), by omega, Nat.zero_le _⟩
  · simp only [if_true] at hz
    obtain ⟨b, off, sp⟩ := a
    have hle : (zs.take len).length = len := by rw [List.length_take]; omega
    have hsp : 0 < len → sp = none := fun h0 => by simpa [Addr.add] using World.cell?_spot (hcell 0 (by omega))
    rw [hx] at hf
    refine ⟨some ⟨b, off, sp⟩, len, cap, fun j => zs.getD j 0, by simpa using hcs, fun j hj => ?_, fun j hj => ?_, ?_, ?_⟩
    · obtain rfl := hsp (by omega)
      have h5 := hcell j (by omega)
      rw [add_at] at h5
      exact ⟨b, off, rfl, h5⟩
    · refine hwf _ ?_
      show zs.getD j 0 ∈ zs
      rw [List.getD_eq_getElem?_getD, List.getElem?_eq_getElem (by omega)]; exact List.getElem_mem _
    · have hw := hf (((lits k (zs.take len) : List (DataW H)).length + (lits k (zs.drop len) : List (DataW H)).length) * 8) (by simp only [DataW.weights, ht, hb]; exact List.mem_cons_self)
      simp only [lits, List.length_map, List.length_take, List.length_drop, reach_eq] at hw
      omega
    · rw [hx]
      have h1 := bulk_length (lits k (zs.take len) : List (DataW H))
      simp only [lits, List.length_map, hle] at h1
      simp only [Rows.uptoBulk, lits]
      omega
theorem wf_u64 {n : Int} (h : (Lit.int .u64 n).wf = true) : ∃ m : Nat, n = m ∧ m < 18446744073709551616 := by
  have := bounds_u64 h
  exact ⟨n.toNat, by omega, by omega⟩

theorem two_of {α : Type} {l : List α} (h : l.length = 2) : ∃ a b, l = [a, b] := by
  match l, h with
  | [a, b], _ => exact ⟨a, b, rfl⟩
set_option maxHeartbeats 800000 in
set_option maxRecDepth 100000 in
theorem open_sums {H : Type} {enc : TypeId × Value → H} {W : World} {base : Nat} {v : Value} {d : DataW H} {p : List MemPlace} (hv : Value.okWide Tryd.prog W .any base 25 v) (h : DataW.Trod enc Tryd.prog W 0 (fun _ => true) true 25 v d p) (hf : Fits 25 d) :
    ∃ a len cap z a' len' cap' z', v = .agg #[.slice a len cap, .slice a' len' cap'] ∧ TextsIn W a len z (Rows.uptoBulk d) ∧ NumsIn .u64 W a' len' z' (Rows.uptoBulk d) := by
  obtain ⟨cs, rfl, hcsz⟩ := okWide_struct Tryd.underlying25 hv
  rw [show Tryd.prog.cellsOf 25 = 2 by kernel_rfl] at hcsz
  obtain ⟨u0, u1, rfl⟩ : ∃ u0 u1, cs = #[u0, u1] := by
    rcases cs with ⟨l⟩
    obtain ⟨a, b, rfl⟩ := two_of (l := l) (by simpa using hcsz)
    exact ⟨a, b, rfl⟩
  obtain ⟨fuel, hf0⟩ := h
  obtain ⟨xs, m, _, hx, _, hlen, hfs⟩ := DataW.trod_struct Tryd.underlying25 hf0
  obtain ⟨y0, y1, rfl⟩ := two_of (l := xs) hlen
  have f0 := hfs 0 _ rfl
  have f1 := hfs 1 _ rfl
  simp [Value.cells, show Tryd.prog.cellsOf 22 = 1 by kernel_rfl] at f0
  simp [Value.cells, show Tryd.prog.cellsOf 23 = 1 by kernel_rfl] at f1
  simp only [Prod.mk.injEq] at hx
  obtain ⟨hd, _⟩ := hx
  have fit0 : Fits 22 y0.1 := fun n hn => hf n (by
    rw [hd]
    simp only [DataW.weights, Tryd.underlying25]
    exact DataW.weights_mem_each (j := 0) rfl rfl n hn)
  have fit1 : Fits 23 y1.1 := fun n hn => hf n (by
    rw [hd]
    simp only [DataW.weights, Tryd.underlying25]
    exact DataW.weights_mem_each (j := 1) rfl rfl n hn)
  obtain ⟨a, len, cap, z, rfl, h0⟩ := open_texts f0 fit0
  obtain ⟨a', len', cap', z', rfl, h1⟩ := open_nums Tryd.underlying23 Tryd.underlying28 cells28 bytes28 f1 fit1
  have p0 : Rows.uptoBulk y0.1 ≤ Rows.uptoBulk d := by
    have : Rows.uptoBulk y0.1 ≤ Rows.uptoBulkAll [y0.1, y1.1] := bulk_part (by simp)
    rw [hd]; simp only [Rows.uptoBulk, List.map]; omega
  have p1 : Rows.uptoBulk y1.1 ≤ Rows.uptoBulk d := by
    have : Rows.uptoBulk y1.1 ≤ Rows.uptoBulkAll [y0.1, y1.1] := bulk_part (by simp)
    rw [hd]; simp only [Rows.uptoBulk, List.map]; omega
  exact ⟨a, len, cap, z, a', len', cap', z', rfl, h0.mono p0, h1.mono p1⟩
end Go.Proofs.YthoeehgnkolgpaaDoor
