/- DiskLoaded, where what it reads is of bulk at most 1048576: the law returns true and the input reads as it did. -/
import Derived.Test.YtbebnjeamlmclaaRows
import Derived.Test.YtbebnjeamlmclaaD13
import Derived.ProofKit
import Derived.OpenShut
import Derived.Lib.SmallJoins
import Derived.Deep.Slices
import Derived.JoinedCond
namespace Go.Proofs.Ytbebnjeamlmclaa.diskLoaded
open Go.ChangeShapes Go.WideShapes Go.ChangeAt Go.RowKit Go.Deep Go.Joins
set_option maxRecDepth 100000

theorem own : ownKnob Try.prog.godebug = none := by kernel_rfl
theorem laidOut : laidOutB Try.prog = true := by kernel_rfl
theorem cellsI : Try.prog.cellsOf 3 = 1 := by kernel_rfl
theorem cells8 : Try.prog.cellsOf 5 = 1 := by kernel_rfl
theorem cellsS : Try.prog.cellsOf 9 = 1 := by kernel_rfl
theorem cellsB : Try.prog.cellsOf 26 = 1 := by kernel_rfl
theorem cellsF : Try.prog.cellsOf 28 = 2 := by kernel_rfl
theorem cellsFs : Try.prog.cellsOf 22 = 1 := by kernel_rfl
theorem cellsP : Try.prog.cellsOf 23 = 1 := by kernel_rfl
theorem cellsM : Try.prog.cellsOf 25 = 3 := by kernel_rfl
theorem add_at (b o : Nat) (r : Nat) : (⟨b, o, none⟩ : Addr).add r = ⟨b, o + r, none⟩ := by simp [Addr.add]
theorem byte_of {n : Int} (h : (Lit.int .u8 n).wf = true) : ∃ m : Nat, n = m ∧ m < 256 := by
  have := bounds_u8 h
  exact ⟨n.toNat, by omega, by omega⟩

theorem bulk_one {H : Type} (d : DataW H) : 1 ≤ Rows.uptoBulk d := by
  cases d with
  | lit l => cases l <;> simp [Rows.uptoBulk]
  | nil => simp [Rows.uptoBulk]
  | ptr d => simp [Rows.uptoBulk]
  | slice elems spare => simp [Rows.uptoBulk]
  | agg parts => simp [Rows.uptoBulk]
  | iface t d => simp [Rows.uptoBulk]
  | map entries => simp [Rows.uptoBulk]
  | held h => simp [Rows.uptoBulk]
theorem bulk_length {H : Type} (l : List (DataW H)) : l.length ≤ Rows.uptoBulkAll l := by
  induction l with
  | nil => simp [Rows.uptoBulkAll]
  | cons x r ih => have := bulk_one x; simp only [Rows.uptoBulkAll, List.length_cons]; omega
theorem bulk_append {H : Type} (l r : List (DataW H)) : Rows.uptoBulkAll (l ++ r) = Rows.uptoBulkAll l + Rows.uptoBulkAll r := by
  induction l with
  | nil => simp [Rows.uptoBulkAll]
  | cons x l ih => simp only [List.cons_append, Rows.uptoBulkAll, ih]; omega
theorem bulk_range {H : Type} (D : Nat → DataW H) (n : Nat) : Rows.uptoBulkAll ((List.range (n + 1)).map D) = Rows.uptoBulkAll ((List.range n).map D) + Rows.uptoBulk (D n) := by
  rw [List.range_succ, List.map_append, bulk_append]
  simp [Rows.uptoBulkAll]
theorem bulk_at {H : Type} (D : Nat → DataW H) {n i : Nat} (h : i < n) : Rows.uptoBulk (D i) ≤ Rows.uptoBulkAll ((List.range n).map D) := by
  induction n with
  | zero => omega
  | succ n ih =>
    rw [bulk_range]
    by_cases e : i = n
    · subst e; omega
    · have := ih (by omega); omega
theorem bulk_sum {H : Type} (D : Nat → DataW H) (dl : Nat → Nat) : ∀ n, (∀ i, i < n → dl i ≤ Rows.uptoBulk (D i)) → sumL dl n ≤ Rows.uptoBulkAll ((List.range n).map D)
  | 0, _ => Nat.zero_le _
  | n + 1, h => by
    rw [bulk_range]
    have h1 := bulk_sum D dl n (fun i hi => h i (by omega))
    have h2 := h n (by omega)
    show sumL dl n + dl n ≤ _
    omega

/-- A list of bytes, read. -/
theorem open_bytes {H : Type} {enc : TypeId × Value → H} {W : World} {fuel : Nat} {v : Value} {y : DataW H × List MemPlace} (h : DataW.trod enc Try.prog W 0 (fun _ => true) true fuel 26 [v] = some y) :
    ∃ (a : Option Addr) (len cap : Nat) (z : Nat → Nat), v = .slice a len cap ∧ (a = none → len = 0 ∧ cap = 0) ∧ len ≤ Rows.uptoBulk y.1 ∧ Byt W a len z := by
  rcases open_ints Try.underlying26 Try.underlying5 cells8 h with ⟨hcs, _⟩ | ⟨a, len, cap, zs, hcs, _, hl, hm, hz, hx, hcell, hwf⟩
  · exact ⟨none, 0, 0, fun _ => 0, by simpa using hcs, fun _ => ⟨rfl, rfl⟩, Nat.zero_le _, fun j hj => absurd hj (Nat.not_lt_zero _)⟩
  · simp only [if_true] at hz
    refine ⟨some a, len, cap, fun j => (zs.getD j 0).toNat % 256, by simpa using hcs, fun e => (by cases e), ?_, fun j hj => ?_⟩
    · rw [hx]
      simp only [Rows.uptoBulk]
      have h1 := bulk_length (lits .u8 (zs.take len) : List (DataW H))
      simp only [lits, List.length_map, List.length_take] at h1
      simp only [lits]
      omega
    · obtain ⟨b, off, sp⟩ := a
      have h5 := hcell j (by omega)
      obtain rfl : sp = none := by simpa [Addr.add] using World.cell?_spot (hcell 0 (by omega))
      rw [add_at] at h5
      refine ⟨b, off, rfl, ?_⟩
      have hmem : zs.getD j 0 ∈ zs := by
        rw [List.getD_eq_getElem?_getD, List.getElem?_eq_getElem (by omega)]; exact List.getElem_mem _
      obtain ⟨m, hm1, hm2⟩ := byte_of (hwf _ hmem)
      show W.cell? _ = some (.int .u8 (((zs.getD j 0).toNat % 256 : Nat) : Int))
      rw [hm1] at h5 ⊢
      rw [Int.toNat_natCast, Nat.mod_eq_of_lt hm2]
      exact h5
theorem cells2_of {w : World} {a : Addr} {cs : List Value} (h : w.cells? 0 a 2 = some cs) : ∃ v0 v1, cs = [v0, v1] ∧ w.cell? (a.add 0) = some v0 ∧ w.cell? (a.add 1) = some v1 := by
  obtain ⟨_, hl, hc⟩ := World.cells?_some h
  match cs, hl with
  | [v0, v1], _ => exact ⟨v0, v1, rfl, hc 0 (by decide), hc 1 (by decide)⟩
/-- A file, read. -/
theorem open_file {H : Type} {enc : TypeId × Value → H} {W : World} {fuel b o : Nat} {cs : List Value} {y : DataW H × List MemPlace} (hc : W.cells? 0 ⟨b, o, none⟩ 2 = some cs) (h : DataW.trod enc Try.prog W 0 (fun _ => true) true fuel 28 cs = some y) :
    ∃ q : ByteArray × Nat × (Nat → Nat), W.cell? ⟨b, o, none⟩ = some (.string q.1) ∧ (∃ da dc, W.cell? ⟨b, o + 1, none⟩ = some (.slice da q.2.1 dc) ∧ (da = none → q.2.1 = 0 ∧ dc = 0) ∧ Byt W da q.2.1 q.2.2) ∧ q.1.size ≤ Rows.uptoBulk y.1 ∧ q.2.1 ≤ Rows.uptoBulk y.1 := by
  obtain ⟨v0, v1, rfl, c0, c1⟩ := cells2_of hc
  rw [add_at] at c0 c1
  obtain ⟨xs, m, _, hx, _, hlen, hfs⟩ := DataW.trod_struct Try.underlying28 h
  obtain ⟨y0, y1, rfl⟩ : ∃ y0 y1, xs = [y0, y1] := by
    match xs, hlen with
    | [a, b], _ => exact ⟨a, b, rfl⟩
  have f0 := hfs 0 _ rfl
  have f1 := hfs 1 _ rfl
  simp [cellsS] at f0
  simp [cellsB] at f1
  obtain ⟨s, e0, hy0, _⟩ := DataW.trod_string Try.underlying9 f0
  obtain rfl : v0 = .string s := by simpa using e0
  obtain ⟨a, len, cap, z, rfl, hn, hl, hb⟩ := open_bytes f1
  have hbk : Rows.uptoBulk y.1 = Rows.uptoBulk y0.1 + Rows.uptoBulk y1.1 + 1 := by
    rw [hx]
    simp [Rows.uptoBulk, Rows.uptoBulkAll]
  have h0 : Rows.uptoBulk y0.1 = s.size + 1 := by
    rw [hy0]
    simp only [Rows.uptoBulk]
    rfl
  exact ⟨(s, len, z), c0, ⟨a, cap, c1, hn, hb⟩, by show s.size ≤ _; omega, by show len ≤ _; omega⟩
theorem open_files {H : Type} {enc : TypeId × Value → H} {W : World} {fuel : Nat} {v : Value} {y : DataW H × List MemPlace} (h : DataW.trod enc Try.prog W 0 (fun _ => true) true fuel 22 [v] = some y) :
    ∃ fa n fc nm dl dx, v = .slice fa n fc ∧ Src W fa n nm dl dx ∧ n ≤ Rows.uptoBulk y.1 ∧ (∀ i, i < n → (nm i).size ≤ Rows.uptoBulk y.1) ∧ sumL dl n ≤ Rows.uptoBulk y.1 := by
  rcases open_slice Try.underlying22 h with ⟨hcs, _⟩ | ⟨a, len, cap, m, n, D, Pl, hcs, _, hl, _, hm, hx, hel⟩
  · exact ⟨none, 0, 0, fun _ => ByteArray.empty, fun _ => 0, fun _ _ => 0, by simpa using hcs, fun i hi => absurd hi (Nat.not_lt_zero _), Nat.zero_le _, fun i hi => absurd hi (Nat.not_lt_zero _), Nat.zero_le _⟩
  · simp only [if_true] at hm
    subst hm
    obtain ⟨b, o, sp⟩ := a
    have hsp : 0 < len → sp = none := fun h0 => by
      obtain ⟨cs', hc, _⟩ := hel 0 (by omega)
      rw [cellsF] at hc
      obtain ⟨v0, _, _, c0, _⟩ := cells2_of hc
      simpa [Addr.add] using World.cell?_spot c0
    have hall : ∀ i, ∃ q : ByteArray × Nat × (Nat → Nat), i < len → (W.cell? ⟨b, o + i * 2, none⟩ = some (.string q.1) ∧ (∃ da dc, W.cell? ⟨b, o + i * 2 + 1, none⟩ = some (.slice da q.2.1 dc) ∧ (da = none → q.2.1 = 0 ∧ dc = 0) ∧ Byt W da q.2.1 q.2.2) ∧ q.1.size ≤ Rows.uptoBulk (D i) ∧ q.2.1 ≤ Rows.uptoBulk (D i)) := fun i => by
      by_cases hi : i < len
      · obtain rfl := hsp (by omega)
        obtain ⟨cs', hc, ht⟩ := hel i (by omega)
        rw [cellsF, add_at] at hc
        obtain ⟨q, hq⟩ := open_file hc ht
        exact ⟨q, fun _ => hq⟩
      · exact ⟨(ByteArray.empty, 0, fun _ => 0), fun h => absurd h hi⟩
    obtain ⟨Q, hQ⟩ := Classical.axiomOfChoice hall
    have hbk : Rows.uptoBulk y.1 = Rows.uptoBulkAll ((List.range len).map D) + Rows.uptoBulkAll ((List.range (m - len)).map fun j => D (len + j)) + 1 := by
      rw [hx]
      simp [Rows.uptoBulk]
    have hln := bulk_length ((List.range len).map D)
    simp only [List.length_map, List.length_range] at hln
    refine ⟨some ⟨b, o, sp⟩, len, m, fun i => (Q i).1, fun i => (Q i).2.1, fun i => (Q i).2.2, by simpa using hcs, fun i hi => ?_, by omega, fun i hi => ?_, ?_⟩
    · obtain ⟨h1, ⟨da, dc, h2, h3, h4⟩, _, _⟩ := hQ i hi
      obtain rfl := hsp (by omega)
      exact ⟨b, o, rfl, h1, da, dc, h2, h3, h4⟩
    · have h1 := (hQ i hi).2.2.1
      have h2 := bulk_at D hi
      show (Q i).1.size ≤ _
      omega
    · have h1 := bulk_sum D (fun i => (Q i).2.1) len (fun i hi => (hQ i hi).2.2.2)
      omega
theorem open_picks {H : Type} {enc : TypeId × Value → H} {W : World} {fuel : Nat} {v : Value} {y : DataW H × List MemPlace} (h : DataW.trod enc Try.prog W 0 (fun _ => true) true fuel 23 [v] = some y) :
    ∃ pa pn pc, v = .slice pa pn pc ∧ Picks W pa pn := by
  rcases open_ints Try.underlying23 Try.underlying3 cellsI h with ⟨hcs, _⟩ | ⟨a, len, cap, zs, hcs, _, hl, hm, hz, hx, hcell, hwf⟩
  · exact ⟨none, 0, 0, by simpa using hcs, fun j hj => absurd hj (Nat.not_lt_zero _)⟩
  · simp only [if_true] at hz
    obtain ⟨b, o, sp⟩ := a
    refine ⟨some ⟨b, o, sp⟩, len, cap, by simpa using hcs, fun j hj => ?_⟩
    have h5 := hcell j (by omega)
    obtain rfl : sp = none := by simpa [Addr.add] using World.cell?_spot (hcell 0 (by omega))
    rw [add_at] at h5
    exact ⟨b, o, rfl, _, h5⟩

theorem loaded_any (fa : Option Addr) (n fc : Nat) (room : Int) (pa : Option Addr) (pn pc : Nat) (nm : Nat → ByteArray) (dl : Nat → Nat) (dx : Nat → Nat → Nat) (w : World) (hs : Src w fa n nm dl dx) (hp : Picks w pa pn) (hn : n ≤ 1048576) (hsz : ∀ i, i < n → (nm i).size ≤ 1048576) (hsum : sumL dl n ≤ 1048576) :
    Calls Try.prog 3 #[.agg #[.slice fa n fc, .int .i64 room, .slice pa pn pc]] w fun e w' => e = .returned (.bool true) ∧ Below w.heap.size w w' := by
  by_cases h1 : room < 0
  · exact loadedNeg fa n fc room pa pn pc nm dl dx w hs hp hn hsz hsum h1
  · by_cases h2 : 67108864 < room
    · exact loadedBig fa n fc room pa pn pc nm dl dx w hs hp hn hsz hsum h2
    · obtain ⟨r, rfl⟩ : ∃ r : Nat, room = r := ⟨room.toNat, by omega⟩
      exact loadedIn fa n fc r pa pn pc nm dl dx w hs hp hn hsz hsum (by omega)

set_option maxHeartbeats 1600000 in
set_option maxRecDepth 100000 in
theorem contract (H : Type) (enc : TypeId × Value → H) (W : World) (base : Nat) (args : Array Value) (ds gs : List (DataW H)) (before : List MemPlace)
    (hval : ∀ (j : Nat) t v, Try.f3.params[j]? = some t → args[j]? = some v → Value.okWide Try.prog W .any base t v)
    (hW : DataW.Whole enc Try.prog Try.f3.params.toList Rows.diskLoadedSpec.vars false W args.toList ds gs before) (hk : Rows.uptoSmall H (ds ++ gs) = true) :
    Calls Try.prog 3 args W fun e W' => ∃ v, e = .returned v ∧ Rows.diskLoadedSpec.post enc Try.prog Try.f3 false true false false W args v W' := by
  have hW' := hW
  obtain ⟨p, q, hA0, hV, rfl, hfz, hnd⟩ := hW
  have hA : DataW.TrodAll enc Try.prog W 0 (fun _ => true) true Try.f3.params.toList args.toList ds p := hA0
  rw [Try.params3] at hA hval
  obtain ⟨v0, d0, rfl, rfl, h0⟩ := trodAll_one hA
  obtain ⟨rfl, rfl⟩ := trodVars_none hV
  clear hA0 hA
  simp only [List.append_nil] at hW' hk
  have hbd : Rows.uptoBulk d0 ≤ 1048576 := by
    have h : Rows.uptoBulkAll [d0] ≤ 1048576 := of_decide_eq_true hk
    simp only [Rows.uptoBulkAll] at h
    omega
  have hlt : ∀ x ∈ p, x.block < W.heap.size := fun x hx => hW'.lt x (by simp [hx])
  have tail : ∀ W', RowKit.Below W.heap.size W W' → Rows.diskLoadedSpec.post enc Try.prog Try.f3 false true false false W #[v0] (.bool true) W' := by
    intro W' hs
    have ARG := Below.trod laidOut (by kernel_rfl) (of_decide_eq_true (by kernel_rfl)) h0 hs hlt
    refine ⟨_, _, _, [], p, [], hW', ?_, ?_, rfl, hs.frame _, fun h => by cases h⟩
    · exact trodAll_mk1 (shut_bool Try.underlying4 true)
    · exact trodAll_mk1 ARG
  obtain ⟨cs, rfl, hcsz⟩ := okWide_struct Try.underlying25 (hval 0 25 v0 rfl rfl)
  rw [cellsM] at hcsz
  obtain ⟨u0, u1, u2, rfl⟩ : ∃ u0 u1 u2, cs = #[u0, u1, u2] := by
    rcases cs with ⟨l⟩
    match l, hcsz with
    | [a, b, c], _ => exact ⟨a, b, c, rfl⟩
  obtain ⟨fuel, hf0⟩ := h0
  obtain ⟨xs, m, _, hx, _, hlen, hfs⟩ := DataW.trod_struct Try.underlying25 hf0
  obtain ⟨y0, y1, y2, rfl⟩ : ∃ y0 y1 y2, xs = [y0, y1, y2] := by
    match xs, hlen with
    | [a, b, c], _ => exact ⟨a, b, c, rfl⟩
  have f0 := hfs 0 _ rfl
  have f1 := hfs 1 _ rfl
  have f2 := hfs 2 _ rfl
  simp [Value.cells, cellsFs] at f0
  simp [Value.cells, cellsI] at f1
  simp [Value.cells, cellsP] at f2
  obtain ⟨fa, n, fc, nm, dl, dx, rfl, hS, hn, hnm, hsum⟩ := open_files f0
  obtain ⟨room, e1, _, _⟩ := DataW.trod_int Try.underlying3 f1
  obtain rfl : u1 = .int .i64 room := by simpa using e1
  obtain ⟨pa, pn, pc, rfl, hP⟩ := open_picks f2
  have hb0 : Rows.uptoBulk y0.1 ≤ Rows.uptoBulk d0 := by
    simp only [Prod.mk.injEq] at hx
    rw [hx.1]
    simp only [List.map, Rows.uptoBulk, Rows.uptoBulkAll]
    omega
  refine (loaded_any fa n fc room pa pn pc nm dl dx W hS hP (by omega) (fun i hi => by have := hnm i hi; omega) (by omega)).mono fun e W' ⟨he, hg⟩ => ?_
  subst he
  exact ⟨_, rfl, tail W' hg⟩

set_option maxHeartbeats 1600000 in
set_option maxRecDepth 100000 in
theorem lifted (os : Os) (started : os.Started) (H : Type) (enc : TypeId × Value → H) (F : Stop.Interp) :
    ReturnsInHanded {} Try.checked os 3 .any ((Rows.OpenSpec.upto Rows.diskLoadedSpec).pre6 enc Try.prog Try.f3 Rows.diskLoadedUptoRow.domain false) (((Rows.OpenSpec.upto Rows.diskLoadedSpec).at F).post enc Try.prog Try.f3 false true false false) := by
  refine returnsInHanded_of_cond (C := Try.checked) (s := Rows.OpenSpec.upto Rows.diskLoadedSpec) (k := Rows.uptoSmall) rfl own started (by kernel_rfl) Try.func3
    (OpenSpec.witness (enc := enc) (C := Try.checked) (s := Rows.OpenSpec.upto Rows.diskLoadedSpec) (k := Rows.uptoSmall) rfl false ⟨#[], #[.agg #[.slice none 0 0, .int .i64 0, .slice none 0 0]], []⟩ 8 (by kernel_rfl) (by kernel_rfl) (by kernel_rfl)
      (x := ([.agg [.nil, .lit (.int .i64 0), .nil]], [], [])) (by kernel_rfl) rfl (by kernel_rfl)) ?_
  intro W base args ds gs before hval hW _ hk _
  exact contract H enc W base args ds gs before hval hW hk

theorem over : Rows.DiskLoadedUptoSaid :=
  OpenClaim.holds_of_cond 3 Try.f3 rfl rfl rfl rfl rfl rfl rfl ⟨rfl, rfl, rfl, rfl, rfl⟩ rfl rfl rfl rfl rfl (by kernel_rfl) Try.func3 (by kernel_rfl)
    (of_decide_eq_true (by kernel_rfl)) (by unfold Func.isWrapper; first | (rw [if_pos (by decide +kernel)]; kernel_rfl) | (rw [if_neg (by decide +kernel)]; exact ⟨rfl, rfl⟩))
    (fun os started H enc _ F => lifted os started H enc F)
end Go.Proofs.Ytbebnjeamlmclaa.diskLoaded
namespace Go.Proofs.Ytbebnjeamlmclaa
theorem diskLoadedUpto_said : Rows.DiskLoadedUptoSaid := diskLoaded.over
end Go.Proofs.Ytbebnjeamlmclaa
