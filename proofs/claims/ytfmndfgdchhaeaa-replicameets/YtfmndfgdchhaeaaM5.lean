/- Own texts, joined: RF1. -/
import Derived.Test.YtfmndfgdchhaeaaM4
import Derived.Test.YtfmndfgdchhaeaaRows
import Derived.Test.YtfmndfgdchhaeaaM3
import Derived.ProofKit
import Derived.OpenShut
import Derived.SizedLaws
import Derived.Lib.SmallJoins
import Derived.Deep.Matrix
import Derived.Deep.Slices

/- What the laws of replica are handed, read out of memory. -/
namespace Go.Proofs.Ytfmndfgdchhaeaa
open Go.ChangeShapes Go.WideShapes Go.ChangeAt Go.RowKit Go.Deep Go.Joins
set_option maxRecDepth 100000
set_option maxRecDepth 100000

structure Mg.wf (m : Mg) : Prop where
  n : ∀ c, c = 10 ∨ c = 13 ∨ c = 14 ∨ 22 ≤ c → m.n c = 0
  s : ∀ c, c ≠ 10 → c ≠ 13 → c ≠ 14 → m.s c = []
theorem own : ownKnob Try.prog.godebug = none := by kernel_rfl
theorem laidOut : laidOutB Try.prog = true := by kernel_rfl
theorem cellsI : Try.prog.cellsOf 3 = 1 := by kernel_rfl
theorem cellsU : Try.prog.cellsOf 33 = 1 := by kernel_rfl
theorem cells8 : Try.prog.cellsOf 5 = 1 := by kernel_rfl
theorem cellsB : Try.prog.cellsOf 29 = 1 := by kernel_rfl
theorem cellsS : Try.prog.cellsOf 9 = 1 := by kernel_rfl
theorem cellsH : Try.prog.cellsOf 35 = 4 := by kernel_rfl
theorem cellsT : Try.prog.cellsOf 37 = 2 := by kernel_rfl
theorem cellsC : Try.prog.cellsOf 39 = 2 := by kernel_rfl
theorem cellsE : Try.prog.cellsOf 40 = 1 := by kernel_rfl
theorem cellsM : Try.prog.cellsOf 42 = 22 := by kernel_rfl
theorem bytes8 : Try.prog.bytesOf 5 = 1 := by kernel_rfl
theorem reach_eq : reachBytes = 140737488351232 := rfl
theorem add_at (b o : Nat) (r : Nat) : (⟨b, o, none⟩ : Addr).add r = ⟨b, o + r, none⟩ := by simp [Addr.add]
theorem byte_of {n : Int} (h : (Lit.int .u8 n).wf = true) : ∃ m : Nat, n = m ∧ m < 256 := by
  have := bounds_u8 h
  exact ⟨n.toNat, by omega, by omega⟩
def Fits {H : Type} (t : TypeId) (d : DataW H) : Prop := ∀ n, n ∈ d.weights Try.prog t → n ≤ reachBytes
theorem fits_of_each {H : Type} {ts : List TypeId} {ds : List (DataW H)} (h : ∀ n, n ∈ DataW.weightsEach Try.prog ts ds → n ≤ reachBytes) {j : Nat} {t : TypeId} {d : DataW H} (ht : ts[j]? = some t) (hd : ds[j]? = some d) : Fits t d :=
  fun n hn => h n (DataW.weights_mem_each ht hd n hn)
theorem each_of_all {H : Type} {ts : List TypeId} {ds : List (DataW H)} (h : (DataW.weightsEach Try.prog ts ds).all (· ≤ reachBytes) = true) : ∀ n, n ∈ DataW.weightsEach Try.prog ts ds → n ≤ reachBytes :=
  fun n hn => of_decide_eq_true (List.all_eq_true.1 h n hn)
theorem weightsAll_mem {H : Type} {P : Program} {e : TypeId} : ∀ {l : List (DataW H)} {d : DataW H}, d ∈ l → ∀ n ∈ d.weights P e, n ∈ DataW.weightsAll P e l
  | d' :: r, d, hd, n, hn => by
    simp only [DataW.weightsAll, List.mem_append]
    rcases List.mem_cons.1 hd with rfl | h
    · exact Or.inl hn
    · exact Or.inr (weightsAll_mem h n hn)
theorem open_bytes {H : Type} {enc : TypeId × Value → H} {W : World} {fuel : Nat} {v : Value} {y : DataW H × List MemPlace} (h : DataW.trod enc Try.prog W 0 (fun _ => true) true fuel 29 [v] = some y) (hf : Fits 29 y.1) :
    ∃ (a : Option Addr) (len cap : Nat) (z : Nat → Nat), v = .slice a len cap ∧ len ≤ cap ∧ cap ≤ 140737488351232 ∧ (∀ j, z j < 256) ∧ Byt W a cap z ∧ (a = none → len = 0 ∧ cap = 0) := by
  rcases open_ints Try.underlying29 Try.underlying5 cells8 h with ⟨hcs, _⟩ | ⟨a, len, cap, zs, hcs, _, hl, hm, hz, hx, hcell, hwf⟩
  · exact ⟨none, 0, 0, fun _ => 0, by simpa using hcs, Nat.le_refl _, by omega, fun _ => by show 0 < 256; decide, fun j hj => absurd hj (Nat.not_lt_zero _), fun _ => ⟨rfl, rfl⟩⟩
  · simp only [if_true] at hz
    refine ⟨some a, len, cap, fun j => (zs.getD j 0).toNat % 256, by simpa using hcs, hl, ?_, fun j => Nat.mod_lt _ (by decide), fun j hj => ?_, fun e => by cases e⟩
    · have hw := hf ((lits .u8 (zs.take len) : List (DataW H)).length + (lits .u8 (zs.drop len) : List (DataW H)).length) (by rw [hx]; simp [DataW.weights, Try.underlying29, bytes8])
      simp only [lits, List.length_map, List.length_take, List.length_drop, reach_eq] at hw
      omega
    · obtain ⟨b, off, sp⟩ := a
      have h5 := hcell j (by omega)
      obtain rfl : sp = none := by simpa [Addr.add] using World.cell?_spot (hcell 0 (by omega))
      rw [add_at] at h5
      refine ⟨b, off, rfl, ?_⟩
      have hmem : zs.getD j 0 ∈ zs := by
        rw [List.getD_eq_getElem?_getD, List.getElem?_eq_getElem (by omega)]; exact List.getElem_mem _
      obtain ⟨m, hm1, hm2⟩ := byte_of (hwf _ hmem)
      show W.cell? _ = some (.int .u8 (((zs.getD j 0).toNat % 256 : Nat) : Int))
      rw [hm1] at h5 ⊢
      rw [Int.toNat_natCast, Nat.mod_eq_of_lt hm2]
      exact h5
/-- Whole numbers as they lie in a message. -/
def Mg.int (m : Mg) : Prop := (∀ c, isU c = true → 0 ≤ m.n c ∧ m.n c < 18446744073709551616) ∧ ∀ c, -9223372036854775808 ≤ m.n c ∧ (isU c = false → m.n c < 9223372036854775808)
set_option maxHeartbeats 4000000 in
/-- A message that is handed in. -/
theorem open_msg {H : Type} {enc : TypeId × Value → H} {W : World} {fuel : Nat} {cs : List Value} {y : DataW H × List MemPlace} (h : DataW.trod enc Try.prog W 0 (fun _ => true) true fuel 42 cs = some y) (hf : Fits 42 y.1) :
    ∃ (m : Mg) (va : Option Addr) (vc : Nat), cs = mgL m va vc ∧ MgA W m va vc ∧ m.wf ∧ m.int ∧ (m.s 10).length ≤ vc ∧ vc ≤ 140737488351232 := by
  obtain ⟨xs, m, _, hx, hcl, hlen, hfs⟩ := DataW.trod_struct Try.underlying42 h
  rw [cellsM] at hcl
  obtain ⟨v0, v1, v2, v3, v4, v5, v6, v7, v8, v9, v10, v11, v12, v13, v14, v15, v16, v17, v18, v19, v20, v21, rfl⟩ : ∃ v0 v1 v2 v3 v4 v5 v6 v7 v8 v9 v10 v11 v12 v13 v14 v15 v16 v17 v18 v19 v20 v21, cs = [v0, v1, v2, v3, v4, v5, v6, v7, v8, v9, v10, v11, v12, v13, v14, v15, v16, v17, v18, v19, v20, v21] := by
    match cs, hcl with
    | [v0, v1, v2, v3, v4, v5, v6, v7, v8, v9, v10, v11, v12, v13, v14, v15, v16, v17, v18, v19, v20, v21], _ => exact ⟨v0, v1, v2, v3, v4, v5, v6, v7, v8, v9, v10, v11, v12, v13, v14, v15, v16, v17, v18, v19, v20, v21, rfl⟩
  obtain ⟨y0, y1, y2, y3, y4, y5, y6, y7, y8, y9, y10, y11, y12, y13, y14, y15, y16, rfl⟩ : ∃ y0 y1 y2 y3 y4 y5 y6 y7 y8 y9 y10 y11 y12 y13 y14 y15 y16, xs = [y0, y1, y2, y3, y4, y5, y6, y7, y8, y9, y10, y11, y12, y13, y14, y15, y16] := by
    match xs, hlen with
    | [y0, y1, y2, y3, y4, y5, y6, y7, y8, y9, y10, y11, y12, y13, y14, y15, y16], _ => exact ⟨y0, y1, y2, y3, y4, y5, y6, y7, y8, y9, y10, y11, y12, y13, y14, y15, y16, rfl⟩
  have f0 := hfs 0 _ rfl
  have f1 := hfs 1 _ rfl
  have f2 := hfs 2 _ rfl
  have f3 := hfs 3 _ rfl
  have f4 := hfs 4 _ rfl
  have f5 := hfs 5 _ rfl
  have f6 := hfs 6 _ rfl
  have f7 := hfs 7 _ rfl
  have f8 := hfs 8 _ rfl
  have f9 := hfs 9 _ rfl
  have f10 := hfs 10 _ rfl
  have f11 := hfs 11 _ rfl
  have f12 := hfs 12 _ rfl
  have f13 := hfs 13 _ rfl
  have f14 := hfs 14 _ rfl
  have f15 := hfs 15 _ rfl
  have f16 := hfs 16 _ rfl
  simp [cellsH] at f0
  simp [cellsU] at f1
  simp [cellsT] at f2
  simp [cellsU] at f3
  simp [cellsI] at f4
  simp [cellsU] at f5
  simp [cellsB] at f6
  simp [cellsI] at f7
  simp [cellsU] at f8
  simp [cellsS] at f9
  simp [cellsS] at f10
  simp [cellsU] at f11
  simp [cellsC] at f12
  simp [cellsI] at f13
  simp [cellsI] at f14
  simp [cellsI] at f15
  simp [cellsE] at f16
  obtain ⟨xs0, n0, _, _, _, hl0, hg0⟩ := DataW.trod_struct Try.underlying35 f0
  obtain ⟨q0, q1, q2, q3, rfl⟩ : ∃ q0 q1 q2 q3, xs0 = [q0, q1, q2, q3] := by
    match xs0, hl0 with
    | [a, b, c, d], _ => exact ⟨a, b, c, d, rfl⟩
  have g0 := hg0 0 _ rfl
  simp [cellsI] at g0
  obtain ⟨k0, e0, _, w0⟩ := DataW.trod_int Try.underlying3 g0
  obtain rfl : v0 = .int .i64 k0 := by simpa using e0
  have g1 := hg0 1 _ rfl
  simp [cellsI] at g1
  obtain ⟨k1, e1, _, w1⟩ := DataW.trod_int Try.underlying3 g1
  obtain rfl : v1 = .int .i64 k1 := by simpa using e1
  have g2 := hg0 2 _ rfl
  simp [cellsI] at g2
  obtain ⟨k2, e2, _, w2⟩ := DataW.trod_int Try.underlying3 g2
  obtain rfl : v2 = .int .i64 k2 := by simpa using e2
  have g3 := hg0 3 _ rfl
  simp [cellsI] at g3
  obtain ⟨k3, e3, _, w3⟩ := DataW.trod_int Try.underlying3 g3
  obtain rfl : v3 = .int .i64 k3 := by simpa using e3
  obtain ⟨k4, e4, _, w4⟩ := DataW.trod_int Try.underlying33 f1
  obtain rfl : v4 = .int .u64 k4 := by simpa using e4
  obtain ⟨xs2, n2, _, _, _, hl2, hg2⟩ := DataW.trod_struct Try.underlying37 f2
  obtain ⟨q5, q6, rfl⟩ : ∃ q5 q6, xs2 = [q5, q6] := by
    match xs2, hl2 with
    | [a, b], _ => exact ⟨a, b, rfl⟩
  have g5 := hg2 0 _ rfl
  simp [cellsU] at g5
  obtain ⟨k5, e5, _, w5⟩ := DataW.trod_int Try.underlying33 g5
  obtain rfl : v5 = .int .u64 k5 := by simpa using e5
  have g6 := hg2 1 _ rfl
  simp [cellsU] at g6
  obtain ⟨k6, e6, _, w6⟩ := DataW.trod_int Try.underlying33 g6
  obtain rfl : v6 = .int .u64 k6 := by simpa using e6
  obtain ⟨k7, e7, _, w7⟩ := DataW.trod_int Try.underlying33 f3
  obtain rfl : v7 = .int .u64 k7 := by simpa using e7
  obtain ⟨k8, e8, _, w8⟩ := DataW.trod_int Try.underlying3 f4
  obtain rfl : v8 = .int .i64 k8 := by simpa using e8
  obtain ⟨k9, e9, _, w9⟩ := DataW.trod_int Try.underlying33 f5
  obtain rfl : v9 = .int .u64 k9 := by simpa using e9
  have hfit : Fits 29 y6.1 := fun n hn => hf n (by
    rw [hx]
    simp only [DataW.weights, Try.underlying42]
    exact DataW.weights_mem_each (j := 6) rfl rfl n hn)
  obtain ⟨a, len, cap, z, rfl, hl, hcap, hz, hb, hn⟩ := open_bytes f6 hfit
  obtain ⟨k11, e11, _, w11⟩ := DataW.trod_int Try.underlying3 f7
  obtain rfl : v11 = .int .i64 k11 := by simpa using e11
  obtain ⟨k12, e12, _, w12⟩ := DataW.trod_int Try.underlying33 f8
  obtain rfl : v12 = .int .u64 k12 := by simpa using e12
  obtain ⟨s13, e13, hy13, _⟩ := DataW.trod_string Try.underlying9 f9
  obtain rfl : v13 = .string s13 := by simpa using e13
  have hs13 : s13.size ≤ 140737488351232 := by
    have := hf s13.data.toList.length (by
      rw [hx]
      simp only [DataW.weights, Try.underlying42]
      exact DataW.weights_mem_each (j := 9) rfl rfl _ (by rw [hy13]; simp [DataW.weights]))
    rw [Array.length_toList] at this
    exact this
  obtain ⟨s14, e14, hy14, _⟩ := DataW.trod_string Try.underlying9 f10
  obtain rfl : v14 = .string s14 := by simpa using e14
  have hs14 : s14.size ≤ 140737488351232 := by
    have := hf s14.data.toList.length (by
      rw [hx]
      simp only [DataW.weights, Try.underlying42]
      exact DataW.weights_mem_each (j := 10) rfl rfl _ (by rw [hy14]; simp [DataW.weights]))
    rw [Array.length_toList] at this
    exact this
  obtain ⟨k15, e15, _, w15⟩ := DataW.trod_int Try.underlying33 f11
  obtain rfl : v15 = .int .u64 k15 := by simpa using e15
  obtain ⟨xs12, n12, _, _, _, hl12, hg12⟩ := DataW.trod_struct Try.underlying39 f12
  obtain ⟨q16, q17, rfl⟩ : ∃ q16 q17, xs12 = [q16, q17] := by
    match xs12, hl12 with
    | [a, b], _ => exact ⟨a, b, rfl⟩
  have g16 := hg12 0 _ rfl
  simp [cellsU] at g16
  obtain ⟨k16, e16, _, w16⟩ := DataW.trod_int Try.underlying33 g16
  obtain rfl : v16 = .int .u64 k16 := by simpa using e16
  have g17 := hg12 1 _ rfl
  simp [cellsU] at g17
  obtain ⟨k17, e17, _, w17⟩ := DataW.trod_int Try.underlying33 g17
  obtain rfl : v17 = .int .u64 k17 := by simpa using e17
  obtain ⟨k18, e18, _, w18⟩ := DataW.trod_int Try.underlying3 f13
  obtain rfl : v18 = .int .i64 k18 := by simpa using e18
  obtain ⟨k19, e19, _, w19⟩ := DataW.trod_int Try.underlying3 f14
  obtain rfl : v19 = .int .i64 k19 := by simpa using e19
  obtain ⟨k20, e20, _, w20⟩ := DataW.trod_int Try.underlying3 f15
  obtain rfl : v20 = .int .i64 k20 := by simpa using e20
  obtain ⟨k21, e21, _, w21⟩ := DataW.trod_int Try.underlying40 f16
  obtain rfl : v21 = .int .i64 k21 := by simpa using e21
  refine ⟨⟨fun c => if c = 0 then k0 else if c = 1 then k1 else if c = 2 then k2 else if c = 3 then k3 else if c = 4 then k4 else if c = 5 then k5 else if c = 6 then k6 else if c = 7 then k7 else if c = 8 then k8 else if c = 9 then k9 else if c = 11 then k11 else if c = 12 then k12 else if c = 15 then k15 else if c = 16 then k16 else if c = 17 then k17 else if c = 18 then k18 else if c = 19 then k19 else if c = 20 then k20 else if c = 21 then k21 else 0, fun c => if c = 10 then (List.range len).map z else if c = 13 then listS s13 else if c = 14 then listS s14 else []⟩, a, cap, ?_, ⟨?_, ?_, ?_, ?_, ?_⟩, ?_, ?_, ?_, hcap⟩
  · have e10 : ((List.range len).map z).length = len := by simp
    show _ = ([.int .i64 k0, .int .i64 k1, .int .i64 k2, .int .i64 k3, .int .u64 k4, .int .u64 k5, .int .u64 k6, .int .u64 k7, .int .i64 k8, .int .u64 k9, .slice a ((List.range len).map z).length cap, .int .i64 k11, .int .u64 k12, .string (strL (listS s13)), .string (strL (listS s14)), .int .u64 k15, .int .u64 k16, .int .u64 k17, .int .i64 k18, .int .i64 k19, .int .i64 k20, .int .i64 k21] : List Value)
    rw [e10, strL_listS, strL_listS]
  · show Byt W a ((List.range len).map z).length (fun j => ((List.range len).map z).getD j 0)
    rw [List.length_map, List.length_range]
    intro j hj
    obtain ⟨b, o, e, hc⟩ := hb j (by omega)
    refine ⟨b, o, e, ?_⟩
    show W.cell? _ = some (.int .u8 ((((List.range len).map z).getD j 0 : Nat) : Int))
    rw [getD_range_map z len j hj]
    exact hc
  · intro e
    show ((List.range len).map z).length = 0 ∧ cap = 0
    rw [List.length_map, List.length_range]
    exact hn e
  · intro q e h0
    have h0 : 0 < ((List.range len).map z).length := h0
    rw [List.length_map, List.length_range] at h0
    obtain ⟨b, o, e2, hc⟩ := hb 0 (by omega)
    rw [e2] at e
    obtain rfl := Option.some.inj e
    exact World.block_lt_of_cell? _ _ hc
  · intro c
    show (if c = 10 then (List.range len).map z else if c = 13 then listS s13 else if c = 14 then listS s14 else []).length ≤ _
    split
    · rw [List.length_map, List.length_range]; omega
    · split
      · rw [listS_len]; exact hs13
      · split
        · rw [listS_len]; exact hs14
        · exact Nat.zero_le _
  · intro c v hv
    have hv : v ∈ (if c = 10 then (List.range len).map z else if c = 13 then listS s13 else if c = 14 then listS s14 else []) := hv
    split at hv
    · obtain ⟨j, _, rfl⟩ := List.mem_map.1 hv
      exact hz j
    · split at hv
      · exact listS_byte s13 v hv
      · split at hv
        · exact listS_byte s14 v hv
        · exact absurd hv (List.not_mem_nil)
  · refine ⟨fun c hc => ?_, fun c c1 c2 c3 => ?_⟩
    · show (if c = 0 then k0 else if c = 1 then k1 else if c = 2 then k2 else if c = 3 then k3 else if c = 4 then k4 else if c = 5 then k5 else if c = 6 then k6 else if c = 7 then k7 else if c = 8 then k8 else if c = 9 then k9 else if c = 11 then k11 else if c = 12 then k12 else if c = 15 then k15 else if c = 16 then k16 else if c = 17 then k17 else if c = 18 then k18 else if c = 19 then k19 else if c = 20 then k20 else if c = 21 then k21 else 0) = (0 : Int)
      rw [if_neg (by omega)]; rw [if_neg (by omega)]; rw [if_neg (by omega)]; rw [if_neg (by omega)]; rw [if_neg (by omega)]; rw [if_neg (by omega)]; rw [if_neg (by omega)]; rw [if_neg (by omega)]; rw [if_neg (by omega)]; rw [if_neg (by omega)]; rw [if_neg (by omega)]; rw [if_neg (by omega)]; rw [if_neg (by omega)]; rw [if_neg (by omega)]; rw [if_neg (by omega)]; rw [if_neg (by omega)]; rw [if_neg (by omega)]; rw [if_neg (by omega)]; rw [if_neg (by omega)]
    · show (if c = 10 then (List.range len).map z else if c = 13 then listS s13 else if c = 14 then listS s14 else []) = []
      rw [if_neg c1, if_neg c2, if_neg c3]
  · have b0 : ∀ {n : Int}, (Lit.int .i64 n).wf = true → -9223372036854775808 ≤ n ∧ n < 9223372036854775808 := fun h => by have := bounds_i64 h; omega
    have b1 : ∀ {n : Int}, (Lit.int .u64 n).wf = true → 0 ≤ n ∧ n < 18446744073709551616 := fun h => by have := bounds_u64 h; omega
    have r0 := b0 w0
    have r1 := b0 w1
    have r2 := b0 w2
    have r3 := b0 w3
    have r4 := b1 w4
    have r5 := b1 w5
    have r6 := b1 w6
    have r7 := b1 w7
    have r8 := b0 w8
    have r9 := b1 w9
    have r11 := b0 w11
    have r12 := b1 w12
    have r15 := b1 w15
    have r16 := b1 w16
    have r17 := b1 w17
    have r18 := b0 w18
    have r19 := b0 w19
    have r20 := b0 w20
    have r21 := b0 w21
    have hall : ∀ c, (isU c = true → 0 ≤ (if c = 0 then k0 else if c = 1 then k1 else if c = 2 then k2 else if c = 3 then k3 else if c = 4 then k4 else if c = 5 then k5 else if c = 6 then k6 else if c = 7 then k7 else if c = 8 then k8 else if c = 9 then k9 else if c = 11 then k11 else if c = 12 then k12 else if c = 15 then k15 else if c = 16 then k16 else if c = 17 then k17 else if c = 18 then k18 else if c = 19 then k19 else if c = 20 then k20 else if c = 21 then k21 else 0) ∧ (if c = 0 then k0 else if c = 1 then k1 else if c = 2 then k2 else if c = 3 then k3 else if c = 4 then k4 else if c = 5 then k5 else if c = 6 then k6 else if c = 7 then k7 else if c = 8 then k8 else if c = 9 then k9 else if c = 11 then k11 else if c = 12 then k12 else if c = 15 then k15 else if c = 16 then k16 else if c = 17 then k17 else if c = 18 then k18 else if c = 19 then k19 else if c = 20 then k20 else if c = 21 then k21 else 0) < (18446744073709551616 : Int)) ∧ -9223372036854775808 ≤ (if c = 0 then k0 else if c = 1 then k1 else if c = 2 then k2 else if c = 3 then k3 else if c = 4 then k4 else if c = 5 then k5 else if c = 6 then k6 else if c = 7 then k7 else if c = 8 then k8 else if c = 9 then k9 else if c = 11 then k11 else if c = 12 then k12 else if c = 15 then k15 else if c = 16 then k16 else if c = 17 then k17 else if c = 18 then k18 else if c = 19 then k19 else if c = 20 then k20 else if c = 21 then k21 else 0) ∧ (isU c = false → (if c = 0 then k0 else if c = 1 then k1 else if c = 2 then k2 else if c = 3 then k3 else if c = 4 then k4 else if c = 5 then k5 else if c = 6 then k6 else if c = 7 then k7 else if c = 8 then k8 else if c = 9 then k9 else if c = 11 then k11 else if c = 12 then k12 else if c = 15 then k15 else if c = 16 then k16 else if c = 17 then k17 else if c = 18 then k18 else if c = 19 then k19 else if c = 20 then k20 else if c = 21 then k21 else 0) < (9223372036854775808 : Int)) := fun c => by
      by_cases hc : c < 22
      · match c, hc with
        | 0, _ => exact (show (isU 0 = true → 0 ≤ k0 ∧ k0 < (18446744073709551616 : Int)) ∧ -9223372036854775808 ≤ k0 ∧ (isU 0 = false → k0 < (9223372036854775808 : Int)) from ⟨fun _ => by first | omega | (exact absurd ‹_› (by decide)), by omega, fun _ => by first | omega | (exact absurd ‹_› (by decide))⟩)
        | 1, _ => exact (show (isU 1 = true → 0 ≤ k1 ∧ k1 < (18446744073709551616 : Int)) ∧ -9223372036854775808 ≤ k1 ∧ (isU 1 = false → k1 < (9223372036854775808 : Int)) from ⟨fun _ => by first | omega | (exact absurd ‹_› (by decide)), by omega, fun _ => by first | omega | (exact absurd ‹_› (by decide))⟩)
        | 2, _ => exact (show (isU 2 = true → 0 ≤ k2 ∧ k2 < (18446744073709551616 : Int)) ∧ -9223372036854775808 ≤ k2 ∧ (isU 2 = false → k2 < (9223372036854775808 : Int)) from ⟨fun _ => by first | omega | (exact absurd ‹_› (by decide)), by omega, fun _ => by first | omega | (exact absurd ‹_› (by decide))⟩)
        | 3, _ => exact (show (isU 3 = true → 0 ≤ k3 ∧ k3 < (18446744073709551616 : Int)) ∧ -9223372036854775808 ≤ k3 ∧ (isU 3 = false → k3 < (9223372036854775808 : Int)) from ⟨fun _ => by first | omega | (exact absurd ‹_› (by decide)), by omega, fun _ => by first | omega | (exact absurd ‹_› (by decide))⟩)
        | 4, _ => exact (show (isU 4 = true → 0 ≤ k4 ∧ k4 < (18446744073709551616 : Int)) ∧ -9223372036854775808 ≤ k4 ∧ (isU 4 = false → k4 < (9223372036854775808 : Int)) from ⟨fun _ => by first | omega | (exact absurd ‹_› (by decide)), by omega, fun _ => by first | omega | (exact absurd ‹_› (by decide))⟩)
        | 5, _ => exact (show (isU 5 = true → 0 ≤ k5 ∧ k5 < (18446744073709551616 : Int)) ∧ -9223372036854775808 ≤ k5 ∧ (isU 5 = false → k5 < (9223372036854775808 : Int)) from ⟨fun _ => by first | omega | (exact absurd ‹_› (by decide)), by omega, fun _ => by first | omega | (exact absurd ‹_› (by decide))⟩)
        | 6, _ => exact (show (isU 6 = true → 0 ≤ k6 ∧ k6 < (18446744073709551616 : Int)) ∧ -9223372036854775808 ≤ k6 ∧ (isU 6 = false → k6 < (9223372036854775808 : Int)) from ⟨fun _ => by first | omega | (exact absurd ‹_› (by decide)), by omega, fun _ => by first | omega | (exact absurd ‹_› (by decide))⟩)
        | 7, _ => exact (show (isU 7 = true → 0 ≤ k7 ∧ k7 < (18446744073709551616 : Int)) ∧ -9223372036854775808 ≤ k7 ∧ (isU 7 = false → k7 < (9223372036854775808 : Int)) from ⟨fun _ => by first | omega | (exact absurd ‹_› (by decide)), by omega, fun _ => by first | omega | (exact absurd ‹_› (by decide))⟩)
        | 8, _ => exact (show (isU 8 = true → 0 ≤ k8 ∧ k8 < (18446744073709551616 : Int)) ∧ -9223372036854775808 ≤ k8 ∧ (isU 8 = false → k8 < (9223372036854775808 : Int)) from ⟨fun _ => by first | omega | (exact absurd ‹_› (by decide)), by omega, fun _ => by first | omega | (exact absurd ‹_› (by decide))⟩)
        | 9, _ => exact (show (isU 9 = true → 0 ≤ k9 ∧ k9 < (18446744073709551616 : Int)) ∧ -9223372036854775808 ≤ k9 ∧ (isU 9 = false → k9 < (9223372036854775808 : Int)) from ⟨fun _ => by first | omega | (exact absurd ‹_› (by decide)), by omega, fun _ => by first | omega | (exact absurd ‹_› (by decide))⟩)
        | 10, _ => exact (show (isU 10 = true → 0 ≤ (0 : Int) ∧ (0 : Int) < (18446744073709551616 : Int)) ∧ -9223372036854775808 ≤ (0 : Int) ∧ (isU 10 = false → (0 : Int) < (9223372036854775808 : Int)) from ⟨fun _ => by first | omega | (exact absurd ‹_› (by decide)), by omega, fun _ => by first | omega | (exact absurd ‹_› (by decide))⟩)
        | 11, _ => exact (show (isU 11 = true → 0 ≤ k11 ∧ k11 < (18446744073709551616 : Int)) ∧ -9223372036854775808 ≤ k11 ∧ (isU 11 = false → k11 < (9223372036854775808 : Int)) from ⟨fun _ => by first | omega | (exact absurd ‹_› (by decide)), by omega, fun _ => by first | omega | (exact absurd ‹_› (by decide))⟩)
        | 12, _ => exact (show (isU 12 = true → 0 ≤ k12 ∧ k12 < (18446744073709551616 : Int)) ∧ -9223372036854775808 ≤ k12 ∧ (isU 12 = false → k12 < (9223372036854775808 : Int)) from ⟨fun _ => by first | omega | (exact absurd ‹_› (by decide)), by omega, fun _ => by first | omega | (exact absurd ‹_› (by decide))⟩)
        | 13, _ => exact (show (isU 13 = true → 0 ≤ (0 : Int) ∧ (0 : Int) < (18446744073709551616 : Int)) ∧ -9223372036854775808 ≤ (0 : Int) ∧ (isU 13 = false → (0 : Int) < (9223372036854775808 : Int)) from ⟨fun _ => by first | omega | (exact absurd ‹_› (by decide)), by omega, fun _ => by first | omega | (exact absurd ‹_› (by decide))⟩)
        | 14, _ => exact (show (isU 14 = true → 0 ≤ (0 : Int) ∧ (0 : Int) < (18446744073709551616 : Int)) ∧ -9223372036854775808 ≤ (0 : Int) ∧ (isU 14 = false → (0 : Int) < (9223372036854775808 : Int)) from ⟨fun _ => by first | omega | (exact absurd ‹_› (by decide)), by omega, fun _ => by first | omega | (exact absurd ‹_› (by decide))⟩)
        | 15, _ => exact (show (isU 15 = true → 0 ≤ k15 ∧ k15 < (18446744073709551616 : Int)) ∧ -9223372036854775808 ≤ k15 ∧ (isU 15 = false → k15 < (9223372036854775808 : Int)) from ⟨fun _ => by first | omega | (exact absurd ‹_› (by decide)), by omega, fun _ => by first | omega | (exact absurd ‹_› (by decide))⟩)
        | 16, _ => exact (show (isU 16 = true → 0 ≤ k16 ∧ k16 < (18446744073709551616 : Int)) ∧ -9223372036854775808 ≤ k16 ∧ (isU 16 = false → k16 < (9223372036854775808 : Int)) from ⟨fun _ => by first | omega | (exact absurd ‹_› (by decide)), by omega, fun _ => by first | omega | (exact absurd ‹_› (by decide))⟩)
        | 17, _ => exact (show (isU 17 = true → 0 ≤ k17 ∧ k17 < (18446744073709551616 : Int)) ∧ -9223372036854775808 ≤ k17 ∧ (isU 17 = false → k17 < (9223372036854775808 : Int)) from ⟨fun _ => by first | omega | (exact absurd ‹_› (by decide)), by omega, fun _ => by first | omega | (exact absurd ‹_› (by decide))⟩)
        | 18, _ => exact (show (isU 18 = true → 0 ≤ k18 ∧ k18 < (18446744073709551616 : Int)) ∧ -9223372036854775808 ≤ k18 ∧ (isU 18 = false → k18 < (9223372036854775808 : Int)) from ⟨fun _ => by first | omega | (exact absurd ‹_› (by decide)), by omega, fun _ => by first | omega | (exact absurd ‹_› (by decide))⟩)
        | 19, _ => exact (show (isU 19 = true → 0 ≤ k19 ∧ k19 < (18446744073709551616 : Int)) ∧ -9223372036854775808 ≤ k19 ∧ (isU 19 = false → k19 < (9223372036854775808 : Int)) from ⟨fun _ => by first | omega | (exact absurd ‹_› (by decide)), by omega, fun _ => by first | omega | (exact absurd ‹_› (by decide))⟩)
        | 20, _ => exact (show (isU 20 = true → 0 ≤ k20 ∧ k20 < (18446744073709551616 : Int)) ∧ -9223372036854775808 ≤ k20 ∧ (isU 20 = false → k20 < (9223372036854775808 : Int)) from ⟨fun _ => by first | omega | (exact absurd ‹_› (by decide)), by omega, fun _ => by first | omega | (exact absurd ‹_› (by decide))⟩)
        | 21, _ => exact (show (isU 21 = true → 0 ≤ k21 ∧ k21 < (18446744073709551616 : Int)) ∧ -9223372036854775808 ≤ k21 ∧ (isU 21 = false → k21 < (9223372036854775808 : Int)) from ⟨fun _ => by first | omega | (exact absurd ‹_› (by decide)), by omega, fun _ => by first | omega | (exact absurd ‹_› (by decide))⟩)
        | k + 22, h => exact absurd h (by omega)
      · rw [if_neg (by omega), if_neg (by omega), if_neg (by omega), if_neg (by omega), if_neg (by omega), if_neg (by omega), if_neg (by omega), if_neg (by omega), if_neg (by omega), if_neg (by omega), if_neg (by omega), if_neg (by omega), if_neg (by omega), if_neg (by omega), if_neg (by omega), if_neg (by omega), if_neg (by omega), if_neg (by omega), if_neg (by omega)]
        exact ⟨fun _ => by omega, by omega, fun _ => by omega⟩
    exact ⟨fun c hc => (hall c).1 hc, fun c => (hall c).2⟩
  · show ((List.range len).map z).length ≤ cap
    rw [List.length_map, List.length_range]
    exact hl

theorem cellsSt : Try.prog.cellsOf 44 = 4 := by kernel_rfl
theorem cellsOp : Try.prog.cellsOf 46 = 30 := by kernel_rfl
theorem cellsOps : Try.prog.cellsOf 22 = 1 := by kernel_rfl
theorem bytesOp : Try.prog.bytesOf 46 = 288 := by kernel_rfl
/-- What is stored, as it is handed in. -/
theorem open_stored {H : Type} {enc : TypeId × Value → H} {W : World} {fuel : Nat} {v0 v1 v2 v3 : Value} {y : DataW H × List MemPlace} (h : DataW.trod enc Try.prog W 0 (fun _ => true) true fuel 44 [v0, v1, v2, v3] = some y) (hf : Fits 44 y.1) :
    ∃ (p te ts : Nat) (a : Option Addr) (len cap : Nat) (z : Nat → Nat), v0 = .int .u64 (p : Nat) ∧ v1 = .int .u64 (te : Nat) ∧ v2 = .int .u64 (ts : Nat) ∧ v3 = .slice a len cap ∧ p < 18446744073709551616 ∧ te < 18446744073709551616 ∧ ts < 18446744073709551616 ∧ len ≤ cap ∧ cap ≤ 140737488351232 ∧ (∀ j, z j < 256) ∧ Byt W a cap z ∧ (a = none → len = 0 ∧ cap = 0) := by
  obtain ⟨xs, m, _, hx, _, hlen, hfs⟩ := DataW.trod_struct Try.underlying44 h
  obtain ⟨y0, y1, y2, rfl⟩ : ∃ y0 y1 y2, xs = [y0, y1, y2] := by
    match xs, hlen with
    | [a, b, c], _ => exact ⟨a, b, c, rfl⟩
  have f0 := hfs 0 _ rfl
  have f1 := hfs 1 _ rfl
  have f2 := hfs 2 _ rfl
  simp [cellsU] at f0
  simp [cellsT] at f1
  simp [cellsB] at f2
  have b1 : ∀ {n : Int}, (Lit.int .u64 n).wf = true → ∃ m : Nat, n = (m : Int) ∧ m < 18446744073709551616 := fun {n} h => by have := bounds_u64 h; exact ⟨n.toNat, by omega, by omega⟩
  obtain ⟨k0, e0, _, w0⟩ := DataW.trod_int Try.underlying33 f0
  obtain ⟨xt, mt, _, _, _, hlt, hg⟩ := DataW.trod_struct Try.underlying37 f1
  obtain ⟨t0, t1, rfl⟩ : ∃ t0 t1, xt = [t0, t1] := by
    match xt, hlt with
    | [a, b], _ => exact ⟨a, b, rfl⟩
  have g0 := hg 0 _ rfl
  have g1 := hg 1 _ rfl
  simp [cellsU] at g0
  simp [cellsU] at g1
  obtain ⟨k1, e1, _, w1⟩ := DataW.trod_int Try.underlying33 g0
  obtain ⟨k2, e2, _, w2⟩ := DataW.trod_int Try.underlying33 g1
  have hfit : Fits 29 y2.1 := fun n hn => hf n (by
    rw [hx]
    simp only [DataW.weights, Try.underlying44]
    exact DataW.weights_mem_each (j := 2) rfl rfl n hn)
  obtain ⟨a, len, cap, z, e3, hl, hcap, hz, hb, hn⟩ := open_bytes f2 hfit
  obtain ⟨p, rfl, hp⟩ := b1 w0
  obtain ⟨te, rfl, hte⟩ := b1 w1
  obtain ⟨ts, rfl, hts⟩ := b1 w2
  exact ⟨p, te, ts, a, len, cap, z, by simpa using e0, by simpa using e1, by simpa using e2, e3, hp, hte, hts, hl, hcap, hz, hb, hn⟩
theorem list30 {cs : List Value} (h : cs.length = 30) : ∃ (a b c d : Value) (ms : List Value) (e f g k : Value), ms.length = 22 ∧ cs = a :: b :: c :: d :: (ms ++ [e, f, g, k]) := by
  match cs, h with
  | a :: b :: c :: d :: r, h =>
    have hr : r.length = 26 := by simpa using h
    have h2 : (r.drop 22).length = 4 := by simp [hr]
    match hd : r.drop 22, h2 with
    | [e, f, g, k], _ => exact ⟨a, b, c, d, r.take 22, e, f, g, k, by simp [hr], by rw [← hd, List.take_append_drop]⟩
set_option maxHeartbeats 2000000 in
theorem open_ops {H : Type} {enc : TypeId × Value → H} {W : World} {fuel : Nat} {v : Value} {y : DataW H × List MemPlace} (h : DataW.trod enc Try.prog W 0 (fun _ => true) true fuel 22 [v] = some y) (hf : Fits 22 y.1) :
    ∃ (oa : Option Addr) (on oc : Nat) (O : Nat → Od), v = .slice oa on oc ∧ OpsIn W oa on O ∧ on ≤ 1000000000000 := by
  rcases open_slice Try.underlying22 h with ⟨hcs, _⟩ | ⟨a, len, cap, m, n, D, Pl, hcs, _, hl, _, hm, hyx, hel⟩
  · exact ⟨none, 0, 0, fun _ => ⟨0, 0, 0, 0, mg0, none, 0, 0, 0, 0, none, 0, 0⟩, by simpa using hcs, ⟨fun i hi => absurd hi (Nat.not_lt_zero i), fun i hi => absurd hi (Nat.not_lt_zero i)⟩, Nat.zero_le _⟩
  · simp only [if_true] at hm
    subst hm
    obtain ⟨b, o, sp⟩ := a
    rw [hyx] at hf
    have hcount : len ≤ 1000000000000 := by
      have := hf _ (by
        simp only [DataW.weights, Try.underlying22]
        exact List.mem_cons_self ..)
      simp only [List.length_map, List.length_range, bytesOp, reach_eq] at this
      omega
    have hele : ∀ i, i < len → Fits 46 (D i) := fun i hi n hn => hf n (by
      simp only [DataW.weights, Try.underlying22]
      exact List.mem_cons_of_mem _ (List.mem_append_left _ (weightsAll_mem (List.mem_map.2 ⟨i, List.mem_range.2 hi, rfl⟩) n hn)))
    have hsp : 0 < len → sp = none := fun h0 => by
      obtain ⟨cs', hc, _⟩ := hel 0 (by omega)
      rw [cellsOp] at hc
      obtain ⟨_, hl', hcell⟩ := World.cells?_some hc
      have := hcell 0 (by decide)
      rw [List.getElem?_eq_getElem (by rw [hl']; decide)] at this
      simpa [Addr.add] using World.cell?_spot this
    have hall : ∀ i, ∃ q : Od, i < len → sp = none ∧ W.rangeAt b (o + i * 30) (opL q) ∧ MgA W q.m q.va q.vc ∧ MgN q.m ∧ q.ep < 18446744073709551616 := fun i => by
      by_cases hi : i < len
      · obtain ⟨cs', hc, ht⟩ := hel i (by omega)
        rw [cellsOp] at hc
        obtain ⟨_, hl', hcell⟩ := World.cells?_some hc
        obtain rfl := hsp (by omega)
        obtain ⟨c0, c1, c2, c3, ms, s0, s1, s2, s3, hms, rfl⟩ := list30 hl'
        obtain ⟨xs, m2, _, hx, _, hlen, hfs⟩ := DataW.trod_struct Try.underlying46 ht
        obtain ⟨y0, y1, y2, y3, y4, y5, rfl⟩ : ∃ y0 y1 y2 y3 y4 y5, xs = [y0, y1, y2, y3, y4, y5] := by
          match xs, hlen with
          | [a, b, c, d, e, f], _ => exact ⟨a, b, c, d, e, f, rfl⟩
        have f0 := hfs 0 _ rfl
        have f1 := hfs 1 _ rfl
        have f2 := hfs 2 _ rfl
        have f3 := hfs 3 _ rfl
        have f4 := hfs 4 _ rfl
        have f5 := hfs 5 _ rfl
        simp [cellsI] at f0
        simp [cellsI] at f1
        simp [cellsI] at f2
        simp [cellsU] at f3
        simp [cellsM, hms] at f4
        simp [cellsSt, hms] at f5
        obtain ⟨k0, e0, _, _⟩ := DataW.trod_int Try.underlying3 f0
        obtain ⟨k1, e1, _, _⟩ := DataW.trod_int Try.underlying3 f1
        obtain ⟨k2, e2, _, _⟩ := DataW.trod_int Try.underlying3 f2
        obtain ⟨k3, e3, _, w3⟩ := DataW.trod_int Try.underlying33 f3
        have hb3 := bounds_u64 w3
        have hf4 : Fits 42 y4.1 := fun n hn => hele i hi n (by
          rw [show D i = _ from congrArg Prod.fst hx]
          simp only [DataW.weights, Try.underlying46]
          exact DataW.weights_mem_each (j := 4) rfl rfl n hn)
        have hf5 : Fits 44 y5.1 := fun n hn => hele i hi n (by
          rw [show D i = _ from congrArg Prod.fst hx]
          simp only [DataW.weights, Try.underlying46]
          exact DataW.weights_mem_each (j := 5) rfl rfl n hn)
        obtain ⟨mm, va, vc, rfl, hA, _, hint, _⟩ := open_msg f4 hf4
        obtain ⟨p, te, ts, sa, sl, sc, z, rfl, rfl, rfl, rfl, _⟩ := open_stored f5 hf5
        obtain ⟨ep, rfl⟩ : ∃ ep : Nat, k3 = (ep : Int) := ⟨k3.toNat, by omega⟩
        obtain rfl : c0 = .int .i64 k0 := by simpa using e0
        obtain rfl : c1 = .int .i64 k1 := by simpa using e1
        obtain rfl : c2 = .int .i64 k2 := by simpa using e2
        obtain rfl : c3 = .int .u64 (ep : Nat) := by simpa using e3
        refine ⟨⟨k0, k1, k2, ep, mm, va, vc, p, te, ts, sa, sl, sc⟩, fun _ => ⟨rfl, fun j v hv => ?_, hA, ⟨hint.1, fun c hc => ⟨(hint.2 c).1, by have := (hint.2 c).2 hc; show mm.n c ≤ _; omega⟩⟩, by show ep < _; omega⟩⟩
        have hj : j < 30 := by have := (List.getElem?_eq_some_iff.1 hv).1; rw [opL_len] at this; exact this
        have h5 := hcell j hj
        rw [add_at, add_at] at h5
        rw [h5]
        exact hv
      · exact ⟨⟨0, 0, 0, 0, mg0, none, 0, 0, 0, 0, none, 0, 0⟩, fun h => absurd h hi⟩
    obtain ⟨Q, hQ⟩ := Classical.axiomOfChoice hall
    refine ⟨some ⟨b, o, sp⟩, len, m, Q, by simpa using hcs, ⟨fun i hi => ?_, fun i hi => ?_⟩, hcount⟩
    · obtain ⟨h1, h2, _⟩ := hQ i hi
      subst h1
      refine ⟨b, o, rfl, h2, ?_⟩
      have := h2 0 _ (List.getElem?_eq_getElem (by rw [opL_len]; decide))
      exact World.block_lt_of_cell? _ _ this
    · obtain ⟨_, _, h3, h4, h5⟩ := hQ i hi
      exact ⟨h3, h4, h5⟩
end Go.Proofs.Ytfmndfgdchhaeaa
