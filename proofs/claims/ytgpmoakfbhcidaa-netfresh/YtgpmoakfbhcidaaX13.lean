/- What NetExact and NetFresh are handed, read out of memory. -/
import Derived.Test.YtgpmoakfbhcidaaRows
import Derived.Test.YtgpmoakfbhcidaaX12
import Derived.ProofKit
import Derived.OpenShut
import Derived.SizedLaws
import Derived.Lib.SmallJoins
import Derived.Deep.Slices
import Derived.HandedShaped
namespace Go.Proofs.Ytgpmoakfbhcidaa
open Go.ChangeShapes Go.WideShapes Go.ChangeAt Go.RowKit Go.Deep Go.Joins
set_option maxRecDepth 100000
set_option maxRecDepth 100000

theorem cellsI : Try.prog.cellsOf 3 = 1 := by kernel_rfl
theorem cells8 : Try.prog.cellsOf 5 = 1 := by kernel_rfl
theorem cellsB : Try.prog.cellsOf 53 = 1 := by kernel_rfl
theorem cellsR : Try.prog.cellsOf 22 = 2 := by kernel_rfl
theorem cellsO : Try.prog.cellsOf 55 = 5 := by kernel_rfl
theorem cellsOs : Try.prog.cellsOf 23 = 1 := by kernel_rfl
theorem cellsS : Try.prog.cellsOf 25 = 3 := by kernel_rfl
theorem bytes8 : Try.prog.bytesOf 5 = 1 := by kernel_rfl
theorem reach_eq : reachBytes = 140737488351232 := rfl
theorem add_at (b o : Nat) (r : Nat) : (⟨b, o, none⟩ : Addr).add r = ⟨b, o + r, none⟩ := by simp [Addr.add]
theorem byte_of {n : Int} (h : (Lit.int .u8 n).wf = true) : ∃ m : Nat, n = m ∧ m < 256 := by
  have := bounds_u8 h
  exact ⟨n.toNat, by omega, by omega⟩
/-- What is read is within the form's own reach. -/
def Fits {H : Type} (t : TypeId) (d : DataW H) : Prop := ∀ n, n ∈ d.weights Try.prog t → n ≤ reachBytes
theorem fits_of_each {H : Type} {ts : List TypeId} {ds : List (DataW H)} (h : ∀ n, n ∈ DataW.weightsEach Try.prog ts ds → n ≤ reachBytes) {j : Nat} {t : TypeId} {d : DataW H} (ht : ts[j]? = some t) (hd : ds[j]? = some d) : Fits t d :=
  fun n hn => h n (DataW.weights_mem_each ht hd n hn)
theorem each_of_all {H : Type} {ts : List TypeId} {ds : List (DataW H)} (h : (DataW.weightsEach Try.prog ts ds).all (· ≤ reachBytes) = true) : ∀ n, n ∈ DataW.weightsEach Try.prog ts ds → n ≤ reachBytes :=
  fun n hn => of_decide_eq_true (List.all_eq_true.1 h n hn)
theorem weightsAll_mem {H : Type} {P : Program} {e : TypeId} : ∀ {l : List (DataW H)} {d : DataW H}, d ∈ l → ∀ n ∈ d.weights P e, n ∈ DataW.weightsAll P e l
  | d' :: r, d, hd, n, hn => by
    simp only [DataW.weightsAll, List.mem_append]
    rcases List.mem_cons.1 hd with rfl | h
    · exact Or.inl hn
    · exact Or.inr (weightsAll_mem h n hn)
/-- A field that is a list of bytes. -/
theorem open_bytes {H : Type} {enc : TypeId × Value → H} {W : World} {fuel : Nat} {v : Value} {y : DataW H × List MemPlace} (h : DataW.trod enc Try.prog W 0 (fun _ => true) true fuel 53 [v] = some y) (hf : Fits 53 y.1) :
    ∃ (a : Option Addr) (len cap : Nat) (z : Nat → Nat), v = .slice a len cap ∧ len ≤ cap ∧ cap ≤ 140737488351232 ∧ (∀ j, z j < 256) ∧ Byt W a cap z ∧ (a = none → len = 0 ∧ cap = 0) := by
  rcases open_ints Try.underlying53 Try.underlying5 cells8 h with ⟨hcs, _⟩ | ⟨a, len, cap, zs, hcs, _, hl, hm, hz, hx, hcell, hwf⟩
  · exact ⟨none, 0, 0, fun _ => 0, by simpa using hcs, Nat.le_refl _, by omega, fun _ => by show 0 < 256; decide, fun j hj => absurd hj (Nat.not_lt_zero _), fun _ => ⟨rfl, rfl⟩⟩
  · simp only [if_true] at hz
    refine ⟨some a, len, cap, fun j => (zs.getD j 0).toNat % 256, by simpa using hcs, hl, ?_, fun j => Nat.mod_lt _ (by decide), fun j hj => ?_, fun e => by cases e⟩
    · have hw := hf ((lits .u8 (zs.take len) : List (DataW H)).length + (lits .u8 (zs.drop len) : List (DataW H)).length) (by rw [hx]; simp [DataW.weights, Try.underlying53, bytes8])
      simp only [lits, List.length_map, List.length_take, List.length_drop, reach_eq] at hw
      omega
    · obtain ⟨b, off, sp⟩ := a
      have h5 := hcell j (by omega)
      obtain rfl : sp = none := by simpa [Addr.add] using World.cell?_spot (hcell 0 (by omega))
      rw [add_at] at h5
      refine ⟨b, off, rfl, ?_⟩
      have hmem : zs.getD j 0 ∈ zs := by
        rw [List.getD_eq_getElem?_getD, List.getElem?_eq_getElem (by omega)]; exact List.getElem_mem _
      obtain ⟨m, hm1, hm2⟩ := byte_of (hwf _ hmem)
      show W.cell? _ = some (.int .u8 (((zs.getD j 0).toNat % 256 : Nat) : Int))
      rw [hm1] at h5 ⊢
      rw [Int.toNat_natCast, Nat.mod_eq_of_lt hm2]
      exact h5
theorem cells5_of {w : World} {a : Addr} {cs : List Value} (h : w.cells? 0 a 5 = some cs) : ∃ v0 v1 v2 v3 v4, cs = [v0, v1, v2, v3, v4] ∧ ∀ j v, cs[j]? = some v → w.cell? (a.add j) = some v := by
  obtain ⟨_, hl, hc⟩ := World.cells?_some h
  match cs, hl with
  | [v0, v1, v2, v3, v4], _ =>
    refine ⟨v0, v1, v2, v3, v4, rfl, fun j v hj => ?_⟩
    have hj' : j < 5 := (List.getElem?_eq_some_iff.1 hj).1
    have := hc j hj'
    rw [this]
    rw [← hj, List.getElem?_eq_getElem hj']
theorem open_nop {H : Type} {enc : TypeId × Value → H} {W : World} {fuel b o : Nat} {cs : List Value} {y : DataW H × List MemPlace} (hc : W.cells? 0 ⟨b, o, none⟩ 5 = some cs) (h : DataW.trod enc Try.prog W 0 (fun _ => true) true fuel 55 cs = some y) (hf : Fits 55 y.1) :
    ∃ q : NOp, (∀ (j : Nat) (v : Value), q.cells[j]? = some v → W.cell? ⟨b, o + j, none⟩ = some v) ∧ q.ok W := by
  obtain ⟨v0, v1, v2, v3, v4, rfl, hcell⟩ := cells5_of hc
  obtain ⟨xs, m, _, hx, _, hlen, hfs⟩ := DataW.trod_struct Try.underlying55 h
  obtain ⟨y0, y1, y2, y3, y4, rfl⟩ : ∃ y0 y1 y2 y3 y4, xs = [y0, y1, y2, y3, y4] := by
    match xs, hlen with
    | [a, b, c, d, e], _ => exact ⟨a, b, c, d, e, rfl⟩
  have f0 := hfs 0 _ rfl
  have f1 := hfs 1 _ rfl
  have f2 := hfs 2 _ rfl
  have f3 := hfs 3 _ rfl
  have f4 := hfs 4 _ rfl
  simp [cellsI] at f0 f1 f2 f3
  simp [cellsB] at f4
  obtain ⟨k0, e0, _, _⟩ := DataW.trod_int Try.underlying3 f0
  obtain ⟨k1, e1, _, _⟩ := DataW.trod_int Try.underlying3 f1
  obtain ⟨k2, e2, _, _⟩ := DataW.trod_int Try.underlying3 f2
  obtain ⟨k3, e3, _, _⟩ := DataW.trod_int Try.underlying3 f3
  obtain rfl : v0 = .int .i64 k0 := by simpa using e0
  obtain rfl : v1 = .int .i64 k1 := by simpa using e1
  obtain rfl : v2 = .int .i64 k2 := by simpa using e2
  obtain rfl : v3 = .int .i64 k3 := by simpa using e3
  have hfit : Fits 53 y4.1 := fun n hn => hf n (by
    rw [hx]
    simp only [DataW.weights, Try.underlying55]
    exact DataW.weights_mem_each (j := 4) rfl rfl n hn)
  obtain ⟨a, len, cap, z, rfl, hl, hcap, hz, hb, hn⟩ := open_bytes f4 hfit
  refine ⟨⟨k0, k1, k2, k3, a, len, cap, z⟩, fun j v hj => ?_, hb.le hl, hn, by show len ≤ _; omega, fun j _ => hz j⟩
  have := hcell j v hj
  rwa [add_at] at this
theorem open_nops {H : Type} {enc : TypeId × Value → H} {W : World} {fuel : Nat} {v : Value} {y : DataW H × List MemPlace} (h : DataW.trod enc Try.prog W 0 (fun _ => true) true fuel 23 [v] = some y) (hf : Fits 23 y.1) :
    ∃ (a : Option Addr) (c : Nat) (l : List NOp), v = .slice a l.length c ∧ NOpsIn W a l ∧ ∀ o ∈ l, o.ok W := by
  rcases open_slice Try.underlying23 h with ⟨hcs, _⟩ | ⟨a, len, cap, m, n, D, Pl, hcs, _, hl, _, hm, hyx, hel⟩
  · exact ⟨none, 0, [], by simpa using hcs, fun i o ho => by simp at ho, fun o ho => by simp at ho⟩
  · simp only [if_true] at hm
    subst hm
    obtain ⟨b, o, sp⟩ := a
    rw [hyx] at hf
    have hele : ∀ i, i < len → Fits 55 (D i) := fun i hi n hn => hf n (by
      simp only [DataW.weights, Try.underlying23]
      exact List.mem_cons_of_mem _ (List.mem_append_left _ (weightsAll_mem (List.mem_map.2 ⟨i, List.mem_range.2 hi, rfl⟩) n hn)))
    have hsp : 0 < len → sp = none := fun h0 => by
      obtain ⟨cs', hc, _⟩ := hel 0 (by omega)
      rw [cellsO] at hc
      obtain ⟨v0, v1, v2, v3, v4, rfl, hcell⟩ := cells5_of hc
      have := hcell 0 v0 rfl
      simpa [Addr.add] using World.cell?_spot this
    have hall : ∀ i, ∃ q : NOp, i < len → ((∀ (j : Nat) (v : Value), q.cells[j]? = some v → W.cell? ⟨b, o + i * 5 + j, none⟩ = some v) ∧ q.ok W) := fun i => by
      by_cases hi : i < len
      · obtain rfl := hsp (by omega)
        obtain ⟨cs', hc, ht⟩ := hel i (by omega)
        rw [cellsO, add_at] at hc
        obtain ⟨q, hq⟩ := open_nop hc ht (hele i hi)
        exact ⟨q, fun _ => hq⟩
      · exact ⟨⟨0, 0, 0, 0, none, 0, 0, fun _ => 0⟩, fun h => absurd h hi⟩
    obtain ⟨Q, hQ⟩ := Classical.axiomOfChoice hall
    have hlen : ((List.range len).map Q).length = len := by simp
    refine ⟨some ⟨b, o, sp⟩, m, (List.range len).map Q, by rw [hlen]; simpa using hcs, fun i q hq => ?_, fun q hq => ?_⟩
    · have hi : i < len := by have := (List.getElem?_eq_some_iff.1 hq).1; rwa [hlen] at this
      rw [List.getElem?_map, List.getElem?_range hi] at hq
      obtain rfl : Q i = q := Option.some.inj hq
      obtain rfl := hsp (by omega)
      exact ⟨b, o, rfl, (hQ i hi).1⟩
    · obtain ⟨i, hi, rfl⟩ := List.mem_map.1 hq
      exact (hQ i (List.mem_range.1 hi)).2
theorem open_script {H : Type} {enc : TypeId × Value → H} {W : World} {base : Nat} {v : Value} {d : DataW H} {p : List MemPlace} (hv : Value.okWide Try.prog W .any base 25 v) (h : DataW.Trod enc Try.prog W 0 (fun _ => true) true 25 v d p) (hf : Fits 25 d) :
    ∃ (r0 r1 : Int) (oa : Option Addr) (oc : Nat) (L : List NOp), v = .agg #[.int .i64 r0, .int .i64 r1, .slice oa L.length oc] ∧ NOpsIn W oa L ∧ ∀ o ∈ L, o.ok W := by
  obtain ⟨cs, rfl, hcsz⟩ := okWide_struct Try.underlying25 hv
  rw [cellsS] at hcsz
  obtain ⟨u0, u1, u2, rfl⟩ : ∃ u0 u1 u2, cs = #[u0, u1, u2] := by
    rcases cs with ⟨l⟩
    match l, hcsz with
    | [a, b, c], _ => exact ⟨a, b, c, rfl⟩
  obtain ⟨fuel, hf0⟩ := h
  obtain ⟨xs, m, _, hx, _, hlen, hfs⟩ := DataW.trod_struct Try.underlying25 hf0
  obtain ⟨y0, y1, rfl⟩ : ∃ y0 y1, xs = [y0, y1] := by
    match xs, hlen with
    | [a, b], _ => exact ⟨a, b, rfl⟩
  have f0 := hfs 0 _ rfl
  have f1 := hfs 1 _ rfl
  simp [Value.cells, cellsR] at f0
  simp [Value.cells, cellsOs] at f1
  simp only [Prod.mk.injEq] at hx
  obtain ⟨hd, _⟩ := hx
  have hfit1 : Fits 23 y1.1 := fun n hn => hf n (by
    rw [hd]
    simp only [DataW.weights, Try.underlying25]
    exact DataW.weights_mem_each (j := 1) rfl rfl n hn)
  obtain ⟨ys, m2, _, hy, _, hylen, hys⟩ := DataW.trod_array Try.underlying22 f0
  obtain ⟨q0, q1, rfl⟩ : ∃ q0 q1, ys = [q0, q1] := by
    match ys, hylen with
    | [a, b], _ => exact ⟨a, b, rfl⟩
  have g0 := hys 0 (by decide)
  have g1 := hys 1 (by decide)
  simp [cellsI] at g0
  simp [cellsI] at g1
  obtain ⟨r0, e0, _, _⟩ := DataW.trod_int Try.underlying3 g0
  obtain ⟨r1, e1, _, _⟩ := DataW.trod_int Try.underlying3 g1
  obtain rfl : u0 = .int .i64 r0 := by simpa using e0
  obtain rfl : u1 = .int .i64 r1 := by simpa using e1
  obtain ⟨oa, oc, L, rfl, h1, h2⟩ := open_nops f1 hfit1
  exact ⟨r0, r1, oa, oc, L, rfl, h1, h2⟩
end Go.Proofs.Ytgpmoakfbhcidaa
