/- Own texts, joined: QKO. -/
import Derived.Test.YtcamdljlkcnikaaRows
import Derived.Test.YtcamdljlkcnikaaM6
import Derived.ProofKit
import Derived.OpenShut
import Derived.SizedLaws
import Derived.Lib.SmallJoins
import Derived.Deep.Matrix
import Derived.Deep.Slices

/- What QuorumCounts is handed, read out of memory. -/
namespace Go.Proofs.Ytcamdljlkcnikaa
open Go.ChangeShapes Go.WideShapes Go.ChangeAt Go.RowKit Go.Deep Go.Joins
set_option maxRecDepth 100000
set_option maxRecDepth 100000

theorem cellsI : Try.prog.cellsOf 3 = 1 := by kernel_rfl
theorem cellsStep : Try.prog.cellsOf 75 = 3 := by kernel_rfl
theorem cellsSteps : Try.prog.cellsOf 22 = 1 := by kernel_rfl
theorem cellsNodes : Try.prog.cellsOf 24 = 2 := by kernel_rfl
theorem bytesStep : Try.prog.bytesOf 75 = 24 := by kernel_rfl
theorem reach_eq : reachBytes = 140737488351232 := rfl
theorem add_at (b o : Nat) (r : Nat) : (⟨b, o, none⟩ : Addr).add r = ⟨b, o + r, none⟩ := by simp [Addr.add]
theorem cells3_of {w : World} {a : Addr} {cs : List Value} (h : w.cells? 0 a 3 = some cs) : ∃ v0 v1 v2, cs = [v0, v1, v2] ∧ w.cell? (a.add 0) = some v0 ∧ w.cell? (a.add 1) = some v1 ∧ w.cell? (a.add 2) = some v2 := by
  obtain ⟨_, hl, hc⟩ := World.cells?_some h
  match cs, hl with
  | [v0, v1, v2], _ => exact ⟨v0, v1, v2, rfl, hc 0 (by decide), hc 1 (by decide), hc 2 (by decide)⟩
def Fits {H : Type} (t : TypeId) (d : DataW H) : Prop := ∀ n, n ∈ d.weights Try.prog t → n ≤ reachBytes
theorem fits_of_each {H : Type} {ts : List TypeId} {ds : List (DataW H)} (h : ∀ n, n ∈ DataW.weightsEach Try.prog ts ds → n ≤ reachBytes) {j : Nat} {t : TypeId} {d : DataW H} (ht : ts[j]? = some t) (hd : ds[j]? = some d) : Fits t d :=
  fun n hn => h n (DataW.weights_mem_each ht hd n hn)
theorem each_of_all {H : Type} {ts : List TypeId} {ds : List (DataW H)} (h : (DataW.weightsEach Try.prog ts ds).all (· ≤ reachBytes) = true) : ∀ n, n ∈ DataW.weightsEach Try.prog ts ds → n ≤ reachBytes :=
  fun n hn => of_decide_eq_true (List.all_eq_true.1 h n hn)
theorem i64_of {n : Int} (h : (Lit.int .i64 n).wf = true) : I64 n := by
  have := bounds_i64 h
  exact ⟨by omega, by omega⟩
theorem open_steps {H : Type} {enc : TypeId × Value → H} {W : World} {fuel : Nat} {v : Value} {y : DataW H × List MemPlace} (h : DataW.trod enc Try.prog W 0 (fun _ => true) true fuel 22 [v] = some y) (hf : Fits 22 y.1) :
    ∃ (sa : Option Addr) (sn sc : Nat) (Pl At : Nat → Int), v = .slice sa sn sc ∧ StIn W sa sn Pl At ∧ sn ≤ 6000000000000 := by
  rcases open_slice Try.underlying22 h with ⟨hcs, _⟩ | ⟨a, len, cap, m, n, D, Pl, hcs, _, hl, _, hm, hyx, hel⟩
  · exact ⟨none, 0, 0, fun _ => 0, fun _ => 0, by simpa using hcs, ⟨fun i hi => absurd hi (Nat.not_lt_zero i), fun i => ⟨⟨by decide, by decide⟩, ⟨by decide, by decide⟩⟩⟩, Nat.zero_le _⟩
  · simp only [if_true] at hm
    subst hm
    obtain ⟨b, o, sp⟩ := a
    rw [hyx] at hf
    have hcount : len ≤ 6000000000000 := by
      have := hf _ (by
        simp only [DataW.weights, Try.underlying22]
        exact List.mem_cons_self ..)
      simp only [List.length_map, List.length_range, bytesStep, reach_eq] at this
      omega
    have hsp : 0 < len → sp = none := fun h0 => by
      obtain ⟨cs', hc, _⟩ := hel 0 (by omega)
      rw [cellsStep] at hc
      obtain ⟨v0, v1, v2, rfl, h0, _⟩ := cells3_of hc
      simpa [Addr.add] using World.cell?_spot h0
    have hall : ∀ i, ∃ q : Int × Int, (I64 q.1 ∧ I64 q.2) ∧ (i < len → (W.cell? ⟨b, o + i * 3 + 1, none⟩ = some (.int .i64 q.1) ∧ W.cell? ⟨b, o + i * 3 + 2, none⟩ = some (.int .i64 q.2))) := fun i => by
      by_cases hi : i < len
      · obtain rfl := hsp (by omega)
        obtain ⟨cs', hc, ht⟩ := hel i (by omega)
        rw [cellsStep, add_at] at hc
        obtain ⟨v0, v1, v2, rfl, h0, h1, h2⟩ := cells3_of hc
        obtain ⟨xs, m, _, hx, _, hlen, hfs⟩ := DataW.trod_struct Try.underlying75 ht
        obtain ⟨y0, y1, y2, rfl⟩ : ∃ y0 y1 y2, xs = [y0, y1, y2] := by
          match xs, hlen with
          | [a, b, c], _ => exact ⟨a, b, c, rfl⟩
        have f1 := hfs 1 _ rfl
        have f2 := hfs 2 _ rfl
        simp [cellsI] at f1 f2
        obtain ⟨k1, e1, _, w1⟩ := DataW.trod_int Try.underlying3 f1
        obtain ⟨k2, e2, _, w2⟩ := DataW.trod_int Try.underlying3 f2
        obtain rfl : v1 = .int .i64 k1 := by simpa using e1
        obtain rfl : v2 = .int .i64 k2 := by simpa using e2
        rw [add_at] at h1 h2
        exact ⟨⟨k1, k2⟩, ⟨i64_of w1, i64_of w2⟩, fun _ => ⟨h1, h2⟩⟩
      · exact ⟨⟨0, 0⟩, ⟨⟨by decide, by decide⟩, ⟨by decide, by decide⟩⟩, fun h => absurd h hi⟩
    obtain ⟨Q, hQ⟩ := Classical.axiomOfChoice hall
    have hcsv : v = .slice (some ⟨b, o, sp⟩) len m := by simpa using hcs
    refine ⟨some ⟨b, o, sp⟩, len, m, fun i => (Q i).1, fun i => (Q i).2, hcsv, ⟨fun i hi => ?_, fun i => (hQ i).1⟩, ?_⟩
    · obtain rfl := hsp (by omega)
      obtain ⟨h1, h2⟩ := (hQ i).2 hi
      exact ⟨b, o, rfl, h1, h2, World.block_lt_of_cell? _ _ h1⟩
    · exact hcount
end Go.Proofs.Ytcamdljlkcnikaa
