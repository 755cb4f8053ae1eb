/- Own texts, joined: LS14. -/
import Derived.Test.YtcbebepngencjaaM1

/- Lists of numbers that LeaseFence is handed. -/
namespace Go.Proofs.Ytcbebepngencjaa
open Go.ChangeShapes Go.WideShapes Go.ChangeAt Go.RowKit Go.Deep Go.Joins
set_option maxRecDepth 100000

theorem cellsIs : Try.prog.cellsOf 44 = 1 := by kernel_rfl
theorem cells1_of {w : World} {a : Addr} {cs : List Value} (h : w.cells? 0 a 1 = some cs) : ∃ v0, cs = [v0] ∧ w.cell? (a.add 0) = some v0 := by
  obtain ⟨_, hl, hc⟩ := World.cells?_some h
  match cs, hl with
  | [v0], _ => exact ⟨v0, rfl, hc 0 (by decide)⟩
theorem open_ints {H : Type} {enc : TypeId × Value → H} {W : World} {fuel : Nat} {v : Value} {y : DataW H × List MemPlace} (h : DataW.trod enc Try.prog W 0 (fun _ => true) true fuel 44 [v] = some y) :
    ∃ (a : Option Addr) (c : Nat) (l : List Int), v = .slice a l.length c ∧ IntsIn W a l := by
  rcases open_slice Try.underlying44 h with ⟨hcs, _⟩ | ⟨a, len, cap, m, n, D, Pl, hcs, _, hl, _, hm, hx, hel⟩
  · exact ⟨none, 0, [], by simpa using hcs, fun i d ho => by simp at ho⟩
  · simp only [if_true] at hm
    subst hm
    obtain ⟨b, o, sp⟩ := a
    have hsp : 0 < len → sp = none := fun h0 => by
      obtain ⟨cs', hc, _⟩ := hel 0 (by omega)
      rw [cellsI] at hc
      obtain ⟨v0, rfl, h0⟩ := cells1_of hc
      simpa [Addr.add] using World.cell?_spot h0
    have hall : ∀ i, ∃ q : Int, i < len → W.cell? ⟨b, o + i, none⟩ = some (.int .i64 q) := fun i => by
      by_cases hi : i < len
      · obtain rfl := hsp (by omega)
        obtain ⟨cs', hc, ht⟩ := hel i (by omega)
        rw [cellsI, add_at] at hc
        obtain ⟨v0, rfl, h0⟩ := cells1_of hc
        obtain ⟨k0, e0, _, _⟩ := DataW.trod_int Try.underlying3 ht
        obtain rfl : v0 = .int .i64 k0 := by simpa using e0
        rw [add_at] at h0
        refine ⟨k0, fun _ => ?_⟩
        simpa using h0
      · exact ⟨0, fun h => absurd h hi⟩
    obtain ⟨Q, hQ⟩ := Classical.axiomOfChoice hall
    have hlen : ((List.range len).map Q).length = len := by simp
    refine ⟨some ⟨b, o, sp⟩, m, (List.range len).map Q, by rw [hlen]; simpa using hcs, fun i d hq => ?_⟩
    have hi : i < len := by have := (List.getElem?_eq_some_iff.1 hq).1; rwa [hlen] at this
    rw [List.getElem?_map, List.getElem?_range hi] at hq
    have e : Q i = d := Option.some.inj hq
    obtain rfl := hsp (by omega)
    have := hQ i hi
    rw [e] at this
    exact ⟨b, o, rfl, this⟩
end Go.Proofs.Ytcbebepngencjaa
