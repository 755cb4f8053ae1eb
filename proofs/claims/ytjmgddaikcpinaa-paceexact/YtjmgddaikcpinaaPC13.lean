/- What PaceExact is handed, read out of memory. -/
import Derived.Test.YtjmgddaikcpinaaPC12
namespace Go.Proofs.Ytjmgddaikcpinaa
open Go.ChangeShapes Go.WideShapes Go.ChangeAt Go.RowKit Go.Deep Go.Joins
set_option maxRecDepth 100000

theorem cellsOp : Try.prog.cellsOf 44 = 3 := by kernel_rfl
theorem cellsOps : Try.prog.cellsOf 35 = 1 := by kernel_rfl
theorem cellsS : Try.prog.cellsOf 37 = 3 := by kernel_rfl
theorem cellsR : Try.prog.cellsOf 34 = 2 := by kernel_rfl
theorem cells3_of {w : World} {a : Addr} {cs : List Value} (h : w.cells? 0 a 3 = some cs) : ∃ v0 v1 v2, cs = [v0, v1, v2] ∧ w.cell? (a.add 0) = some v0 ∧ w.cell? (a.add 1) = some v1 ∧ w.cell? (a.add 2) = some v2 := by
  obtain ⟨_, hl, hc⟩ := World.cells?_some h
  match cs, hl with
  | [v0, v1, v2], _ => exact ⟨v0, v1, v2, rfl, hc 0 (by decide), hc 1 (by decide), hc 2 (by decide)⟩
theorem open_pops {H : Type} {enc : TypeId × Value → H} {W : World} {fuel : Nat} {v : Value} {y : DataW H × List MemPlace} (h : DataW.trod enc Try.prog W 0 (fun _ => true) true fuel 35 [v] = some y) :
    ∃ (a : Option Addr) (c : Nat) (l : List POp), v = .slice a l.length c ∧ POpsIn W a l := by
  rcases open_slice Try.underlying35 h with ⟨hcs, _⟩ | ⟨a, len, cap, m, n, D, Pl, hcs, _, hl, _, hm, hx, hel⟩
  · exact ⟨none, 0, [], by simpa using hcs, fun i d ho => by simp at ho⟩
  · simp only [if_true] at hm
    subst hm
    obtain ⟨b, o, sp⟩ := a
    have hsp : 0 < len → sp = none := fun h0 => by
      obtain ⟨cs', hc, _⟩ := hel 0 (by omega)
      rw [cellsOp] at hc
      obtain ⟨v0, v1, v2, rfl, h0, _⟩ := cells3_of hc
      simpa [Addr.add] using World.cell?_spot h0
    have hall : ∀ i, ∃ q : POp, i < len → (W.cell? ⟨b, o + i * 3, none⟩ = some (.int .i64 q.kd) ∧ W.cell? ⟨b, o + i * 3 + 1, none⟩ = some (.int .i64 q.wh) ∧ W.cell? ⟨b, o + i * 3 + 2, none⟩ = some (.int .i64 q.cap)) := fun i => by
      by_cases hi : i < len
      · obtain rfl := hsp (by omega)
        obtain ⟨cs', hc, ht⟩ := hel i (by omega)
        rw [cellsOp, add_at] at hc
        obtain ⟨v0, v1, v2, rfl, h0, h1, h2⟩ := cells3_of hc
        obtain ⟨xs, m, _, hx, _, hlen, hfs⟩ := DataW.trod_struct Try.underlying44 ht
        obtain ⟨y0, y1, y2, rfl⟩ : ∃ y0 y1 y2, xs = [y0, y1, y2] := by
          match xs, hlen with
          | [a, b, c], _ => exact ⟨a, b, c, rfl⟩
        have f0 := hfs 0 _ rfl
        have f1 := hfs 1 _ rfl
        have f2 := hfs 2 _ rfl
        simp [cellsI] at f0 f1 f2
        obtain ⟨k0, e0, _, _⟩ := DataW.trod_int Try.underlying3 f0
        obtain ⟨k1, e1, _, _⟩ := DataW.trod_int Try.underlying3 f1
        obtain ⟨k2, e2, _, _⟩ := DataW.trod_int Try.underlying3 f2
        obtain rfl : v0 = .int .i64 k0 := by simpa using e0
        obtain rfl : v1 = .int .i64 k1 := by simpa using e1
        obtain rfl : v2 = .int .i64 k2 := by simpa using e2
        rw [add_at] at h0 h1 h2
        exact ⟨⟨k0, k1, k2⟩, fun _ => ⟨h0, h1, h2⟩⟩
      · exact ⟨⟨0, 0, 0⟩, fun h => absurd h hi⟩
    obtain ⟨Q, hQ⟩ := Classical.axiomOfChoice hall
    have hlen : ((List.range len).map Q).length = len := by simp
    refine ⟨some ⟨b, o, sp⟩, m, (List.range len).map Q, by rw [hlen]; simpa using hcs, fun i d hq => ?_⟩
    have hi : i < len := by have := (List.getElem?_eq_some_iff.1 hq).1; rwa [hlen] at this
    rw [List.getElem?_map, List.getElem?_range hi] at hq
    obtain rfl : Q i = d := Option.some.inj hq
    obtain rfl := hsp (by omega)
    exact ⟨b, o, rfl, hQ i hi⟩
end Go.Proofs.Ytjmgddaikcpinaa
