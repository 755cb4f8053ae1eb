/- What a list of texts is in memory. -/
import Derived.Test.YtbmdnlomhnodeaaDoorFrame
namespace Go.Proofs.YtbmdnlomhnodeaaDoor
open Go.ChangeShapes Go.WideShapes Go.ChangeAt Go.RowKit Go.Deep

theorem cells24 : Tryd.prog.cellsOf 24 = 1 := by kernel_rfl

/-- A list of lists of bytes, read. -/
structure RowsAre (W : World) (ga : Option Addr) (gb go G Gc : Nat) (A : Nat → Option Addr) (L C : Nat → Nat) (Z : Nat → Nat → Nat) : Prop where
  ga1 : 0 < G → ga = some ⟨gb, go, none⟩
  G1 : G ≤ 140737488351232
  L1 : ∀ r, r < G → L r ≤ 140737488351232
  LC : ∀ r, r < G → L r ≤ C r
  row : ∀ r, r < G → W.cell? ⟨gb, go + r, none⟩ = some (.slice (A r) (L r) (C r))
  byt : ∀ r, r < G → Byt W (A r) (L r) (Z r)
  nil : ∀ r, r < G → A r = none → L r = 0 ∧ C r = 0
  byte : ∀ r c, Z r c < 256

set_option maxHeartbeats 800000 in
theorem open_rows {H : Type} {enc : TypeId × Value → H} {W : World} {fuel : Nat} {v : Value} {y : DataW H × List MemPlace} (h : DataW.trod enc Tryd.prog W 0 (fun _ => true) true fuel 22 [v] = some y) (hf : Fits 22 y.1) :
    ∃ ga gb go G Gc A L C Z, v = .slice ga G Gc ∧ RowsAre W ga gb go G Gc A L C Z := by
  rcases open_slice1 Tryd.underlying22 cells27 h with ⟨hcs, _⟩ | ⟨a, G, Gc, mm, nn, V, D, Pl, hcs, _, hol, _, hmm, hyx, hel⟩
  · exact ⟨none, 0, 0, 0, 0, fun _ => none, fun _ => 0, fun _ => 0, fun _ _ => 0, by simpa using hcs, ⟨fun h => absurd h (Nat.lt_irrefl _), by omega, fun _ h => absurd h (Nat.not_lt_zero _), fun _ h => absurd h (Nat.not_lt_zero _),
      fun _ h => absurd h (Nat.not_lt_zero _), fun _ h => absurd h (Nat.not_lt_zero _), fun _ h => absurd h (Nat.not_lt_zero _), fun _ _ => by decide⟩⟩
  · simp only [if_true] at hmm
    obtain rfl := hmm.symm
    obtain ⟨gb, go, sp⟩ := a
    rw [hyx] at hf
    have hw := hf ((((List.range G).map D).length + ((List.range (Gc - G)).map fun j => D (G + j)).length) * 24) (by simp only [DataW.weights, Tryd.underlying22, bytes27]; exact List.mem_cons_self)
    simp only [List.length_map, List.length_range, reach_eq] at hw
    have hele : ∀ i, i < G → Fits 27 (D i) := fun i hi n hn => hf n (by
      simp only [DataW.weights, Tryd.underlying22]
      exact List.mem_cons_of_mem _ (List.mem_append_left _ (weightsAll_mem (List.mem_map.2 ⟨i, List.mem_range.2 hi, rfl⟩) n hn)))
    have hsp : 0 < G → sp = none := fun h0 => by
      have hc := (hel 0 (by omega)).1
      simpa [Addr.add] using World.cell?_spot hc
    have each : ∀ r, r < G → ∃ q : Option Addr × Nat × Nat × (Nat → Nat), V r = .slice q.1 q.2.1 q.2.2.1 ∧ q.2.1 ≤ q.2.2.1 ∧ q.2.2.1 ≤ 140737488351232 ∧ (∀ j, q.2.2.2 j < 256) ∧ Byt W q.1 q.2.2.1 q.2.2.2 ∧ (q.1 = none → q.2.1 = 0 ∧ q.2.2.1 = 0) := fun r hr => by
      have ht := (hel r (by omega)).2
      obtain ⟨a, len, cap, z, e, h1, h2, h3, h4⟩ := open_bytes ht (hele r hr)
      refine ⟨(a, len, cap, z), e, h1, h2, h3, h4, fun e0 => ?_⟩
      have e0' : a = none := e0
      subst e0'
      rcases Nat.eq_zero_or_pos cap with hc | hc
      · exact ⟨by show len = 0; omega, hc⟩
      · obtain ⟨b, off, e1, _⟩ := h4 0 hc
        cases e1
    obtain ⟨q, hq⟩ := choose_lt each
    refine ⟨some ⟨gb, go, sp⟩, gb, go, G, Gc, fun r => (q r).1, fun r => (q r).2.1, fun r => (q r).2.2.1, fun r j => (q r).2.2.2 j % 256, by simpa using hcs, ⟨fun h => by rw [hsp h], by omega, fun r hr => ?_, fun r hr => (hq r hr).2.1, fun r hr => ?_, fun r hr => ?_, fun r hr => (hq r hr).2.2.2.2.2, fun r c => Nat.mod_lt _ (by decide)⟩⟩
    · have := (hq r hr).2.1; have := (hq r hr).2.2.1; show (q r).2.1 ≤ _; omega
    · obtain rfl := hsp (by omega)
      have hc := (hel r (by omega)).1
      rw [add_at, (hq r hr).1] at hc
      exact hc
    · intro j hj
      obtain ⟨b, off, e, hc⟩ := (hq r hr).2.2.2.2.1 j (by have := (hq r hr).2.1; show j < (q r).2.2.1; have : j < (q r).2.1 := hj; omega)
      exact ⟨b, off, e, by show W.cell? _ = some (.int .u8 (((q r).2.2.2 j % 256 : Nat) : Int)); rw [Nat.mod_eq_of_lt ((hq r hr).2.2.2.1 j)]; exact hc⟩

theorem open_texts {H : Type} {enc : TypeId × Value → H} {W : World} {base : Nat} {v : Value} {d : DataW H} {p : List MemPlace} (hv : Value.okWide Tryd.prog W .any base 24 v) (h : DataW.Trod enc Tryd.prog W 0 (fun _ => true) true 24 v d p) (hf : Fits 24 d) :
    ∃ ga gb go G Gc A L C Z, v = .agg #[.slice ga G Gc] ∧ RowsAre W ga gb go G Gc A L C Z := by
  obtain ⟨cs, rfl, hcsz⟩ := okWide_struct Tryd.underlying24 hv
  rw [cells24] at hcsz
  obtain ⟨u, rfl⟩ : ∃ u, cs = #[u] := by
    rcases cs with ⟨l⟩
    match l, hcsz with
    | [a], _ => exact ⟨a, rfl⟩
  obtain ⟨fuel, hf0⟩ := h
  obtain ⟨y0, m, hx, _, hy⟩ := trod_struct1 Tryd.underlying24 hf0
  simp [Value.cells, cells22] at hy
  simp only [Prod.mk.injEq] at hx
  obtain ⟨hd, _⟩ := hx
  have hfit0 : Fits 22 y0.1 := fun n hn => hf n (by
    rw [hd]
    simp only [DataW.weights, Tryd.underlying24]
    exact DataW.weights_mem_each (j := 0) rfl rfl n hn)
  obtain ⟨ga, gb, go, G, Gc, A, L, C, Z, rfl, hR⟩ := open_rows hy hfit0
  exact ⟨ga, gb, go, G, Gc, A, L, C, Z, rfl, hR⟩
end Go.Proofs.YtbmdnlomhnodeaaDoor
