/- Package plane: mayBe, Copies; two lists of numbers that are the same; wakes. -/
import Derived.Test.YtbebnjeamlmclaaGreatPlaneCopies1
namespace Go.Proofs.YtbebnjeamlmclaaGreat
open Go.RowKit Go.Shelf Go.Sort
set_option maxRecDepth 100000
set_option maxRecDepth 100000

def goodM (s n c : Int) : Prop := 1 ≤ n ∧ n ≤ 9 ∧ 1 ≤ c ∧ c ≤ 7 ∧ c % 2 = 1 ∧ c ≤ n ∧ 0 ≤ s ∧ s < 8
instance (s n c : Int) : Decidable (goodM s n c) := by unfold goodM; infer_instance

theorem mayBe_any (s n c : Int) (w : World) : Calls Tryz.prog 11 #[.int .i64 s, .int .i64 n, .int .i64 c] w fun e w' => e = .returned (.bool (decide (goodM s n c))) ∧ w' = w := by
  by_cases h1 : n < 1
  · rw [decide_eq_false (fun h => by obtain ⟨_, _⟩ := h; omega)]
    go_enter Tryz.func11, Tryz.ntmps11
    go_wp2
    go_ret
    exact ⟨rfl, rfl⟩
  by_cases h2 : n > 9
  · rw [decide_eq_false (fun h => by obtain ⟨_, _, _⟩ := h; omega)]
    go_enter Tryz.func11, Tryz.ntmps11
    go_wp2
    go_ret
    exact ⟨rfl, rfl⟩
  by_cases h3 : c < 1
  · rw [decide_eq_false (fun h => by obtain ⟨_, _, _, _⟩ := h; omega)]
    go_enter Tryz.func11, Tryz.ntmps11
    go_wp2
    go_ret
    exact ⟨rfl, rfl⟩
  by_cases h4 : c > 7
  · rw [decide_eq_false (fun h => by obtain ⟨_, _, _, _, _⟩ := h; omega)]
    go_enter Tryz.func11, Tryz.ntmps11
    go_wp2
    go_ret
    exact ⟨rfl, rfl⟩
  have ht : c.tmod 2 = c % 2 := Int.tmod_eq_emod_of_nonneg (by omega)
  by_cases h5 : c % 2 = 0
  · rw [decide_eq_false (fun h => by obtain ⟨_, _, _, _, _, _⟩ := h; omega)]
    have ht0 : (c.tmod 2 == 0) = true := by rw [ht, h5]; rfl
    have ht1 : (c % 2 == 0) = true := by rw [h5]; rfl
    clear ht h5
    go_enter Tryz.func11, Tryz.ntmps11
    go_wp2
    go_ret
    exact ⟨rfl, rfl⟩
  have ht0 : (c.tmod 2 == 0) = false := by rw [ht]; exact beq_eq_false_iff_ne.2 h5
  have ht1 : (c % 2 == 0) = false := beq_eq_false_iff_ne.2 h5
  clear ht
  by_cases h6 : c > n
  · rw [decide_eq_false (fun h => by obtain ⟨_, _, _, _, _, _, _⟩ := h; omega)]
    clear h5
    go_enter Tryz.func11, Tryz.ntmps11
    go_wp2
    go_ret
    exact ⟨rfl, rfl⟩
  by_cases h7 : s ≥ 0
  · by_cases h8 : s < 8
    · rw [decide_eq_true (show goodM s n c from ⟨by omega, by omega, by omega, by omega, by omega, by omega, by omega, by omega⟩)]
      clear h5
      go_enter Tryz.func11, Tryz.ntmps11
      go_wp2
      go_ret
      exact ⟨rfl, rfl⟩
    · rw [decide_eq_false (fun h => by obtain ⟨_, _, _, _, _, _, _, _⟩ := h; omega)]
      clear h5
      go_enter Tryz.func11, Tryz.ntmps11
      go_wp2
      go_ret
      exact ⟨rfl, rfl⟩
  · rw [decide_eq_false (fun h => by obtain ⟨_, _, _, _, _, _, _, _⟩ := h; omega)]
    clear h5
    go_enter Tryz.func11, Tryz.ntmps11
    go_wp2
    go_ret
    exact ⟨rfl, rfl⟩

/-- The copies' numbers. -/
def copN (s n j : Nat) : Nat := nearN (apD s) (n - 1) j

theorem copies_bad (s n c : Int) (hb : ¬ goodM s n c) (w : World) : Calls Tryz.prog 4 #[.int .i64 s, .int .i64 n, .int .i64 c] w fun e w' => e = .returned (.tuple #[.slice none 0 0, .int .i64 30]) ∧ w' = w := by
  have hmb := mayBe_any s n c w
  rw [decide_eq_false hb] at hmb
  clear hb
  go_enter Tryz.func4, Tryz.ntmps4
  go_wp2_with fail
  refine hmb.mono ?_
  rintro e w ⟨rfl, rfl⟩
  go_wp2
  go_ret2
  exact ⟨rfl, rfl⟩

theorem copies_any (s n c : Nat) (hg : goodM s n c) (w : World) : Calls Tryz.prog 4 #[.int .i64 s, .int .i64 n, .int .i64 c] w fun e w' =>
    ∃ v B, e = .returned (.tuple #[v, .int .i64 0]) ∧ w.heap.size ≤ B ∧ w'.ownsRow B 3 1 v c ((List.range c).map fun j => .int .i64 (copN s n j : Nat)) ∧ v ≠ .slice none 0 0 ∧ RowKit.Below w.heap.size w w' := by
  have hmb := mayBe_any s n c w
  rw [decide_eq_true hg] at hmb
  obtain ⟨g1, g2, g3, g4, g5, g6, g7, g8⟩ := hg
  have hsq := squares_any s n (by omega) (by omega) (by omega) w
  have hcn : (c : Int) ≤ (n : Int) := g6
  have HG : Hid (c ≤ n ∧ 1 ≤ c ∧ n ≤ 9 ∧ 1 ≤ n) := ⟨by omega, by omega, by omega, by omega⟩
  clear g1 g2 g3 g4 g5 g6 g7 g8
  go_enter Tryz.func4, Tryz.ntmps4
  go_wp2_with fail
  refine hmb.mono ?_
  rintro e w ⟨rfl, rfl⟩
  go_wp2_with fail
  refine hsq.mono ?_
  rintro e w1 ⟨b, rfl, hb, hR, hB⟩
  go_wp2_with fail
  refine (nearness_any (apD s) (n - 1) n b (hide (by have := HG.out; omega)) (by have := HG.out; omega) w1 hR).mono ?_
  rintro e w2 ⟨b2, rfl, hb2, hc2, hB2⟩
  have HC := (Any.slices_Clone_int cloneL b2 0 c n ((List.range n).map fun j => ((copN s n j : Nat) : Int)) w2 (by have := HG.out; simp; omega) (by have := HG.out; omega)
    (fun j hj => by
      have hjn : j < n := by simpa using hj
      rw [Nat.zero_add, hc2 j hjn]
      simp [List.getD, hjn, copN]))
  change Calls Tryz.prog 14 _ _ _ at HC
  clear hc2 hmb hsq hR
  go_wp2_with fail
  refine HC.mono ?_
  rintro e w3 ⟨v, rfl, hO, hv, hB3⟩
  go_wp2
  go_ret2
  have h1 := hB.size
  have h2 := hB2.size
  refine ⟨v, w2.heap.size, rfl, by omega, ?_, hv, hB.trans ((hB2.mono (by omega)).trans (hB3.mono (by omega)))⟩
  have e : ((((List.range n).map fun j => ((copN s n j : Nat) : Int)).take c).map (Value.int .i64)) = (List.range c).map fun j => .int .i64 (copN s n j : Nat) := by
    rw [← List.map_take, List.take_range, List.map_map, Nat.min_eq_left (by have := HG.out; omega)]
    rfl
  rw [e] at hO
  exact hO
end Go.Proofs.YtbebnjeamlmclaaGreat
