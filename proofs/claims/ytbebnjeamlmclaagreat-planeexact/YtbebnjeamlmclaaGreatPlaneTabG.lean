/- The copies of each shard in each cluster, and the squares: a table, checked by reckoning. -/
import Derived.Test.YtbebnjeamlmclaaGreatPlanePoint
namespace Go.Proofs.YtbebnjeamlmclaaGreat
open Go.RowKit Go.Shelf Go.Sort
set_option maxRecDepth 100000
set_option maxRecDepth 100000

def copTab : List (List (List Nat)) := [[[0], [0, 1], [0, 2, 1], [3, 0, 2, 1], [3, 0, 2, 4, 1], [3, 0, 2, 4, 1, 5], [3, 0, 2, 4, 1, 5, 6], [3, 0, 2, 4, 1, 5, 7, 6], [3, 0, 2, 4, 1, 5, 7, 6, 8]], [[0], [0, 1], [0, 2, 1], [3, 0, 2, 1], [4, 3, 0, 2, 1], [4, 3, 5, 0, 2, 1], [4, 3, 5, 0, 2, 6, 1], [4, 3, 5, 0, 2, 6, 1, 7], [4, 3, 5, 0, 2, 6, 1, 7, 8]], [[0], [0, 1], [0, 1, 2], [0, 3, 1, 2], [0, 4, 3, 1, 2], [5, 0, 4, 3, 1, 2], [5, 0, 4, 6, 3, 1, 2], [5, 0, 4, 6, 3, 7, 1, 2], [5, 0, 4, 6, 3, 7, 1, 2, 8]], [[0], [0, 1], [0, 1, 2], [0, 1, 3, 2], [0, 4, 1, 3, 2], [5, 0, 4, 1, 3, 2], [6, 5, 0, 4, 1, 3, 2], [6, 5, 7, 0, 4, 1, 3, 2], [6, 5, 7, 0, 4, 8, 1, 3, 2]], [[0], [0, 1], [0, 1, 2], [0, 1, 3, 2], [0, 1, 3, 2, 4], [0, 1, 5, 3, 2, 4], [0, 6, 1, 5, 3, 2, 4], [7, 0, 6, 1, 5, 3, 2, 4], [7, 0, 6, 8, 1, 5, 3, 2, 4]], [[0], [1, 0], [1, 0, 2], [1, 0, 2, 3], [1, 0, 2, 3, 4], [1, 0, 2, 3, 5, 4], [1, 0, 2, 6, 3, 5, 4], [1, 7, 0, 2, 6, 3, 5, 4], [8, 1, 7, 0, 2, 6, 3, 5, 4]], [[0], [1, 0], [1, 0, 2], [1, 0, 2, 3], [1, 0, 2, 3, 4], [1, 0, 2, 3, 5, 4], [1, 0, 2, 3, 5, 4, 6], [1, 0, 2, 3, 7, 5, 4, 6], [1, 0, 2, 8, 3, 7, 5, 4, 6]], [[0], [1, 0], [2, 1, 0], [2, 1, 3, 0], [2, 1, 3, 0, 4], [2, 1, 3, 0, 4, 5], [2, 1, 3, 0, 4, 5, 6], [2, 1, 3, 0, 4, 5, 7, 6], [2, 1, 3, 0, 4, 8, 5, 7, 6]]]
def apTab : List (List Int) := [[1, 2, 1, 0, 1, 2, 5, 4, 5], [2, 5, 4, 1, 0, 1, 4, 5, 8], [1, 4, 5, 2, 1, 0, 1, 2, 5], [2, 5, 8, 5, 4, 1, 0, 1, 4], [1, 2, 5, 4, 5, 2, 1, 0, 1], [2, 1, 4, 5, 8, 5, 4, 1, 0], [1, 0, 1, 2, 5, 4, 5, 2, 1], [2, 1, 0, 1, 4, 5, 8, 5, 4]]
def cT (s n j : Nat) : Nat := ((copTab.getD s []).getD (n - 1) []).getD j 0
def dT (s j : Nat) : Int := (apTab.getD s []).getD j 0

theorem cT_eq : ∀ s, s < 8 → ∀ n, n < 10 → 1 ≤ n → ∀ j, j < n → copC s n j = cT s n j := by decide +kernel
theorem dT_eq : ∀ s, s < 8 → ∀ j, j < 9 → apD s j = dT s j := by decide +kernel
theorem cop_tab {s n j : Nat} (hs : s < 8) (h1 : 1 ≤ n) (h9 : n ≤ 9) (hj : j < n) : copN s n j = cT s n j := by
  rw [copN_eq]; exact cT_eq s hs n (by omega) h1 j hj
theorem cop_lt : ∀ s, s < 8 → ∀ n, n < 10 → ∀ j, j < n → cT s n j < n := by decide +kernel
theorem cop_ne : ∀ s, s < 8 → ∀ n, n < 10 → ∀ j, j < n → ∀ i, i < j → cT s n i ≠ cT s n j := by decide +kernel
set_option synthInstance.maxSize 2000 in
set_option synthInstance.maxHeartbeats 800000 in
theorem cop_up : ∀ s, s < 8 → ∀ n, n < 10 → ∀ i, i < n → i + 1 < n → dT s (cT s n i) ≤ dT s (cT s n (i + 1)) ∧ (dT s (cT s n i) = dT s (cT s n (i + 1)) → cT s n i < cT s n (i + 1)) := by decide +kernel
set_option synthInstance.maxSize 2000 in
set_option synthInstance.maxHeartbeats 800000 in
theorem cop_rest : ∀ s, s < 8 → ∀ n, n < 10 → ∀ c, c < n → ∀ m, m < n → (∀ i, i < c + 1 → cT s n i ≠ m) → dT s (cT s n c) ≤ dT s m ∧ (dT s m = dT s (cT s n c) → cT s n c < m) := by decide +kernel
end Go.Proofs.YtbebnjeamlmclaaGreat
