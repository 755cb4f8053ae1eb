/- The looking at lists of ints that were marked. -/
import Derived.Test.YtbebnjeamlmclaaGreatSpread2
namespace Go.Proofs.YtbebnjeamlmclaaGreat
open Go.RowKit
set_option maxRecDepth 100000
set_option maxRecDepth 100000

/-- Each list holds its mark alone. -/
def Mkd (W : World) (kv : Value) (N : Nat) : Prop :=
  ∃ ka kc, kv = .slice ka N kc ∧ N ≤ kc ∧ ∀ p, p < N → ∃ kb a n c, ka = some ⟨kb, 0, none⟩ ∧ W.cell? ⟨kb, p, none⟩ = some (.slice a n c) ∧ n ≤ c ∧ n ≤ 1048676 ∧ ∀ t, t < n → ∃ g, a = some ⟨g, 0, none⟩ ∧ W.cell? ⟨g, t, none⟩ = some (mI p)

set_option maxHeartbeats 4000000 in
theorem spr_marked (yb N : Nat) (kv : Value) (W : World) (hN : N ≤ 1000) (hy : W.rowIs yb 61 8 (sprCell kv)) (hM : Mkd W kv N) :
    Calls Tryz.prog 19 #[.pointer (some ⟨yb, 0, none⟩)] W fun e w' => e = .returned (.bool true) ∧ w' = W := by
  obtain ⟨ka, kc, rfl, hkc, hl⟩ := hM
  have hNz : (N : Int) ≤ 1000 := by omega
  have hNkc : (N : Int) ≤ (kc : Int) := by omega
  have hoth := spr_others yb _ W hy
  have c0 : W.cell? ⟨yb, 0, none⟩ = some (.slice ka N kc) := hy.cell (i := 0) (by decide)
  have c1 : W.cell? ⟨yb, 1, none⟩ = some (.slice none 0 0) := hy.cell (i := 1) (by decide)
  have c2 : W.cell? ⟨yb, 2, none⟩ = some (.slice none 0 0) := hy.cell (i := 2) (by decide)
  have c3 : W.cell? ⟨yb, 3, none⟩ = some (.slice none 0 0) := hy.cell (i := 3) (by decide)
  clear hy
  go_enter Tryz.func19, Tryz.ntmps19
  go_wp2_with fail
  go_loopg [3, 4] N (fun q s3 s4 wr => ∃ (p : Nat), p ≤ N ∧ q = N - p ∧ s3 = .int .i64 p ∧ W = wr)
  case atStart => exact ⟨0, Nat.zero_le _, rfl, rfl, rfl⟩
  case round =>
    obtain ⟨p, hp, rfl, rfl, rfl⟩ := hrel
    by_cases hpi : p < N
    · have hpz : (p : Int) < (N : Int) := by omega
      obtain ⟨kb, a, n, c, rfl, hcell, hnc, hn, hg⟩ := hl p hpi
      have hnz : (n : Int) ≤ 1048676 := by omega
      have hncz : (n : Int) ≤ (c : Int) := by omega
      go_wp2_with fail
      go_loopg [4] n (fun q s4 wr => ∃ (k : Nat), k ≤ n ∧ q = n - k ∧ s4 = .int .i64 k ∧ W = wr)
      case atStart => exact ⟨0, Nat.zero_le _, rfl, rfl, rfl⟩
      case round =>
        obtain ⟨k, hk, rfl, rfl, rfl⟩ := hrel
        by_cases hkn : k < n
        · have hkz : (k : Int) < (n : Int) := by omega
          obtain ⟨g, rfl, hgk0⟩ := hg k hkn
          have hgk : W.cell? ⟨g, k, none⟩ = some (.int .i64 (-1 - (p : Int))) := hgk0
          clear hgk0
          go_wp2_with fail
          go_roundg (n - (k + 1))
          case measure => omega
          case rel => exact ⟨k + 1, by omega, rfl, by go_num, rfl⟩
        · have hkz : ¬ (k : Int) < (n : Int) := by omega
          go_wp2_with fail
          go_roundg (N - (p + 1))
          case measure => omega
          case rel => exact ⟨p + 1, by omega, rfl, by go_num, rfl⟩
    · have hpz : ¬ (p : Int) < (N : Int) := by omega
      obtain rfl : p = N := by omega
      go_wp2_with fail
      go_loopg [5] 0 (fun q s5 wx => q = 0 ∧ s5 = .int .i64 0 ∧ W = wx)
      case atStart => exact ⟨rfl, rfl, rfl⟩
      case round =>
        obtain ⟨rfl, rfl, rfl⟩ := hrel
        go_wp2_with fail
        go_loopg [7] 0 (fun q s7 wx => q = 0 ∧ s7 = .int .i64 0 ∧ W = wx)
        case atStart => exact ⟨rfl, rfl, rfl⟩
        case round =>
          obtain ⟨rfl, rfl, rfl⟩ := hrel
          go_wp2_with fail
          go_loopg [9] 0 (fun q s9 wx => q = 0 ∧ s9 = .int .i64 0 ∧ W = wx)
          case atStart => exact ⟨rfl, rfl, rfl⟩
          case round =>
            obtain ⟨rfl, rfl, rfl⟩ := hrel
            go_wp2_with fail
            go_at_call 45
            refine hoth.mono ?_
            rintro e w2 ⟨rfl, rfl⟩
            go_wp2_with fail
            go_ret
            exact ⟨rfl, rfl⟩
end Go.Proofs.YtbebnjeamlmclaaGreat
