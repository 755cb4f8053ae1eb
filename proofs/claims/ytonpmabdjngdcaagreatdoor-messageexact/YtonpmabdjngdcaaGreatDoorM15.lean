/- Own texts, joined: RefY0, RefY1, RefZ, RefQ0, RefQ1, RefQ2, RefQ3, RefQ4. -/
import Derived.Test.YtonpmabdjngdcaaGreatDoorM9
import Derived.Deep.CutBlock
import Derived.Test.YtonpmabdjngdcaaGreatDoorM11
import Derived.Test.YtonpmabdjngdcaaGreatDoorM12
import Derived.Test.YtonpmabdjngdcaaGreatDoorM13
import Derived.Test.YtonpmabdjngdcaaGreatDoorM14

/- The document's upTo and May. -/
namespace Go.Proofs.YtonpmabdjngdcaaGreatDoor
open Go.RowKit
set_option maxRecDepth 100000

set_option maxHeartbeats 2000000 in
theorem upTo_any (most : Int) (b : Nat) (n : Nat) (x : Nat → Int) (w : World) (hn : n ≤ 1000) (hc : ∀ j, j < n → w.cell? ⟨b, j, none⟩ = some (.int .u64 (x j))) (R : Bool) (hR : R = true ↔ ∀ j, j < n → x j ≤ most) :
    Calls Tryz.prog 53 #[.int .u64 most, .slice (some ⟨b, 0, none⟩) n n] w fun e w' => e = .returned (.bool R) ∧ w' = w := by
  have HC := hide hc
  have HR := hide hR
  clear hc hR
  go_enter Tryz.func53, Tryz.ntmps53
  go_wp2_with fail
  go_loopg [5] n (fun q s5 wx => ∃ i : Nat, i ≤ n ∧ q = n - i ∧ s5 = .int .i64 (i : Nat) ∧ wx = w ∧ Hid (∀ j, j < i → x j ≤ most))
  case atStart => exact ⟨0, Nat.zero_le _, rfl, rfl, rfl, fun j hj => absurd hj (Nat.not_lt_zero _)⟩
  case round =>
    obtain ⟨i, hi, rfl, rfl, rfl, HX⟩ := hrel
    by_cases hlt : i < n
    · have z1 : (i : Int) < (n : Int) := by omega
      have z0 : (0 : Int) ≤ (i : Int) := by omega
      have hwi : IntKind.i64.wrap ((i : Int) + 1) = (i : Int) + 1 := by rw [IntKind.wrap_i64]; omega
      have cc := HC.out i hlt
      obtain ⟨xi, Hxi⟩ : ∃ y, Hid (x i = y) := ⟨_, rfl⟩
      rw [Hxi.out] at cc
      by_cases hg : xi > most
      · have hb : R = false := by
          cases hr : R with
          | false => rfl
          | true =>
            have h2 := HR.out.1 hr i hlt
            rw [Hxi.out] at h2
            omega
        subst hb
        go_wp2_with fail
        go_ret
        exact ⟨rfl, rfl⟩
      · have HX2 : Hid (∀ j, j < i + 1 → x j ≤ most) := fun j hj => by
          by_cases e : j = i
          · subst e; rw [Hxi.out]; omega
          · exact HX.out j (by omega)
        clear HX
        go_wp2_with fail
        go_roundg (n - (i + 1))
        case measure => go_light; omega
        case rel => go_light; exact ⟨i + 1, hlt, rfl, by simp, rfl, HX2⟩
    · obtain rfl : i = n := by omega
      have z1 : ¬ (i : Int) < (i : Int) := by omega
      have hb : R = true := HR.out.2 HX.out
      subst hb
      clear HX
      go_wp2_with fail
      go_ret
      exact ⟨rfl, rfl⟩
end Go.Proofs.YtonpmabdjngdcaaGreatDoor

/- The document's May. -/
namespace Go.Proofs.YtonpmabdjngdcaaGreatDoor
open Go.RowKit
set_option maxRecDepth 100000

theorem own8 (w : World) (a0 a1 a2 a3 a4 a5 a6 a7 : Int) : ∀ j, j < 8 → (w.alloc (.cells #[.int .u64 a0, .int .u64 a1, .int .u64 a2, .int .u64 a3, .int .u64 a4, .int .u64 a5, .int .u64 a6, .int .u64 a7] 29)).cell? ⟨w.heap.size, j, none⟩ = some (.int .u64 ([a0, a1, a2, a3, a4, a5, a6, a7].getD j 0)) := fun j hj => by
  have hr : (w.alloc (.cells #[.int .u64 a0, .int .u64 a1, .int .u64 a2, .int .u64 a3, .int .u64 a4, .int .u64 a5, .int .u64 a6, .int .u64 a7] 29)).rowIs w.heap.size 29 8 (fun j => .int .u64 ([a0, a1, a2, a3, a4, a5, a6, a7].getD j 0)) := World.rowIs_alloc w _ _ _ (fun i hi => by
    have hi' : i < 8 := hi
    match i, hi' with
    | 0, _ => rfl
    | 1, _ => rfl
    | 2, _ => rfl
    | 3, _ => rfl
    | 4, _ => rfl
    | 5, _ => rfl
    | 6, _ => rfl
    | 7, _ => rfl)
  exact hr.cell hj
set_option maxHeartbeats 8000000 in
theorem may_walk (m : Mg) (va : Option Addr) (vc : Nat) (w : World) (hA : MgA w m va vc) (B1 B2 B3 B4 B5 B6 B7 B8 : Bool)
    (b1 : B1 = decide (0 ≤ m.n 1 ∧ m.n 1 < 9 ∧ 0 ≤ m.n 2 ∧ m.n 2 < 9)) (b2 : B2 = decide (0 ≤ m.n 3 ∧ m.n 3 < 8 ∧ 0 ≤ m.n 11 ∧ m.n 11 < 8))
    (b3 : B3 = decide (m.n 4 ≤ 1099511627776 ∧ m.n 5 ≤ 1099511627776 ∧ m.n 6 ≤ 1099511627776 ∧ m.n 7 ≤ 1099511627776 ∧ m.n 9 ≤ 1099511627776 ∧ m.n 12 ≤ 1099511627776 ∧ m.n 16 ≤ 1099511627776 ∧ m.n 17 ≤ 1099511627776))
    (b4 : B4 = decide (0 ≤ m.n 8 ∧ m.n 8 ≤ 1025)) (b5 : B5 = decide ((m.s 10).length ≤ 16384 ∧ (m.s 13).length ≤ 64 ∧ (m.s 14).length ≤ 64)) (b6 : B6 = decide (0 ≤ m.n 18 ∧ m.n 18 ≤ 3 ∧ 0 ≤ m.n 19 ∧ m.n 19 < 8 ∧ 0 ≤ m.n 20 ∧ m.n 20 ≤ 4)) (b7 : B7 = decide (m.n 21 = 0 ∨ 300 ≤ m.n 21 ∧ m.n 21 ≤ 307)) (b8 : B8 = decide (m.n 15 ≤ 9007199254740992)) :
    Calls Tryz.prog 30 #[mgV m va vc] w fun e w' => e = .returned (.bool (B1 && (B2 && (B3 && (B4 && (B5 && (B6 && (B7 && B8)))))))) ∧ w.Since w.heap.size w' := by
  obtain ⟨MM, HMM⟩ : ∃ x, Hid ((mgL m va vc).toArray = x) := ⟨_, rfl⟩
  obtain ⟨W1, HW1⟩ : ∃ W, Hid (w.alloc (.cells MM 37) = W) := ⟨_, rfl⟩
  have s1 : w.Since w.heap.size W1 := by rw [← HW1.out]; exact (World.Since.refl _ _).alloc (Nat.le_refl _) _
  have hM1 : MsgIs W1 w.heap.size m va vc := by rw [← HW1.out, ← HMM.out]; exact hA.is
  have d1 : W1.cell? ⟨w.heap.size, 1, none⟩ = some (.int .i64 (m.n 1)) := hM1.cell (i := 1) (by decide)
  have d2 : W1.cell? ⟨w.heap.size, 2, none⟩ = some (.int .i64 (m.n 2)) := hM1.cell (i := 2) (by decide)
  have d3 : W1.cell? ⟨w.heap.size, 3, none⟩ = some (.int .i64 (m.n 3)) := hM1.cell (i := 3) (by decide)
  have d4 : W1.cell? ⟨w.heap.size, 4, none⟩ = some (.int .u64 (m.n 4)) := hM1.cell (i := 4) (by decide)
  have d5 : W1.cell? ⟨w.heap.size, 5, none⟩ = some (.int .u64 (m.n 5)) := hM1.cell (i := 5) (by decide)
  have d6 : W1.cell? ⟨w.heap.size, 6, none⟩ = some (.int .u64 (m.n 6)) := hM1.cell (i := 6) (by decide)
  have d7 : W1.cell? ⟨w.heap.size, 7, none⟩ = some (.int .u64 (m.n 7)) := hM1.cell (i := 7) (by decide)
  have d8 : W1.cell? ⟨w.heap.size, 8, none⟩ = some (.int .i64 (m.n 8)) := hM1.cell (i := 8) (by decide)
  have d9 : W1.cell? ⟨w.heap.size, 9, none⟩ = some (.int .u64 (m.n 9)) := hM1.cell (i := 9) (by decide)
  have d11 : W1.cell? ⟨w.heap.size, 11, none⟩ = some (.int .i64 (m.n 11)) := hM1.cell (i := 11) (by decide)
  have d12 : W1.cell? ⟨w.heap.size, 12, none⟩ = some (.int .u64 (m.n 12)) := hM1.cell (i := 12) (by decide)
  have d15 : W1.cell? ⟨w.heap.size, 15, none⟩ = some (.int .u64 (m.n 15)) := hM1.cell (i := 15) (by decide)
  have d16 : W1.cell? ⟨w.heap.size, 16, none⟩ = some (.int .u64 (m.n 16)) := hM1.cell (i := 16) (by decide)
  have d17 : W1.cell? ⟨w.heap.size, 17, none⟩ = some (.int .u64 (m.n 17)) := hM1.cell (i := 17) (by decide)
  have d18 : W1.cell? ⟨w.heap.size, 18, none⟩ = some (.int .i64 (m.n 18)) := hM1.cell (i := 18) (by decide)
  have d19 : W1.cell? ⟨w.heap.size, 19, none⟩ = some (.int .i64 (m.n 19)) := hM1.cell (i := 19) (by decide)
  have d20 : W1.cell? ⟨w.heap.size, 20, none⟩ = some (.int .i64 (m.n 20)) := hM1.cell (i := 20) (by decide)
  have d21 : W1.cell? ⟨w.heap.size, 21, none⟩ = some (.int .i64 (m.n 21)) := hM1.cell (i := 21) (by decide)
  have d10 : W1.cell? ⟨w.heap.size, 10, none⟩ = some (.slice va (m.s 10).length vc) := hM1.cell (i := 10) (by decide)
  have d13 : W1.cell? ⟨w.heap.size, 13, none⟩ = some (.string (strL (m.s 13))) := hM1.cell (i := 13) (by decide)
  have d14 : W1.cell? ⟨w.heap.size, 14, none⟩ = some (.string (strL (m.s 14))) := hM1.cell (i := 14) (by decide)
  have hs13 : (strL (m.s 13)).size = (m.s 13).length := strL_size _
  have hs14 : (strL (m.s 14)).size = (m.s 14).length := strL_size _
  have hl10 := hA.len 10
  generalize m.n 1 = n1 at *
  generalize m.n 2 = n2 at *
  generalize m.n 3 = n3 at *
  generalize m.n 4 = n4 at *
  generalize m.n 5 = n5 at *
  generalize m.n 6 = n6 at *
  generalize m.n 7 = n7 at *
  generalize m.n 8 = n8 at *
  generalize m.n 9 = n9 at *
  generalize m.n 11 = n11 at *
  generalize m.n 12 = n12 at *
  generalize m.n 15 = n15 at *
  generalize m.n 16 = n16 at *
  generalize m.n 17 = n17 at *
  generalize m.n 18 = n18 at *
  generalize m.n 19 = n19 at *
  generalize m.n 20 = n20 at *
  generalize m.n 21 = n21 at *
  generalize (m.s 10).length = l10 at *
  generalize (m.s 13).length = l13 at *
  generalize (m.s 14).length = l14 at *
  generalize strL (m.s 13) = S13 at *
  generalize strL (m.s 14) = S14 at *
  obtain ⟨W2, HW2⟩ : ∃ W, Hid (W1.alloc (.cells #[.int .u64 n4, .int .u64 n5, .int .u64 n6, .int .u64 n7, .int .u64 n9, .int .u64 n12, .int .u64 n16, .int .u64 n17] 29) = W) := ⟨_, rfl⟩
  have s2 : W1.Since W1.heap.size W2 := by rw [← HW2.out]; exact (World.Since.refl _ _).alloc (Nat.le_refl _) _
  have HUP : Hid (Calls Tryz.prog 53 #[.int .u64 1099511627776, .slice (some ⟨W1.heap.size, 0, none⟩) 8 8] W2 fun e w' => e = .returned (.bool B3) ∧ w' = W2) := by
    refine upTo_any 1099511627776 W1.heap.size 8 (fun j => [n4, n5, n6, n7, n9, n12, n16, n17].getD j 0) W2 (by decide) (by rw [← HW2.out]; exact own8 W1 _ _ _ _ _ _ _ _) B3 ?_
    rw [b3, decide_eq_true_iff]
    constructor
    · rintro ⟨h0, h1, h2, h3, h4, h5, h6, h7⟩ j hj
      match j, hj with
      | 0, _ => exact h0
      | 1, _ => exact h1
      | 2, _ => exact h2
      | 3, _ => exact h3
      | 4, _ => exact h4
      | 5, _ => exact h5
      | 6, _ => exact h6
      | 7, _ => exact h7
    · intro h
      exact ⟨h 0 (by decide), h 1 (by decide), h 2 (by decide), h 3 (by decide), h 4 (by decide), h 5 (by decide), h 6 (by decide), h 7 (by decide)⟩
  have HS2 : Hid (w.Since w.heap.size W2) := s1.trans (since_mono s2 s1.size)
  have g8 := cell_later s2 d8
  have g10 := cell_later s2 d10
  have g13 := cell_later s2 d13
  have g14 := cell_later s2 d14
  have g15 := cell_later s2 d15
  have g18 := cell_later s2 d18
  have g19 := cell_later s2 d19
  have g20 := cell_later s2 d20
  have g21 := cell_later s2 d21
  have HB1 := hide b1
  have HB2 := hide b2
  have HB4 := hide b4
  have HB5 := hide b5
  have HB6 := hide b6
  have HB7 := hide b7
  have HB8 := hide b8
  clear b1 b2 b3 b4 b5 b6 b7 b8 s1 s2 hM1 hA
  unfold mgV
  rw [HMM.out]
  go_enter Tryz.func30, Tryz.ntmps30
  go_upto_region 1 with fail
  rw [HW1.out]
  go_cut [3] from 10 to 31 (fun s wx => s = .bool B1 ∧ W1 = wx)
  case first =>
    by_cases h0 : 0 ≤ n1
    · have x0 : n1 ≥ 0 := by omega
      have y0 : decide (0 ≤ n1) = true := by simp; omega
      by_cases h1 : n1 < 9
      · have x1 : n1 < 9 := by omega
        have y1 : decide (n1 < 9) = true := by simp; omega
        by_cases h2 : 0 ≤ n2
        · have x2 : n2 ≥ 0 := by omega
          have y2 : decide (0 ≤ n2) = true := by simp; omega
          by_cases h3 : n2 < 9
          · have x3 : n2 < 9 := by omega
            have y3 : decide (n2 < 9) = true := by simp; omega
            have e : B1 = true := by rw [HB1.out]; exact decide_eq_true ⟨h0, h1, h2, h3⟩
            subst e
            go_wp2_with fail
            go_meet
            case rel => go_light; exact ⟨rfl, rfl⟩
          · have x3 : ¬ n2 < 9 := by omega
            have y3 : decide (n2 < 9) = false := by simp; omega
            have e : B1 = false := by rw [HB1.out]; exact decide_eq_false (fun hh => by omega)
            subst e
            go_wp2_with fail
            go_meet
            case rel => go_light; exact ⟨rfl, rfl⟩
        · have x2 : ¬ n2 ≥ 0 := by omega
          have y2 : decide (0 ≤ n2) = false := by simp; omega
          have e : B1 = false := by rw [HB1.out]; exact decide_eq_false (fun hh => by omega)
          subst e
          go_wp2_with fail
          go_meet
          case rel => go_light; exact ⟨rfl, rfl⟩
      · have x1 : ¬ n1 < 9 := by omega
        have y1 : decide (n1 < 9) = false := by simp; omega
        have e : B1 = false := by rw [HB1.out]; exact decide_eq_false (fun hh => by omega)
        subst e
        go_wp2_with fail
        go_meet
        case rel => go_light; exact ⟨rfl, rfl⟩
    · have x0 : ¬ n1 ≥ 0 := by omega
      have y0 : decide (0 ≤ n1) = false := by simp; omega
      have e : B1 = false := by rw [HB1.out]; exact decide_eq_false (fun hh => by omega)
      subst e
      go_wp2_with fail
      go_meet
      case rel => go_light; exact ⟨rfl, rfl⟩
  obtain ⟨rfl, rfl⟩ := hcut
  go_upto_region 2 with fail
  go_cut [4] from 32 to 51 (fun s wx => s = .bool B2 ∧ W1 = wx)
  case first =>
    by_cases h0 : 0 ≤ n3
    · have x0 : n3 ≥ 0 := by omega
      have y0 : decide (0 ≤ n3) = true := by simp; omega
      by_cases h1 : n3 < 8
      · have x1 : n3 < 8 := by omega
        have y1 : decide (n3 < 8) = true := by simp; omega
        by_cases h2 : 0 ≤ n11
        · have x2 : n11 ≥ 0 := by omega
          have y2 : decide (0 ≤ n11) = true := by simp; omega
          by_cases h3 : n11 < 8
          · have x3 : n11 < 8 := by omega
            have y3 : decide (n11 < 8) = true := by simp; omega
            have e : B2 = true := by rw [HB2.out]; exact decide_eq_true ⟨h0, h1, h2, h3⟩
            subst e
            go_wp2_with fail
            go_meet
            case rel => go_light; exact ⟨rfl, rfl⟩
          · have x3 : ¬ n11 < 8 := by omega
            have y3 : decide (n11 < 8) = false := by simp; omega
            have e : B2 = false := by rw [HB2.out]; exact decide_eq_false (fun hh => by omega)
            subst e
            go_wp2_with fail
            go_meet
            case rel => go_light; exact ⟨rfl, rfl⟩
        · have x2 : ¬ n11 ≥ 0 := by omega
          have y2 : decide (0 ≤ n11) = false := by simp; omega
          have e : B2 = false := by rw [HB2.out]; exact decide_eq_false (fun hh => by omega)
          subst e
          go_wp2_with fail
          go_meet
          case rel => go_light; exact ⟨rfl, rfl⟩
      · have x1 : ¬ n3 < 8 := by omega
        have y1 : decide (n3 < 8) = false := by simp; omega
        have e : B2 = false := by rw [HB2.out]; exact decide_eq_false (fun hh => by omega)
        subst e
        go_wp2_with fail
        go_meet
        case rel => go_light; exact ⟨rfl, rfl⟩
    · have x0 : ¬ n3 ≥ 0 := by omega
      have y0 : decide (0 ≤ n3) = false := by simp; omega
      have e : B2 = false := by rw [HB2.out]; exact decide_eq_false (fun hh => by omega)
      subst e
      go_wp2_with fail
      go_meet
      case rel => go_light; exact ⟨rfl, rfl⟩
  obtain ⟨rfl, rfl⟩ := hcut
  go_upto_region 3 with fail
  go_wp2_with fail
  rw [HW2.out]
  refine HUP.out.mono ?_
  rintro e w3 ⟨rfl, e3⟩
  rw [e3]
  clear e3 HUP d1 d2 d3 d4 d5 d6 d7 d8 d9 d10 d11 d12 d13 d14 d15 d16 d17 d18 d19 d20 d21
  go_upto_region 4 with fail
  go_cut [6] from 74 to 81 (fun s wx => s = .bool B4 ∧ W2 = wx)
  case first =>
    by_cases h0 : 0 ≤ n8
    · have x0 : n8 ≥ 0 := by omega
      have y0 : decide (0 ≤ n8) = true := by simp; omega
      by_cases h1 : n8 ≤ 1025
      · have x1 : n8 ≤ 1025 := by omega
        have y1 : decide (n8 ≤ 1025) = true := by simp; omega
        have e : B4 = true := by rw [HB4.out]; exact decide_eq_true ⟨h0, h1⟩
        subst e
        go_wp2_with fail
        go_meet
        case rel => go_light; exact ⟨rfl, rfl⟩
      · have x1 : ¬ n8 ≤ 1025 := by omega
        have y1 : decide (n8 ≤ 1025) = false := by simp; omega
        have e : B4 = false := by rw [HB4.out]; exact decide_eq_false (fun hh => by omega)
        subst e
        go_wp2_with fail
        go_meet
        case rel => go_light; exact ⟨rfl, rfl⟩
    · have x0 : ¬ n8 ≥ 0 := by omega
      have y0 : decide (0 ≤ n8) = false := by simp; omega
      have e : B4 = false := by rw [HB4.out]; exact decide_eq_false (fun hh => by omega)
      subst e
      go_wp2_with fail
      go_meet
      case rel => go_light; exact ⟨rfl, rfl⟩
  obtain ⟨rfl, rfl⟩ := hcut
  go_upto_region 5 with fail
  go_cut [7] from 82 to 97 (fun s wx => s = .bool B5 ∧ W2 = wx)
  case first =>
    by_cases h0 : l10 ≤ 16384
    · have x0 : (l10 : Int) ≤ 16384 := by omega
      have y0 : decide ((l10 : Int) ≤ 16384) = true := by simp; omega
      by_cases h1 : l13 ≤ 64
      · have x1 : (l13 : Int) ≤ 64 := by omega
        have y1 : decide ((l13 : Int) ≤ 64) = true := by simp; omega
        by_cases h2 : l14 ≤ 64
        · have x2 : (l14 : Int) ≤ 64 := by omega
          have y2 : decide ((l14 : Int) ≤ 64) = true := by simp; omega
          have e : B5 = true := by rw [HB5.out]; exact decide_eq_true ⟨h0, h1, h2⟩
          subst e
          go_wp2_with fail
          go_meet
          case rel => go_light; exact ⟨rfl, rfl⟩
        · have x2 : ¬ (l14 : Int) ≤ 64 := by omega
          have y2 : decide ((l14 : Int) ≤ 64) = false := by simp; omega
          have e : B5 = false := by rw [HB5.out]; exact decide_eq_false (fun hh => by omega)
          subst e
          go_wp2_with fail
          go_meet
          case rel => go_light; exact ⟨rfl, rfl⟩
      · have x1 : ¬ (l13 : Int) ≤ 64 := by omega
        have y1 : decide ((l13 : Int) ≤ 64) = false := by simp; omega
        have e : B5 = false := by rw [HB5.out]; exact decide_eq_false (fun hh => by omega)
        subst e
        go_wp2_with fail
        go_meet
        case rel => go_light; exact ⟨rfl, rfl⟩
    · have x0 : ¬ (l10 : Int) ≤ 16384 := by omega
      have y0 : decide ((l10 : Int) ≤ 16384) = false := by simp; omega
      have e : B5 = false := by rw [HB5.out]; exact decide_eq_false (fun hh => by omega)
      subst e
      go_wp2_with fail
      go_meet
      case rel => go_light; exact ⟨rfl, rfl⟩
  obtain ⟨rfl, rfl⟩ := hcut
  go_upto_region 6 with fail
  go_cut [8] from 98 to 125 (fun s wx => s = .bool B6 ∧ W2 = wx)
  case first =>
    by_cases h0 : 0 ≤ n18
    · have x0 : n18 ≥ 0 := by omega
      have y0 : decide (0 ≤ n18) = true := by simp; omega
      by_cases h1 : n18 ≤ 3
      · have x1 : n18 ≤ 3 := by omega
        have y1 : decide (n18 ≤ 3) = true := by simp; omega
        by_cases h2 : 0 ≤ n19
        · have x2 : n19 ≥ 0 := by omega
          have y2 : decide (0 ≤ n19) = true := by simp; omega
          by_cases h3 : n19 < 8
          · have x3 : n19 < 8 := by omega
            have y3 : decide (n19 < 8) = true := by simp; omega
            by_cases h4 : 0 ≤ n20
            · have x4 : n20 ≥ 0 := by omega
              have y4 : decide (0 ≤ n20) = true := by simp; omega
              by_cases h5 : n20 ≤ 4
              · have x5 : n20 ≤ 4 := by omega
                have y5 : decide (n20 ≤ 4) = true := by simp; omega
                have e : B6 = true := by rw [HB6.out]; exact decide_eq_true ⟨h0, h1, h2, h3, h4, h5⟩
                subst e
                go_wp2_with fail
                go_meet
                case rel => go_light; exact ⟨rfl, rfl⟩
              · have x5 : ¬ n20 ≤ 4 := by omega
                have y5 : decide (n20 ≤ 4) = false := by simp; omega
                have e : B6 = false := by rw [HB6.out]; exact decide_eq_false (fun hh => by omega)
                subst e
                go_wp2_with fail
                go_meet
                case rel => go_light; exact ⟨rfl, rfl⟩
            · have x4 : ¬ n20 ≥ 0 := by omega
              have y4 : decide (0 ≤ n20) = false := by simp; omega
              have e : B6 = false := by rw [HB6.out]; exact decide_eq_false (fun hh => by omega)
              subst e
              go_wp2_with fail
              go_meet
              case rel => go_light; exact ⟨rfl, rfl⟩
          · have x3 : ¬ n19 < 8 := by omega
            have y3 : decide (n19 < 8) = false := by simp; omega
            have e : B6 = false := by rw [HB6.out]; exact decide_eq_false (fun hh => by omega)
            subst e
            go_wp2_with fail
            go_meet
            case rel => go_light; exact ⟨rfl, rfl⟩
        · have x2 : ¬ n19 ≥ 0 := by omega
          have y2 : decide (0 ≤ n19) = false := by simp; omega
          have e : B6 = false := by rw [HB6.out]; exact decide_eq_false (fun hh => by omega)
          subst e
          go_wp2_with fail
          go_meet
          case rel => go_light; exact ⟨rfl, rfl⟩
      · have x1 : ¬ n18 ≤ 3 := by omega
        have y1 : decide (n18 ≤ 3) = false := by simp; omega
        have e : B6 = false := by rw [HB6.out]; exact decide_eq_false (fun hh => by omega)
        subst e
        go_wp2_with fail
        go_meet
        case rel => go_light; exact ⟨rfl, rfl⟩
    · have x0 : ¬ n18 ≥ 0 := by omega
      have y0 : decide (0 ≤ n18) = false := by simp; omega
      have e : B6 = false := by rw [HB6.out]; exact decide_eq_false (fun hh => by omega)
      subst e
      go_wp2_with fail
      go_meet
      case rel => go_light; exact ⟨rfl, rfl⟩
  obtain ⟨rfl, rfl⟩ := hcut
  go_upto_region 7 with fail
  go_cut [9] from 126 to 138 (fun s wx => s = .bool B7 ∧ W2 = wx)
  case first =>
    by_cases h0 : n21 = 0
    · have e : B7 = true := by rw [HB7.out]; exact decide_eq_true (.inl h0)
      subst e
      subst h0
      go_wp2_with fail
      go_meet
      case rel => go_light; exact ⟨rfl, rfl⟩
    · have x0 : (n21 == 0) = false := by simp [h0]
      by_cases h1 : 300 ≤ n21
      · have x1 : n21 ≥ 300 := h1
        have y1 : decide (300 ≤ n21) = true := by simp [h1]
        by_cases h2 : n21 ≤ 307
        · have y2 : decide (n21 ≤ 307) = true := by simp [h2]
          have e : B7 = true := by rw [HB7.out]; exact decide_eq_true (.inr ⟨h1, h2⟩)
          subst e
          go_wp2_with fail
          go_meet
          case rel => go_light; exact ⟨rfl, rfl⟩
        · have y2 : decide (n21 ≤ 307) = false := by simp [h2]
          have e : B7 = false := by rw [HB7.out]; exact decide_eq_false (fun hh => by omega)
          subst e
          go_wp2_with fail
          go_meet
          case rel => go_light; exact ⟨rfl, rfl⟩
      · have x1 : ¬ n21 ≥ 300 := h1
        have y1 : decide (300 ≤ n21) = false := by simp [h1]
        have e : B7 = false := by rw [HB7.out]; exact decide_eq_false (fun hh => by omega)
        subst e
        go_wp2_with fail
        go_meet
        case rel => go_light; exact ⟨rfl, rfl⟩
  obtain ⟨rfl, rfl⟩ := hcut
  clear HB1 HB2 HB4 HB5 HB6 HB7
  go_upto_region 8 with fail
  cases B1 with
  | false =>
    go_wp2_with fail
    go_ret
    exact ⟨rfl, HS2.out⟩
  | true =>
    cases B2 with
    | false =>
      go_wp2_with fail
      go_ret
      exact ⟨rfl, HS2.out⟩
    | true =>
      cases B3 with
      | false =>
        go_wp2_with fail
        go_ret
        exact ⟨rfl, HS2.out⟩
      | true =>
        cases B4 with
        | false =>
          go_wp2_with fail
          go_ret
          exact ⟨rfl, HS2.out⟩
        | true =>
          cases B5 with
          | false =>
            go_wp2_with fail
            go_ret
            exact ⟨rfl, HS2.out⟩
          | true =>
            cases B6 with
            | false =>
              go_wp2_with fail
              go_ret
              exact ⟨rfl, HS2.out⟩
            | true =>
              cases B7 with
              | false =>
                go_wp2_with fail
                go_ret
                exact ⟨rfl, HS2.out⟩
              | true =>
                by_cases h8 : n15 ≤ 9007199254740992
                · have y8 : decide (n15 ≤ 9007199254740992) = true := by simp [h8]
                  have e : B8 = true := by rw [HB8.out]; exact decide_eq_true h8
                  subst e
                  go_wp2_with fail
                  go_ret
                  exact ⟨rfl, HS2.out⟩
                · have y8 : decide (n15 ≤ 9007199254740992) = false := by simp [h8]
                  have e : B8 = false := by rw [HB8.out]; exact decide_eq_false h8
                  subst e
                  go_wp2_with fail
                  go_ret
                  exact ⟨rfl, HS2.out⟩
end Go.Proofs.YtonpmabdjngdcaaGreatDoor

/- The document's Encode. -/
namespace Go.Proofs.YtonpmabdjngdcaaGreatDoor
open Go.RowKit
set_option maxRecDepth 100000

theorem only_len (m : Mg) (c : Nat) : (onlyG m).s c = m.s c ∨ (onlyG m).s c = [] := by
  rw [only_s]
  split
  · exact .inl rfl
  · exact .inr rfl
theorem only_wf {m : Mg} (hw : m.wf) : (onlyG m).wf := by
  refine ⟨fun c hc => ?_, fun c c1 c2 c3 => ?_⟩
  · rw [only_n, if_neg (fun h => by have := fdsK_num h; omega), if_neg (by omega)]
  · rcases only_len m c with e | e
    · rw [e]; exact hw.s c c1 c2 c3
    · exact e
theorem only_mga {w : World} {m : Mg} {va : Option Addr} {vc : Nat} (h : MgA w m va vc) (h10 : (onlyG m).s 10 = m.s 10) : MgA w (onlyG m) va vc := by
  refine ⟨by rw [h10]; exact h.val, by rw [h10]; exact h.nil, by rw [h10]; exact h.lt, fun c => ?_, fun c => ?_⟩
  · rcases only_len m c with e | e
    · rw [e]; exact h.len c
    · rw [e]; exact Nat.zero_le _
  · rcases only_len m c with e | e
    · rw [e]; exact h.byte c
    · rw [e]; exact fun v hv => absurd hv (List.not_mem_nil)
theorem only_mgn {w : World} {m : Mg} {va : Option Addr} {vc : Nat} (h : MgA w m va vc) (h10 : (onlyG m).s 10 = []) : MgA w (onlyG m) none 0 := by
  refine ⟨by rw [h10]; exact fun j hj => absurd hj (Nat.not_lt_zero _), fun _ => by rw [h10]; exact ⟨rfl, rfl⟩, fun q e _ => by simp at e, fun c => ?_, fun c => ?_⟩
  · rcases only_len m c with e | e
    · rw [e]; exact h.len c
    · rw [e]; exact Nat.zero_le _
  · rcases only_len m c with e | e
    · rw [e]; exact h.byte c
    · rw [e]; exact fun v hv => absurd hv (List.not_mem_nil)
theorem only_val : ∀ k : Fin 12, (k.val = 2 ∨ k.val = 4 → 10 ∈ txtC (fdsK k.val)) ∧ (k.val ≠ 2 → k.val ≠ 4 → 10 ∉ txtC (fdsK k.val)) := by decide +kernel
theorem kind_cases {m : Mg} (hk : kindB m = true) : m.n 0 = 1 ∨ m.n 0 = 2 ∨ m.n 0 = 3 ∨ m.n 0 = 4 ∨ m.n 0 = 5 ∨ m.n 0 = 6 ∨ m.n 0 = 7 ∨ m.n 0 = 8 ∨ m.n 0 = 9 ∨ m.n 0 = 10 ∨ m.n 0 = 11 := by
  have := of_decide_eq_true hk
  omega
theorem only_any (m : Mg) (va : Option Addr) (vc : Nat) (w : World) (hA : MgA w m va vc) (hk : kindB m = true) :
    Calls Tryz.prog 29 #[mgV m va vc] w fun e w' => ∃ va' vc', e = .returned (mgV (onlyG m) va' vc') ∧ MgA w' (onlyG m) va' vc' ∧ w.Since w.heap.size w' := by
  rcases kind_cases hk with h | h | h | h | h | h | h | h | h | h | h
  · refine (only1 m va vc w hA h).mono fun e w' ⟨he, hs⟩ => ⟨none, 0, he, (only_mgn hA ?_).since hs, hs⟩
    rw [only_s, h, if_neg]
    exact (only_val ⟨1, by decide⟩).2 (by decide) (by decide)
  · refine (only2 m va vc w hA h).mono fun e w' ⟨he, hs⟩ => ⟨va, vc, he, (only_mga hA ?_).since hs, hs⟩
    rw [only_s, h, if_pos]
    exact (only_val ⟨2, by decide⟩).1 (by decide)
  · refine (only3 m va vc w hA h).mono fun e w' ⟨he, hs⟩ => ⟨none, 0, he, (only_mgn hA ?_).since hs, hs⟩
    rw [only_s, h, if_neg]
    exact (only_val ⟨3, by decide⟩).2 (by decide) (by decide)
  · refine (only4 m va vc w hA h).mono fun e w' ⟨he, hs⟩ => ⟨va, vc, he, (only_mga hA ?_).since hs, hs⟩
    rw [only_s, h, if_pos]
    exact (only_val ⟨4, by decide⟩).1 (by decide)
  · refine (only5 m va vc w hA h).mono fun e w' ⟨he, hs⟩ => ⟨none, 0, he, (only_mgn hA ?_).since hs, hs⟩
    rw [only_s, h, if_neg]
    exact (only_val ⟨5, by decide⟩).2 (by decide) (by decide)
  · refine (only6 m va vc w hA h).mono fun e w' ⟨he, hs⟩ => ⟨none, 0, he, (only_mgn hA ?_).since hs, hs⟩
    rw [only_s, h, if_neg]
    exact (only_val ⟨6, by decide⟩).2 (by decide) (by decide)
  · refine (only7 m va vc w hA h).mono fun e w' ⟨he, hs⟩ => ⟨none, 0, he, (only_mgn hA ?_).since hs, hs⟩
    rw [only_s, h, if_neg]
    exact (only_val ⟨7, by decide⟩).2 (by decide) (by decide)
  · refine (only8 m va vc w hA h).mono fun e w' ⟨he, hs⟩ => ⟨none, 0, he, (only_mgn hA ?_).since hs, hs⟩
    rw [only_s, h, if_neg]
    exact (only_val ⟨8, by decide⟩).2 (by decide) (by decide)
  · refine (only9 m va vc w hA h).mono fun e w' ⟨he, hs⟩ => ⟨none, 0, he, (only_mgn hA ?_).since hs, hs⟩
    rw [only_s, h, if_neg]
    exact (only_val ⟨9, by decide⟩).2 (by decide) (by decide)
  · refine (only10 m va vc w hA h).mono fun e w' ⟨he, hs⟩ => ⟨none, 0, he, (only_mgn hA ?_).since hs, hs⟩
    rw [only_s, h, if_neg]
    exact (only_val ⟨10, by decide⟩).2 (by decide) (by decide)
  · refine (only11 m va vc w hA h).mono fun e w' ⟨he, hs⟩ => ⟨none, 0, he, (only_mgn hA ?_).since hs, hs⟩
    rw [only_s, h, if_neg]
    exact (only_val ⟨11, by decide⟩).2 (by decide) (by decide)
theorem body_any' (m : Mg) (va : Option Addr) (vc : Nat) (w : World) (hA : MgA w m va vc) (hk : kindB m = true) (hm : mayM m = true) :
    Calls Tryz.prog 31 #[mgV m va vc] w fun e w' => ∃ v, e = .returned v ∧ OwnL w' w.heap.size v (bodyG m) ∧ w.Since w.heap.size w' := by
  rcases kind_cases hk with h | h | h | h | h | h | h | h | h | h | h
  · exact body1 m va vc w hA h hm
  · exact body2 m va vc w hA h hm
  · exact body3 m va vc w hA h hm
  · exact body4 m va vc w hA h hm
  · exact body5 m va vc w hA h hm
  · exact body6 m va vc w hA h hm
  · exact body7 m va vc w hA h hm
  · exact body8 m va vc w hA h hm
  · exact body9 m va vc w hA h hm
  · exact body10 m va vc w hA h hm
  · exact body11 m va vc w hA h hm
theorem may_eq (m : Mg) (hN : ∀ c, isU c = true → 0 ≤ m.n c) : (headB m && mayA m 16) = (decide (0 ≤ m.n 1 ∧ m.n 1 < 9 ∧ 0 ≤ m.n 2 ∧ m.n 2 < 9) && (decide (0 ≤ m.n 3 ∧ m.n 3 < 8 ∧ 0 ≤ m.n 11 ∧ m.n 11 < 8) && (decide (m.n 4 ≤ 1099511627776 ∧ m.n 5 ≤ 1099511627776 ∧ m.n 6 ≤ 1099511627776 ∧ m.n 7 ≤ 1099511627776 ∧ m.n 9 ≤ 1099511627776 ∧ m.n 12 ≤ 1099511627776 ∧ m.n 16 ≤ 1099511627776 ∧ m.n 17 ≤ 1099511627776) && (decide (0 ≤ m.n 8 ∧ m.n 8 ≤ 1025) && (decide ((m.s 10).length ≤ 16384 ∧ (m.s 13).length ≤ 64 ∧ (m.s 14).length ≤ 64) && (decide (0 ≤ m.n 18 ∧ m.n 18 ≤ 3 ∧ 0 ≤ m.n 19 ∧ m.n 19 < 8 ∧ 0 ≤ m.n 20 ∧ m.n 20 ≤ 4) && (decide (m.n 21 = 0 ∨ 300 ≤ m.n 21 ∧ m.n 21 ≤ 307) && decide (m.n 15 ≤ 9007199254740992)))))))) := by
  have u4 := hN 4 rfl
  have u5 := hN 5 rfl
  have u6 := hN 6 rfl
  have u7 := hN 7 rfl
  have u9 := hN 9 rfl
  have u12 := hN 12 rfl
  have u15 := hN 15 rfl
  have u16 := hN 16 rfl
  have u17 := hN 17 rfl
  rw [Bool.eq_iff_iff]
  simp only [headB, mayA, fds, Fd.may, List.all_cons, List.all_nil, Bool.and_eq_true, decide_eq_true_iff, if_true, Bool.and_true, Bool.true_and, Nat.reduceEqDiff, eq_self, true_implies, false_implies, and_true]
  constructor
  · intro h
    refine ⟨by omega, by omega, by omega, by omega, by omega, by omega, by omega, by omega⟩
  · intro h
    refine ⟨by omega, ?_⟩
    omega
theorem may_any (m : Mg) (va : Option Addr) (vc : Nat) (w : World) (hA : MgA w m va vc) (hN : ∀ c, isU c = true → 0 ≤ m.n c) :
    Calls Tryz.prog 30 #[mgV m va vc] w fun e w' => e = .returned (.bool (headB m && mayA m 16)) ∧ w.Since w.heap.size w' := by
  rw [may_eq m hN]
  exact may_walk m va vc w hA _ _ _ _ _ _ _ _ rfl rfl rfl rfl rfl rfl rfl rfl
end Go.Proofs.YtonpmabdjngdcaaGreatDoor

/- The document's EqMsg, by the first cell that differs. -/
namespace Go.Proofs.YtonpmabdjngdcaaGreatDoor
open Go.RowKit
set_option maxRecDepth 100000

set_option maxHeartbeats 4000000 in
theorem eqm0 (a b : Mg) (va vb : Option Addr) (vc vd : Nat) (w : World) (hne : a.n 0 ≠ b.n 0) :
    Calls Tryz.prog 12 #[mgV a va vc, mgV b vb vd] w fun e w' => e = .returned (.bool false) ∧ w.Since w.heap.size w' := by
  obtain ⟨MA, HMA⟩ : ∃ x, Hid ((mgL a va vc).toArray = x) := ⟨_, rfl⟩
  obtain ⟨MB, HMB⟩ : ∃ x, Hid ((mgL b vb vd).toArray = x) := ⟨_, rfl⟩
  have sw : w.Since w.heap.size ((w.alloc (.cells MA 37)).alloc (.cells MB 37)) := ((World.Since.refl _ _).alloc (Nat.le_refl _) _).alloc (by simp) _
  have gA : ∀ i, i < 22 → MA[i]? = some (mgCell a va vc i) := fun i hi => by rw [← HMA.out]; exact mgL_get a va vc i hi
  have gB : ∀ i, i < 22 → MB[i]? = some (mgCell b vb vd i) := fun i hi => by rw [← HMB.out]; exact mgL_get b vb vd i hi
  have a0 : MA[0]? = some (.int .i64 (a.n 0)) := gA 0 (by decide)
  have b0 : MB[0]? = some (.int .i64 (b.n 0)) := gB 0 (by decide)
  have a1 : MA[1]? = some (.int .i64 (a.n 1)) := gA 1 (by decide)
  have b1 : MB[1]? = some (.int .i64 (b.n 1)) := gB 1 (by decide)
  have a2 : MA[2]? = some (.int .i64 (a.n 2)) := gA 2 (by decide)
  have b2 : MB[2]? = some (.int .i64 (b.n 2)) := gB 2 (by decide)
  have a3 : MA[3]? = some (.int .i64 (a.n 3)) := gA 3 (by decide)
  have b3 : MB[3]? = some (.int .i64 (b.n 3)) := gB 3 (by decide)
  generalize a.n 0 = x0 at *
  generalize b.n 0 = y0 at *
  generalize a.n 1 = x1 at *
  generalize b.n 1 = y1 at *
  generalize a.n 2 = x2 at *
  generalize b.n 2 = y2 at *
  generalize a.n 3 = x3 at *
  generalize b.n 3 = y3 at *
  have hne2 : (x0 == y0) = false := by rw [beq_eq_false_iff_ne]; exact hne
  have HS := hide sw
  clear sw gA gB
  unfold mgV
  rw [HMA.out, HMB.out]
  go_enter Tryz.func12, Tryz.ntmps12
  go_wp2_with fail
  go_ret
  exact ⟨rfl, HS.out⟩
end Go.Proofs.YtonpmabdjngdcaaGreatDoor

/- The document's EqMsg, by the first cell that differs. -/
namespace Go.Proofs.YtonpmabdjngdcaaGreatDoor
open Go.RowKit
set_option maxRecDepth 100000

set_option maxHeartbeats 4000000 in
theorem eqm1 (a b : Mg) (va vb : Option Addr) (vc vd : Nat) (w : World) (h0 : b.n 0 = a.n 0) (hne : a.n 1 ≠ b.n 1) :
    Calls Tryz.prog 12 #[mgV a va vc, mgV b vb vd] w fun e w' => e = .returned (.bool false) ∧ w.Since w.heap.size w' := by
  obtain ⟨MA, HMA⟩ : ∃ x, Hid ((mgL a va vc).toArray = x) := ⟨_, rfl⟩
  obtain ⟨MB, HMB⟩ : ∃ x, Hid ((mgL b vb vd).toArray = x) := ⟨_, rfl⟩
  have sw : w.Since w.heap.size ((w.alloc (.cells MA 37)).alloc (.cells MB 37)) := ((World.Since.refl _ _).alloc (Nat.le_refl _) _).alloc (by simp) _
  have gA : ∀ i, i < 22 → MA[i]? = some (mgCell a va vc i) := fun i hi => by rw [← HMA.out]; exact mgL_get a va vc i hi
  have gB : ∀ i, i < 22 → MB[i]? = some (mgCell b vb vd i) := fun i hi => by rw [← HMB.out]; exact mgL_get b vb vd i hi
  have a0 : MA[0]? = some (.int .i64 (a.n 0)) := gA 0 (by decide)
  have b0 : MB[0]? = some (.int .i64 (b.n 0)) := gB 0 (by decide)
  rw [h0] at b0
  have a1 : MA[1]? = some (.int .i64 (a.n 1)) := gA 1 (by decide)
  have b1 : MB[1]? = some (.int .i64 (b.n 1)) := gB 1 (by decide)
  have a2 : MA[2]? = some (.int .i64 (a.n 2)) := gA 2 (by decide)
  have b2 : MB[2]? = some (.int .i64 (b.n 2)) := gB 2 (by decide)
  have a3 : MA[3]? = some (.int .i64 (a.n 3)) := gA 3 (by decide)
  have b3 : MB[3]? = some (.int .i64 (b.n 3)) := gB 3 (by decide)
  clear h0
  generalize a.n 0 = x0 at *
  generalize a.n 1 = x1 at *
  generalize b.n 1 = y1 at *
  generalize a.n 2 = x2 at *
  generalize b.n 2 = y2 at *
  generalize a.n 3 = x3 at *
  generalize b.n 3 = y3 at *
  have hne2 : (x1 == y1) = false := by rw [beq_eq_false_iff_ne]; exact hne
  have HS := hide sw
  clear sw gA gB
  unfold mgV
  rw [HMA.out, HMB.out]
  go_enter Tryz.func12, Tryz.ntmps12
  go_wp2_with fail
  go_ret
  exact ⟨rfl, HS.out⟩
end Go.Proofs.YtonpmabdjngdcaaGreatDoor

/- The document's EqMsg, by the first cell that differs. -/
namespace Go.Proofs.YtonpmabdjngdcaaGreatDoor
open Go.RowKit
set_option maxRecDepth 100000

set_option maxHeartbeats 4000000 in
theorem eqm2 (a b : Mg) (va vb : Option Addr) (vc vd : Nat) (w : World) (h0 : b.n 0 = a.n 0) (h1 : b.n 1 = a.n 1) (hne : a.n 2 ≠ b.n 2) :
    Calls Tryz.prog 12 #[mgV a va vc, mgV b vb vd] w fun e w' => e = .returned (.bool false) ∧ w.Since w.heap.size w' := by
  obtain ⟨MA, HMA⟩ : ∃ x, Hid ((mgL a va vc).toArray = x) := ⟨_, rfl⟩
  obtain ⟨MB, HMB⟩ : ∃ x, Hid ((mgL b vb vd).toArray = x) := ⟨_, rfl⟩
  have sw : w.Since w.heap.size ((w.alloc (.cells MA 37)).alloc (.cells MB 37)) := ((World.Since.refl _ _).alloc (Nat.le_refl _) _).alloc (by simp) _
  have gA : ∀ i, i < 22 → MA[i]? = some (mgCell a va vc i) := fun i hi => by rw [← HMA.out]; exact mgL_get a va vc i hi
  have gB : ∀ i, i < 22 → MB[i]? = some (mgCell b vb vd i) := fun i hi => by rw [← HMB.out]; exact mgL_get b vb vd i hi
  have a0 : MA[0]? = some (.int .i64 (a.n 0)) := gA 0 (by decide)
  have b0 : MB[0]? = some (.int .i64 (b.n 0)) := gB 0 (by decide)
  rw [h0] at b0
  have a1 : MA[1]? = some (.int .i64 (a.n 1)) := gA 1 (by decide)
  have b1 : MB[1]? = some (.int .i64 (b.n 1)) := gB 1 (by decide)
  rw [h1] at b1
  have a2 : MA[2]? = some (.int .i64 (a.n 2)) := gA 2 (by decide)
  have b2 : MB[2]? = some (.int .i64 (b.n 2)) := gB 2 (by decide)
  have a3 : MA[3]? = some (.int .i64 (a.n 3)) := gA 3 (by decide)
  have b3 : MB[3]? = some (.int .i64 (b.n 3)) := gB 3 (by decide)
  clear h0 h1
  generalize a.n 0 = x0 at *
  generalize a.n 1 = x1 at *
  generalize a.n 2 = x2 at *
  generalize b.n 2 = y2 at *
  generalize a.n 3 = x3 at *
  generalize b.n 3 = y3 at *
  have hne2 : (x2 == y2) = false := by rw [beq_eq_false_iff_ne]; exact hne
  have HS := hide sw
  clear sw gA gB
  unfold mgV
  rw [HMA.out, HMB.out]
  go_enter Tryz.func12, Tryz.ntmps12
  go_wp2_with fail
  go_ret
  exact ⟨rfl, HS.out⟩
end Go.Proofs.YtonpmabdjngdcaaGreatDoor

/- The document's EqMsg, by the first cell that differs. -/
namespace Go.Proofs.YtonpmabdjngdcaaGreatDoor
open Go.RowKit
set_option maxRecDepth 100000

set_option maxHeartbeats 4000000 in
theorem eqm3 (a b : Mg) (va vb : Option Addr) (vc vd : Nat) (w : World) (h0 : b.n 0 = a.n 0) (h1 : b.n 1 = a.n 1) (h2 : b.n 2 = a.n 2) (hne : a.n 3 ≠ b.n 3) :
    Calls Tryz.prog 12 #[mgV a va vc, mgV b vb vd] w fun e w' => e = .returned (.bool false) ∧ w.Since w.heap.size w' := by
  obtain ⟨MA, HMA⟩ : ∃ x, Hid ((mgL a va vc).toArray = x) := ⟨_, rfl⟩
  obtain ⟨MB, HMB⟩ : ∃ x, Hid ((mgL b vb vd).toArray = x) := ⟨_, rfl⟩
  have sw : w.Since w.heap.size ((w.alloc (.cells MA 37)).alloc (.cells MB 37)) := ((World.Since.refl _ _).alloc (Nat.le_refl _) _).alloc (by simp) _
  have gA : ∀ i, i < 22 → MA[i]? = some (mgCell a va vc i) := fun i hi => by rw [← HMA.out]; exact mgL_get a va vc i hi
  have gB : ∀ i, i < 22 → MB[i]? = some (mgCell b vb vd i) := fun i hi => by rw [← HMB.out]; exact mgL_get b vb vd i hi
  have a0 : MA[0]? = some (.int .i64 (a.n 0)) := gA 0 (by decide)
  have b0 : MB[0]? = some (.int .i64 (b.n 0)) := gB 0 (by decide)
  rw [h0] at b0
  have a1 : MA[1]? = some (.int .i64 (a.n 1)) := gA 1 (by decide)
  have b1 : MB[1]? = some (.int .i64 (b.n 1)) := gB 1 (by decide)
  rw [h1] at b1
  have a2 : MA[2]? = some (.int .i64 (a.n 2)) := gA 2 (by decide)
  have b2 : MB[2]? = some (.int .i64 (b.n 2)) := gB 2 (by decide)
  rw [h2] at b2
  have a3 : MA[3]? = some (.int .i64 (a.n 3)) := gA 3 (by decide)
  have b3 : MB[3]? = some (.int .i64 (b.n 3)) := gB 3 (by decide)
  clear h0 h1 h2
  generalize a.n 0 = x0 at *
  generalize a.n 1 = x1 at *
  generalize a.n 2 = x2 at *
  generalize a.n 3 = x3 at *
  generalize b.n 3 = y3 at *
  have hne2 : (x3 == y3) = false := by rw [beq_eq_false_iff_ne]; exact hne
  have HS := hide sw
  clear sw gA gB
  unfold mgV
  rw [HMA.out, HMB.out]
  go_enter Tryz.func12, Tryz.ntmps12
  go_wp2_with fail
  go_ret
  exact ⟨rfl, HS.out⟩
end Go.Proofs.YtonpmabdjngdcaaGreatDoor

/- The document's EqMsg, by the first cell that differs. -/
namespace Go.Proofs.YtonpmabdjngdcaaGreatDoor
open Go.RowKit
set_option maxRecDepth 100000

set_option maxHeartbeats 4000000 in
theorem eqm4 (a b : Mg) (va vb : Option Addr) (vc vd : Nat) (w : World) (h0 : b.n 0 = a.n 0) (h1 : b.n 1 = a.n 1) (h2 : b.n 2 = a.n 2) (h3 : b.n 3 = a.n 3) (hne : a.n 4 ≠ b.n 4) :
    Calls Tryz.prog 12 #[mgV a va vc, mgV b vb vd] w fun e w' => e = .returned (.bool false) ∧ w.Since w.heap.size w' := by
  obtain ⟨MA, HMA⟩ : ∃ x, Hid ((mgL a va vc).toArray = x) := ⟨_, rfl⟩
  obtain ⟨MB, HMB⟩ : ∃ x, Hid ((mgL b vb vd).toArray = x) := ⟨_, rfl⟩
  have sw : w.Since w.heap.size ((w.alloc (.cells MA 37)).alloc (.cells MB 37)) := ((World.Since.refl _ _).alloc (Nat.le_refl _) _).alloc (by simp) _
  have gA : ∀ i, i < 22 → MA[i]? = some (mgCell a va vc i) := fun i hi => by rw [← HMA.out]; exact mgL_get a va vc i hi
  have gB : ∀ i, i < 22 → MB[i]? = some (mgCell b vb vd i) := fun i hi => by rw [← HMB.out]; exact mgL_get b vb vd i hi
  have a0 : MA[0]? = some (.int .i64 (a.n 0)) := gA 0 (by decide)
  have b0 : MB[0]? = some (.int .i64 (b.n 0)) := gB 0 (by decide)
  rw [h0] at b0
  have a1 : MA[1]? = some (.int .i64 (a.n 1)) := gA 1 (by decide)
  have b1 : MB[1]? = some (.int .i64 (b.n 1)) := gB 1 (by decide)
  rw [h1] at b1
  have a2 : MA[2]? = some (.int .i64 (a.n 2)) := gA 2 (by decide)
  have b2 : MB[2]? = some (.int .i64 (b.n 2)) := gB 2 (by decide)
  rw [h2] at b2
  have a3 : MA[3]? = some (.int .i64 (a.n 3)) := gA 3 (by decide)
  have b3 : MB[3]? = some (.int .i64 (b.n 3)) := gB 3 (by decide)
  rw [h3] at b3
  have a4 : MA[4]? = some (.int .u64 (a.n 4)) := gA 4 (by decide)
  have b4 : MB[4]? = some (.int .u64 (b.n 4)) := gB 4 (by decide)
  clear h0 h1 h2 h3
  generalize a.n 0 = x0 at *
  generalize a.n 1 = x1 at *
  generalize a.n 2 = x2 at *
  generalize a.n 3 = x3 at *
  generalize a.n 4 = x4 at *
  generalize b.n 4 = y4 at *
  have hne2 : (x4 == y4) = false := by rw [beq_eq_false_iff_ne]; exact hne
  have HS := hide sw
  clear sw gA gB
  unfold mgV
  rw [HMA.out, HMB.out]
  go_enter Tryz.func12, Tryz.ntmps12
  go_wp2_with fail
  go_ret
  exact ⟨rfl, HS.out⟩
end Go.Proofs.YtonpmabdjngdcaaGreatDoor
