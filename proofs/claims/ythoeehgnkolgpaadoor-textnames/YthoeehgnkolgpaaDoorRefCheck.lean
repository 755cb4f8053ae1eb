/- The reference's Check: what it answers of any name. -/
import Derived.Test.YthoeehgnkolgpaaDoorRefNames
namespace Go.Proofs.YthoeehgnkolgpaaDoor
open Go.RowKit

set_option maxHeartbeats 6400000 in
set_option maxRecDepth 100000 in
theorem refCheck_any (s : ByteArray) (w : World) (hmax : s.size ≤ 140737488355328) :
    Calls Tryd.prog 26 #[.string s] w fun e w' => e = .returned (.int .i64 (checkM s.data.toList : Nat)) ∧ w' = w := by
  have hg := good_any s w hmax
  unfold checkM
  rw [list_size]
  go_enter Tryd.func26, Tryd.ntmps26
  by_cases h1 : s.size < 1
  · have z1 : (s.size : Int) < 1 := by omega
    rw [if_neg (by omega)]
    clear hg
    go_wp2_with fail
    go_ret
    exact ⟨rfl, rfl⟩
  have z1 : ¬ (s.size : Int) < 1 := by omega
  by_cases h2 : 64 < s.size
  · have z2 : (64 : Int) < (s.size : Int) := by omega
    rw [if_neg (by omega)]
    clear hg
    go_wp2_with fail
    go_ret
    exact ⟨rfl, rfl⟩
  have z2 : ¬ (64 : Int) < (s.size : Int) := by omega
  cases hv : Lib.validD s.data.toList with
  | false =>
    rw [hv] at hg
    rw [if_neg (fun h => by cases h.2.2.1)]
    clear hv
    go_wp2_with (first | (go_at_call 45; refine hg.mono ?_; rintro e w4 ⟨rfl, e4⟩; subst e4))
    go_ret
    exact ⟨rfl, rfl⟩
  | true =>
    rw [hv] at hg
    obtain ⟨ANS, hANS⟩ : ∃ A, A = (if 1 ≤ s.size ∧ s.size ≤ 64 ∧ true = true ∧ s.data.toList.all nameB = true then 0 else 20) := ⟨_, rfl⟩
    rw [← hANS]
    have HANS : Hid (ANS = if s.data.toList.all nameB = true then 0 else 20) := hide (by
      rw [hANS]
      have q1 : 1 ≤ s.size := by omega
      have q2 : s.size ≤ 64 := by omega
      simp [q1, q2])
    clear hANS hv
    go_wp2_with (first | (go_at_call 45; refine hg.mono ?_; rintro e w4 ⟨rfl, e4⟩; subst e4))
    clear hg
    obtain ⟨w, hww⟩ : ∃ w, w = w4 := ⟨_, rfl⟩
    subst hww
    go_loopg [3] s.size (fun q s3 wx => ∃ i : Nat, i ≤ s.size ∧ q = s.size - i ∧ s3 = .int .i64 i ∧ wx = w ∧ Hid (ANS = if (s.data.toList.drop i).all nameB = true then 0 else 20))
    case atStart => exact ⟨0, Nat.zero_le _, rfl, rfl, rfl, HANS⟩
    case round =>
      obtain ⟨i, hi, rfl, rfl, rfl, hr⟩ := hrel
      by_cases hlt : i < s.size
      · have hz : (i : Int) < (s.size : Int) := by omega
        obtain ⟨b, hb⟩ : ∃ b, s[i]'hlt = b := ⟨_, rfl⟩
        have hst : Hid (ANS = if (mayNameR b.toNat && (s.data.toList.drop (i + 1)).all nameB) = true then 0 else 20) := hide (by
          rw [hr.out, drop_at s i hlt, hb]; rfl)
        clear hr
        have h256 := b.toNat_lt
        have hcl := name_classes b.toNat
        have good : mayNameR b.toNat = true → Hid (ANS = if (s.data.toList.drop (i + 1)).all nameB = true then 0 else 20) := fun h => hide (by rw [hst.out, h, Bool.true_and])
        rcases hcl with h | h | h | h | h | h | h | ⟨h, k1, k2, k3, k4, k5, k6, k7⟩
        · have hgd := good (by simp [mayNameR]; omega)
          have x1 : (128 : Int) ≤ (b.toNat : Int) := by omega
          clear hst good
          go_wp2_with fail
          go_roundg (s.size - (i + 1))
          case measure => go_light; omega
          case rel => go_light; exact ⟨i + 1, by omega, rfl, by simp, rfl, hgd⟩
        · have hgd := good (by simp [mayNameR]; omega)
          have x1 : ¬ (128 : Int) ≤ (b.toNat : Int) := by omega
          have x2 : (97 : Int) ≤ (b.toNat : Int) := by omega
          have x3 : (b.toNat : Int) ≤ 122 := by omega
          clear hst good
          go_wp2_with fail
          go_roundg (s.size - (i + 1))
          case measure => go_light; omega
          case rel => go_light; exact ⟨i + 1, by omega, rfl, by simp, rfl, hgd⟩
        · have hgd := good (by simp [mayNameR]; omega)
          have x1 : ¬ (128 : Int) ≤ (b.toNat : Int) := by omega
          have x2 : ¬ (97 : Int) ≤ (b.toNat : Int) := by omega
          have x3 : (65 : Int) ≤ (b.toNat : Int) := by omega
          have x4 : (b.toNat : Int) ≤ 90 := by omega
          clear hst good
          go_wp2_with fail
          go_roundg (s.size - (i + 1))
          case measure => go_light; omega
          case rel => go_light; exact ⟨i + 1, by omega, rfl, by simp, rfl, hgd⟩
        · have hgd := good (by simp [mayNameR]; omega)
          have x1 : ¬ (128 : Int) ≤ (b.toNat : Int) := by omega
          have x2 : ¬ (97 : Int) ≤ (b.toNat : Int) := by omega
          have x3 : ¬ (65 : Int) ≤ (b.toNat : Int) := by omega
          have x4 : (48 : Int) ≤ (b.toNat : Int) := by omega
          have x5 : (b.toNat : Int) ≤ 57 := by omega
          clear hst good
          go_wp2_with fail
          go_roundg (s.size - (i + 1))
          case measure => go_light; omega
          case rel => go_light; exact ⟨i + 1, by omega, rfl, by simp, rfl, hgd⟩
        · have hgd := good (by rw [h]; rfl)
          have x1 : (b.toNat : Int) = 45 := by omega
          clear hst good h h256
          go_wp2_with fail
          go_roundg (s.size - (i + 1))
          case measure => go_light; omega
          case rel => go_light; exact ⟨i + 1, by omega, rfl, by simp, rfl, hgd⟩
        · have hgd := good (by rw [h]; rfl)
          have x1 : (b.toNat : Int) = 46 := by omega
          clear hst good h h256
          go_wp2_with fail
          go_roundg (s.size - (i + 1))
          case measure => go_light; omega
          case rel => go_light; exact ⟨i + 1, by omega, rfl, by simp, rfl, hgd⟩
        · have hgd := good (by rw [h]; rfl)
          have x1 : (b.toNat : Int) = 95 := by omega
          clear hst good h h256
          go_wp2_with fail
          go_roundg (s.size - (i + 1))
          case measure => go_light; omega
          case rel => go_light; exact ⟨i + 1, by omega, rfl, by simp, rfl, hgd⟩
        · have hno : Hid (ANS = 20) := hide (by rw [hst.out, h]; rfl)
          have x1 : ¬ (128 : Int) ≤ (b.toNat : Int) := by omega
          have y1 : ((b.toNat : Int) == 45) = false := beq_eq_false_iff_ne.2 (by omega)
          have y2 : ((b.toNat : Int) == 46) = false := beq_eq_false_iff_ne.2 (by omega)
          have y3 : ((b.toNat : Int) == 95) = false := beq_eq_false_iff_ne.2 (by omega)
          have four : 123 ≤ b.toNat ∨ (91 ≤ b.toNat ∧ b.toNat ≤ 96) ∨ (58 ≤ b.toNat ∧ b.toNat ≤ 64) ∨ b.toNat < 48 := by omega
          clear hst good h k1 k2 k3 k4 k5 k6 k7
          rcases four with h | h | h | h
          · have x2 : (97 : Int) ≤ (b.toNat : Int) := by omega
            have x3 : ¬ (b.toNat : Int) ≤ 122 := by omega
            have x4 : (65 : Int) ≤ (b.toNat : Int) := by omega
            have x5 : ¬ (b.toNat : Int) ≤ 90 := by omega
            have x6 : (48 : Int) ≤ (b.toNat : Int) := by omega
            have x7 : ¬ (b.toNat : Int) ≤ 57 := by omega
            go_wp2_with fail
            go_ret
            exact ⟨by rw [hno.out]; rfl, rfl⟩
          · have x2 : ¬ (97 : Int) ≤ (b.toNat : Int) := by omega
            have x4 : (65 : Int) ≤ (b.toNat : Int) := by omega
            have x5 : ¬ (b.toNat : Int) ≤ 90 := by omega
            have x6 : (48 : Int) ≤ (b.toNat : Int) := by omega
            have x7 : ¬ (b.toNat : Int) ≤ 57 := by omega
            go_wp2_with fail
            go_ret
            exact ⟨by rw [hno.out]; rfl, rfl⟩
          · have x2 : ¬ (97 : Int) ≤ (b.toNat : Int) := by omega
            have x4 : ¬ (65 : Int) ≤ (b.toNat : Int) := by omega
            have x6 : (48 : Int) ≤ (b.toNat : Int) := by omega
            have x7 : ¬ (b.toNat : Int) ≤ 57 := by omega
            go_wp2_with fail
            go_ret
            exact ⟨by rw [hno.out]; rfl, rfl⟩
          · have x2 : ¬ (97 : Int) ≤ (b.toNat : Int) := by omega
            have x4 : ¬ (65 : Int) ≤ (b.toNat : Int) := by omega
            have x6 : ¬ (48 : Int) ≤ (b.toNat : Int) := by omega
            go_wp2_with fail
            go_ret
            exact ⟨by rw [hno.out]; rfl, rfl⟩
      · have hz : ¬ (i : Int) < (s.size : Int) := by omega
        have hfin : Hid (ANS = 0) := hide (by rw [hr.out, drop_end s i hlt]; rfl)
        go_wp2_with fail
        go_ret
        exact ⟨by rw [hfin.out]; rfl, rfl⟩
end Go.Proofs.YthoeehgnkolgpaaDoor
