/- Package disk: file names; tallyref4.IsName; tallyref0.Cmp and Eq of the same bytes. -/
import Derived.Test.YtbebnjeamlmclaaLend
namespace Go.Proofs.Ytbebnjeamlmclaa
open Go.RowKit
set_option maxRecDepth 100000
set_option maxRecDepth 100000

/-- May the byte stand in a file name? -/
def okB (c : Nat) : Bool := (decide (97 ≤ c) && decide (c ≤ 122)) || (decide (48 ≤ c) && decide (c ≤ 57)) || decide (c = 46) || decide (c = 45) || decide (c = 95)
/-- Is it a file name? -/
def okN (s : ByteArray) : Bool := decide (1 ≤ s.size) && decide (s.size ≤ 64) && s.data.toList.all (fun b => okB b.toNat)

theorem okB_cases (c : Nat) : (okB c = true ∧ ((97 ≤ c ∧ c ≤ 122) ∨ ((c < 97 ∨ 122 < c) ∧ 48 ≤ c ∧ c ≤ 57) ∨ c = 46 ∨ c = 45 ∨ c = 95)) ∨ (okB c = false ∧ (c < 97 ∨ 122 < c) ∧ (c < 48 ∨ 57 < c) ∧ c ≠ 46 ∧ c ≠ 45 ∧ c ≠ 95) := by
  unfold okB
  by_cases h : (97 ≤ c ∧ c ≤ 122) ∨ ((c < 97 ∨ 122 < c) ∧ 48 ≤ c ∧ c ≤ 57) ∨ c = 46 ∨ c = 45 ∨ c = 95
  · refine .inl ⟨?_, h⟩
    simp only [Bool.or_eq_true, Bool.and_eq_true, decide_eq_true_eq]
    omega
  · refine .inr ⟨?_, by omega, by omega, by omega, by omega, by omega⟩
    simp only [Bool.or_eq_false_iff, Bool.and_eq_false_iff, decide_eq_false_iff_not]
    omega

theorem fileByte_any (c : Nat) (w : World) : Calls Try.prog 72 #[.int .u8 c] w fun e w' => e = .returned (.bool (okB c)) ∧ w' = w := by
  rcases okB_cases c with ⟨e, h⟩ | ⟨e, h1, h2, h3, h4, h5⟩
  · rw [e]
    rcases h with h | ⟨h0, h⟩ | h | h | h
    · have z1 : (97 : Int) ≤ (c : Int) := by omega
      have z2 : (c : Int) ≤ 122 := by omega
      go_enter Try.func72, Try.ntmps72
      go_wp2
      go_ret
      exact ⟨rfl, rfl⟩
    · have z1 : ¬ (97 : Int) ≤ (c : Int) := by omega
      have z3 : (48 : Int) ≤ (c : Int) := by omega
      have z4 : (c : Int) ≤ 57 := by omega
      go_enter Try.func72, Try.ntmps72
      go_wp2
      go_ret
      exact ⟨rfl, rfl⟩
    all_goals
      subst h
      go_enter Try.func72, Try.ntmps72
      go_wp2
      go_ret
      exact ⟨rfl, rfl⟩
  · rw [e]
    have y1 : (¬ (97 : Int) ≤ (c : Int)) ∨ ((97 : Int) ≤ (c : Int) ∧ ¬ (c : Int) ≤ 122) := by omega
    have y2 : (¬ (48 : Int) ≤ (c : Int)) ∨ ((48 : Int) ≤ (c : Int) ∧ ¬ (c : Int) ≤ 57) := by omega
    have y3 : ((c : Int) == 46) = false := beq_eq_false_iff_ne.2 (by omega)
    have y4 : ((c : Int) == 45) = false := beq_eq_false_iff_ne.2 (by omega)
    have y5 : ((c : Int) == 95) = false := beq_eq_false_iff_ne.2 (by omega)
    clear h1 h2 h3 h4 h5
    rcases y1 with y1 | ⟨y1, y1'⟩
    all_goals
      rcases y2 with y2 | ⟨y2, y2'⟩
      all_goals
        go_enter Try.func72, Try.ntmps72
        go_wp2
        go_ret
        exact ⟨rfl, rfl⟩

theorem all_take_succ (s : ByteArray) (i : Nat) (h : i < s.size) (f : UInt8 → Bool) : (s.data.toList.take (i + 1)).all f = ((s.data.toList.take i).all f && f (s[i]'h)) := by
  have hl : i < s.data.toList.length := h
  rw [List.take_add_one, List.all_append, List.getElem?_eq_getElem hl]
  have e : s.data.toList[i]'hl = s[i]'h := by cases s; rfl
  simp [e]
theorem all_false (s : ByteArray) (i : Nat) (h : i < s.size) (f : UInt8 → Bool) (hf : f (s[i]'h) = false) : s.data.toList.all f = false := by
  have hl : i < s.data.toList.length := h
  have e : s.data.toList[i]'hl = s[i]'h := by cases s; rfl
  rw [List.all_eq_false]
  exact ⟨_, List.getElem_mem hl, by rw [e, hf]; simp⟩

set_option maxHeartbeats 1600000 in
theorem fileName_any (s : ByteArray) (w : World) : Calls Try.prog 55 #[.string s] w fun e w' => e = .returned (.bool (okN s)) ∧ w' = w := by
  by_cases h1 : 1 ≤ s.size
  · by_cases h2 : s.size ≤ 64
    · have z1 : ¬ (s.size : Int) < 1 := by omega
      have z2 : ¬ (64 : Int) < (s.size : Int) := by omega
      have hN : okN s = s.data.toList.all (fun b => okB b.toNat) := by unfold okN; simp [h1, h2]
      rw [hN]
      clear hN
      go_enter Try.func55, Try.ntmps55
      go_wp2_with fail
      go_loopg [14] s.size (fun q s14 wx => ∃ (i : Nat), i ≤ s.size ∧ q = s.size - i ∧ s14 = .int .i64 i ∧ (s.data.toList.take i).all (fun b => okB b.toNat) = true ∧ w = wx)
      case atStart => exact ⟨0, Nat.zero_le _, rfl, rfl, rfl, rfl⟩
      case round =>
        obtain ⟨i, hi, rfl, rfl, hall, rfl⟩ := hrel
        by_cases hlt : i < s.size
        · have hz : (i : Int) < (s.size : Int) := by omega
          have hz0 : (0 : Int) ≤ (i : Int) := by omega
          have hb := fun W => fileByte_any (s[i]'hlt).toNat W
          have HS : Hid (∀ f : UInt8 → Bool, (s.data.toList.take (i + 1)).all f = ((s.data.toList.take i).all f && f (s[i]'hlt))) := fun f => all_take_succ s i hlt f
          have HF : Hid (∀ f : UInt8 → Bool, f (s[i]'hlt) = false → s.data.toList.all f = false) := fun f => all_false s i hlt f
          cases hc : okB (s[i]'hlt).toNat with
          | true =>
            rw [hc] at hb
            go_wp2_with (go_at_call 72; refine (hb _).mono ?_; rintro e w1 ⟨rfl, rfl⟩)
            go_roundg (s.size - (i + 1))
            case measure => go_light; omega
            case rel => go_light; exact ⟨i + 1, by omega, rfl, by simp, by rw [HS.out, hall, hc]; rfl, rfl⟩
          | false =>
            rw [hc] at hb
            go_wp2_with (go_at_call 72; refine (hb _).mono ?_; rintro e w1 ⟨rfl, rfl⟩)
            go_ret
            exact ⟨by rw [HF.out _ hc]; rfl, rfl⟩
        · obtain rfl : i = s.size := by omega
          have e : s.data.toList.take s.size = s.data.toList := List.take_of_length_le (Nat.le_refl _)
          rw [e] at hall
          go_wp2_with fail
          go_ret
          exact ⟨by rw [hall]; rfl, rfl⟩
    · have hN : okN s = false := by unfold okN; simp [h2]
      rw [hN]
      have z1 : ¬ (s.size : Int) < 1 := by omega
      have z2 : (64 : Int) < (s.size : Int) := by omega
      go_enter Try.func55, Try.ntmps55
      go_wp2_with fail
      go_ret
      exact ⟨rfl, rfl⟩
  · have hN : okN s = false := by unfold okN; simp [h1]
    rw [hN]
    have z1 : (s.size : Int) < 1 := by omega
    go_enter Try.func55, Try.ntmps55
    go_wp2_with fail
    go_ret
    exact ⟨rfl, rfl⟩

set_option maxHeartbeats 3200000 in
theorem isName_any (s : ByteArray) (w : World) : Calls Try.prog 8 #[.string s] w fun e w' => e = .returned (.bool (okN s)) ∧ w' = w := by
  by_cases h1 : 1 ≤ s.size
  · by_cases h2 : s.size ≤ 64
    · have z1 : ¬ (s.size : Int) < 1 := by omega
      have z2 : ¬ (64 : Int) < (s.size : Int) := by omega
      have hN : okN s = s.data.toList.all (fun b => okB b.toNat) := by unfold okN; simp [h1, h2]
      obtain ⟨R, hR⟩ : ∃ R, R = s.data.toList.all (fun b => okB b.toNat) := ⟨_, rfl⟩
      rw [hN, ← hR]
      have HR : Hid (R = s.data.toList.all (fun b => okB b.toNat)) := hR
      clear hN hR
      go_enter Try.func8, Try.ntmps8
      go_wp2_with fail
      go_loopg [3] s.size (fun q s3 wx => ∃ (i : Nat), i ≤ s.size ∧ q = s.size - i ∧ s3 = .int .i64 i ∧ (s.data.toList.take i).all (fun b => okB b.toNat) = true ∧ w = wx)
      case atStart => exact ⟨0, Nat.zero_le _, rfl, rfl, rfl, rfl⟩
      case round =>
        obtain ⟨i, hi, rfl, rfl, hall, rfl⟩ := hrel
        by_cases hlt : i < s.size
        · have hz : (i : Int) < (s.size : Int) := by omega
          have hz0 : (0 : Int) ≤ (i : Int) := by omega
          have HS : Hid (∀ f : UInt8 → Bool, (s.data.toList.take (i + 1)).all f = ((s.data.toList.take i).all f && f (s[i]'hlt))) := fun f => all_take_succ s i hlt f
          have HF : Hid (∀ f : UInt8 → Bool, f (s[i]'hlt) = false → s.data.toList.all f = false) := fun f => all_false s i hlt f
          have HC := okB_cases (s[i]'hlt).toNat
          go_upto_region 7 with fail
          generalize s[i]'hlt = c at *
          rcases HC with ⟨hc, h⟩ | ⟨hc, h1, h2, h3, h4, h5⟩
          · have HH : Hid (okB c.toNat = true) := hc
            clear hc
            rcases h with h | ⟨h0, h⟩ | h | h | h
            · have y1 : (97 : Int) ≤ (c.toNat : Int) := by omega
              have y2 : (c.toNat : Int) ≤ 122 := by omega
              have y3 : (48 : Int) ≤ (c.toNat : Int) := by omega
              have y4 : ¬ (c.toNat : Int) ≤ 57 := by omega
              go_wp2_with fail
              go_roundg (s.size - (i + 1))
              case measure => go_light; omega
              case rel => go_light; exact ⟨i + 1, by omega, rfl, by simp, by rw [HS.out, hall, HH.out]; rfl, rfl⟩
            · have y1 : ¬ (97 : Int) ≤ (c.toNat : Int) := by omega
              have y3 : (48 : Int) ≤ (c.toNat : Int) := by omega
              have y4 : (c.toNat : Int) ≤ 57 := by omega
              go_wp2_with fail
              go_roundg (s.size - (i + 1))
              case measure => go_light; omega
              case rel => go_light; exact ⟨i + 1, by omega, rfl, by simp, by rw [HS.out, hall, HH.out]; rfl, rfl⟩
            all_goals
              rw [h] at HH ⊢
              go_wp2_with fail
              go_roundg (s.size - (i + 1))
              case measure => go_light; omega
              case rel => go_light; exact ⟨i + 1, by omega, rfl, by simp, by rw [HS.out, hall, h, HH.out]; rfl, rfl⟩
          · have y1 : (¬ (97 : Int) ≤ (c.toNat : Int)) ∨ ((97 : Int) ≤ (c.toNat : Int) ∧ ¬ (c.toNat : Int) ≤ 122) := by omega
            have y2 : (¬ (48 : Int) ≤ (c.toNat : Int)) ∨ ((48 : Int) ≤ (c.toNat : Int) ∧ ¬ (c.toNat : Int) ≤ 57) := by omega
            have HH : Hid (okB c.toNat = false) := hc
            have x3 : ((c.toNat : Int) != 46) = true := bne_iff_ne.2 (by omega)
            have x4 : ((c.toNat : Int) != 45) = true := bne_iff_ne.2 (by omega)
            have x5 : ((c.toNat : Int) != 95) = true := bne_iff_ne.2 (by omega)
            clear h1 h2 h3 h4 h5 hc
            rcases y1 with y1 | ⟨y1, y1'⟩
            all_goals
              rcases y2 with y2 | ⟨y2, y2'⟩
              all_goals
                go_wp2_with fail
                all_goals
                  go_ret
                  exact ⟨by rw [HR.out, HF.out (fun b => okB b.toNat) HH.out]; rfl, rfl⟩
        · obtain rfl : i = s.size := by omega
          have e : s.data.toList.take s.size = s.data.toList := List.take_of_length_le (Nat.le_refl _)
          rw [e] at hall
          go_wp2_with fail
          go_ret
          exact ⟨by rw [HR.out, hall]; rfl, rfl⟩
    · have hN : okN s = false := by unfold okN; simp [h2]
      rw [hN]
      have z1 : ¬ (s.size : Int) < 1 := by omega
      have z2 : (64 : Int) < (s.size : Int) := by omega
      go_enter Try.func8, Try.ntmps8
      go_wp2_with fail
      go_ret
      exact ⟨rfl, rfl⟩
  · have hN : okN s = false := by unfold okN; simp [h1]
    rw [hN]
    have z1 : (s.size : Int) < 1 := by omega
    go_enter Try.func8, Try.ntmps8
    go_wp2_with fail
    go_ret
    exact ⟨rfl, rfl⟩
end Go.Proofs.Ytbebnjeamlmclaa
