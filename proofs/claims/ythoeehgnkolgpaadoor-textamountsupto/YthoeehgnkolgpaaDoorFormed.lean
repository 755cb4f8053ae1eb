/- What Money writes is formed so. -/
import Derived.Test.YthoeehgnkolgpaaDoorMoneyMath
import Derived.Deep.LoopGhost
import Derived.Deep.Light
namespace Go.Proofs.YthoeehgnkolgpaaDoor
open Go.RowKit

/-- Digits and marks, a dot, two digits. -/
structure FormS (s : ByteArray) (L : Nat) : Prop where
  sz : s.size = L + 3
  pos : 1 ≤ L
  dot : ∀ h, (s[L]'h).toNat = 46
  h0 : ∀ h, 1 < L → (s[0]'h).toNat ≠ 48
  h39 : ∀ h, (s[0]'h).toNat ≠ 39
  each : ∀ i (h : i < s.size), ((s[i]'h).toNat = 39 ↔ i < L ∧ (L - i) % 4 = 0) ∧ (i = L ∨ (s[i]'h).toNat = 39 ∨ (48 ≤ (s[i]'h).toNat ∧ (s[i]'h).toNat ≤ 57))

set_option maxHeartbeats 3200000 in
set_option maxRecDepth 100000 in
theorem formed_any (s : ByteArray) (L : Nat) (w : World) (hL : L ≤ 1000) (h : FormS s L) :
    Calls Tryd.prog 13 #[.string s] w fun e w' => e = .returned (.bool true) ∧ w' = w := by
  obtain ⟨hsz, hpos, hdot, h0, h39, heach⟩ := h
  have Heach := hide heach
  have hp0 : 0 < s.size := by omega
  have hpL : L < s.size := by omega
  have w1 : IntKind.i64.wrap ((s.size : Int) - 3) = (L : Int) := by rw [hsz]; rw [show (((L + 3 : Nat) : Int) - 3) = L by omega]; exact wr_i64 (by omega) (by omega)
  have w2 : (s.size : Int) - 3 = (L : Int) := by omega
  have c1 : ¬ (L : Int) < 1 := by omega
  have c3 : (L : Int) < (s.size : Int) := by omega
  have hd := hdot hpL
  have h03 := h39 hp0
  have h04 := h0 hp0
  obtain ⟨B0, hB0⟩ : ∃ b, s[0]'hp0 = b := ⟨_, rfl⟩
  obtain ⟨BL, hBL⟩ : ∃ b, s[L]'hpL = b := ⟨_, rfl⟩
  rw [hB0] at h03 h04
  have hBL' : Hid (s[L]'hpL = BL) := hide hBL
  rw [hBL] at hd
  have d1 : (BL.toNat : Int) = 46 := by omega
  have d2 : ¬ (B0.toNat : Int) = 39 := by omega
  have Hsz := hide hsz
  have Hd := hide hd
  have H03 := hide h03
  clear hsz heach hdot h0 h39 hd h03
  have key : (1 < L ∧ ¬ (B0.toNat : Int) = 48) ∨ (¬ 1 < L ∧ (B0.toNat : Int) = 48) ∨ (¬ 1 < L ∧ ¬ (B0.toNat : Int) = 48) := by
    by_cases h1 : 1 < L
    · left; exact ⟨h1, by have := h04 h1; omega⟩
    · by_cases h2 : (B0.toNat : Int) = 48
      · right; left; exact ⟨h1, h2⟩
      · right; right; exact ⟨h1, h2⟩
  clear h04
  go_enter Tryd.func13, Tryd.ntmps13
  rcases key with ⟨k1, k2⟩ | ⟨k1, k2⟩ | ⟨k1, k2⟩
  case' inl => have k3 : (1 : Int) < (L : Int) := by omega
  case' inr.inl => have k3 : ¬ (1 : Int) < (L : Int) := by omega
  case' inr.inr => have k3 : ¬ (1 : Int) < (L : Int) := by omega
  all_goals
    go_wp2_with fail
    clear k1 k2 k3 d1 d2 hB0 hBL c1 w1
    go_loopg [4] s.size (fun q s4 wx => ∃ i : Nat, i ≤ s.size ∧ q = s.size - i ∧ s4 = .int .i64 i ∧ wx = w)
    case atStart => exact ⟨0, Nat.zero_le _, rfl, rfl, rfl⟩
    case round =>
      obtain ⟨i, hi, rfl, rfl, rfl⟩ := hrel
      by_cases hlt : i < s.size
      · have hz : (i : Int) < (s.size : Int) := by omega
        have he := Heach.out i hlt
        have hLe := Hd.out
        rw [← hBL'.out] at hLe
        obtain ⟨B, hB⟩ : ∃ b, s[i]'hlt = b := ⟨_, rfl⟩
        rw [hB] at he
        have hsz := Hsz.out
        have four : (i < L ∧ (L - i) % 4 = 0 ∧ B.toNat = 39) ∨ (i < L ∧ ¬ (L - i) % 4 = 0 ∧ 48 ≤ B.toNat ∧ B.toNat ≤ 57) ∨ (i = L ∧ B.toNat = 46) ∨ (L < i ∧ 48 ≤ B.toNat ∧ B.toNat ≤ 57) := by
          rcases Nat.lt_trichotomy i L with h | h | h
          · by_cases h4 : (L - i) % 4 = 0
            · left; exact ⟨h, h4, he.1.2 ⟨h, h4⟩⟩
            · right; left
              have : ¬ B.toNat = 39 := fun e => h4 (he.1.1 e).2
              omega
          · right; right; left
            subst h
            exact ⟨rfl, by rw [← hB]; exact hLe⟩
          · right; right; right
            have : ¬ B.toNat = 39 := fun e => by have := (he.1.1 e).1; omega
            omega
        have Hsz' := hide hsz
        clear he hsz hLe
        rcases four with ⟨a1, a2, a3⟩ | ⟨a1, a2, a3, a4⟩ | ⟨a1, a3⟩ | ⟨a1, a3, a4⟩
        · have b1 : (i : Int) < (L : Int) := by omega
          have b2 : ((L : Int) - (i : Int)) % 4 = 0 := by omega
          have b3 : (B.toNat : Int) = 39 := by omega
          clear a2 a3
          go_wp2_with fail
          go_roundg (s.size - (i + 1))
          case measure => go_light; omega
          case rel => go_light; exact ⟨i + 1, by omega, rfl, by simp, rfl⟩
        · have b1 : (i : Int) < (L : Int) := by omega
          have b2 : (((L : Int) - (i : Int)) % 4 == 0) = false := beq_eq_false_iff_ne.2 (by omega)
          have b3 : (48 : Int) ≤ (B.toNat : Int) := by omega
          have b4 : (B.toNat : Int) ≤ 57 := by omega
          have b5 : ((B.toNat : Int) == 39) = false := beq_eq_false_iff_ne.2 (by omega)
          clear a2 a3 a4
          go_wp2_with fail
          go_roundg (s.size - (i + 1))
          case measure => go_light; omega
          case rel => go_light; exact ⟨i + 1, by omega, rfl, by simp, rfl⟩
        · have b3 : (B.toNat : Int) = 46 := by omega
          subst a1
          clear a3
          go_wp2_with fail
          go_roundg (s.size - (i + 1))
          case measure => go_light; omega
          case rel => go_light; exact ⟨i + 1, by omega, rfl, by simp, rfl⟩
        · have b1 : ¬ (i : Int) < (L : Int) := by omega
          have b3 : (48 : Int) ≤ (B.toNat : Int) := by omega
          have b4 : (B.toNat : Int) ≤ 57 := by omega
          have b5 : ((B.toNat : Int) == 39) = false := beq_eq_false_iff_ne.2 (by omega)
          clear a3 a4
          go_wp2_with fail
          go_roundg (s.size - (i + 1))
          case measure => go_light; omega
          case rel => go_light; exact ⟨i + 1, by omega, rfl, by simp, rfl⟩
      · have hz : ¬ (i : Int) < (s.size : Int) := by omega
        go_wp2_with fail
        go_ret
        exact ⟨rfl, rfl⟩

/-- What Money writes is formed so. -/
theorem money_form (n : Nat) : FormS ⟨(moneyM n).toArray⟩ (marked true (Lib.decDigits (n / 100))).length := by
  have hD := dec_all (n / 100)
  have hF := dec_form (n / 100)
  unfold moneyM
  generalize Lib.decDigits (n / 100) = D at *
  have hf := formL_first D hD
  have hg := formL_get _ hf
  have hne : ∃ b t, D = b :: t ∧ (b ≠ 48 ∨ t = []) ∧ digitR b.toNat = true := by
    rcases hF with rfl | ⟨b, t, rfl, h⟩
    · exact ⟨48, [], rfl, Or.inr rfl, rfl⟩
    · exact ⟨b, t, rfl, Or.inl h, (allD_split hD).1⟩
  obtain ⟨b, t, rfl, hb, hbd⟩ := hne
  have hm := marked_true b t
  have hd1 := digit_of (d := n % 100 / 10) (by omega)
  have hd2 := digit_of (d := n % 10) (by omega)
  generalize UInt8.ofNat (48 + n % 100 / 10) = D1 at *
  generalize UInt8.ofNat (48 + n % 10) = D2 at *
  have hl1 : 1 ≤ (marked true (b :: t)).length := by rw [hm]; simp
  have hl2 : 1 < (marked true (b :: t)).length → t ≠ [] := fun h e => by rw [hm, e] at h; simp [marked] at h
  have hx0 : ∀ h, (marked true (b :: t) ++ [46, D1, D2])[0]'h = b := fun h => by simp only [hm]; rfl
  generalize marked true (b :: t) = X at *
  have gt : ∀ (i : Nat) (h : i < (⟨(X ++ [46, D1, D2]).toArray⟩ : ByteArray).size), (⟨(X ++ [46, D1, D2]).toArray⟩ : ByteArray)[i]'h = (X ++ [46, D1, D2])[i]'(by rw [back_size] at h; exact h) := fun i h => rfl
  refine ⟨by rw [back_size]; simp, hl1, fun h => ?_, fun h h1 => ?_, fun h => ?_, fun i h => ?_⟩
  · rw [gt]; simp
  · rw [gt, hx0]
    rcases hb with hb | hb
    · exact fun e => hb (UInt8.toNat_inj.1 e)
    · exact absurd hb (hl2 h1)
  · rw [gt, hx0]; rw [digit_iff] at hbd; omega
  · rw [gt]
    rw [back_size, List.length_append] at h
    simp only [List.length_cons, List.length_nil] at h
    by_cases hi : i < X.length
    · have := hg i hi
      rw [List.getElem_append_left hi]
      rw [digit_iff] at this
      generalize X[i] = B at *
      have e39 : B = 39 ↔ B.toNat = 39 := ⟨fun e => by rw [e]; rfl, fun e => UInt8.toNat_inj.1 e⟩
      rw [e39] at this
      exact ⟨by rw [this.1]; simp [hi], Or.inr this.2⟩
    · rw [List.getElem_append_right (by omega)]
      obtain ⟨k, rfl⟩ : ∃ k, i = X.length + k := ⟨i - X.length, by omega⟩
      have : k = 0 ∨ k = 1 ∨ k = 2 := by omega
      rcases this with rfl | rfl | rfl
      · simp
      · simp; omega
      · simp; omega
end Go.Proofs.YthoeehgnkolgpaaDoor
