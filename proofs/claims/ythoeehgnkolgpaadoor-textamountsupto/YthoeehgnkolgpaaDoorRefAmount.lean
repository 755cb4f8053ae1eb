/- The reference's Amount: what it answers of any text. -/
import Derived.Test.YthoeehgnkolgpaaDoorAmountMath
import Derived.Test.YthoeehgnkolgpaaDoorTxt4
import Derived.Deep.LoopGhost
import Derived.Deep.Light
namespace Go.Proofs.YthoeehgnkolgpaaDoor
open Go.RowKit

theorem digit_any (c : Nat) (w : World) : Calls Tryd.prog 41 #[.int .u8 c] w fun e w' => e = .returned (.bool (digitR c)) ∧ w' = w := by
  have k : digitR c = (if 48 ≤ c then decide (c ≤ 57) else false) := by unfold digitR; split <;> simp [*]
  rw [k]
  go_enter Tryd.func41, Tryd.ntmps41
  by_cases h1 : 48 ≤ c
  · have h1z : (48 : Int) ≤ (c : Int) := by omega
    rw [if_pos h1]
    go_wp2
    go_ret
    exact ⟨ret_bool (dec_of (p := (c : Int) ≤ 57) (by omega)), rfl⟩
  · have h1z : ¬ (48 : Int) ≤ (c : Int) := by omega
    rw [if_neg h1]
    go_wp2
    go_ret
    exact ⟨rfl, rfl⟩
/-- The answer of a whole and its hundredths. -/
def ansV (f : List UInt8) (C : Nat) : Value := if wholeM f = true then (if 100 * valFrom 0 f + C ≤ 9007199254740992 then .tuple #[.int .u64 ((100 * valFrom 0 f + C : Nat) : Int), .int .i64 0] else .tuple #[.int .u64 0, .int .i64 22]) else .tuple #[.int .u64 0, .int .i64 21]
theorem get_at {s : ByteArray} {l : List UInt8} (h : s.data.toList = l) (i : Nat) (hi : i < s.size) : s[i]'hi = l[i]'(by rw [← h, list_size]; exact hi) := by subst h; rfl
theorem get_front {s : ByteArray} {f g : List UInt8} (h : s.data.toList = f ++ g) (i : Nat) (hi : i < s.size) (hf : i < f.length) : s[i]'hi = f[i] := by
  rw [get_at h i hi, List.getElem_append_left hf]
theorem get_back {s : ByteArray} {f g : List UInt8} (h : s.data.toList = f ++ g) (i k : Nat) (hi : i < s.size) (hk : i = f.length + k) (hg : k < g.length) : s[i]'hi = g[k] := by
  subst hk
  rw [get_at h _ hi, List.getElem_append_right (by omega)]
  congr 1
  omega

set_option maxHeartbeats 6400000 in
set_option maxRecDepth 100000 in
theorem refAmount_dot (s : ByteArray) (f : List UInt8) (x y : Nat) (hx : x ≤ 9) (hy : y ≤ 9) (hl : s.data.toList = f ++ [46, UInt8.ofNat (48 + x), UInt8.ofNat (48 + y)]) (hno : ∀ b ∈ f, b ≠ 46) (hmax : s.size ≤ 140737488355328) (w : World) :
    Calls Tryd.prog 17 #[.string s] w fun e w' => e = .returned (ansV f (10 * x + y)) ∧ ∃ k, w' = w.drewN k := by
  obtain ⟨L, hL⟩ : ∃ L, f.length = L := ⟨_, rfl⟩
  obtain ⟨ANS, hANS⟩ : ∃ A, A = ansV f (10 * x + y) := ⟨_, rfl⟩
  rw [← hANS]
  have HANS := hide hANS
  clear hANS
  have hsz : s.size = L + 3 := by rw [← list_size, hl, List.length_append, hL]; rfl
  have HL := hide hL
  have Hfront : Hid (∀ (i : Nat) (hi : i < s.size) (hf : i < f.length), s[i]'hi = f[i]) := hide (fun i hi hf => get_front hl i hi hf)
  have i0 : L < s.size := by omega
  have i1 : L + 1 < s.size := by omega
  have i2 : L + 2 < s.size := by omega
  have b0 : s[L]'i0 = 46 := get_back hl L 0 i0 (by omega) (by simp)
  have b1 : s[L + 1]'i1 = UInt8.ofNat (48 + x) := get_back hl (L + 1) 1 i1 (by omega) (by simp)
  have b2 : s[L + 2]'i2 = UInt8.ofNat (48 + y) := get_back hl (L + 2) 2 i2 (by omega) (by simp)
  have dx := digit_of hx
  have dy := digit_of hy
  generalize UInt8.ofNat (48 + x) = DX at *
  generalize UInt8.ofNat (48 + y) = DY at *
  have Hno : Hid (∀ b ∈ f, b ≠ 46) := hide hno
  have Hsz := hide hsz
  have HLs : L + 3 ≤ s.size := by omega
  clear hl hno hL hsz
  have g1 := digit_any DX.toNat
  have g2 := digit_any DY.toNat
  rw [dx, show digitR (48 + x) = true by simp [digitR]; omega] at g1
  rw [dy, show digitR (48 + y) = true by simp [digitR]; omega] at g2
  have hd1 : ∀ W : World, Calls Tryd.prog 41 #[.int .u8 (48 + (x : Int))] W fun e w' => e = .returned (.bool true) ∧ w' = W := fun W => g1 W
  have hd2 : ∀ W : World, Calls Tryd.prog 41 #[.int .u8 (48 + (y : Int))] W fun e w' => e = .returned (.bool true) ∧ w' = W := fun W => g2 W
  have dxz : (DX.toNat : Int) = 48 + (x : Int) := by omega
  have dyz : (DY.toNat : Int) = 48 + (y : Int) := by omega
  have HD := hide dx
  have HD' := hide dy
  clear g1 g2 dx dy
  have HW : Hid (w.drewN 0 = w) := hide rfl
  go_enter Tryd.func17, Tryd.ntmps17
  go_wp2_with fail
  go_loopg [4, 5, 6] (L + 1) (fun q s4 s5 s6 wx => ∃ i : Nat, i ≤ L ∧ q = L + 1 - i ∧ s4 = .int .i64 s.size ∧ s5 = .int .i64 0 ∧ s6 = .int .i64 i ∧ wx = w)
  case atStart => exact ⟨0, Nat.zero_le _, rfl, rfl, rfl, rfl, rfl⟩
  case round =>
    obtain ⟨i, hi, rfl, rfl, rfl, rfl, rfl⟩ := hrel
    by_cases hlt : i < L
    · have his : i < s.size := by omega
      have hzs : (i : Int) < (s.size : Int) := by omega
      have hb := Hfront.out i his (by rw [HL.out]; exact hlt)
      have hne : f[i]'(by rw [HL.out]; exact hlt) ≠ 46 := Hno.out _ (List.getElem_mem _)
      generalize f[i]'(by rw [HL.out]; exact hlt) = b at *
      have e1 : ((b.toNat : Int) == 46) = false := beq_eq_false_iff_ne.2 (fun e => hne (UInt8.toNat_inj.1 (show b.toNat = 46 by omega)))
      clear hne
      go_wp2_with fail
      go_roundg (L + 1 - (i + 1))
      case measure => go_light; omega
      case rel => go_light; exact ⟨i + 1, by omega, rfl, rfl, rfl, by simp, rfl⟩
    · obtain rfl : L = i := by omega
      have hzs : (L : Int) < (s.size : Int) := by omega
      have hzs1 : (L : Int) + 1 < (s.size : Int) := by omega
      have hzs2 : (L : Int) + 2 < (s.size : Int) := by omega
      have e3 : ((L : Int) + 3 == (s.size : Int)) = true := beq_iff_eq.2 (by have := Hsz.out; omega)
      have e4 : ((L : Int) + 3 != (s.size : Int)) = false := by simp; have := Hsz.out; omega
      have v1 : IntKind.u8.wrap ((48 : Int) + (x : Int) - 48) = (x : Int) := by rw [show (48 : Int) + (x : Int) - 48 = x by omega]; exact wr_u8 (by omega) (by omega)
      have v2 : IntKind.u8.wrap ((48 : Int) + (y : Int) - 48) = (y : Int) := by rw [show (48 : Int) + (y : Int) - 48 = y by omega]; exact wr_u8 (by omega) (by omega)
      go_wp2_with (first | (go_at_call 41; first | (refine (hd1 _).mono ?_; rintro e w4 ⟨rfl, e4⟩; subst e4) | (refine (hd2 _).mono ?_; rintro e w4 ⟨rfl, e4⟩; subst e4)))
      obtain ⟨w, hww⟩ : ∃ w, w = w4 := ⟨_, rfl⟩
      subst hww
      go_quiet (fail)
      have hw0 : ∃ k0, w.drewN nq = w.drewN k0 := ⟨nq, rfl⟩
      obtain ⟨k0, hw1⟩ := hw0
      have hw0 := hide hw1
      clear hw1
      clear hd1 hd2 v1 v2 e3 e4
      go_wp2_with fail
      go_loopg [7, 8] L (fun q s7 s8 wx => ∃ (i k : Nat) (mk : Bool), i ≤ L ∧ q = L - i ∧ s7 = .bool mk ∧ s8 = .int .i64 i ∧ wx = w.drewN k ∧ Hid (decide ((39 : UInt8) ∈ f) = (mk || decide ((39 : UInt8) ∈ f.drop i))))
      case atStart => exact ⟨0, k0, false, Nat.zero_le _, rfl, rfl, rfl, hw0.out, hide rfl⟩
      case round =>
        obtain ⟨i, k, mk, hi, rfl, rfl, rfl, rfl, hmk⟩ := hrel
        clear hw0
        by_cases hlt : i < L
        · have hz : (i : Int) < (L : Int) := by omega
          have his : i < s.size := by omega
          have hzs : (i : Int) < (s.size : Int) := by omega
          have hb := Hfront.out i his (by rw [HL.out]; exact hlt)
          obtain ⟨b, hbf⟩ : ∃ b, f[i]'(by rw [HL.out]; exact hlt) = b := ⟨_, rfl⟩
          rw [hbf] at hb
          have hdr : Hid (f.drop i = b :: f.drop (i + 1)) := hide (by rw [List.drop_eq_getElem_cons (by rw [HL.out]; exact hlt), hbf])
          clear hbf
          cases mk with
          | true =>
            go_wp2_with fail
            go_roundg (L - (i + 1))
            case measure => go_light; omega
            case rel => go_light; exact ⟨i + 1, k, true, by omega, rfl, rfl, by simp, rfl, hide (by rw [hmk.out]; rfl)⟩
          | false =>
            by_cases h39 : b = 39
            · have e1 : ((b.toNat : Int) == 39) = true := beq_iff_eq.2 (by rw [h39]; rfl)
              have hmk2 : Hid (decide ((39 : UInt8) ∈ f) = (true || decide ((39 : UInt8) ∈ f.drop (i + 1)))) := hide (by rw [hmk.out, hdr.out, h39]; simp)
              clear h39 hmk hdr
              go_wp2_with fail
              go_roundg (L - (i + 1))
              case measure => go_light; omega
              case rel => go_light; exact ⟨i + 1, k, true, by omega, rfl, rfl, by simp, rfl, hmk2⟩
            · have e1 : ((b.toNat : Int) == 39) = false := beq_eq_false_iff_ne.2 (fun e => h39 (UInt8.toNat_inj.1 (show b.toNat = 39 by omega)))
              have hmk2 : Hid (decide ((39 : UInt8) ∈ f) = (false || decide ((39 : UInt8) ∈ f.drop (i + 1)))) := hide (by
                rw [hmk.out, hdr.out]
                have h39' : ¬ (39 : UInt8) = b := fun e => h39 e.symm
                simp [h39'])
              clear h39 hmk hdr
              go_wp2_with fail
              go_roundg (L - (i + 1))
              case measure => go_light; omega
              case rel => go_light; exact ⟨i + 1, k, false, by omega, rfl, rfl, by simp, rfl, hmk2⟩
        · have hz : ¬ (i : Int) < (L : Int) := by omega
          have hMK : Hid (decide ((39 : UInt8) ∈ f) = mk) := hide (by rw [hmk.out, List.drop_eq_nil_of_le (by rw [HL.out]; omega)]; simp)
          clear hmk
          cases f with
          | nil =>
            have e0 : ((L : Int) == 0) = true := beq_iff_eq.2 (by have := HL.out; rw [List.length_nil] at this; omega)
            have hno : Hid (ANS = .tuple #[.int .u64 0, .int .i64 21]) := hide HANS.out
            go_wp2_with fail
            go_ret2
            exact ⟨by rw [hno.out]; rfl, k, rfl⟩
          | cons b0 t0 =>
            have hLp : 0 < L := by have := HL.out; simp at this; omega
            have hp0 : 0 < s.size := by omega
            have hb0 := Hfront.out 0 hp0 (by simp)
            simp only [List.getElem_cons_zero] at hb0
            have hnL2 : ((L : Int) == 0) = false := beq_eq_false_iff_ne.2 (by omega)
            have hdg := digit_any b0.toNat
            have href := whole_ref b0 t0
            rw [hMK.out] at href
            have Href := hide href
            clear href
            cases hd : digitR b0.toNat with
            | false =>
              rw [hd] at hdg
              have hno : Hid (ANS = .tuple #[.int .u64 0, .int .i64 21]) := hide (by
                rw [HANS.out]
                unfold ansV
                rw [if_neg (fun h => by have := (Href.out.1 h).1; rw [hd] at this; cases this)])
              clear hd
              go_wp2_with (first | (go_at_call 41; refine (hdg _).mono ?_; rintro e w4 ⟨rfl, e4⟩; subst e4))
              go_ret2
              exact ⟨by rw [hno.out]; rfl, k, rfl⟩
            | true =>
              rw [hd] at hdg
              have two : (b0 = 48 ∧ t0 ≠ []) ∨ ¬ (b0 = 48 ∧ t0 ≠ []) := Classical.em _
              rcases two with ⟨h48, htn⟩ | hgood
              · have e48 : ((b0.toNat : Int) == 48) = true := beq_iff_eq.2 (by rw [h48]; rfl)
                have hL1 : (1 : Int) < (L : Int) := by
                  have := HL.out
                  have h2 := List.length_pos_iff.2 htn
                  rw [List.length_cons] at this
                  omega
                have hno : Hid (ANS = .tuple #[.int .u64 0, .int .i64 21]) := hide (by
                  rw [HANS.out]
                  unfold ansV
                  rw [if_neg (fun h => (Href.out.1 h).2.1 ⟨h48, htn⟩)])
                clear hd h48 htn
                go_wp2_with (first | (go_at_call 41; refine (hdg _).mono ?_; rintro e w4 ⟨rfl, e4⟩; subst e4))
                go_ret2
                exact ⟨by rw [hno.out]; rfl, k, rfl⟩
              · have hwc : Hid (wholeM (b0 :: t0) = true ↔ checkP mk (b0 :: t0)) := hide (by
                  rw [Href.out]
                  exact ⟨fun h => h.2.2, fun h => ⟨hd, hgood, h⟩⟩)
                have three : (((b0.toNat : Int) == 48) = true ∧ ¬ (1 : Int) < (L : Int)) ∨ ((b0.toNat : Int) == 48) = false := by
                  by_cases h48 : b0 = 48
                  · left
                    refine ⟨beq_iff_eq.2 (by rw [h48]; rfl), ?_⟩
                    have htn : t0 = [] := Classical.byContradiction fun h => hgood ⟨h48, h⟩
                    have := HL.out
                    rw [htn] at this
                    simp at this
                    omega
                  · right
                    exact beq_eq_false_iff_ne.2 (fun e => h48 (UInt8.toNat_inj.1 (show b0.toNat = 48 by omega)))
                clear hd hgood Href
                obtain ⟨f, hf⟩ : ∃ f, f = b0 :: t0 := ⟨_, rfl⟩
                rw [← hf] at Hfront HL hwc hMK HANS
                clear hf
                rcases three with ⟨q1, q2⟩ | q1
                all_goals
                  go_wp2_with (first | (go_at_call 41; refine (hdg _).mono ?_; rintro e w4 ⟨rfl, e4⟩; subst e4))
                  clear hdg hb0 q1 hnL2
                  go_loopg [9, 10] L (fun q s9 s10 wx => ∃ (i k N V : Nat), i ≤ L ∧ q = L - i ∧ N = min V 9007199254740992 ∧ s9 = .int .i64 N ∧ s10 = .int .i64 i ∧ wx = w.drewN k ∧ Hid (valFrom 0 f = valFrom V (f.drop i)) ∧ Hid (wholeM f = true ↔ checkP mk (f.drop i)))
                  case atStart => exact ⟨0, _, 0, 0, Nat.zero_le _, rfl, rfl, rfl, rfl, rfl, hide rfl, hwc⟩
                  case round =>
                    clear hi hlt hz
                    obtain ⟨i, k, N, V, hi, rfl, hN, rfl, rfl, rfl, hV, hw⟩ := hrel
                    have hNm : N ≤ 9007199254740992 := by omega
                    have HN := hide hN
                    clear hN
                    by_cases hlt : i < L
                    · have hz : (i : Int) < (L : Int) := by omega
                      have his : i < s.size := by omega
                      have hzs : (i : Int) < (s.size : Int) := by omega
                      have hb := Hfront.out i his (by rw [HL.out]; exact hlt)
                      obtain ⟨b, hbf⟩ : ∃ b, f[i]'(by rw [HL.out]; exact hlt) = b := ⟨_, rfl⟩
                      rw [hbf] at hb
                      have hdr : Hid (f.drop i = b :: f.drop (i + 1)) := hide (by rw [List.drop_eq_getElem_cons (by rw [HL.out]; exact hlt), hbf])
                      have htl : Hid ((f.drop (i + 1)).length + 1 = L - i) := hide (by rw [List.length_drop, HL.out]; omega)
                      clear hbf
                      have hw2 : Hid (wholeM f = true ↔ (b = 39 ↔ mk = true ∧ (L - i) % 4 = 0) ∧ ((mk = true ∧ (L - i) % 4 = 0) ∨ digitR b.toNat = true) ∧ checkP mk (f.drop (i + 1))) := hide (by
                        rw [hw.out, hdr.out]
                        show (_ ↔ _ ∧ (_ + 1) % 4 = 0) ∧ ((_ ∧ (_ + 1) % 4 = 0) ∨ _) ∧ _ ↔ _
                        rw [htl.out])
                      have hV2 : Hid (valFrom 0 f = if b.toNat = 39 then valFrom V (f.drop (i + 1)) else valFrom (V * 10 + (b.toNat - 48)) (f.drop (i + 1))) := hide (by rw [hV.out, hdr.out]; rfl)
                      clear hw hV hdr htl
                      have hdg := digit_any b.toNat
                      have h256 := b.toNat_lt
                      have four : (mk = true ∧ (L - i) % 4 = 0 ∧ b = 39) ∨ (¬ (mk = true ∧ (L - i) % 4 = 0) ∧ digitR b.toNat = true) ∨ (((mk = true ∧ (L - i) % 4 = 0) ∧ b ≠ 39) ∨ (¬ (mk = true ∧ (L - i) % 4 = 0) ∧ digitR b.toNat = false)) := by
                        by_cases hp : mk = true ∧ (L - i) % 4 = 0
                        · by_cases h39 : b = 39
                          · left; exact ⟨hp.1, hp.2, h39⟩
                          · right; right; left; exact ⟨hp, h39⟩
                        · cases hd : digitR b.toNat with
                          | true => right; left; exact ⟨hp, rfl⟩
                          | false => right; right; right; exact ⟨hp, rfl⟩
                      rcases four with ⟨p1, p2, p3⟩ | ⟨p1, p2⟩ | p
                      · have e1 : ((b.toNat : Int) == 39) = true := beq_iff_eq.2 (by rw [p3]; rfl)
                        have e2 : ((L : Int) - (i : Int)) % 4 = 0 := by omega
                        have e3 : ¬ (9007199254740992 : Int) < (N : Int) := by omega
                        have hw3 : Hid (wholeM f = true ↔ checkP mk (f.drop (i + 1))) := hide (by
                          rw [hw2.out]
                          exact ⟨fun h => h.2.2, fun h => ⟨⟨fun _ => ⟨p1, p2⟩, fun _ => p3⟩, Or.inl ⟨p1, p2⟩, h⟩⟩)
                        have hV3 : Hid (valFrom 0 f = valFrom V (f.drop (i + 1))) := hide (by rw [hV2.out, if_pos (by rw [p3]; rfl)])
                        clear hw2 hV2 p3 p2 hdg
                        subst p1
                        go_wp2_with fail
                        go_roundg (L - (i + 1))
                        case measure => go_light; omega
                        case rel => go_light; exact ⟨i + 1, k, N, V, by omega, rfl, HN.out, rfl, by simp, rfl, hV3, hw3⟩
                      · rw [p2] at hdg
                        rw [digit_iff] at p2
                        have e1 : ((b.toNat : Int) == 39) = false := beq_eq_false_iff_ne.2 (by omega)
                        have hw3 : Hid (wholeM f = true ↔ checkP mk (f.drop (i + 1))) := hide (by
                          rw [hw2.out]
                          refine ⟨fun h => h.2.2, fun h => ⟨⟨fun e => by rw [e] at p2; exact absurd p2.1 (by decide), fun e => absurd e p1⟩, Or.inr (by rw [digit_iff]; exact p2), h⟩⟩)
                        obtain ⟨D, hD, hBD⟩ : ∃ D, D ≤ 9 ∧ b.toNat = 48 + D := ⟨b.toNat - 48, by omega, by omega⟩
                        have hV3 : Hid (valFrom 0 f = valFrom (V * 10 + D) (f.drop (i + 1))) := hide (by rw [hV2.out, if_neg (by omega), show b.toNat - 48 = D by omega])
                        rw [hBD] at hdg
                        have hBDz : (b.toNat : Int) = 48 + (D : Int) := by omega
                        clear hw2 hV2 p2 e1
                        have n39 : ((48 : Int) + (D : Int) == 39) = false := beq_eq_false_iff_ne.2 (by omega)
                        have w1 : IntKind.u8.wrap ((48 : Int) + (D : Int) - 48) = (D : Int) := by rw [show (48 : Int) + (D : Int) - 48 = D by omega]; exact wr_u8 (by omega) (by omega)
                        have five : (mk = false) ∨ (mk = true ∧ (((L : Int) - (i : Int)) % 4 == 0) = false) := by
                          cases mk with
                          | false => exact Or.inl rfl
                          | true => right; exact ⟨rfl, beq_eq_false_iff_ne.2 (fun e => p1 ⟨rfl, by omega⟩)⟩
                        clear p1
                        have HB := hide hBD
                        clear hBD h256
                        have hdz : ∀ W : World, Calls Tryd.prog 41 #[.int .u8 (48 + (D : Int))] W fun e w' => e = .returned (.bool true) ∧ w' = W := fun W => hdg W
                        clear hdg
                        by_cases hov : 9007199254740992 < N * 10 + D
                        · have z1 : (9007199254740992 : Int) < 10 * (N : Int) + (D : Int) := by omega
                          rcases five with rfl | ⟨rfl, e5⟩
                          all_goals
                            go_wp2_with (first | (go_at_call 41; refine (hdz _).mono ?_; rintro e w4 ⟨rfl, e4⟩; subst e4))
                            go_roundg (L - (i + 1))
                            case measure => go_light; omega
                            case rel => go_light; exact ⟨i + 1, k, 9007199254740992, V * 10 + D, by omega, rfl, by have := HN.out; omega, rfl, by simp, rfl, hV3, hw3⟩
                        · have z1 : ¬ (9007199254740992 : Int) < 10 * (N : Int) + (D : Int) := by omega
                          rcases five with rfl | ⟨rfl, e5⟩
                          all_goals
                            go_wp2_with (first | (go_at_call 41; refine (hdz _).mono ?_; rintro e w4 ⟨rfl, e4⟩; subst e4))
                            go_roundg (L - (i + 1))
                            case measure => go_light; omega
                            case rel => go_light; exact ⟨i + 1, k, N * 10 + D, V * 10 + D, by omega, rfl, by have := HN.out; omega, by congr 1; omega, by simp, rfl, hV3, hw3⟩
                      · have hno : Hid (ANS = .tuple #[.int .u64 0, .int .i64 21]) := hide (by
                          rw [HANS.out]
                          unfold ansV
                          refine if_neg (fun h => ?_)
                          have h := hw2.out.1 h
                          rcases p with ⟨p1, p2⟩ | ⟨p1, p2⟩
                          · exact p2 (h.1.2 p1)
                          · rcases h.2.1 with h | h
                            · exact p1 h
                            · rw [p2] at h; cases h)
                        clear hw2 hV2
                        rcases p with ⟨⟨rfl, p1⟩, p2⟩ | ⟨p1, p2⟩
                        · have e1 : ((b.toNat : Int) == 39) = false := beq_eq_false_iff_ne.2 (fun e => p2 (UInt8.toNat_inj.1 (show b.toNat = 39 by omega)))
                          have e2 : ((L : Int) - (i : Int)) % 4 = 0 := by omega
                          clear p2 p1 hdg
                          go_wp2_with fail
                          go_ret2
                          exact ⟨by rw [hno.out]; rfl, k, rfl⟩
                        · rw [p2] at hdg
                          have five : (mk = false) ∨ (mk = true ∧ (((L : Int) - (i : Int)) % 4 == 0) = false) := by
                            cases mk with
                            | false => exact Or.inl rfl
                            | true => right; exact ⟨rfl, beq_eq_false_iff_ne.2 (fun e => p1 ⟨rfl, by omega⟩)⟩
                          have six : ((b.toNat : Int) == 39) = true ∨ ((b.toNat : Int) == 39) = false := by
                            cases (b.toNat : Int) == 39 <;> simp
                          clear p1 p2
                          rcases five with rfl | ⟨rfl, e5⟩
                          all_goals
                            rcases six with e1 | e1
                            all_goals
                              go_wp2_with (first | (go_at_call 41; refine (hdg _).mono ?_; rintro e w4 ⟨rfl, e4⟩; subst e4))
                              go_ret2
                              exact ⟨by rw [hno.out]; rfl, k, rfl⟩
                    · have hz : ¬ (i : Int) < (L : Int) := by omega
                      have hW : wholeM f = true := hw.out.2 (by rw [List.drop_eq_nil_of_le (by rw [HL.out]; omega)]; trivial)
                      have hVV : valFrom 0 f = V := by rw [hV.out, List.drop_eq_nil_of_le (by rw [HL.out]; omega)]; rfl
                      have hA := HANS.out
                      unfold ansV at hA
                      rw [if_pos hW, hVV] at hA
                      clear hW hVV hw hV
                      by_cases hov : 100 * V + (10 * x + y) ≤ 9007199254740992
                      · rw [if_pos hov] at hA
                        have hno := hide hA
                        clear hA
                        have hNV : N = V := by have := HN.out; omega
                        subst hNV
                        have z1 : ¬ (9007199254740992 : Int) < 100 * (N : Int) + (10 * (x : Int) + (y : Int)) := by omega
                        go_wp2_with fail
                        go_ret2
                        refine ⟨?_, k, rfl⟩
                        rw [hno.out]
                        have : ((100 * N + (10 * x + y) : Nat) : Int) = 100 * (N : Int) + (10 * (x : Int) + (y : Int)) := by omega
                        rw [this]
                        rfl
                      · rw [if_neg hov] at hA
                        have hno := hide hA
                        clear hA
                        have z1 : (9007199254740992 : Int) < 100 * (N : Int) + (10 * (x : Int) + (y : Int)) := by have := HN.out; omega
                        clear hov
                        go_wp2_with fail
                        go_ret2
                        exact ⟨by rw [hno.out]; rfl, k, rfl⟩

end Go.Proofs.YthoeehgnkolgpaaDoor
