/- The reference's Amount: texts without a dot, and such as have no good part behind it. -/
import Derived.Test.YthoeehgnkolgpaaDoorRefAmount
import Derived.Test.YthoeehgnkolgpaaDoorTxt4
import Derived.Deep.LoopGhost
import Derived.Deep.Light
namespace Go.Proofs.YthoeehgnkolgpaaDoor
open Go.RowKit


set_option maxHeartbeats 6400000 in
set_option maxRecDepth 100000 in
theorem refAmount_bare (s : ByteArray) (f : List UInt8) (hl : s.data.toList = f) (hno : ∀ b ∈ f, b ≠ 46) (hmax : s.size ≤ 140737488355328) (w : World) :
    Calls Tryd.prog 17 #[.string s] w fun e w' => e = .returned (ansV f 0) ∧ ∃ k, w' = w.drewN k := by
  obtain ⟨ANS, hANS⟩ : ∃ A, A = ansV f 0 := ⟨_, rfl⟩
  rw [← hANS]
  have HANS := hide hANS
  clear hANS
  have hL : f.length = s.size := by rw [← list_size, hl]
  have HL := hide hL
  have Hfront : Hid (∀ (i : Nat) (hi : i < s.size) (hf : i < f.length), s[i]'hi = f[i]) := hide (fun i hi _ => get_at hl i hi)
  have Hno : Hid (∀ b ∈ f, b ≠ 46) := hide hno
  clear hl hno hL
  go_enter Tryd.func17, Tryd.ntmps17
  go_wp2_with fail
  go_loopg [4, 5, 6] s.size (fun q s4 s5 s6 wx => ∃ i : Nat, i ≤ s.size ∧ q = s.size - i ∧ s4 = .int .i64 s.size ∧ s5 = .int .i64 0 ∧ s6 = .int .i64 i ∧ wx = w)
  case atStart => exact ⟨0, Nat.zero_le _, rfl, rfl, rfl, rfl, rfl⟩
  case round =>
    obtain ⟨i, hi, rfl, rfl, rfl, rfl, rfl⟩ := hrel
    by_cases hlt : i < s.size
    · have his : i < s.size := by omega
      have hzs : (i : Int) < (s.size : Int) := by omega
      have hb := Hfront.out i his (by rw [HL.out]; exact hlt)
      have hne : f[i]'(by rw [HL.out]; exact hlt) ≠ 46 := Hno.out _ (List.getElem_mem _)
      generalize f[i]'(by rw [HL.out]; exact hlt) = b at *
      have e1 : ((b.toNat : Int) == 46) = false := beq_eq_false_iff_ne.2 (fun e => hne (UInt8.toNat_inj.1 (show b.toNat = 46 by omega)))
      clear hne
      go_wp2_with fail
      go_roundg (s.size - (i + 1))
      case measure => go_light; omega
      case rel => go_light; exact ⟨i + 1, by omega, rfl, rfl, rfl, by simp, rfl⟩
    · have hzs : ¬ (i : Int) < (s.size : Int) := by omega
      obtain ⟨w, hww⟩ : ∃ w, w = wr := ⟨_, rfl⟩
      subst hww
      have hw0 : ∃ k0, w = w.drewN k0 := ⟨0, rfl⟩
      obtain ⟨k0, hw1⟩ := hw0
      have hw0 := hide hw1
      clear hw1
      clear hi hlt
      go_wp2_with fail
      go_loopg [7, 8] s.size (fun q s7 s8 wx => ∃ (i k : Nat) (mk : Bool), i ≤ s.size ∧ q = s.size - i ∧ s7 = .bool mk ∧ s8 = .int .i64 i ∧ wx = w.drewN k ∧ Hid (decide ((39 : UInt8) ∈ f) = (mk || decide ((39 : UInt8) ∈ f.drop i))))
      case atStart => exact ⟨0, k0, false, Nat.zero_le _, rfl, rfl, rfl, hw0.out, hide rfl⟩
      case round =>
        obtain ⟨i, k, mk, hi, rfl, rfl, rfl, rfl, hmk⟩ := hrel
        clear hw0
        by_cases hlt : i < s.size
        · have hz : (i : Int) < (s.size : Int) := by omega
          have his : i < s.size := by omega
          have hzs : (i : Int) < (s.size : Int) := by omega
          have hb := Hfront.out i his (by rw [HL.out]; exact hlt)
          obtain ⟨b, hbf⟩ : ∃ b, f[i]'(by rw [HL.out]; exact hlt) = b := ⟨_, rfl⟩
          rw [hbf] at hb
          have hdr : Hid (f.drop i = b :: f.drop (i + 1)) := hide (by rw [List.drop_eq_getElem_cons (by rw [HL.out]; exact hlt), hbf])
          clear hbf
          cases mk with
          | true =>
            go_wp2_with fail
            go_roundg (s.size - (i + 1))
            case measure => go_light; omega
            case rel => go_light; exact ⟨i + 1, k, true, by omega, rfl, rfl, by simp, rfl, hide (by rw [hmk.out]; rfl)⟩
          | false =>
            by_cases h39 : b = 39
            · have e1 : ((b.toNat : Int) == 39) = true := beq_iff_eq.2 (by rw [h39]; rfl)
              have hmk2 : Hid (decide ((39 : UInt8) ∈ f) = (true || decide ((39 : UInt8) ∈ f.drop (i + 1)))) := hide (by rw [hmk.out, hdr.out, h39]; simp)
              clear h39 hmk hdr
              go_wp2_with fail
              go_roundg (s.size - (i + 1))
              case measure => go_light; omega
              case rel => go_light; exact ⟨i + 1, k, true, by omega, rfl, rfl, by simp, rfl, hmk2⟩
            · have e1 : ((b.toNat : Int) == 39) = false := beq_eq_false_iff_ne.2 (fun e => h39 (UInt8.toNat_inj.1 (show b.toNat = 39 by omega)))
              have hmk2 : Hid (decide ((39 : UInt8) ∈ f) = (false || decide ((39 : UInt8) ∈ f.drop (i + 1)))) := hide (by
                rw [hmk.out, hdr.out]
                have h39' : ¬ (39 : UInt8) = b := fun e => h39 e.symm
                simp [h39'])
              clear h39 hmk hdr
              go_wp2_with fail
              go_roundg (s.size - (i + 1))
              case measure => go_light; omega
              case rel => go_light; exact ⟨i + 1, k, false, by omega, rfl, rfl, by simp, rfl, hmk2⟩
        · have hz : ¬ (i : Int) < (s.size : Int) := by omega
          have hMK : Hid (decide ((39 : UInt8) ∈ f) = mk) := hide (by rw [hmk.out, List.drop_eq_nil_of_le (by rw [HL.out]; omega)]; simp)
          clear hmk
          cases f with
          | nil =>
            have e0 : ((s.size : Int) == 0) = true := beq_iff_eq.2 (by have := HL.out; rw [List.length_nil] at this; omega)
            have hno : Hid (ANS = .tuple #[.int .u64 0, .int .i64 21]) := hide HANS.out
            go_wp2_with fail
            go_ret2
            exact ⟨by rw [hno.out]; rfl, k, rfl⟩
          | cons b0 t0 =>
            have hLp : 0 < s.size := by have := HL.out; simp at this; omega
            have hp0 : 0 < s.size := by omega
            have hb0 := Hfront.out 0 hp0 (by simp)
            simp only [List.getElem_cons_zero] at hb0
            have hnL2 : ((s.size : Int) == 0) = false := beq_eq_false_iff_ne.2 (by omega)
            have hdg := digit_any b0.toNat
            have href := whole_ref b0 t0
            rw [hMK.out] at href
            have Href := hide href
            clear href
            cases hd : digitR b0.toNat with
            | false =>
              rw [hd] at hdg
              have hno : Hid (ANS = .tuple #[.int .u64 0, .int .i64 21]) := hide (by
                rw [HANS.out]
                unfold ansV
                rw [if_neg (fun h => by have := (Href.out.1 h).1; rw [hd] at this; cases this)])
              clear hd
              go_wp2_with (first | (go_at_call 41; refine (hdg _).mono ?_; rintro e w4 ⟨rfl, e4⟩; subst e4))
              go_ret2
              exact ⟨by rw [hno.out]; rfl, k, rfl⟩
            | true =>
              rw [hd] at hdg
              have two : (b0 = 48 ∧ t0 ≠ []) ∨ ¬ (b0 = 48 ∧ t0 ≠ []) := Classical.em _
              rcases two with ⟨h48, htn⟩ | hgood
              · have e48 : ((b0.toNat : Int) == 48) = true := beq_iff_eq.2 (by rw [h48]; rfl)
                have hL1 : (1 : Int) < (s.size : Int) := by
                  have := HL.out
                  have h2 := List.length_pos_iff.2 htn
                  rw [List.length_cons] at this
                  omega
                have hno : Hid (ANS = .tuple #[.int .u64 0, .int .i64 21]) := hide (by
                  rw [HANS.out]
                  unfold ansV
                  rw [if_neg (fun h => (Href.out.1 h).2.1 ⟨h48, htn⟩)])
                clear hd h48 htn
                go_wp2_with (first | (go_at_call 41; refine (hdg _).mono ?_; rintro e w4 ⟨rfl, e4⟩; subst e4))
                go_ret2
                exact ⟨by rw [hno.out]; rfl, k, rfl⟩
              · have hwc : Hid (wholeM (b0 :: t0) = true ↔ checkP mk (b0 :: t0)) := hide (by
                  rw [Href.out]
                  exact ⟨fun h => h.2.2, fun h => ⟨hd, hgood, h⟩⟩)
                have three : (((b0.toNat : Int) == 48) = true ∧ ¬ (1 : Int) < (s.size : Int)) ∨ ((b0.toNat : Int) == 48) = false := by
                  by_cases h48 : b0 = 48
                  · left
                    refine ⟨beq_iff_eq.2 (by rw [h48]; rfl), ?_⟩
                    have htn : t0 = [] := Classical.byContradiction fun h => hgood ⟨h48, h⟩
                    have := HL.out
                    rw [htn] at this
                    simp at this
                    omega
                  · right
                    exact beq_eq_false_iff_ne.2 (fun e => h48 (UInt8.toNat_inj.1 (show b0.toNat = 48 by omega)))
                clear hd hgood Href
                obtain ⟨f, hf⟩ : ∃ f, f = b0 :: t0 := ⟨_, rfl⟩
                rw [← hf] at Hfront HL hwc hMK HANS
                clear hf
                rcases three with ⟨q1, q2⟩ | q1
                all_goals
                  go_wp2_with (first | (go_at_call 41; refine (hdg _).mono ?_; rintro e w4 ⟨rfl, e4⟩; subst e4))
                  clear hdg hb0 q1 hnL2
                  go_loopg [9, 10] s.size (fun q s9 s10 wx => ∃ (i k N V : Nat), i ≤ s.size ∧ q = s.size - i ∧ N = min V 9007199254740992 ∧ s9 = .int .i64 N ∧ s10 = .int .i64 i ∧ wx = w.drewN k ∧ Hid (valFrom 0 f = valFrom V (f.drop i)) ∧ Hid (wholeM f = true ↔ checkP mk (f.drop i)))
                  case atStart => exact ⟨0, _, 0, 0, Nat.zero_le _, rfl, rfl, rfl, rfl, rfl, hide rfl, hwc⟩
                  case round =>
                    clear hi hlt hz
                    obtain ⟨i, k, N, V, hi, rfl, hN, rfl, rfl, rfl, hV, hw⟩ := hrel
                    have hNm : N ≤ 9007199254740992 := by omega
                    have HN := hide hN
                    clear hN
                    by_cases hlt : i < s.size
                    · have hz : (i : Int) < (s.size : Int) := by omega
                      have his : i < s.size := by omega
                      have hzs : (i : Int) < (s.size : Int) := by omega
                      have hb := Hfront.out i his (by rw [HL.out]; exact hlt)
                      obtain ⟨b, hbf⟩ : ∃ b, f[i]'(by rw [HL.out]; exact hlt) = b := ⟨_, rfl⟩
                      rw [hbf] at hb
                      have hdr : Hid (f.drop i = b :: f.drop (i + 1)) := hide (by rw [List.drop_eq_getElem_cons (by rw [HL.out]; exact hlt), hbf])
                      have htl : Hid ((f.drop (i + 1)).length + 1 = s.size - i) := hide (by rw [List.length_drop, HL.out]; omega)
                      clear hbf
                      have hw2 : Hid (wholeM f = true ↔ (b = 39 ↔ mk = true ∧ (s.size - i) % 4 = 0) ∧ ((mk = true ∧ (s.size - i) % 4 = 0) ∨ digitR b.toNat = true) ∧ checkP mk (f.drop (i + 1))) := hide (by
                        rw [hw.out, hdr.out]
                        show (_ ↔ _ ∧ (_ + 1) % 4 = 0) ∧ ((_ ∧ (_ + 1) % 4 = 0) ∨ _) ∧ _ ↔ _
                        rw [htl.out])
                      have hV2 : Hid (valFrom 0 f = if b.toNat = 39 then valFrom V (f.drop (i + 1)) else valFrom (V * 10 + (b.toNat - 48)) (f.drop (i + 1))) := hide (by rw [hV.out, hdr.out]; rfl)
                      clear hw hV hdr htl
                      have hdg := digit_any b.toNat
                      have h256 := b.toNat_lt
                      have four : (mk = true ∧ (s.size - i) % 4 = 0 ∧ b = 39) ∨ (¬ (mk = true ∧ (s.size - i) % 4 = 0) ∧ digitR b.toNat = true) ∨ (((mk = true ∧ (s.size - i) % 4 = 0) ∧ b ≠ 39) ∨ (¬ (mk = true ∧ (s.size - i) % 4 = 0) ∧ digitR b.toNat = false)) := by
                        by_cases hp : mk = true ∧ (s.size - i) % 4 = 0
                        · by_cases h39 : b = 39
                          · left; exact ⟨hp.1, hp.2, h39⟩
                          · right; right; left; exact ⟨hp, h39⟩
                        · cases hd : digitR b.toNat with
                          | true => right; left; exact ⟨hp, rfl⟩
                          | false => right; right; right; exact ⟨hp, rfl⟩
                      rcases four with ⟨p1, p2, p3⟩ | ⟨p1, p2⟩ | p
                      · have e1 : ((b.toNat : Int) == 39) = true := beq_iff_eq.2 (by rw [p3]; rfl)
                        have e2 : ((s.size : Int) - (i : Int)) % 4 = 0 := by omega
                        have e3 : ¬ (9007199254740992 : Int) < (N : Int) := by omega
                        have hw3 : Hid (wholeM f = true ↔ checkP mk (f.drop (i + 1))) := hide (by
                          rw [hw2.out]
                          exact ⟨fun h => h.2.2, fun h => ⟨⟨fun _ => ⟨p1, p2⟩, fun _ => p3⟩, Or.inl ⟨p1, p2⟩, h⟩⟩)
                        have hV3 : Hid (valFrom 0 f = valFrom V (f.drop (i + 1))) := hide (by rw [hV2.out, if_pos (by rw [p3]; rfl)])
                        clear hw2 hV2 p3 p2 hdg
                        subst p1
                        go_wp2_with fail
                        go_roundg (s.size - (i + 1))
                        case measure => go_light; omega
                        case rel => go_light; exact ⟨i + 1, k, N, V, by omega, rfl, HN.out, rfl, by simp, rfl, hV3, hw3⟩
                      · rw [p2] at hdg
                        rw [digit_iff] at p2
                        have e1 : ((b.toNat : Int) == 39) = false := beq_eq_false_iff_ne.2 (by omega)
                        have hw3 : Hid (wholeM f = true ↔ checkP mk (f.drop (i + 1))) := hide (by
                          rw [hw2.out]
                          refine ⟨fun h => h.2.2, fun h => ⟨⟨fun e => by rw [e] at p2; exact absurd p2.1 (by decide), fun e => absurd e p1⟩, Or.inr (by rw [digit_iff]; exact p2), h⟩⟩)
                        obtain ⟨D, hD, hBD⟩ : ∃ D, D ≤ 9 ∧ b.toNat = 48 + D := ⟨b.toNat - 48, by omega, by omega⟩
                        have hV3 : Hid (valFrom 0 f = valFrom (V * 10 + D) (f.drop (i + 1))) := hide (by rw [hV2.out, if_neg (by omega), show b.toNat - 48 = D by omega])
                        rw [hBD] at hdg
                        have hBDz : (b.toNat : Int) = 48 + (D : Int) := by omega
                        clear hw2 hV2 p2 e1
                        have n39 : ((48 : Int) + (D : Int) == 39) = false := beq_eq_false_iff_ne.2 (by omega)
                        have w1 : IntKind.u8.wrap ((48 : Int) + (D : Int) - 48) = (D : Int) := by rw [show (48 : Int) + (D : Int) - 48 = D by omega]; exact wr_u8 (by omega) (by omega)
                        have five : (mk = false) ∨ (mk = true ∧ (((s.size : Int) - (i : Int)) % 4 == 0) = false) := by
                          cases mk with
                          | false => exact Or.inl rfl
                          | true => right; exact ⟨rfl, beq_eq_false_iff_ne.2 (fun e => p1 ⟨rfl, by omega⟩)⟩
                        clear p1
                        have HB := hide hBD
                        clear hBD h256
                        have hdz : ∀ W : World, Calls Tryd.prog 41 #[.int .u8 (48 + (D : Int))] W fun e w' => e = .returned (.bool true) ∧ w' = W := fun W => hdg W
                        clear hdg
                        by_cases hov : 9007199254740992 < N * 10 + D
                        · have z1 : (9007199254740992 : Int) < 10 * (N : Int) + (D : Int) := by omega
                          rcases five with rfl | ⟨rfl, e5⟩
                          all_goals
                            go_wp2_with (first | (go_at_call 41; refine (hdz _).mono ?_; rintro e w4 ⟨rfl, e4⟩; subst e4))
                            go_roundg (s.size - (i + 1))
                            case measure => go_light; omega
                            case rel => go_light; exact ⟨i + 1, k, 9007199254740992, V * 10 + D, by omega, rfl, by have := HN.out; omega, rfl, by simp, rfl, hV3, hw3⟩
                        · have z1 : ¬ (9007199254740992 : Int) < 10 * (N : Int) + (D : Int) := by omega
                          rcases five with rfl | ⟨rfl, e5⟩
                          all_goals
                            go_wp2_with (first | (go_at_call 41; refine (hdz _).mono ?_; rintro e w4 ⟨rfl, e4⟩; subst e4))
                            go_roundg (s.size - (i + 1))
                            case measure => go_light; omega
                            case rel => go_light; exact ⟨i + 1, k, N * 10 + D, V * 10 + D, by omega, rfl, by have := HN.out; omega, by congr 1; omega, by simp, rfl, hV3, hw3⟩
                      · have hno : Hid (ANS = .tuple #[.int .u64 0, .int .i64 21]) := hide (by
                          rw [HANS.out]
                          unfold ansV
                          refine if_neg (fun h => ?_)
                          have h := hw2.out.1 h
                          rcases p with ⟨p1, p2⟩ | ⟨p1, p2⟩
                          · exact p2 (h.1.2 p1)
                          · rcases h.2.1 with h | h
                            · exact p1 h
                            · rw [p2] at h; cases h)
                        clear hw2 hV2
                        rcases p with ⟨⟨rfl, p1⟩, p2⟩ | ⟨p1, p2⟩
                        · have e1 : ((b.toNat : Int) == 39) = false := beq_eq_false_iff_ne.2 (fun e => p2 (UInt8.toNat_inj.1 (show b.toNat = 39 by omega)))
                          have e2 : ((s.size : Int) - (i : Int)) % 4 = 0 := by omega
                          clear p2 p1 hdg
                          go_wp2_with fail
                          go_ret2
                          exact ⟨by rw [hno.out]; rfl, k, rfl⟩
                        · rw [p2] at hdg
                          have five : (mk = false) ∨ (mk = true ∧ (((s.size : Int) - (i : Int)) % 4 == 0) = false) := by
                            cases mk with
                            | false => exact Or.inl rfl
                            | true => right; exact ⟨rfl, beq_eq_false_iff_ne.2 (fun e => p1 ⟨rfl, by omega⟩)⟩
                          have six : ((b.toNat : Int) == 39) = true ∨ ((b.toNat : Int) == 39) = false := by
                            cases (b.toNat : Int) == 39 <;> simp
                          clear p1 p2
                          rcases five with rfl | ⟨rfl, e5⟩
                          all_goals
                            rcases six with e1 | e1
                            all_goals
                              go_wp2_with (first | (go_at_call 41; refine (hdg _).mono ?_; rintro e w4 ⟨rfl, e4⟩; subst e4))
                              go_ret2
                              exact ⟨by rw [hno.out]; rfl, k, rfl⟩
                    · have hz : ¬ (i : Int) < (s.size : Int) := by omega
                      have hW : wholeM f = true := hw.out.2 (by rw [List.drop_eq_nil_of_le (by rw [HL.out]; omega)]; trivial)
                      have hVV : valFrom 0 f = V := by rw [hV.out, List.drop_eq_nil_of_le (by rw [HL.out]; omega)]; rfl
                      have hA := HANS.out
                      unfold ansV at hA
                      rw [if_pos hW, hVV] at hA
                      clear hW hVV hw hV
                      by_cases hov : 100 * V + 0 ≤ 9007199254740992
                      · rw [if_pos hov] at hA
                        have hno := hide hA
                        clear hA
                        have hNV : N = V := by have := HN.out; omega
                        subst hNV
                        have z1 : ¬ (9007199254740992 : Int) < 100 * (N : Int) := by omega
                        go_wp2_with fail
                        go_ret2
                        refine ⟨?_, k, rfl⟩
                        rw [hno.out]
                        have : ((100 * N + 0 : Nat) : Int) = 100 * (N : Int) := by omega
                        rw [this]
                        rfl
                      · rw [if_neg hov] at hA
                        have hno := hide hA
                        clear hA
                        have z1 : (9007199254740992 : Int) < 100 * (N : Int) := by have := HN.out; omega
                        clear hov
                        go_wp2_with fail
                        go_ret2
                        exact ⟨by rw [hno.out]; rfl, k, rfl⟩


set_option maxHeartbeats 3200000 in
set_option maxRecDepth 100000 in
theorem refAmount_bad (s : ByteArray) (f r : List UInt8) (hl : s.data.toList = f ++ 46 :: r) (hp : isPartM r = false) (hno : ∀ b ∈ f, b ≠ 46) (hmax : s.size ≤ 140737488355328) (w : World) :
    Calls Tryd.prog 17 #[.string s] w fun e w' => e = .returned (.tuple #[.int .u64 0, .int .i64 21]) ∧ ∃ k, w' = w.drewN k := by
  obtain ⟨L, hL⟩ : ∃ L, f.length = L := ⟨_, rfl⟩
  have hsz : s.size = L + 1 + r.length := by rw [← list_size, hl, List.length_append, hL, List.length_cons]; omega
  have HL := hide hL
  have Hfront : Hid (∀ (i : Nat) (hi : i < s.size) (hf : i < f.length), s[i]'hi = f[i]) := hide (fun i hi hf => get_front hl i hi hf)
  have i0 : L < s.size := by omega
  have b0 : s[L]'i0 = 46 := get_back hl L 0 i0 (by omega) (by simp)
  have Hno : Hid (∀ b ∈ f, b ≠ 46) := hide hno
  have three : (((L : Int) + 3 == (s.size : Int)) = false ∧ ((L : Int) + 3 != (s.size : Int)) = true) ∨ ∃ (X Y : UInt8) (i1 : L + 1 < s.size) (i2 : L + 2 < s.size), L + 3 = s.size ∧ s[L + 1]'i1 = X ∧ s[L + 2]'i2 = Y ∧ (digitR X.toNat && digitR Y.toNat) = false := by
    by_cases h2 : r.length = 2
    · right
      have i1 : L + 1 < s.size := by omega
      have i2 : L + 2 < s.size := by omega
      refine ⟨_, _, i1, i2, by omega, rfl, rfl, ?_⟩
      rw [get_back hl (L + 1) 1 i1 (by omega) (by simp; omega), get_back hl (L + 2) 2 i2 (by omega) (by simp; omega)]
      obtain ⟨a, b, rfl⟩ : ∃ a b, r = [a, b] := by
        match r, h2 with
        | [a, b], _ => exact ⟨a, b, rfl⟩
      simp only [isPartM, allD_cons] at hp
      simpa [allD] using hp
    · left
      refine ⟨beq_eq_false_iff_ne.2 (by omega), ?_⟩
      simp
      omega
  clear hl hno hL hsz hp
  go_enter Tryd.func17, Tryd.ntmps17
  go_wp2_with fail
  go_loopg [4, 5, 6] (L + 1) (fun q s4 s5 s6 wx => ∃ i : Nat, i ≤ L ∧ q = L + 1 - i ∧ s4 = .int .i64 s.size ∧ s5 = .int .i64 0 ∧ s6 = .int .i64 i ∧ wx = w)
  case atStart => exact ⟨0, Nat.zero_le _, rfl, rfl, rfl, rfl, rfl⟩
  case round =>
    obtain ⟨i, hi, rfl, rfl, rfl, rfl, rfl⟩ := hrel
    by_cases hlt : i < L
    · have his : i < s.size := by omega
      have hzs : (i : Int) < (s.size : Int) := by omega
      have hb := Hfront.out i his (by rw [HL.out]; exact hlt)
      have hne : f[i]'(by rw [HL.out]; exact hlt) ≠ 46 := Hno.out _ (List.getElem_mem _)
      generalize f[i]'(by rw [HL.out]; exact hlt) = b at *
      have e1 : ((b.toNat : Int) == 46) = false := beq_eq_false_iff_ne.2 (fun e => hne (UInt8.toNat_inj.1 (show b.toNat = 46 by omega)))
      clear hne three
      go_wp2_with fail
      go_roundg (L + 1 - (i + 1))
      case measure => go_light; omega
      case rel => go_light; exact ⟨i + 1, by omega, rfl, rfl, rfl, by simp, rfl⟩
    · obtain rfl : L = i := by omega
      have hzs : (L : Int) < (s.size : Int) := by omega
      rcases three with ⟨e3, e4⟩ | ⟨X, Y, i1, i2, hs3, hX, hY, hxy⟩
      · go_wp2_with fail
        go_ret2
        exact ⟨rfl, 0, rfl⟩
      · have hzs1 : (L : Int) + 1 < (s.size : Int) := by omega
        have hzs2 : (L : Int) + 2 < (s.size : Int) := by omega
        have e3 : ((L : Int) + 3 == (s.size : Int)) = true := beq_iff_eq.2 (by omega)
        have e4 : ((L : Int) + 3 != (s.size : Int)) = false := by simp; omega
        have g1 := digit_any X.toNat
        have g2 := digit_any Y.toNat
        clear hs3
        cases hx : digitR X.toNat with
        | false =>
          rw [hx] at g1
          clear hxy hx
          go_wp2_with (first | (go_at_call 41; refine (g1 _).mono ?_; rintro e w4 ⟨rfl, e4⟩; subst e4))
          go_ret2
          exact ⟨rfl, 0, rfl⟩
        | true =>
          rw [hx, Bool.true_and] at hxy
          rw [hx] at g1
          rw [hxy] at g2
          clear hxy hx
          go_wp2_with (first | (go_at_call 41; first | (refine (g1 _).mono ?_; rintro e w4 ⟨rfl, e4⟩; subst e4) | (refine (g2 _).mono ?_; rintro e w4 ⟨rfl, e4⟩; subst e4)))
          go_ret2
          exact ⟨rfl, 0, rfl⟩

/-- What the reference's Amount answers. -/
theorem refAmount_any (s : ByteArray) (hmax : s.size ≤ 140737488355328) (w : World) :
    Calls Tryd.prog 17 #[.string s] w fun e w' => e = .returned (amountV s.data.toList) ∧ ∃ k, w' = w.drewN k := by
  have hj := cut1_join 46 s.data.toList
  by_cases hm : (46 : UInt8) ∈ s.data.toList
  · obtain ⟨h1, h2⟩ := cut1_some 46 _ hm
    rw [h1] at hj
    simp only [if_true] at hj
    have hc : cut1 46 s.data.toList = ((cut1 46 s.data.toList).1, (cut1 46 s.data.toList).2.1, true) := by rw [← h1]
    generalize (cut1 46 s.data.toList).1 = f at *
    generalize (cut1 46 s.data.toList).2.1 = r at *
    cases hp : isPartM r with
    | false =>
      have := refAmount_bad s f r hj hp h2 hmax w
      unfold amountV
      rw [amount_bad _ f r hc hp]
      exact this
    | true =>
      obtain ⟨x, y, hx, hy, hr⟩ : ∃ x y, x ≤ 9 ∧ y ≤ 9 ∧ r = [UInt8.ofNat (48 + x), UInt8.ofNat (48 + y)] := by
        unfold isPartM at hp
        obtain ⟨p1, p2⟩ := Bool.and_eq_true_iff.1 hp
        obtain ⟨a, b, rfl⟩ : ∃ a b, r = [a, b] := by
          have := of_decide_eq_true p1
          match r, this with
          | [a, b], _ => exact ⟨a, b, rfl⟩
        obtain ⟨q1, q2⟩ := allD_split p2
        obtain ⟨q3, _⟩ := allD_split q2
        rw [digit_iff] at q1 q3
        refine ⟨a.toNat - 48, b.toNat - 48, by omega, by omega, ?_⟩
        rw [show 48 + (a.toNat - 48) = a.toNat by omega, show 48 + (b.toNat - 48) = b.toNat by omega]
        simp
      rw [hr] at hj
      have := refAmount_dot s f x y hx hy hj h2 hmax w
      unfold amountV
      rw [amount_parts _ f r hc x y hx hy hr]
      unfold ansV at this
      by_cases hw : wholeM f = true
      · simp only [if_pos hw] at this ⊢
        by_cases hv : 100 * valFrom 0 f + (10 * x + y) ≤ 9007199254740992
        · simp only [if_pos hv] at this ⊢; exact this
        · simp only [if_neg hv] at this ⊢; exact this
      · simp only [if_neg hw] at this ⊢; exact this
  · have hc := cut1_none 46 _ hm
    have := refAmount_bare s s.data.toList rfl (fun b hb e => hm (e ▸ hb)) hmax w
    unfold amountV
    rw [amount_bare _ _ _ hc]
    unfold ansV at this
    by_cases hw : wholeM s.data.toList = true
    · simp only [if_pos hw, Nat.add_zero] at this ⊢
      by_cases hv : 100 * valFrom 0 s.data.toList ≤ 9007199254740992
      · simp only [if_pos hv] at this ⊢; exact this
      · simp only [if_neg hv] at this ⊢; exact this
    · simp only [if_neg hw] at this ⊢; exact this
end Go.Proofs.YthoeehgnkolgpaaDoor
