/- The reference's Good and Check: what they answer of any text. -/
import Derived.Test.YthoeehgnkolgpaaDoorRefPoint
import Derived.Deep.LoopGhost
import Derived.Deep.Light
namespace Go.Proofs.YthoeehgnkolgpaaDoor
open Go.RowKit

theorem ptM_cases (l : List UInt8) : ((Lib.decodeL l).1 = 65533 ∧ (Lib.decodeL l).2 = 1 ∧ ptM l = (0, 0)) ∨ (¬ ((Lib.decodeL l).1 = 65533 ∧ (Lib.decodeL l).2 = 1) ∧ ptM l = Lib.decodeL l) := by
  unfold ptM
  by_cases h : (Lib.decodeL l).1 = 65533 ∧ (Lib.decodeL l).2 = 1
  · left; exact ⟨h.1, h.2, if_pos h⟩
  · right; exact ⟨h, if_neg h⟩
theorem valid_unfold (f : Nat) (l : List UInt8) (h : l ≠ []) : Lib.validGoD (f + 1) l = if (Lib.decodeL l).1 = 65533 ∧ (Lib.decodeL l).2 = 1 then false else Lib.validGoD f (l.drop (Lib.decodeL l).2) := by
  rw [Lib.validGoD, if_neg h]

set_option maxHeartbeats 1600000 in
set_option maxRecDepth 100000 in
theorem good_any (s : ByteArray) (w : World) (hmax : s.size ≤ 140737488355328) :
    Calls Tryd.prog 45 #[.string s] w fun e w' => e = .returned (.bool (Lib.validD s.data.toList)) ∧ w' = w := by
  obtain ⟨ANS, hANS⟩ : ∃ A, A = Lib.validD s.data.toList := ⟨_, rfl⟩
  rw [← hANS]
  have HANS := hide hANS
  clear hANS
  go_enter Tryd.func45, Tryd.ntmps45
  go_wp2_with fail
  go_loopg [3] s.size (fun q s3 wx => ∃ i f : Nat, i ≤ s.size ∧ q = s.size - i ∧ s3 = .int .i64 i ∧ wx = w ∧ s.size ≤ i + f ∧ Hid (Lib.validGoD f (s.data.toList.drop i) = ANS))
  case atStart => exact ⟨0, s.size, Nat.zero_le _, rfl, rfl, rfl, by omega, hide (by rw [HANS.out, Lib.validD, list_size]; rfl)⟩
  case round =>
    obtain ⟨i, f, hi, rfl, rfl, rfl, hf, hr⟩ := hrel
    by_cases hlt : i < s.size
    · have hz : (i : Int) < (s.size : Int) := by omega
      have hp := point_any s i wr hlt hmax
      have hne : s.data.toList.drop i ≠ [] := by rw [drop_at s i hlt]; simp
      obtain ⟨f', rfl⟩ : ∃ f', f = f' + 1 := ⟨f - 1, by omega⟩
      have hst : Hid (ANS = if (Lib.decodeL (s.data.toList.drop i)).1 = 65533 ∧ (Lib.decodeL (s.data.toList.drop i)).2 = 1 then false else Lib.validGoD f' (s.data.toList.drop (i + (Lib.decodeL (s.data.toList.drop i)).2))) := hide (by
        rw [← hr.out, valid_unfold f' _ hne, List.drop_drop])
      have hwid : i + (Lib.decodeL (s.data.toList.drop i)).2 ≤ s.size := by rw [Lib.decodeL_drop]; exact decode_within s i hlt
      have hW := Lib.decodeL_width (s.data.toList.drop i)
      have hpc := ptM_cases (s.data.toList.drop i)
      unfold ptV at hp
      clear hr hne
      rcases hpc with ⟨h1, h2, h3⟩ | ⟨h1, h3⟩
      · rw [h3] at hp
        have hst2 : Hid (ANS = false) := hide (by rw [hst.out, if_pos ⟨h1, h2⟩])
        clear h1 h2 h3 hst hwid hW
        go_wp2_with fail
        refine hp.mono ?_
        rintro e w4 ⟨rfl, e4⟩
        subst e4
        go_wp2_with fail
        go_ret
        exact ⟨by rw [hst2.out]; rfl, rfl⟩
      · rw [h3] at hp
        rw [if_neg h1] at hst
        clear h1 h3
        generalize Lib.decodeL (s.data.toList.drop i) = R at *
        obtain ⟨r, k⟩ := R
        simp only at hp hst hwid hW
        have hk : ((k : Int) == 0) = false := beq_eq_false_iff_ne.2 (by omega)
        go_wp2_with fail
        refine hp.mono ?_
        rintro e w4 ⟨rfl, e4⟩
        subst e4
        go_wp2_with fail
        go_roundg (s.size - (i + k))
        case measure => go_light; omega
        case rel => go_light; exact ⟨i + k, f', hwid, rfl, by simp, rfl, by omega, hide hst.out.symm⟩
    · have hz : ¬ (i : Int) < (s.size : Int) := by omega
      have hfin : Hid (ANS = true) := hide (by
        rw [← hr.out, drop_end s i hlt]
        cases f with
        | zero => rfl
        | succ f => rfl)
      go_wp2_with fail
      go_ret
      exact ⟨by rw [hfin.out]; rfl, rfl⟩

theorem name_classes (c : Nat) : (128 ≤ c) ∨ (97 ≤ c ∧ c ≤ 122) ∨ (65 ≤ c ∧ c ≤ 90) ∨ (48 ≤ c ∧ c ≤ 57) ∨ c = 45 ∨ c = 46 ∨ c = 95 ∨ (mayNameR c = false ∧ c < 128 ∧ (c < 97 ∨ 122 < c) ∧ (c < 65 ∨ 90 < c) ∧ (c < 48 ∨ 57 < c) ∧ c ≠ 45 ∧ c ≠ 46 ∧ c ≠ 95) := by
  by_cases h : mayNameR c = true
  · simp only [mayNameR, decide_eq_true_eq] at h
    omega
  · have h' : mayNameR c = false := by simpa using h
    simp only [mayNameR, decide_eq_true_eq] at h
    by_cases h2 : 128 ≤ c
    · exact Or.inl h2
    · right; right; right; right; right; right; right
      exact ⟨h', by omega, by omega, by omega, by omega, by omega, by omega, by omega⟩

end Go.Proofs.YthoeehgnkolgpaaDoor
