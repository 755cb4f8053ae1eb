/- Plain mathematics of folding: what a fold of any name is. No program here. -/
import Derived.Test.YthoeehgnkolgpaaDoorFoldMath
namespace Go.Proofs.YthoeehgnkolgpaaDoor
open Go.RowKit

theorem toNat_eq {b : UInt8} {n : Nat} (h : b.toNat = n) (hn : n < 256) : b = UInt8.ofNat n := UInt8.toNat_inj.1 (by rw [h, of_nat n hn])
/-- The four ways of a decoding. -/
theorem decode_ways (b : UInt8) (t : List UInt8) :
    (Lib.decodeL (b :: t)).2 = 1 ∧ ((b.toNat < 128 ∧ (Lib.decodeL (b :: t)).1 = b.toNat) ∨ (128 ≤ b.toNat ∧ (Lib.decodeL (b :: t)).1 = 65533 ∧ (b.toNat = 195 → ¬ contB (t.getD 0 0).toNat))) ∨
    ((Lib.decodeL (b :: t)).2 = 2 ∧ ∃ c t', t = c :: t' ∧ contB c.toNat ∧ 192 ≤ b.toNat ∧ b.toNat ≤ 223 ∧ (Lib.decodeL (b :: t)).1 = b.toNat % 32 * 64 + c.toNat % 64 ∧ 128 ≤ (Lib.decodeL (b :: t)).1) ∨
    ((Lib.decodeL (b :: t)).2 = 3 ∧ ∃ c d t', t = c :: d :: t' ∧ contB c.toNat ∧ contB d.toNat ∧ 224 ≤ b.toNat ∧ 2048 ≤ (Lib.decodeL (b :: t)).1) ∨
    ((Lib.decodeL (b :: t)).2 = 4 ∧ ∃ c d e t', t = c :: d :: e :: t' ∧ contB c.toNat ∧ contB d.toNat ∧ contB e.toNat ∧ 224 ≤ b.toNat ∧ 2048 ≤ (Lib.decodeL (b :: t)).1) := by
  rw [decodeL_N]
  have h256 := b.toNat_lt
  simp only [List.length_cons, List.getD_cons_zero, List.getD_cons_succ]
  have hb0 : (t.getD 0 0).toNat < 256 := (t.getD 0 0).toNat_lt
  have hb1 : (t.getD 1 0).toNat < 256 := (t.getD 1 0).toNat_lt
  have hb2 : (t.getD 2 0).toNat < 256 := (t.getD 2 0).toNat_lt
  have l1 : 1 < t.length + 1 → ∃ c t', t = c :: t' ∧ (t.getD 0 0) = c := fun h => by
    cases t with
    | nil => simp at h
    | cons c t' => exact ⟨c, t', rfl, rfl⟩
  have l2 : 2 < t.length + 1 → ∃ c d t', t = c :: d :: t' ∧ (t.getD 0 0) = c ∧ (t.getD 1 0) = d := fun h => by
    match t, h with
    | c :: d :: t', _ => exact ⟨c, d, t', rfl, rfl, rfl⟩
  have l3 : 3 < t.length + 1 → ∃ c d e t', t = c :: d :: e :: t' ∧ (t.getD 0 0) = c ∧ (t.getD 1 0) = d ∧ (t.getD 2 0) = e := fun h => by
    match t, h with
    | c :: d :: e :: t', _ => exact ⟨c, d, e, t', rfl, rfl, rfl, rfl⟩
  have z0 : ¬ 1 < t.length + 1 → (t.getD 0 0).toNat = 0 := fun h => by
    cases t with
    | nil => rfl
    | cons c t' => simp at h
  generalize hn : t.length + 1 = n at *
  generalize h1 : (t.getD 0 0) = B1 at *
  generalize h2 : (t.getD 1 0) = B2 at *
  generalize h3 : (t.getD 2 0) = B3 at *
  unfold Lib.decodeN
  by_cases a0 : b.toNat < 128
  · rw [if_pos a0]; left; exact ⟨rfl, Or.inl ⟨a0, rfl⟩⟩
  rw [if_neg a0]
  by_cases a1 : b.toNat / 32 = 6 ∧ (1 < n ∧ B1.toNat / 64 = 2)
  · rw [if_pos a1]
    by_cases a2 : b.toNat % 32 * 64 + B1.toNat % 64 ≥ 128
    · rw [if_pos a2]
      right; left
      obtain ⟨c, t', rfl, rfl⟩ := l1 a1.2.1
      exact ⟨rfl, _, _, rfl, by unfold contB; omega, by omega, by omega, rfl, a2⟩
    · rw [if_neg a2]
      left
      exact ⟨rfl, Or.inr ⟨by omega, rfl, fun e => by omega⟩⟩
  rw [if_neg a1]
  have nc : b.toNat = 195 → ¬ contB B1.toNat := fun e hc => by
    by_cases hh : 1 < n
    · exact a1 ⟨by omega, hh, by unfold contB at hc; omega⟩
    · have := z0 hh; unfold contB at hc; omega
  by_cases a2 : b.toNat / 16 = 14 ∧ (1 < n ∧ B1.toNat / 64 = 2) ∧ (2 < n ∧ B2.toNat / 64 = 2)
  · rw [if_pos a2]
    by_cases a3 : b.toNat % 16 * 4096 + B1.toNat % 64 * 64 + B2.toNat % 64 ≥ 2048 ∧ (b.toNat % 16 * 4096 + B1.toNat % 64 * 64 + B2.toNat % 64 < 55296 ∨ (57344 ≤ b.toNat % 16 * 4096 + B1.toNat % 64 * 64 + B2.toNat % 64 ∧ b.toNat % 16 * 4096 + B1.toNat % 64 * 64 + B2.toNat % 64 ≤ 1114111))
    · rw [if_pos a3]
      right; right; left
      obtain ⟨c, d, t', rfl, rfl, rfl⟩ := l2 a2.2.2.1
      exact ⟨rfl, _, _, _, rfl, by unfold contB; omega, by unfold contB; omega, by omega, a3.1⟩
    · rw [if_neg a3]
      left
      exact ⟨rfl, Or.inr ⟨by omega, rfl, nc⟩⟩
  rw [if_neg a2]
  by_cases a3 : b.toNat / 8 = 30 ∧ (1 < n ∧ B1.toNat / 64 = 2) ∧ (2 < n ∧ B2.toNat / 64 = 2) ∧ (3 < n ∧ B3.toNat / 64 = 2)
  · rw [if_pos a3]
    generalize b.toNat % 8 * 262144 + B1.toNat % 64 * 4096 + B2.toNat % 64 * 64 + B3.toNat % 64 = V
    by_cases a4 : V ≥ 65536 ∧ (V < 55296 ∨ (57344 ≤ V ∧ V ≤ 1114111))
    · rw [if_pos a4]
      right; right; right
      obtain ⟨c, d, e, t', rfl, rfl, rfl, rfl⟩ := l3 a3.2.2.2.1
      exact ⟨rfl, _, _, _, _, rfl, by unfold contB; omega, by unfold contB; omega, by unfold contB; omega, by omega, by show 2048 ≤ V; omega⟩
    · rw [if_neg a4]
      left
      exact ⟨rfl, Or.inr ⟨by omega, rfl, nc⟩⟩
  rw [if_neg a3]
  left
  exact ⟨rfl, Or.inr ⟨by omega, rfl, nc⟩⟩
theorem fold1_same {p b : UInt8} (h : ¬ ((65 ≤ b.toNat ∧ b.toNat ≤ 90) ∨ (p = 195 ∧ 128 ≤ b.toNat ∧ b.toNat ≤ 158 ∧ b.toNat ≠ 151))) : foldB1 p b = b := if_neg h
theorem fold1_cont {p b : UInt8} (hp : p ≠ 195) (h : 128 ≤ b.toNat) : foldB1 p b = b := fold1_same (by simp only [hp, false_and, or_false]; omega)
theorem ne_195 {b : UInt8} (h : b.toNat ≠ 195) : b ≠ 195 := fun e => h (by rw [e]; rfl)
theorem cont_ne {b : UInt8} (h : contB b.toNat) : b ≠ 195 := ne_195 (by unfold contB at h; omega)
theorem enc_two {c : Nat} (h : 128 ≤ c) (h2 : c ≤ 158) : Lib.encodeRune (((195 % 32 * 64 + c % 64 : Nat) : Int) + 32) = [195, UInt8.ofNat (c + 32)] := by
  unfold Lib.encodeRune
  rw [Lib.encodeRuneZ_two (by omega) (by omega)]
  simp only [List.map]
  rw [show ((192 : Int) + (((195 % 32 * 64 + c % 64 : Nat) : Int) + 32) / 64).toNat = 195 by omega, show ((128 : Int) + (((195 % 32 * 64 + c % 64 : Nat) : Int) + 32) % 64).toNat = c + 32 by omega]
  rfl
theorem enc_one {b : Nat} (h : b ≤ 90) : Lib.encodeRune ((b : Int) + 32) = [UInt8.ofNat (b + 32)] := by
  unfold Lib.encodeRune
  rw [Lib.encodeRuneZ_one (by omega) (by omega)]
  simp only [List.map]
  rw [show ((b : Int) + 32).toNat = b + 32 by omega]
theorem decode_two (c : UInt8) (t : List UInt8) (h : contB c.toNat) : Lib.decodeL (195 :: c :: t) = (195 % 32 * 64 + c.toNat % 64, 2) := by
  rw [decodeL_N]
  simp only [List.length_cons, List.getD_cons_zero, List.getD_cons_succ]
  unfold Lib.decodeN
  have e : (195 : UInt8).toNat = 195 := rfl
  rw [e, if_neg (by decide), if_pos ⟨by decide, by omega, by unfold contB at h; omega⟩, if_pos (by omega)]
theorem decode_one (b : UInt8) (t : List UInt8) (h : b.toNat < 128) : Lib.decodeL (b :: t) = (b.toNat, 1) := by
  rw [decodeL_N]
  simp only [List.getD_cons_zero]
  unfold Lib.decodeN
  rw [if_pos h]
/-- One code point further, folded. -/
theorem fold_step (p b : UInt8) (t : List UInt8) (hp : p = 195 → ¬ contB b.toNat) :
    ∃ q, (q = 195 → ¬ contB (((b :: t).drop (Lib.decodeL (b :: t)).2).getD 0 0).toNat) ∧
      foldB p (b :: t) = (if movesR (Lib.decodeL (b :: t)).1 = true then Lib.encodeRune (((Lib.decodeL (b :: t)).1 : Int) + 32) else (b :: t).take (Lib.decodeL (b :: t)).2) ++ foldB q ((b :: t).drop (Lib.decodeL (b :: t)).2) ∧
      Lib.decodeL (foldB p (b :: t)) = (if movesR (Lib.decodeL (b :: t)).1 = true then (Lib.decodeL (b :: t)).1 + 32 else (Lib.decodeL (b :: t)).1, (Lib.decodeL (b :: t)).2) := by
  have h256 := b.toNat_lt
  rcases decode_ways b t with ⟨hw, ⟨hb, hr⟩ | ⟨hb, hr, hc⟩⟩ | ⟨hw, c, t', rfl, hc, hb1, hb2, hr, hr2⟩ | ⟨hw, c, d, t', rfl, hc, hd, hb, hr⟩ | ⟨hw, c, d, e, t', rfl, hc, hd, he, hb, hr⟩
  · have hq : b = 195 → ¬ contB (t.getD 0 0).toNat := fun e => by rw [e] at hb; exact absurd hb (by decide)
    refine ⟨b, by rw [hw]; exact hq, ?_, ?_⟩
    · rw [hr, hw]
      show foldB1 p b :: foldB b t = _
      by_cases hm : 65 ≤ b.toNat ∧ b.toNat ≤ 90
      · rw [if_pos (by simp [movesR]; omega), enc_one hm.2]
        unfold foldB1
        rw [if_pos (Or.inl hm)]
        rfl
      · rw [if_neg (by simp [movesR]; omega), fold1_same (by omega)]
        rfl
    · rw [hr, hw]
      show Lib.decodeL (foldB1 p b :: foldB b t) = _
      have hn := foldB1_nat p b
      by_cases hm : 65 ≤ b.toNat ∧ b.toNat ≤ 90
      · rw [if_pos (Or.inl hm)] at hn
        rw [decode_one _ _ (by omega), if_pos (by simp [movesR]; omega), hn]
      · rw [if_neg (by omega)] at hn
        rw [decode_one _ _ (by omega), if_neg (by simp [movesR]; omega), hn]
  · have hq : b = 195 → ¬ contB (t.getD 0 0).toNat := fun e => hc (by rw [e]; rfl)
    have hsame : foldB1 p b = b := fold1_same (fun h => by
      rcases h with h | h
      · omega
      · exact hp h.1 (by unfold contB; omega))
    refine ⟨b, by rw [hw]; exact hq, ?_, ?_⟩
    · rw [hr, hw]
      show foldB1 p b :: foldB b t = _
      rw [if_neg (by decide), hsame]
      rfl
    · rw [hr]
      show Lib.decodeL (foldB1 p b :: foldB b t) = _
      rw [hsame, ← decode_alike b (alike_fold t b hq), if_neg (by decide), ← hr]
  · have hsame : foldB1 p b = b := fold1_same (fun h => by
      rcases h with h | h
      · omega
      · exact hp h.1 (by unfold contB; omega))
    unfold contB at hc
    by_cases h195 : b.toNat = 195
    · have hb195 : b = 195 := UInt8.toNat_inj.1 h195
      subst hb195
      have h195' : (195 : UInt8).toNat = 195 := rfl
      rw [h195'] at hr
      refine ⟨c, fun e => absurd e (cont_ne hc), ?_, ?_⟩
      · rw [hr, hw]
        show foldB1 p 195 :: foldB1 195 c :: foldB c t' = _
        rw [hsame]
        by_cases hm : c.toNat ≤ 158 ∧ c.toNat ≠ 151
        · rw [if_pos (by simp [movesR]; omega), enc_two hc.1 hm.1]
          unfold foldB1
          rw [if_pos (Or.inr ⟨rfl, hc.1, hm.1, hm.2⟩)]
          rfl
        · rw [if_neg (by simp [movesR]; omega), fold1_same (by omega)]
          rfl
      · rw [hr, hw]
        show Lib.decodeL (foldB1 p 195 :: foldB1 195 c :: foldB c t') = _
        rw [hsame]
        have hn := foldB1_nat 195 c
        by_cases hm : c.toNat ≤ 158 ∧ c.toNat ≠ 151
        · rw [if_pos (Or.inr ⟨rfl, hc.1, hm.1, hm.2⟩)] at hn
          rw [decode_two _ _ (by unfold contB; omega), if_pos (by simp [movesR]; omega), hn]
          congr 1
          omega
        · rw [if_neg (by omega)] at hn
          rw [decode_two _ _ (by unfold contB; omega), if_neg (by simp [movesR]; omega), hn]
    · have hmv : ¬ movesR (Lib.decodeL (b :: c :: t')).1 = true := by rw [hr]; simp [movesR]; omega
      have hcs : foldB1 b c = c := fold1_cont (ne_195 h195) hc.1
      refine ⟨c, fun e => absurd e (cont_ne hc), ?_, ?_⟩
      · rw [if_neg hmv, hw]
        show foldB1 p b :: foldB1 b c :: foldB c t' = _
        rw [hsame, hcs]
        rfl
      · rw [if_neg hmv]
        show Lib.decodeL (foldB1 p b :: foldB b (c :: t')) = _
        rw [hsame, ← decode_alike b (alike_fold (c :: t') b (fun e => absurd e (ne_195 h195)))]
  · have hmv : ¬ movesR (Lib.decodeL (b :: c :: d :: t')).1 = true := by simp [movesR]; omega
    have hsame : foldB1 p b = b := fold1_same (fun h => by
      rcases h with h | h
      · omega
      · exact hp h.1 (by unfold contB; omega))
    have hbn : b ≠ 195 := ne_195 (by omega)
    have hcs : foldB1 b c = c := fold1_cont hbn (by unfold contB at hc; omega)
    have hds : foldB1 c d = d := fold1_cont (cont_ne hc) (by unfold contB at hd; omega)
    refine ⟨d, fun e => absurd e (cont_ne hd), ?_, ?_⟩
    · rw [if_neg hmv, hw]
      show foldB1 p b :: foldB1 b c :: foldB1 c d :: foldB d t' = _
      rw [hsame, hcs, hds]
      rfl
    · rw [if_neg hmv]
      show Lib.decodeL (foldB1 p b :: foldB b (c :: d :: t')) = _
      rw [hsame, ← decode_alike b (alike_fold _ b (fun e => absurd e hbn))]
  · have hmv : ¬ movesR (Lib.decodeL (b :: c :: d :: e :: t')).1 = true := by simp [movesR]; omega
    have hsame : foldB1 p b = b := fold1_same (fun h => by
      rcases h with h | h
      · omega
      · exact hp h.1 (by unfold contB; omega))
    have hbn : b ≠ 195 := ne_195 (by omega)
    have hcs : foldB1 b c = c := fold1_cont hbn (by unfold contB at hc; omega)
    have hds : foldB1 c d = d := fold1_cont (cont_ne hc) (by unfold contB at hd; omega)
    have hes : foldB1 d e = e := fold1_cont (cont_ne hd) (by unfold contB at he; omega)
    refine ⟨e, fun h => absurd h (cont_ne he), ?_, ?_⟩
    · rw [if_neg hmv, hw]
      show foldB1 p b :: foldB1 b c :: foldB1 c d :: foldB1 d e :: foldB e t' = _
      rw [hsame, hcs, hds, hes]
      rfl
    · rw [if_neg hmv]
      show Lib.decodeL (foldB1 p b :: foldB b (c :: d :: e :: t')) = _
      rw [hsame, ← decode_alike b (alike_fold _ b (fun e => absurd e hbn))]

/-- Fold is byte by byte. -/
theorem foldF_B : ∀ (f : Nat) (l : List UInt8) (p : UInt8), l.length ≤ f → (p = 195 → ¬ contB (l.getD 0 0).toNat) → foldF f l = foldB p l
  | 0, l, p, hf, _ => by
    have : l = [] := List.eq_nil_of_length_eq_zero (by omega)
    subst this; rfl
  | f + 1, l, p, hf, hp => by
    cases l with
    | nil => rfl
    | cons b t =>
      obtain ⟨q, hq, he, _⟩ := fold_step p b t (by simpa using hp)
      have hW := Lib.decodeL_width (b :: t)
      rw [he, foldF, if_neg (by simp)]
      rw [foldF_B f _ q (by rw [List.length_drop]; simp at hf ⊢; omega) hq]
theorem foldM_B (l : List UInt8) : foldM l = foldB 0 l := foldF_B _ l 0 (Nat.le_refl _) (fun e => by cases e)

theorem valid_fold : ∀ (f : Nat) (l : List UInt8) (p : UInt8), (p = 195 → ¬ contB (l.getD 0 0).toNat) → Lib.validGoD f (foldB p l) = Lib.validGoD f l
  | 0, _, _, _ => rfl
  | f + 1, l, p, hp => by
    cases l with
    | nil => rfl
    | cons b t =>
      obtain ⟨q, hq, he, hd⟩ := fold_step p b t (by simpa using hp)
      have hdrop : (foldB p (b :: t)).drop (Lib.decodeL (b :: t)).2 = foldB q ((b :: t).drop (Lib.decodeL (b :: t)).2) := by
        rw [he]
        have hlen : (if movesR (Lib.decodeL (b :: t)).1 = true then Lib.encodeRune (((Lib.decodeL (b :: t)).1 : Int) + 32) else (b :: t).take (Lib.decodeL (b :: t)).2).length = (Lib.decodeL (b :: t)).2 := by
          have h1 := congrArg List.length he
          rw [foldB_len, List.length_append, foldB_len, List.length_drop] at h1
          have hle : (Lib.decodeL (b :: t)).2 ≤ (b :: t).length := by
            have h2 : 0 + (Lib.decodeL (b :: t)).2 ≤ (⟨(b :: t).toArray⟩ : ByteArray).size := decode_within ⟨(b :: t).toArray⟩ 0 (by rw [back_size]; simp)
            rw [back_size, Nat.zero_add] at h2
            exact h2
          omega
        rw [List.drop_append_of_le_length (by omega), List.drop_of_length_le (by omega), List.nil_append]
      have u : ∀ x : List UInt8, x ≠ [] → Lib.validGoD (f + 1) x = if (Lib.decodeL x).1 = 65533 ∧ (Lib.decodeL x).2 = 1 then false else Lib.validGoD f (x.drop (Lib.decodeL x).2) := fun x hx => by rw [Lib.validGoD, if_neg hx]
      rw [u _ (by simp [foldB]), u _ (by simp), hd]
      simp only
      rw [hdrop, valid_fold f _ q hq]
      have e : ((if movesR (Lib.decodeL (b :: t)).1 = true then (Lib.decodeL (b :: t)).1 + 32 else (Lib.decodeL (b :: t)).1) = 65533) ↔ (Lib.decodeL (b :: t)).1 = 65533 := by
        split
        · rename_i h
          simp [movesR] at h
          omega
        · exact Iff.rfl
      simp only [e]
theorem name_fold : ∀ (l : List UInt8) (p : UInt8), (foldB p l).all nameB = l.all nameB
  | [], _ => rfl
  | b :: t, p => by
    have hn := foldB1_nat p b
    simp only [foldB, List.all_cons]
    rw [name_fold t b]
    congr 1
    unfold nameB
    rw [hn]
    split
    · rename_i h
      have h' : (65 ≤ b.toNat ∧ b.toNat ≤ 90) ∨ (128 ≤ b.toNat ∧ b.toNat ≤ 158) := by
        rcases h with h | h
        · exact Or.inl h
        · exact Or.inr ⟨h.2.1, h.2.2.1⟩
      clear hn h
      unfold mayNameR
      exact dec_of (by omega)
    · rfl
theorem check_fold (l : List UInt8) : checkM (foldM l) = checkM l := by
  rw [foldM_B]
  unfold checkM Lib.validD
  rw [foldB_len, valid_fold l.length l 0 (fun e => by cases e), name_fold]
theorem fold1_195 (p b : UInt8) : foldB1 p b = 195 ↔ b = 195 := by
  have hn := foldB1_nat p b
  constructor
  · intro h
    rw [h] at hn
    have e : (195 : UInt8).toNat = 195 := rfl
    rw [e] at hn
    split at hn
    · omega
    · exact UInt8.toNat_inj.1 hn.symm
  · intro h
    subst h
    exact fold1_same (by simp)
theorem fold_again : ∀ (l : List UInt8) (p p' : UInt8), (p' = 195 ↔ p = 195) → foldB p' (foldB p l) = foldB p l
  | [], _, _, _ => rfl
  | b :: t, p, p', h => by
    simp only [foldB]
    rw [fold_again t b (foldB1 p b) (fold1_195 p b)]
    congr 1
    have hn := foldB1_nat p b
    refine fold1_same ?_
    rw [h, hn]
    split <;> omega
theorem fold_twice (l : List UInt8) : foldM (foldM l) = foldM l := by
  rw [foldM_B, foldM_B, fold_again l 0 0 Iff.rfl]
def upB (b : UInt8) : UInt8 := if 97 ≤ b.toNat ∧ b.toNat ≤ 122 then UInt8.ofNat (b.toNat - 32) else b
theorem up_195 (b : UInt8) : upB b = 195 ↔ b = 195 := by
  unfold upB
  split
  · rename_i h
    constructor
    · intro e
      have := congrArg UInt8.toNat e
      rw [of_nat _ (by omega)] at this
      have e2 : (195 : UInt8).toNat = 195 := rfl
      omega
    · intro e
      rw [e] at h
      exact absurd h (by decide)
  · exact Iff.rfl
theorem fold_up : ∀ (l : List UInt8) (p p' : UInt8), (p' = 195 ↔ p = 195) → foldB p' (l.map upB) = foldB p l
  | [], _, _, _ => rfl
  | b :: t, p, p', h => by
    simp only [foldB, List.map_cons]
    rw [fold_up t b (upB b) (up_195 b)]
    congr 1
    have hn := foldB1_nat p b
    have hn' := foldB1_nat p' (upB b)
    refine UInt8.toNat_inj.1 ?_
    rw [hn, hn']
    have key : ((65 ≤ (upB b).toNat ∧ (upB b).toNat ≤ 90) ∨ (p' = 195 ∧ 128 ≤ (upB b).toNat ∧ (upB b).toNat ≤ 158 ∧ (upB b).toNat ≠ 151)) ↔ ((65 ≤ (upB b).toNat ∧ (upB b).toNat ≤ 90) ∨ (p = 195 ∧ 128 ≤ (upB b).toNat ∧ (upB b).toNat ≤ 158 ∧ (upB b).toNat ≠ 151)) := by rw [h]
    simp only [key]
    unfold upB
    split
    · rename_i hb
      rw [of_nat _ (by omega), if_pos (Or.inl (by omega)), if_neg (by omega)]
      omega
    · rfl
theorem fold_upper (l : List UInt8) : foldM (l.map upB) = foldM l := by
  rw [foldM_B, foldM_B, fold_up l 0 0 Iff.rfl]
theorem fold_length (l : List UInt8) : (foldM l).length = l.length := by rw [foldM_B, foldB_len]
end Go.Proofs.YthoeehgnkolgpaaDoor
