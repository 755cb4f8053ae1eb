/- Plain mathematics of amounts: what Money writes Amount reads. No program here. -/
import Derived.Test.YthoeehgnkolgpaaDoorTxtMath
import Derived.Test.YthoeehgnkolgpaaDoorMoney2
namespace Go.Proofs.YthoeehgnkolgpaaDoor
open Go.RowKit

theorem valFrom_app : ∀ (a b : List UInt8) (n : Nat), valFrom n (a ++ b) = valFrom (valFrom n a) b
  | [], _, _ => rfl
  | x :: a, b, n => by
    simp only [List.cons_append, valFrom]
    split
    · exact valFrom_app a b n
    · exact valFrom_app a b _
theorem valFrom_marked : ∀ (l : List UInt8) (f : Bool) (n : Nat), valFrom n (marked f l) = valFrom n l
  | [], _, _ => rfl
  | b :: t, f, n => by
    unfold marked
    split
    · simp only [List.cons_append, List.nil_append, valFrom]
      rw [if_pos (by rfl)]
      split
      · exact valFrom_marked t false n
      · exact valFrom_marked t false _
    · simp only [List.cons_append, List.nil_append, valFrom]
      split
      · exact valFrom_marked t false n
      · exact valFrom_marked t false _
theorem digit_of {d : Nat} (h : d ≤ 9) : (UInt8.ofNat (48 + d)).toNat = 48 + d := by simp; omega
theorem valFrom_digit (n d : Nat) (h : d ≤ 9) : valFrom n [UInt8.ofNat (48 + d)] = n * 10 + d := by
  simp only [valFrom, digit_of h]
  rw [if_neg (by omega)]
  omega
theorem valFrom_dec (u : Nat) : valFrom 0 (Lib.decDigits u) = u := by
  induction u using Nat.strongRecOn with
  | _ u ih =>
    rw [Lib.decDigits]
    split
    · rw [valFrom_digit 0 u (by omega)]; omega
    · rw [valFrom_app, ih (u / 10) (by omega), valFrom_digit _ _ (by omega)]; omega
theorem digit_iff {b : UInt8} : digitR b.toNat = true ↔ 48 ≤ b.toNat ∧ b.toNat ≤ 57 := by simp [digitR]
theorem digit_ne {b c : UInt8} (h : digitR b.toNat = true) (hc : c.toNat < 48) : b ≠ c := fun e => by rw [digit_iff, e] at h; omega
theorem dec_all (u : Nat) : allD (Lib.decDigits u) = true := List.all_eq_true.2 fun b hb => by have := decDigits_digit u b hb; simp [digitR, this]
theorem dec_head (u : Nat) (h : 1 ≤ u) : ∃ b t, Lib.decDigits u = b :: t ∧ b ≠ 48 := by
  induction u using Nat.strongRecOn with
  | _ u ih =>
    rw [Lib.decDigits]
    split
    · refine ⟨_, _, rfl, fun e => ?_⟩
      have := congrArg UInt8.toNat e
      rw [digit_of (by omega)] at this
      simp at this; omega
    · obtain ⟨b, t, e, hb⟩ := ih (u / 10) (by omega) (by omega)
      exact ⟨b, t ++ [UInt8.ofNat (48 + u % 10)], by rw [e]; rfl, hb⟩
theorem cut1_at (c : UInt8) : ∀ (X r : List UInt8), (∀ b ∈ X, b ≠ c) → cut1 c (X ++ c :: r) = (X, r, true)
  | [], r, _ => by simp [cut1]
  | x :: X, r, h => by
    have ih := cut1_at c X r (fun b hb => h b (List.mem_cons_of_mem _ hb))
    simp only [List.cons_append, cut1, if_neg (h x List.mem_cons_self), ih]
theorem marked_mem : ∀ (l : List UInt8) (f : Bool) (b : UInt8), b ∈ marked f l → b = 39 ∨ b ∈ l
  | [], _, b, h => by simp [marked] at h
  | x :: t, f, b, h => by
    unfold marked at h
    rcases List.mem_append.1 h with h | h
    · split at h
      · rcases List.mem_cons.1 h with h | h
        · exact Or.inl h
        · exact Or.inr (by simp at h; simp [h])
      · exact Or.inr (by simp at h; simp [h])
    · rcases marked_mem t false b h with h | h
      · exact Or.inl h
      · exact Or.inr (List.mem_cons_of_mem _ h)
theorem allD_split {b : UInt8} {t : List UInt8} (h : allD (b :: t) = true) : digitR b.toNat = true ∧ allD t = true := by
  rw [allD_cons] at h; exact Bool.and_eq_true_iff.1 h
theorem grp_marked : ∀ (t : List UInt8) (k : Nat), allD t = true → 1 ≤ k → k ≤ 3 → (k + t.length) % 3 = 0 → grp k (marked false t) = true
  | [], k, _, h1, h3, hm => by simp [marked, grp]; simp at hm; omega
  | b :: t, k, hd, h1, h3, hm => by
    obtain ⟨hb, ht⟩ := allD_split hd
    have hne : ¬ b = 39 := digit_ne hb (by decide)
    rw [List.length_cons] at hm
    unfold marked
    by_cases hc : (t.length + 1) % 3 = 0
    · rw [if_pos ⟨rfl, hc⟩]
      have hk : k = 3 := by omega
      subst hk
      simp only [List.cons_append, List.nil_append, grp, if_true, hne, if_false, hb, Bool.and_true]
      simpa using grp_marked t 1 ht (by omega) (by omega) (by omega)
    · rw [if_neg (fun h => hc h.2)]
      simp only [List.cons_append, List.nil_append, grp, hne, if_false, hb, Bool.and_true]
      rw [grp_marked t (k + 1) ht (by omega) (by omega) (by omega)]
      simp; omega
theorem cut_marked : ∀ (t : List UInt8), allD t = true → (cut1 39 (marked false t)).1.length = t.length % 3 ∧ allD (cut1 39 (marked false t)).1 = true ∧ ((cut1 39 (marked false t)).2.2 = true → grp 0 (cut1 39 (marked false t)).2.1 = true)
  | [], _ => by simp [marked, cut1, allD]
  | b :: t, hd => by
    obtain ⟨hb, ht⟩ := allD_split hd
    have hne : ¬ b = 39 := digit_ne hb (by decide)
    obtain ⟨i1, i2, i3⟩ := cut_marked t ht
    unfold marked
    by_cases hc : (t.length + 1) % 3 = 0
    · rw [if_pos ⟨rfl, hc⟩]
      simp only [List.cons_append, List.nil_append, cut1, if_true, List.length_cons, List.length_nil]
      refine ⟨by omega, rfl, fun _ => ?_⟩
      simp only [grp, hne, if_false, hb, Bool.and_true]
      simpa using grp_marked t 1 ht (by omega) (by omega) (by omega)
    · rw [if_neg (fun h => hc h.2)]
      simp only [List.cons_append, List.nil_append, cut1, hne, if_false, List.length_cons, allD_cons, hb, Bool.true_and]
      exact ⟨by omega, i2, i3⟩
theorem marked_true (b : UInt8) (t : List UInt8) : marked true (b :: t) = b :: marked false t := by
  show (if true = false ∧ (t.length + 1) % 3 = 0 then [39, b] else [b]) ++ marked false t = _
  rw [if_neg (fun h => by cases h.1)]; rfl
theorem whole_marked (D : List UInt8) (hd : allD D = true) (hh : D = [48] ∨ ∃ b t, D = b :: t ∧ b ≠ 48) : wholeM (marked true D) = true := by
  rcases hh with rfl | ⟨b, t, rfl, h48⟩
  · rfl
  · obtain ⟨hb, ht⟩ := allD_split hd
    have hne : ¬ b = 39 := digit_ne hb (by decide)
    obtain ⟨i1, i2, i3⟩ := cut_marked t ht
    have hm : marked true (b :: t) = b :: marked false t := marked_true b t
    rw [hm]
    unfold wholeM
    simp only [cut1, hne, if_false, List.head?_cons, allD_cons, hb, i2, List.length_cons, i1]
    have h3 : decide (t.length % 3 + 1 ≤ 3) = true := by simp; omega
    rw [h3]
    cases hg : (cut1 39 (marked false t)).2.2 with
    | false => simp [h48]
    | true => rw [i3 hg]; simp [h48]
theorem dec_form (u : Nat) : Lib.decDigits u = [48] ∨ ∃ b t, Lib.decDigits u = b :: t ∧ b ≠ 48 := by
  rcases Nat.eq_zero_or_pos u with h | h
  · subst h; left; rw [Lib.decDigits]; rfl
  · exact Or.inr (dec_head u h)

/-- What Money writes Amount reads; more than may be is refused as that. -/
theorem amount_money (n : Nat) : amountM (moneyM n) = if n ≤ 9007199254740992 then (n, 0) else (0, 22) := by
  have hD := dec_all (n / 100)
  have hF := dec_form (n / 100)
  have hV := valFrom_dec (n / 100)
  unfold amountM moneyM
  generalize Lib.decDigits (n / 100) = D at *
  have hc := cut1_at 46 (marked true D) [UInt8.ofNat (48 + n % 100 / 10), UInt8.ofNat (48 + n % 10)] (fun b hb => by
    rcases marked_mem D true b hb with h | h
    · rw [h]; decide
    · exact digit_ne (List.all_eq_true.1 hD b h) (by decide))
  rw [hc]
  simp only [if_true]
  rw [whole_marked D hD hF]
  have hp : isPartM [UInt8.ofNat (48 + n % 100 / 10), UInt8.ofNat (48 + n % 10)] = true := by
    have a : digitR (UInt8.ofNat (48 + n % 100 / 10)).toNat = true := by rw [digit_of (by omega)]; simp [digitR]; omega
    have b : digitR (UInt8.ofNat (48 + n % 10)).toNat = true := by rw [digit_of (by omega)]; simp [digitR]; omega
    simp only [isPartM, allD_cons, a, b]
    rfl
  rw [hp]
  have hv : valFrom 0 (marked true D ++ [UInt8.ofNat (48 + n % 100 / 10), UInt8.ofNat (48 + n % 10)]) = n := by
    rw [valFrom_app, valFrom_marked, hV]
    rw [show [UInt8.ofNat (48 + n % 100 / 10), UInt8.ofNat (48 + n % 10)] = [UInt8.ofNat (48 + n % 100 / 10)] ++ [UInt8.ofNat (48 + n % 10)] from rfl]
    rw [valFrom_app, valFrom_digit _ _ (by omega), valFrom_digit _ _ (by omega)]
    omega
  rw [hv]
  simp
theorem money_inj {n k : Nat} (h : moneyM n = moneyM k) : n = k := by
  have e : ∀ n, valFrom 0 (moneyM n) = n / 100 * 1000 + n % 100 := fun n => by
    unfold moneyM
    rw [valFrom_app, valFrom_marked, valFrom_dec]
    rw [show [46, UInt8.ofNat (48 + n % 100 / 10), UInt8.ofNat (48 + n % 10)] = [46] ++ ([UInt8.ofNat (48 + n % 100 / 10)] ++ [UInt8.ofNat (48 + n % 10)]) from rfl]
    rw [valFrom_app, valFrom_app, valFrom_digit _ _ (by omega), valFrom_digit _ _ (by omega)]
    have : valFrom (n / 100) [46] = n / 100 * 10 := rfl
    omega
  have := congrArg (valFrom 0) h
  rw [e, e] at this
  omega
/-- What Amount answers is a number that may be, or one of two errors. -/
theorem amount_cases (l : List UInt8) : ((amountM l).2 = 0 ∧ (amountM l).1 ≤ 9007199254740992) ∨ ((amountM l).1 = 0 ∧ ((amountM l).2 = 21 ∨ (amountM l).2 = 22)) := by
  unfold amountM
  generalize valFrom 0 _ = V
  by_cases h : (wholeM (cut1 46 l).1 && (!(cut1 46 l).2.2 || isPartM (cut1 46 l).2.1)) = true
  · rw [if_pos h]
    by_cases hV : V ≤ 9007199254740992
    · rw [if_pos hV]; left; exact ⟨rfl, hV⟩
    · rw [if_neg hV]; right; exact ⟨rfl, Or.inr rfl⟩
  · rw [if_neg h]; right; exact ⟨rfl, Or.inl rfl⟩

/-- Marks stand where they must, counted from the end on. -/
def formL : List UInt8 → Prop
  | [] => True
  | b :: t => (b = 39 ↔ (t.length + 1) % 4 = 0) ∧ (b = 39 ∨ digitR b.toNat = true) ∧ formL t
theorem formL_get : ∀ (l : List UInt8), formL l → ∀ i (h : i < l.length), (l[i] = 39 ↔ (l.length - i) % 4 = 0) ∧ (l[i] = 39 ∨ digitR (l[i]).toNat = true)
  | [], _, i, h => absurd h (Nat.not_lt_zero _)
  | b :: t, hf, 0, _ => ⟨by simpa using hf.1, by simpa using hf.2.1⟩
  | b :: t, hf, i + 1, h => by
    have := formL_get t hf.2.2 i (by simp at h; omega)
    simpa using this
theorem marked_len : ∀ (t : List UInt8), (marked false t).length = t.length + t.length / 3
  | [] => rfl
  | b :: t => by
    have := marked_len t
    unfold marked
    split
    · simp only [List.cons_append, List.nil_append, List.length_cons, this]; omega
    · rename_i h
      have : ¬ (t.length + 1) % 3 = 0 := fun e => h ⟨rfl, e⟩
      simp only [List.cons_append, List.nil_append, List.length_cons, marked_len t]; omega
theorem formL_marked : ∀ (t : List UInt8), allD t = true → formL (marked false t)
  | [], _ => trivial
  | b :: t, hd => by
    obtain ⟨hb, ht⟩ := allD_split hd
    have hne : ¬ b = 39 := digit_ne hb (by decide)
    have ih := formL_marked t ht
    have hl := marked_len t
    unfold marked
    by_cases hc : (t.length + 1) % 3 = 0
    · rw [if_pos ⟨rfl, hc⟩]
      simp only [List.cons_append, List.nil_append]
      refine ⟨⟨fun _ => by rw [List.length_cons, hl]; omega, fun _ => rfl⟩, Or.inl rfl, ⟨fun e => absurd e hne, fun e => by rw [hl] at e; omega⟩, Or.inr hb, ih⟩
    · rw [if_neg (fun h => hc h.2)]
      simp only [List.cons_append, List.nil_append]
      exact ⟨⟨fun e => absurd e hne, fun e => by rw [hl] at e; omega⟩, Or.inr hb, ih⟩
theorem formL_first (D : List UInt8) (hd : allD D = true) : formL (marked true D) := by
  cases D with
  | nil => trivial
  | cons b t =>
    obtain ⟨hb, ht⟩ := allD_split hd
    have hne : ¬ b = 39 := digit_ne hb (by decide)
    have hl := marked_len t
    have hm : marked true (b :: t) = b :: marked false t := marked_true b t
    rw [hm]
    exact ⟨⟨fun e => absurd e hne, fun e => by rw [hl] at e; omega⟩, Or.inr hb, formL_marked t ht⟩
end Go.Proofs.YthoeehgnkolgpaaDoor
