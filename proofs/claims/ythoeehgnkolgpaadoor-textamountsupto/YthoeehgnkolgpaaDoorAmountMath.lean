/- Plain mathematics of amounts: the form, told from behind. No program here. -/
import Derived.Test.YthoeehgnkolgpaaDoorMoneyMath
namespace Go.Proofs.YthoeehgnkolgpaaDoor
open Go.RowKit

theorem grp_form : ∀ (l : List UInt8) (k : Nat), k ≤ 3 → (grp k l = true ↔ formL l ∧ (l.length + k) % 4 = 3)
  | [], k, hk => by simp [grp, formL]; omega
  | b :: t, k, hk => by
    unfold grp formL
    rw [List.length_cons]
    by_cases h : b = 39
    · simp only [h, if_true, Bool.and_eq_true, decide_eq_true_eq, grp_form t 0 (by omega), true_iff, true_or, true_and]
      constructor
      · rintro ⟨h1, h2, h3⟩; exact ⟨⟨by omega, h2⟩, by omega⟩
      · rintro ⟨⟨h1, h2⟩, h3⟩; exact ⟨by omega, h2, by omega⟩
    · simp only [h, if_false, Bool.and_eq_true, decide_eq_true_eq, false_iff, false_or]
      by_cases hk3 : k < 3
      · rw [grp_form t (k + 1) (by omega)]
        constructor
        · rintro ⟨⟨h1, h2⟩, h3, h4⟩; exact ⟨⟨by omega, h2, h3⟩, by omega⟩
        · rintro ⟨⟨h1, h2, h3⟩, h4⟩; exact ⟨⟨hk3, h2⟩, h3, by omega⟩
      · constructor
        · rintro ⟨⟨h1, h2⟩, h3⟩; exact absurd h1 hk3
        · rintro ⟨⟨h1, h2, h3⟩, h4⟩; exfalso; omega
theorem form_parts : ∀ (p r : List UInt8), (∀ b ∈ p, b ≠ 39) → (formL (p ++ 39 :: r) ↔ (r.length + 1) % 4 = 0 ∧ formL r ∧ allD p = true ∧ p.length ≤ 3)
  | [], r, _ => by
    simp only [List.nil_append, formL, true_iff, true_or, true_and, List.length_nil, allD, List.all_nil]
    constructor
    · rintro ⟨h1, h2⟩; exact ⟨h1, h2, by omega⟩
    · rintro ⟨h1, h2, _⟩; exact ⟨h1, h2⟩
  | b :: p, r, h => by
    have hb := h b List.mem_cons_self
    have ih := form_parts p r (fun x hx => h x (List.mem_cons_of_mem _ hx))
    simp only [List.cons_append, formL, hb, false_iff, false_or, ih, allD_cons, Bool.and_eq_true, List.length_cons, List.length_append]
    constructor
    · rintro ⟨h1, h2, h3, h4, h5, h6⟩; exact ⟨h3, h4, ⟨h2, h5⟩, by omega⟩
    · rintro ⟨h3, h4, ⟨h2, h5⟩, h6⟩; exact ⟨by omega, h2, h3, h4, h5, by omega⟩
/-- Where marks may stand, if there are any. -/
def checkP (mk : Bool) : List UInt8 → Prop
  | [] => True
  | b :: t => (b = 39 ↔ mk = true ∧ (t.length + 1) % 4 = 0) ∧ ((mk = true ∧ (t.length + 1) % 4 = 0) ∨ digitR b.toNat = true) ∧ checkP mk t
theorem checkP_true : ∀ l, checkP true l ↔ formL l
  | [] => Iff.rfl
  | b :: t => by
    unfold checkP formL
    rw [checkP_true t]
    simp only [true_and]
    constructor
    · rintro ⟨h1, h2, h3⟩; exact ⟨h1, h2.imp_left h1.2, h3⟩
    · rintro ⟨h1, h2, h3⟩; exact ⟨h1, h2.imp_left h1.1, h3⟩
theorem checkP_false : ∀ l, checkP false l ↔ allD l = true
  | [] => by simp [checkP, allD]
  | b :: t => by
    unfold checkP
    rw [checkP_false t, allD_cons, Bool.and_eq_true]
    constructor
    · rintro ⟨h1, h2, h3⟩; exact ⟨h2.resolve_left (fun h => by cases h.1), h3⟩
    · rintro ⟨h2, h3⟩; exact ⟨⟨fun e => absurd e (digit_ne h2 (by decide)), fun e => by cases e.1⟩, Or.inr h2, h3⟩
theorem cut1_none (c : UInt8) : ∀ l : List UInt8, c ∉ l → cut1 c l = (l, [], false)
  | [], _ => rfl
  | b :: t, h => by
    have hb : ¬ b = c := fun e => h (by simp [e])
    have ih := cut1_none c t (fun e => h (List.mem_cons_of_mem _ e))
    simp only [cut1, hb, if_false, ih]
theorem cut1_some (c : UInt8) : ∀ l : List UInt8, c ∈ l → (cut1 c l).2.2 = true ∧ ∀ b ∈ (cut1 c l).1, b ≠ c
  | [], h => by cases h
  | b :: t, h => by
    by_cases hb : b = c
    · simp [cut1, hb]
    · have ht : c ∈ t := (List.mem_cons.1 h).resolve_left (fun e => hb e.symm)
      obtain ⟨i1, i2⟩ := cut1_some c t ht
      simp only [cut1, hb, if_false]
      refine ⟨i1, fun x hx => ?_⟩
      rcases List.mem_cons.1 hx with rfl | hx
      · exact hb
      · exact i2 x hx
/-- The whole of an amount, told from behind. -/
theorem whole_ref (b : UInt8) (t : List UInt8) : wholeM (b :: t) = true ↔ digitR b.toNat = true ∧ ¬ (b = 48 ∧ t ≠ []) ∧ checkP (decide (39 ∈ b :: t)) (b :: t) := by
  by_cases hm : (39 : UInt8) ∈ b :: t
  · rw [decide_eq_true hm, checkP_true]
    obtain ⟨h1, h2⟩ := cut1_some 39 _ hm
    have hj := cut1_join 39 (b :: t)
    rw [h1] at hj
    simp only [if_true] at hj
    unfold wholeM
    rw [h1]
    have hn : ¬ (b :: t) = [48] := fun e => by rw [e] at hm; simp at hm
    generalize cut1 39 (b :: t) = R at *
    obtain ⟨p, r, g⟩ := R
    simp only at *
    rw [decide_eq_false hn]
    cases p with
    | nil =>
      have hb : b = 39 := by simp at hj; exact hj.1
      constructor
      · intro h; simp at h
      · rintro ⟨h, _⟩; exact absurd hb (digit_ne h (by decide))
    | cons x p =>
      have e := hj
      rw [List.cons_append] at hj
      obtain ⟨rfl, ht⟩ := List.cons.inj hj
      rw [e, form_parts _ r h2]
      have htn : t ≠ [] := by rw [ht]; simp
      simp only [Bool.false_or, Bool.not_true, Bool.and_eq_true, decide_eq_true_eq, List.head?_cons, ne_eq, Option.some.injEq, grp_form r 0 (by omega), reduceCtorEq, not_false_eq_true, true_and, allD_cons]
      constructor
      · rintro ⟨⟨h48, hb, hp⟩, hlen, hf, hl⟩; exact ⟨hb, fun h => h48 h.1, by omega, hf, ⟨hb, hp⟩, hlen⟩
      · rintro ⟨hb, h48, hl, hf, ⟨_, hp⟩, hlen⟩; exact ⟨⟨fun e => h48 ⟨e, htn⟩, hb, hp⟩, hlen, hf, by omega⟩
  · rw [decide_eq_false hm, checkP_false]
    unfold wholeM
    rw [cut1_none 39 _ hm]
    simp only [Bool.or_eq_true, Bool.and_eq_true, decide_eq_true_eq, List.head?_cons, ne_eq, Option.some.injEq, reduceCtorEq, not_false_eq_true, true_and, Bool.not_false, Bool.true_or, and_true, allD_cons]
    constructor
    · rintro (h | ⟨h48, hb, ht⟩)
      · obtain ⟨rfl, rfl⟩ := List.cons.inj h
        exact ⟨rfl, fun h => h.2 rfl, rfl, rfl⟩
      · exact ⟨hb, fun h => h48 h.1, hb, ht⟩
    · rintro ⟨hb, h48, _, ht⟩
      by_cases h : b = 48
      · by_cases htn : t = []
        · left; rw [h, htn]
        · exact absurd ⟨h, htn⟩ h48
      · right; exact ⟨h, hb, ht⟩
theorem amount_parts (l f r : List UInt8) (h : cut1 46 l = (f, r, true)) (x y : Nat) (hx : x ≤ 9) (hy : y ≤ 9) (hr : r = [UInt8.ofNat (48 + x), UInt8.ofNat (48 + y)]) : amountM l = if wholeM f = true then (if 100 * valFrom 0 f + (10 * x + y) ≤ 9007199254740992 then (100 * valFrom 0 f + (10 * x + y), 0) else (0, 22)) else (0, 21) := by
  unfold amountM
  rw [h]
  have hp : isPartM r = true := by
    have a : digitR (UInt8.ofNat (48 + x)).toNat = true := by rw [digit_of hx]; simp [digitR]; omega
    have b : digitR (UInt8.ofNat (48 + y)).toNat = true := by rw [digit_of hy]; simp [digitR]; omega
    rw [hr]
    simp only [isPartM, allD_cons, a, b]
    rfl
  simp only [if_true, hp, Bool.or_true, Bool.and_true]
  have hv : valFrom 0 (f ++ r) = 100 * valFrom 0 f + (10 * x + y) := by
    rw [hr, valFrom_app, show [UInt8.ofNat (48 + x), UInt8.ofNat (48 + y)] = [UInt8.ofNat (48 + x)] ++ [UInt8.ofNat (48 + y)] from rfl, valFrom_app, valFrom_digit _ _ hx, valFrom_digit _ _ hy]
    omega
  rw [hv]
theorem amount_bare (l f r : List UInt8) (h : cut1 46 l = (f, r, false)) : amountM l = if wholeM f = true then (if 100 * valFrom 0 f ≤ 9007199254740992 then (100 * valFrom 0 f, 0) else (0, 22)) else (0, 21) := by
  unfold amountM
  rw [h]
  have hv : valFrom 0 (f ++ [48, 48]) = 100 * valFrom 0 f := by
    rw [valFrom_app]
    show (valFrom 0 f * 10 + 0) * 10 + 0 = _
    omega
  simp only [Bool.false_eq_true, if_false, Bool.not_false, Bool.true_or, Bool.and_true, hv]
theorem amount_bad (l f r : List UInt8) (h : cut1 46 l = (f, r, true)) (hp : isPartM r = false) : amountM l = (0, 21) := by
  unfold amountM
  rw [h]
  simp [hp]
end Go.Proofs.YthoeehgnkolgpaaDoor
