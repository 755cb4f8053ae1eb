/- Plain mathematics of lines: byte by byte, as the reference goes. No program here. -/
import Derived.Test.YthoeehgnkolgpaaDoorFoldMath2
import Derived.Lib.MapLaws
namespace Go.Proofs.YthoeehgnkolgpaaDoor
open Go.RowKit

/-- What one is in, the word, the words, is it bad? -/
abbrev RSt := Nat × List UInt8 × List (List UInt8) × Bool
def rstep (s : RSt) (c : UInt8) : RSt :=
  if s.1 = 3 then (2, s.2.1 ++ [c], s.2.2.1, (s.2.2.2 || !mayStandR c.toNat) || (decide (c ≠ 34) && decide (c ≠ 92)))
  else if s.1 = 2 then (if c = 92 then (3, s.2.1, s.2.2.1, s.2.2.2 || !mayStandR c.toNat) else if c = 34 then (4, [], s.2.2.1 ++ [s.2.1], s.2.2.2 || !mayStandR c.toNat) else (2, s.2.1 ++ [c], s.2.2.1, s.2.2.2 || !mayStandR c.toNat))
  else if blankR c.toNat = true then (if s.1 = 1 then (0, [], s.2.2.1 ++ [s.2.1], s.2.2.2 || !mayStandR c.toNat) else (0, s.2.1, s.2.2.1, s.2.2.2 || !mayStandR c.toNat))
  else if s.1 = 0 ∧ c = 34 then (2, s.2.1, s.2.2.1, s.2.2.2 || !mayStandR c.toNat)
  else if s.1 = 4 ∨ c = 34 ∨ c = 92 then (s.1, s.2.1, s.2.2.1, true)
  else (1, s.2.1 ++ [c], s.2.2.1, s.2.2.2 || !mayStandR c.toNat)
def rrun (s : RSt) (l : List UInt8) : RSt := l.foldl rstep s
def rout (s : RSt) : List (List UInt8) := if s.1 = 1 then s.2.2.1 ++ [s.2.1] else s.2.2.1
def rfin (s : RSt) : Option (List (List UInt8)) := if s.2.2.2 = true ∨ s.1 = 2 ∨ s.1 = 3 ∨ 16 < (rout s).length then none else some (rout s)
theorem rrun_cons (s : RSt) (b : UInt8) (t : List UInt8) : rrun s (b :: t) = rrun (rstep s b) t := rfl
theorem rrun_app (s : RSt) (x y : List UInt8) : rrun s (x ++ y) = rrun (rrun s x) y := List.foldl_append
theorem rstep_bad (s : RSt) (c : UInt8) (h : s.2.2.2 = true) : (rstep s c).2.2.2 = true := by
  unfold rstep
  rw [h]
  repeat' split
  all_goals simp
theorem rrun_bad : ∀ (l : List UInt8) (s : RSt), s.2.2.2 = true → (rrun s l).2.2.2 = true
  | [], _, h => h
  | b :: t, s, h => by rw [rrun_cons]; exact rrun_bad t _ (rstep_bad s b h)
def emb (s : PSt) : RSt := if s.1 = 4 then (4, [], s.2.2 ++ [s.2.1], false) else (s.1, s.2.1, s.2.2, false)
theorem step_low (s : PSt) (c : UInt8) (hs : s.1 ≤ 4) (hc : c.toNat < 128) : (mayStandR c.toNat = false ∧ (rstep (emb s) c).2.2.2 = true) ∨ (mayStandR c.toNat = true ∧ match stp s.1 s.2.1 s.2.2 c.toNat with
    | some s' => rstep (emb s) c = emb s'
    | none => (rstep (emb s) c).2.2.2 = true) := by
  obtain ⟨a, wd, ws⟩ := s
  simp only at hs ⊢
  have henc : Lib.encodeRune (c.toNat : Int) = [c] := by
    unfold Lib.encodeRune
    rw [Lib.encodeRuneZ_one (by omega) (by omega)]
    simp
  have e34 : c.toNat = 34 ↔ c = 34 := ⟨fun e => UInt8.toNat_inj.1 e, fun e => by rw [e]; rfl⟩
  have e92 : c.toNat = 92 ↔ c = 92 := ⟨fun e => UInt8.toNat_inj.1 e, fun e => by rw [e]; rfl⟩
  have n34 : c = 34 → blankR c.toNat = false := fun e => by rw [e]; rfl
  have n92 : c = 92 → blankR c.toNat = false := fun e => by rw [e]; rfl
  cases hm : mayStandR c.toNat with
  | false =>
    left
    refine ⟨rfl, ?_⟩
    unfold rstep
    rw [hm]
    repeat' split
    all_goals simp
  | true =>
    right
    refine ⟨rfl, ?_⟩
    have five : a = 0 ∨ a = 1 ∨ a = 2 ∨ a = 3 ∨ a = 4 := by omega
    unfold stp bareS rstep emb
    simp only [e34, e92, henc, hm]
    rcases five with rfl | rfl | rfl | rfl | rfl
    all_goals
      cases hb : blankR c.toNat with
      | true =>
        have m34 : ¬ c = 34 := fun e => by rw [n34 e] at hb; cases hb
        have m92 : ¬ c = 92 := fun e => by rw [n92 e] at hb; cases hb
        simp [m34, m92]
      | false =>
        by_cases c34 : c = 34
        · subst c34
          simp
        · by_cases c92 : c = 92
          · subst c92
            simp
          · simp [c34, c92]
theorem high_facts (c : UInt8) (h : 128 ≤ c.toNat) : mayStandR c.toNat = true ∧ blankR c.toNat = false ∧ c ≠ 34 ∧ c ≠ 92 := by
  refine ⟨by simp [mayStandR]; omega, by simp [blankR]; omega, fun e => ?_, fun e => ?_⟩
  · rw [e] at h; exact absurd h (by decide)
  · rw [e] at h; exact absurd h (by decide)
theorem run_high2 : ∀ (x : List UInt8) (wd : List UInt8) (ws : List (List UInt8)), (∀ b ∈ x, 128 ≤ b.toNat) → rrun (2, wd, ws, false) x = (2, wd ++ x, ws, false)
  | [], wd, ws, _ => by simp [rrun]
  | b :: t, wd, ws, h => by
    obtain ⟨h1, h2, h3, h4⟩ := high_facts b (h b List.mem_cons_self)
    have e : rstep (2, wd, ws, false) b = (2, wd ++ [b], ws, false) := by simp [rstep, h1, h3, h4]
    rw [rrun_cons, e, run_high2 t _ ws (fun y hy => h y (List.mem_cons_of_mem _ hy))]
    simp
theorem run_high1 : ∀ (x : List UInt8) (wd : List UInt8) (ws : List (List UInt8)), (∀ b ∈ x, 128 ≤ b.toNat) → rrun (1, wd, ws, false) x = (1, wd ++ x, ws, false)
  | [], wd, ws, _ => by simp [rrun]
  | b :: t, wd, ws, h => by
    obtain ⟨h1, h2, h3, h4⟩ := high_facts b (h b List.mem_cons_self)
    have e : rstep (1, wd, ws, false) b = (1, wd ++ [b], ws, false) := by simp [rstep, h1, h2, h3, h4]
    rw [rrun_cons, e, run_high1 t _ ws (fun y hy => h y (List.mem_cons_of_mem _ hy))]
    simp
theorem step_high (s : PSt) (r : Nat) (x : List UInt8) (hs : s.1 ≤ 4) (hr : 128 ≤ r) (hx : x ≠ []) (hh : ∀ b ∈ x, 128 ≤ b.toNat) (he : Lib.encodeRune (r : Int) = x) : mayStandR r = true ∧ match stp s.1 s.2.1 s.2.2 r with
    | some s' => rrun (emb s) x = emb s'
    | none => (rrun (emb s) x).2.2.2 = true := by
  obtain ⟨a, wd, ws⟩ := s
  simp only at hs ⊢
  have q1 : mayStandR r = true := by simp [mayStandR]; omega
  have q2 : blankR r = false := by simp [blankR]; omega
  have q3 : ¬ r = 34 := by omega
  have q4 : ¬ r = 92 := by omega
  refine ⟨q1, ?_⟩
  cases x with
  | nil => exact absurd rfl hx
  | cons b t =>
    obtain ⟨h1, h2, h3, h4⟩ := high_facts b (hh b List.mem_cons_self)
    have ht : ∀ y ∈ t, 128 ≤ y.toNat := fun y hy => hh y (List.mem_cons_of_mem _ hy)
    have five : a = 0 ∨ a = 1 ∨ a = 2 ∨ a = 3 ∨ a = 4 := by omega
    rcases five with rfl | rfl | rfl | rfl | rfl
    · have e : rstep (0, wd, ws, false) b = (1, wd ++ [b], ws, false) := by simp [rstep, h1, h2, h3, h4]
      simp [stp, bareS, q2, q3, q4, he, emb, rrun_cons, e, run_high1 t _ ws ht]
    · have e : rstep (1, wd, ws, false) b = (1, wd ++ [b], ws, false) := by simp [rstep, h1, h2, h3, h4]
      simp [stp, bareS, q2, q3, q4, he, emb, rrun_cons, e, run_high1 t _ ws ht]
    · have e : rstep (2, wd, ws, false) b = (2, wd ++ [b], ws, false) := by simp [rstep, h1, h3, h4]
      simp [stp, q3, q4, he, emb, rrun_cons, e, run_high2 t _ ws ht]
    · have e : (rstep (3, wd, ws, false) b).2.2.2 = true := by simp [rstep, h3, h4]
      simp only [stp, q3, q4]
      exact rrun_bad t _ e
    · have e : (rstep (4, [], ws ++ [wd], false) b).2.2.2 = true := by simp [rstep, h2]
      simp only [stp, q2]
      exact rrun_bad t _ e
theorem part_ref : ∀ (f : Nat) (l : List UInt8) (s : PSt), l.length ≤ f → Lib.validGoD f l = true → s.1 ≤ 4 → match partF f s l with
    | some s' => rrun (emb s) l = emb s' ∧ s'.1 ≤ 4
    | none => (rrun (emb s) l).2.2.2 = true
  | 0, l, s, hf, _, hs => by
    have : l = [] := List.eq_nil_of_length_eq_zero (by omega)
    subst this
    exact ⟨rfl, hs⟩
  | f + 1, [], s, _, _, hs => by
    have e : partF (f + 1) s [] = some s := by simp [partF]
    rw [e]
    exact ⟨rfl, hs⟩
  | f + 1, b :: t, s, hf, hv, hs => by
    have hW := Lib.decodeL_width (b :: t)
    rw [Lib.validGoD, if_neg (by simp)] at hv
    have hgood : ¬ ((Lib.decodeL (b :: t)).1 = 65533 ∧ (Lib.decodeL (b :: t)).2 = 1) := fun h => by rw [if_pos h] at hv; cases hv
    rw [if_neg hgood] at hv
    have henc := Lib.encode_decode (b :: t) (by simp) hgood
    have ih := fun s' h => part_ref f ((b :: t).drop (Lib.decodeL (b :: t)).2) s' (by rw [List.length_drop]; simp at hf ⊢; omega) hv h
    have hstep : mayStandR (Lib.decodeL (b :: t)).1 = false ∧ (rrun (emb s) ((b :: t).take (Lib.decodeL (b :: t)).2)).2.2.2 = true ∨ (mayStandR (Lib.decodeL (b :: t)).1 = true ∧ match stp s.1 s.2.1 s.2.2 (Lib.decodeL (b :: t)).1 with
        | some s' => rrun (emb s) ((b :: t).take (Lib.decodeL (b :: t)).2) = emb s'
        | none => (rrun (emb s) ((b :: t).take (Lib.decodeL (b :: t)).2)).2.2.2 = true) := by
      by_cases hb : b.toNat < 128
      · rw [decode_one b t hb]
        exact step_low s b hs hb
      · right
        have hne : (b :: t).take (Lib.decodeL (b :: t)).2 ≠ [] := by
          intro e
          have := congrArg List.length e
          rw [List.length_take] at this
          simp at this
          omega
        have hhi : ∀ x ∈ (b :: t).take (Lib.decodeL (b :: t)).2, 128 ≤ x.toNat := by
          have h2 := hi_bytes ⟨(b :: t).toArray⟩ 0 (by rw [back_size]; simp) (by show 128 ≤ b.toNat; omega)
          exact h2
        refine step_high s _ _ hs ?_ hne hhi henc
        rcases decode_ways b t with ⟨_, ⟨h1, _⟩ | ⟨_, h2, _⟩⟩ | ⟨_, _, _, _, _, _, _, _, h2⟩ | ⟨_, _, _, _, _, _, _, _, h2⟩ | ⟨_, _, _, _, _, _, _, _, _, _, h2⟩ <;> omega
    have hsplit : rrun (emb s) (b :: t) = rrun (rrun (emb s) ((b :: t).take (Lib.decodeL (b :: t)).2)) ((b :: t).drop (Lib.decodeL (b :: t)).2) := by
      rw [← rrun_app, List.take_append_drop]
    rw [partF, if_neg (by simp)]
    rcases hstep with ⟨hm, hbad⟩ | ⟨hm, hst⟩
    · rw [if_neg (by rw [hm]; simp), hsplit]
      exact rrun_bad _ _ hbad
    · rw [if_pos hm, hsplit]
      cases ho : stp s.1 s.2.1 s.2.2 (Lib.decodeL (b :: t)).1 with
      | none =>
        rw [ho] at hst
        exact rrun_bad _ _ hst
      | some s' =>
        rw [ho] at hst
        simp only at hst ⊢
        rw [hst]
        exact ih s' (stp_le ho).1
/-- What the reference comes to is what Words comes to. -/
theorem words_ref (l : List UInt8) : wordsM l = if l.length ≤ 1024 ∧ Lib.validD l = true then rfin (rrun (0, [], [], false) l) else none := by
  unfold wordsM
  by_cases h : l.length ≤ 1024 ∧ Lib.validD l = true
  · rw [if_pos h, if_pos h]
    have hp := part_ref l.length l (0, [], []) (Nat.le_refl _) h.2 (by decide)
    have e0 : emb (0, [], []) = (0, [], [], false) := rfl
    rw [e0] at hp
    cases ho : partF l.length (0, [], []) l with
    | none =>
      rw [ho] at hp
      simp only at hp
      unfold rfin
      rw [if_pos (Or.inl hp)]
      rfl
    | some s =>
      rw [ho] at hp
      simp only at hp
      rw [hp.1]
      obtain ⟨a, wd, ws⟩ := s
      have h4 := hp.2
      simp only at h4
      have five : a = 0 ∨ a = 1 ∨ a = 2 ∨ a = 3 ∨ a = 4 := by omega
      have hlen : ∀ x : List (List UInt8), (if x.length ≤ 16 then some x else none) = (if 16 < x.length then none else some x) := fun x => by
        by_cases hx : x.length ≤ 16
        · rw [if_pos hx, if_neg (by omega)]
        · rw [if_neg hx, if_pos (by omega)]
      have b32 : blankR 32 = true := rfl
      rcases five with rfl | rfl | rfl | rfl | rfl
      · simp only [ansM, fin, stp, b32, emb, rfin, rout]
        simpa using hlen ws
      · simp only [ansM, fin, stp, bareS, b32, emb, rfin, rout]
        simpa using hlen (ws ++ [wd])
      · simp [ansM, fin, stp, emb, rfin]
      · simp [ansM, fin, stp, emb, rfin]
      · simp only [ansM, fin, stp, b32, emb, rfin, rout]
        simpa using hlen (ws ++ [wd])
  · rw [if_neg h, if_neg h]
end Go.Proofs.YthoeehgnkolgpaaDoor
