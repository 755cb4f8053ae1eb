/- Plain mathematics of lines: words that are quoted come back. No program here. -/
import Derived.Test.YthoeehgnkolgpaaDoorFoldMath2
namespace Go.Proofs.YthoeehgnkolgpaaDoor
open Go.RowKit

/-- A parting along bytes below 128. -/
def runA (s : PSt) : List UInt8 → Option PSt
  | [] => some s
  | b :: t => if mayStandR b.toNat = true then (match stp s.1 s.2.1 s.2.2 b.toNat with
    | some s' => runA s' t
    | none => none) else none
theorem part_run : ∀ (f : Nat) (l : List UInt8) (s : PSt), l.length ≤ f → (∀ b ∈ l, b.toNat < 128) → partF f s l = runA s l
  | 0, l, s, hf, _ => by
    have : l = [] := List.eq_nil_of_length_eq_zero (by omega)
    subst this; rfl
  | f + 1, [], s, _, _ => by simp [partF, runA]
  | f + 1, b :: t, s, hf, h => by
    have hb := h b List.mem_cons_self
    have ih := fun s' => part_run f t s' (by simp at hf; omega) (fun x hx => h x (List.mem_cons_of_mem _ hx))
    rw [partF, if_neg (by simp), decode_one b t hb]
    simp only [List.drop_succ_cons, List.drop_zero, runA]
    by_cases hm : mayStandR b.toNat = true
    · rw [if_pos hm, if_pos hm]
      cases stp s.1 s.2.1 s.2.2 b.toNat with
      | none => rfl
      | some s' => exact ih s'
    · rw [if_neg hm, if_neg hm]
theorem valid_ascii : ∀ (f : Nat) (l : List UInt8), (∀ b ∈ l, b.toNat < 128) → Lib.validGoD f l = true
  | 0, _, _ => rfl
  | f + 1, [], _ => rfl
  | f + 1, b :: t, h => by
    have hb := h b List.mem_cons_self
    rw [Lib.validGoD, if_neg (by simp), decode_one b t hb]
    simp only [List.drop_succ_cons, List.drop_zero]
    rw [if_neg (by omega)]
    exact valid_ascii f t (fun x hx => h x (List.mem_cons_of_mem _ hx))
theorem run_app : ∀ (x y : List UInt8) (s : PSt), runA s (x ++ y) = match runA s x with
    | some s' => runA s' y
    | none => none
  | [], y, s => rfl
  | b :: t, y, s => by
    simp only [List.cons_append, runA]
    by_cases hm : mayStandR b.toNat = true
    · rw [if_pos hm, if_pos hm]
      cases stp s.1 s.2.1 s.2.2 b.toNat with
      | none => rfl
      | some s' => exact run_app t y s'
    · rw [if_neg hm, if_neg hm]
/-- Where a line of these words stands. -/
def stOf (ws : List (List UInt8)) : PSt := if ws = [] then (0, [], []) else (4, ws.getLastD [], ws.dropLast)
theorem stOf_more (ws : List (List UInt8)) (w : List UInt8) : stOf (ws ++ [w]) = (4, w, ws) := by
  unfold stOf
  rw [if_neg (by simp)]
  simp
theorem run_blank (ws : List (List UInt8)) (b : UInt8) (hb : b = 32 ∨ b = 9) : runA (stOf ws) [b] = some (0, [], ws) := by
  have hm : mayStandR b.toNat = true := by rcases hb with rfl | rfl <;> rfl
  have hk : blankR b.toNat = true := by rcases hb with rfl | rfl <;> rfl
  simp only [runA, hm, if_true]
  unfold stOf
  by_cases h : ws = []
  · rw [if_pos h]
    simp [stp, hk, h]
  · rw [if_neg h]
    simp only [stp, hk, if_true]
    have := List.dropLast_concat_getLast h
    have e : ws.getLastD [] = ws.getLast h := by
      cases ws with
      | nil => exact absurd rfl h
      | cons a t => simp [List.getLastD]
    simp only [e, this]
    rfl
theorem run_blank0 (ws : List (List UInt8)) (b : UInt8) (hb : b = 32 ∨ b = 9) : runA (0, [], ws) [b] = some (0, [], ws) := by
  have hm : mayStandR b.toNat = true := by rcases hb with rfl | rfl <;> rfl
  have hk : blankR b.toNat = true := by rcases hb with rfl | rfl <;> rfl
  simp [runA, hm, stp, hk]
def escB (b : UInt8) : List UInt8 := if b = 34 ∨ b = 92 then [92, b] else [b]
def quoteM (w : List UInt8) : List UInt8 := 34 :: (w.flatMap escB ++ [34])
def okB (b : UInt8) : Bool := decide (32 ≤ b.toNat ∧ b.toNat < 127)
theorem enc_ascii (b : UInt8) (h : b.toNat < 128) : Lib.encodeRune (b.toNat : Int) = [b] := by
  unfold Lib.encodeRune
  rw [Lib.encodeRuneZ_one (by omega) (by omega)]
  simp
theorem run_esc (b : UInt8) (hb : okB b = true) (wd : List UInt8) (ws : List (List UInt8)) : runA (2, wd, ws) (escB b) = some (2, wd ++ [b], ws) := by
  simp only [okB, decide_eq_true_eq] at hb
  have hm : mayStandR b.toNat = true := by simp [mayStandR]; omega
  have he := enc_ascii b (by omega)
  unfold escB
  by_cases h : b = 34 ∨ b = 92
  · rw [if_pos h]
    rcases h with rfl | rfl
    · rfl
    · rfl
  · rw [if_neg h]
    have n1 : ¬ b.toNat = 34 := fun e => h (Or.inl (UInt8.toNat_inj.1 e))
    have n2 : ¬ b.toNat = 92 := fun e => h (Or.inr (UInt8.toNat_inj.1 e))
    simp [runA, hm, stp, n1, n2, he]
theorem run_body : ∀ (w wd : List UInt8) (ws : List (List UInt8)), (∀ b ∈ w, okB b = true) → runA (2, wd, ws) (w.flatMap escB) = some (2, wd ++ w, ws)
  | [], wd, ws, _ => by simp [runA]
  | b :: t, wd, ws, h => by
    rw [List.flatMap_cons, run_app, run_esc b (h b List.mem_cons_self)]
    simp only
    rw [run_body t (wd ++ [b]) ws (fun x hx => h x (List.mem_cons_of_mem _ hx))]
    simp
theorem run_quote (w : List UInt8) (ws : List (List UInt8)) (h : ∀ b ∈ w, okB b = true) : runA (0, [], ws) (quoteM w) = some (stOf (ws ++ [w])) := by
  have e : runA (0, [], ws) (quoteM w) = runA (2, [], ws) (w.flatMap escB ++ [34]) := rfl
  rw [e, run_app, run_body w [] ws h, stOf_more]
  rfl
theorem esc_ascii (w : List UInt8) (h : ∀ b ∈ w, okB b = true) : ∀ b ∈ quoteM w, b.toNat < 128 := by
  intro b hb
  unfold quoteM at hb
  rcases List.mem_cons.1 hb with rfl | hb
  · decide
  · rcases List.mem_append.1 hb with hb | hb
    · obtain ⟨x, hx, hbx⟩ := List.mem_flatMap.1 hb
      have hok := h x hx
      simp only [okB, decide_eq_true_eq] at hok
      unfold escB at hbx
      split at hbx
      · rcases List.mem_cons.1 hbx with rfl | hbx
        · decide
        · simp at hbx; subst hbx; omega
      · simp at hbx; subst hbx; omega
    · simp at hb; subst hb; decide
theorem quote_len : ∀ (w : List UInt8), (w.flatMap escB).length ≤ 2 * w.length
  | [] => by simp
  | b :: t => by
    have := quote_len t
    rw [List.flatMap_cons, List.length_append, List.length_cons]
    have : (escB b).length ≤ 2 := by unfold escB; split <;> simp
    omega
/-- What Words answers of such a line. -/
theorem words_line (l : List UInt8) (ws : List (List UInt8)) (ha : ∀ b ∈ l, b.toNat < 128) (hr : runA (0, [], []) l = some (stOf ws)) : wordsM l = if l.length ≤ 1024 ∧ ws.length ≤ 16 then some ws else none := by
  unfold wordsM
  rw [part_run l.length l _ (Nat.le_refl _) ha, hr]
  have hv : Lib.validD l = true := valid_ascii _ l ha
  rw [hv]
  have hf : fin (stOf ws) = some ws := by
    have e : fin (stOf ws) = match stp (stOf ws).1 (stOf ws).2.1 (stOf ws).2.2 32 with
      | some s' => if s'.1 = 0 then some s'.2.2 else none
      | none => none := rfl
    have hb := run_blank ws 32 (Or.inl rfl)
    have hs : stp (stOf ws).1 (stOf ws).2.1 (stOf ws).2.2 32 = some (0, [], ws) := by
      have hb2 : runA (stOf ws) [32] = match stp (stOf ws).1 (stOf ws).2.1 (stOf ws).2.2 32 with
        | some s' => some s'
        | none => none := rfl
      rw [hb2] at hb
      cases h : stp (stOf ws).1 (stOf ws).2.1 (stOf ws).2.2 32 with
      | none => rw [h] at hb; cases hb
      | some s' => rw [h] at hb; exact hb
    rw [e, hs]
    rfl
  by_cases h1 : l.length ≤ 1024
  · rw [if_pos ⟨h1, rfl⟩]
    simp only [ansM, hf, h1, true_and]
  · rw [if_neg (fun h => h1 h.1), if_neg (fun h => h1 h.1)]
/-- The bytes that may stand in a line, at most 40 of them. -/
def mayM (l : List UInt8) : List UInt8 := (l.filter okB).take 40
theorem mayM_ok (l : List UInt8) : ∀ b ∈ mayM l, okB b = true := fun _ hb => (List.mem_filter.1 (List.mem_of_mem_take hb)).2
theorem mayM_len (l : List UInt8) : (mayM l).length ≤ 40 := by unfold mayM; rw [List.length_take]; omega
end Go.Proofs.YthoeehgnkolgpaaDoor
