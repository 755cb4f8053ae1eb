/- What is written is read: the plain mathematics. -/
import Derived.Test.YtbmdnlomhnodeaaDoorReadsAll
import Derived.Test.YtbmdnlomhnodeaaDoorPairs
namespace Go.Proofs.YtbmdnlomhnodeaaDoor
open Go.RowKit

/-- Bytes from at' on are these, as far as there are bytes. -/
def Agr (z : Nat → Nat) (n at' : Nat) (l : List Nat) : Prop := ∀ j, j < l.length → at' + j < n → z (at' + j) = l.getD j 0
/-- The ways in which an item is met: behind a fault, whole, or cut by one byte. -/
def Sc (z : Nat → Nat) (n at' bad : Nat) (l : List Nat) : Prop := bad ≠ 0 ∨ (bad = 0 ∧ Agr z n at' l ∧ (at' + l.length ≤ n ∨ at' + l.length = n + 1))

theorem fl_len (k N : Nat) : (fl k N).length = k := by simp [fl]
theorem fl_get (k N j : Nat) (h : j < k) : (fl k N).getD j 0 = N / 256 ^ (k - 1 - j) % 256 := by
  unfold fl
  simp [List.getD, h]
theorem be_digits (y : Nat → Nat) (k N : Nat) (hN : N < 256 ^ k) (h : ∀ j, j < k → y j = N / 256 ^ (k - 1 - j) % 256) : ∀ i, i ≤ k → be y i = N / 256 ^ (k - i)
  | 0, _ => by
    show 0 = _
    rw [Nat.sub_zero, Nat.div_eq_of_lt hN]
  | i + 1, hi => by
    have ih := be_digits y k N hN h i (by omega)
    show be y i * 256 + y i = _
    rw [ih, h i (by omega), show k - i = (k - (i + 1)) + 1 by omega, show k - 1 - i = k - (i + 1) by omega, Nat.pow_succ, ← Nat.div_div_eq_div_mul]
    omega
theorem fix_res (z : Nat → Nat) (n k N at' bad : Nat) (hk : 0 < k) (hN : N < 256 ^ k) (h : Sc z n at' bad (fl k N)) :
    (bad ≠ 0 ∧ fixAns z n k at' bad = (0, at', bad)) ∨ (bad = 0 ∧ at' + k ≤ n ∧ fixAns z n k at' bad = (N, at' + k, 0)) ∨ (bad = 0 ∧ at' + k = n + 1 ∧ fixAns z n k at' bad = (0, at', 10)) := by
  unfold fixAns
  rcases h with h | ⟨rfl, ha, h⟩
  · exact Or.inl ⟨h, if_pos h⟩
  · rw [fl_len] at h
    rw [if_neg (fun e => e rfl)]
    rcases h with h | h
    · refine Or.inr (Or.inl ⟨rfl, h, ?_⟩)
      rw [if_neg (by omega)]
      have := be_digits (fun j => z (at' + j)) k N hN (fun j hj => by
        rw [← fl_get k N j hj]
        exact ha j (by rw [fl_len]; exact hj) (by omega)) k (Nat.le_refl _)
      rw [this, Nat.sub_self, Nat.pow_zero, Nat.div_one]
    · exact Or.inr (Or.inr ⟨rfl, h, if_pos (by omega)⟩)

theorem vl_pos (f N : Nat) : 0 < (vl f N).length := by
  cases f with
  | zero => exact Nat.zero_lt_one
  | succ f =>
    unfold vl
    split
    · exact Nat.zero_lt_one
    · simp
theorem vl_one {f M : Nat} (h : M < 128) : vl f M = [M] := by
  cases f with
  | zero => unfold vl; rw [Nat.mod_eq_of_lt (by omega)]
  | succ f => unfold vl; rw [if_pos h]
theorem vres_one (y : Nat → Nat) (m most N f i M : Nat) (hM : M < 128) (h9 : i = 9 → M < 2) (hp : 0 < i → 0 < M) (hv : vs y i + M * 128 ^ i = N) (ha : i < m → y i = M) :
    (i + 1 ≤ m → N ≤ most → vres y m most (f + 1) i = (N, i + 1, 0)) ∧ (i + 1 = m + 1 → (vres y m most (f + 1) i).2.2 = 10) := by
  refine ⟨fun h1 h2 => ?_, fun h1 => ?_⟩
  · have e := ha (by omega)
    have hs : vs y (i + 1) = N := by
      show vs y i + y i % 128 * 128 ^ i = N
      rw [e, Nat.mod_eq_of_lt hM]; exact hv
    unfold vres
    rw [if_neg (by omega), if_neg (by omega), if_neg (by omega), if_neg (by omega), hs, if_neg (by omega)]
  · unfold vres
    rw [if_pos (by omega)]
theorem vres_vl (y : Nat → Nat) (m most N : Nat) : ∀ f i M, i + f = 9 → M < 2 * 128 ^ f → (0 < i → 0 < M) → vs y i + M * 128 ^ i = N → (∀ j, j < (vl f M).length → i + j < m → y (i + j) = (vl f M).getD j 0) →
    (i + (vl f M).length ≤ m → N ≤ most → vres y m most (f + 1) i = (N, i + (vl f M).length, 0)) ∧ (i + (vl f M).length = m + 1 → (vres y m most (f + 1) i).2.2 = 10)
  | 0, i, M, hi, hM, hp, hv, ha => by
    have h128 : M < 128 := by simp at hM; omega
    rw [vl_one h128] at ha ⊢
    exact vres_one y m most N 0 i M h128 (fun _ => by simpa using hM) hp hv (fun h => by simpa using ha 0 (by simp) (by omega))
  | f + 1, i, M, hi, hM, hp, hv, ha => by
    by_cases h128 : M < 128
    · rw [vl_one h128] at ha ⊢
      exact vres_one y m most N (f + 1) i M h128 (fun h => by omega) hp hv (fun h => by simpa using ha 0 (by simp) (by omega))
    · have e : vl (f + 1) M = (M % 128 + 128) :: vl f (M / 128) := by
        show (if M < 128 then [M] else (M % 128 + 128) :: vl f (M / 128)) = _
        rw [if_neg h128]
      rw [e] at ha ⊢
      have hlp := vl_pos f (M / 128)
      simp only [List.length_cons]
      have h0 : i < m → y i = M % 128 + 128 := fun h => by simpa using ha 0 (by simp) (by omega)
      have step : i < m → vres y m most (f + 1 + 1) i = vres y m most (f + 1) (i + 1) := fun h => by
        have e0 := h0 h
        rw [vres.eq_2]
        rw [if_neg (by omega), if_neg (by omega), if_pos (by omega)]
      have ih := fun (hm : i < m) => vres_vl y m most N f (i + 1) (M / 128) (by omega) (by rw [Nat.pow_succ] at hM; omega) (fun _ => by omega) (by
          show vs y i + y i % 128 * 128 ^ i + M / 128 * 128 ^ (i + 1) = N
          rw [h0 hm, ← hv, Nat.pow_succ, show (M % 128 + 128) % 128 = M % 128 by omega]
          have e1 : M * 128 ^ i = (M % 128 + 128 * (M / 128)) * 128 ^ i := by rw [Nat.mod_add_div]
          rw [e1, Nat.add_mul, Nat.add_assoc, Nat.mul_comm (128 ^ i) 128, ← Nat.mul_assoc, Nat.mul_comm (M / 128) 128])
        (fun j hj hjm => by
          have := ha (j + 1) (by simp; exact hj) (by omega)
          rw [show i + (j + 1) = i + 1 + j by omega] at this
          simpa using this)
      refine ⟨fun h1 h2 => ?_, fun h1 => ?_⟩
      · rw [step (by omega), (ih (by omega)).1 (by omega) h2]
        rw [show i + 1 + (vl f (M / 128)).length = i + ((vl f (M / 128)).length + 1) by omega]
      · rw [step (by omega)]
        exact (ih (by omega)).2 (by omega)
/-- A NUMBER THAT WAS WRITTEN IS READ; without its last byte it is not. -/
theorem vlook_vl (y : Nat → Nat) (m most N : Nat) (hN : N < 18446744073709551616) (ha : ∀ j, j < (vl 9 N).length → j < m → y j = (vl 9 N).getD j 0) :
    ((vl 9 N).length ≤ m → N ≤ most → vlook y m most = (N, (vl 9 N).length, 0)) ∧ ((vl 9 N).length = m + 1 → (vlook y m most).2.2 = 10) := by
  have := vres_vl y m most N 9 0 N rfl (by simpa using hN) (fun h => absurd h (Nat.lt_irrefl _)) (by show 0 + N * 128 ^ 0 = N; omega) (fun j hj hjm => by
    rw [Nat.zero_add] at hjm ⊢; exact ha j hj hjm)
  simp only [Nat.zero_add] at this
  exact this
theorem var_res (z : Nat → Nat) (n N at' bad : Nat) (hN : N < 18446744073709551616) (hle : at' ≤ n) (h : Sc z n at' bad (vl 9 N)) :
    (bad ≠ 0 ∧ varAns z n N at' bad = (0, at', bad)) ∨ (bad = 0 ∧ at' + (vl 9 N).length ≤ n ∧ varAns z n N at' bad = (N, at' + (vl 9 N).length, 0)) ∨ (bad = 0 ∧ at' + (vl 9 N).length = n + 1 ∧ (varAns z n N at' bad).2.2 = 10) := by
  unfold varAns
  rcases h with h | ⟨rfl, ha, h⟩
  · exact Or.inl ⟨h, if_pos h⟩
  · rw [if_neg (fun e => e rfl)]
    have hv := vlook_vl (fun j => z (at' + j)) (n - at') N N hN (fun j hj hjm => ha j hj (by omega))
    rcases h with h | h
    · exact Or.inr (Or.inl ⟨rfl, h, by rw [hv.1 (by omega) (Nat.le_refl _)]⟩)
    · exact Or.inr (Or.inr ⟨rfl, h, hv.2 (by omega)⟩)
theorem range_map_get (zb : Nat → Nat) (b j : Nat) (h : j < b) : ((List.range b).map zb).getD j 0 = zb j := getD_range_map zb b j h
theorem getD_left {l r : List Nat} {j : Nat} (h : j < l.length) : (l ++ r).getD j 0 = l.getD j 0 := by
  simp [List.getD, List.getElem?_append_left h]
theorem getD_right {l r : List Nat} {j : Nat} : (l ++ r).getD (l.length + j) 0 = r.getD j 0 := by
  simp [List.getD, List.getElem?_append_right]
theorem bytes_res (z : Nat → Nat) (n b at' bad : Nat) (zb : Nat → Nat) (hb : b < 18446744073709551616) (hle : at' ≤ n) (h : Sc z n at' bad (vl 9 b ++ (List.range b).map zb)) :
    (bad ≠ 0 ∧ bytesAns z n b at' bad = (0, at', at', bad)) ∨ (bad = 0 ∧ at' + (vl 9 b ++ (List.range b).map zb).length ≤ n ∧ (bytesAns z n b at' bad = (b, at' + (vl 9 b).length, at' + (vl 9 b ++ (List.range b).map zb).length, 0) ∧ ∀ j, j < b → z (at' + (vl 9 b).length + j) = zb j)) ∨
    (bad = 0 ∧ at' + (vl 9 b ++ (List.range b).map zb).length = n + 1 ∧ (bytesAns z n b at' bad).1 = 0 ∧ (bytesAns z n b at' bad).2.2.2 = 10) := by
  unfold bytesAns
  rcases h with h | ⟨rfl, ha, h⟩
  · exact Or.inl ⟨h, if_pos h⟩
  · rw [if_neg (fun e => e rfl)]
    have hlen : (vl 9 b ++ (List.range b).map zb).length = (vl 9 b).length + b := by simp
    rw [hlen] at h ⊢
    have hv := vlook_vl (fun j => z (at' + j)) (n - at') b b hb (fun j hj hjm => by
      show z (at' + j) = _
      rw [ha j (by rw [hlen]; omega) (by omega), getD_left hj])
    have hp := vl_pos 9 b
    rcases h with h | h
    · refine Or.inr (Or.inl ⟨rfl, h, ?_, fun j hj => ?_⟩)
      · unfold blook
        rw [hv.1 (by omega) (Nat.le_refl _)]
        simp only [ne_eq, not_true_eq_false, if_false]
        rw [if_neg (by omega)]
      · rw [Nat.add_assoc, ha ((vl 9 b).length + j) (by rw [hlen]; omega) (by omega), getD_right, range_map_get _ _ _ hj]
    · have hbk : (blook (fun j => z (at' + j)) (n - at') b).1 = 0 ∧ (blook (fun j => z (at' + j)) (n - at') b).2.2 = 10 := by
        unfold blook
        rcases Nat.eq_zero_or_pos b with h0 | h0
        · have h10 := hv.2 (by omega)
          rw [if_pos (by rw [h10]; decide), h10]
          exact ⟨rfl, rfl⟩
        · rw [hv.1 (by omega) (Nat.le_refl _)]
          simp only [ne_eq, not_true_eq_false, if_false]
          rw [if_pos (by omega)]
          exact ⟨rfl, rfl⟩
      exact Or.inr (Or.inr ⟨rfl, h, hbk.1, hbk.2⟩)
theorem raw_res (z : Nat → Nat) (n b at' bad : Nat) (zb : Nat → Nat) (hle : at' ≤ n) (h : Sc z n at' bad ((List.range b).map zb)) :
    (bad ≠ 0 ∧ rawAns n (b : Int) at' bad = (0, at', at', bad)) ∨ (bad = 0 ∧ at' + ((List.range b).map zb).length ≤ n ∧ (rawAns n (b : Int) at' bad = (b, at', at' + ((List.range b).map zb).length, 0) ∧ ∀ j, j < b → z (at' + j) = zb j)) ∨
    (bad = 0 ∧ at' + ((List.range b).map zb).length = n + 1 ∧ (rawAns n (b : Int) at' bad).1 = 0 ∧ (rawAns n (b : Int) at' bad).2.2.2 = 10) := by
  unfold rawAns
  have hlen : ((List.range b).map zb).length = b := by simp
  rcases h with h | ⟨rfl, ha, h⟩
  · exact Or.inl ⟨h, if_pos h⟩
  · rw [if_neg (fun e => e rfl), if_neg (by omega)]
    rw [hlen] at h ⊢
    unfold rlook
    rw [Int.toNat_natCast]
    rcases h with h | h
    · refine Or.inr (Or.inl ⟨rfl, h, ?_, fun j hj => ?_⟩)
      · rw [if_neg (by omega)]
      · rw [ha j (by rw [hlen]; exact hj) (by omega), range_map_get _ _ _ hj]
    · rw [if_pos (by omega)]
      exact Or.inr (Or.inr ⟨rfl, h, rfl, rfl⟩)
end Go.Proofs.YtbmdnlomhnodeaaDoor
