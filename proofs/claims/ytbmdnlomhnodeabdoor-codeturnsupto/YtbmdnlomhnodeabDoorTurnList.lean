/- What CodeTurns writes, as a list. -/
import Derived.Test.YtbmdnlomhnodeabDoorTurnBack
namespace Go.Proofs.YtbmdnlomhnodeabDoor
open Go.RowKit
set_option maxRecDepth 100000

/-- One call of a script. -/
structure OpD where
  K : Int
  WH : Int
  M : Int
  N : Nat
  ba : Option Addr
  bl : Nat
  bc : Nat
  zb : Nat → Nat
def OpD.enc (o : OpD) : List Nat := encOf o.K o.N o.bl o.zb
/-- What is written ahead of call i. -/
def wl (f : Nat → OpD) : Nat → List Nat
  | 0 => [7]
  | i + 1 => wl f i ++ (f i).enc
theorem wl_len (f : Nat → OpD) : ∀ i, (∀ j, j < i → (f j).bl ≤ 1048576) → (wl f i).length ≤ 1 + i * 1048586
  | 0, _ => Nat.le_refl _
  | i + 1, h => by
    have ih := wl_len f i (fun j hj => h j (by omega))
    have h1 := h i (by omega)
    have h2 := encOf_len (f i).K (f i).N (f i).bl (f i).zb
    show (wl f i ++ (f i).enc).length ≤ _
    rw [List.length_append]
    unfold OpD.enc
    omega
theorem wl_pre (f : Nat → OpD) (i : Nat) : ∀ d, ∃ r, wl f (i + d) = wl f i ++ r
  | 0 => ⟨[], by simp⟩
  | d + 1 => by
    obtain ⟨r, h⟩ := wl_pre f i d
    exact ⟨r ++ (f (i + d)).enc, by show wl f (i + d) ++ (f (i + d)).enc = _; rw [h, List.append_assoc]⟩
theorem wl_mono (f : Nat → OpD) {i m : Nat} (h : i ≤ m) : (wl f i).length ≤ (wl f m).length := by
  obtain ⟨r, e⟩ := wl_pre f i (m - i)
  rw [show i + (m - i) = m by omega] at e
  rw [e, List.length_append]; omega
theorem wl_next (f : Nat → OpD) (i : Nat) : (wl f (i + 1)).length = (wl f i).length + (f i).enc.length := by
  show (wl f i ++ (f i).enc).length = _
  rw [List.length_append]
theorem wl_agr (f : Nat → OpD) {i m : Nat} (n : Nat) (h : i < m) : Agr (fun j => (wl f m).getD j 0) n (wl f i).length (f i).enc := fun j hj _ => by
  obtain ⟨r, e⟩ := wl_pre f (i + 1) (m - (i + 1))
  rw [show i + 1 + (m - (i + 1)) = m by omega] at e
  have e2 : wl f m = wl f i ++ ((f i).enc ++ r) := by rw [e, ← List.append_assoc]; rfl
  show (wl f m).getD ((wl f i).length + j) 0 = _
  rw [e2, getD_right, getD_left hj]
theorem wl_head (f : Nat → OpD) (m n : Nat) : Agr (fun j => (wl f m).getD j 0) n 0 (fl 1 7) := fun j hj _ => by
  obtain ⟨r, e⟩ := wl_pre f 0 m
  rw [Nat.zero_add] at e
  rw [fl_len] at hj
  obtain rfl : j = 0 := by omega
  show (wl f m).getD 0 0 = _
  rw [e]; rfl
theorem wl_pos (f : Nat → OpD) (m : Nat) : 0 < (wl f m).length := by
  have := wl_mono f (Nat.zero_le m)
  have e : (wl f 0).length = 1 := rfl
  omega
theorem enc_byte (K : Int) (N bl : Nat) (zb : Nat → Nat) (hz : ∀ j, zb j < 256) : ∀ c ∈ encOf K N bl zb, c < 256 := by
  have hf : ∀ k M, ∀ c ∈ fl k M, c < 256 := fun k M c hc => by
    unfold fl at hc
    obtain ⟨i, _, rfl⟩ := List.mem_map.1 hc
    exact Nat.mod_lt _ (by decide)
  have hr : ∀ c ∈ (List.range bl).map zb, c < 256 := fun c hc => by
    obtain ⟨i, _, rfl⟩ := List.mem_map.1 hc
    exact hz i
  unfold encOf
  split
  · exact hf _ _
  · split
    · exact hf _ _
    · split
      · exact hf _ _
      · split
        · exact fun c hc => vl_lt _ _ c hc
        · split
          · intro c hc
            rcases List.mem_append.1 hc with h | h
            · exact vl_lt _ _ c h
            · exact hr c h
          · split
            · exact hr
            · intro c hc; cases hc
theorem wl_byte (f : Nat → OpD) : ∀ i, (∀ j, j < i → ∀ q, (f j).zb q < 256) → ∀ c ∈ wl f i, c < 256
  | 0, _ => fun c hc => by
    have : c = 7 := by simpa [wl] using hc
    omega
  | i + 1, h => fun c hc => by
    rcases List.mem_append.1 hc with h1 | h1
    · exact wl_byte f i (fun j hj => h j (by omega)) c h1
    · exact enc_byte _ _ _ _ (h i (by omega)) c h1
theorem getD_byte {l : List Nat} (h : ∀ c ∈ l, c < 256) (j : Nat) : l.getD j 0 < 256 := by
  rcases Nat.lt_or_ge j l.length with hj | hj
  · rw [List.getD_eq_getElem?_getD, List.getElem?_eq_getElem hj]
    exact h _ (List.getElem_mem hj)
  · rw [List.getD_eq_getElem?_getD, List.getElem?_eq_none hj]; decide
end Go.Proofs.YtbmdnlomhnodeabDoor
