/- What is read, written anew, is the bytes that were read: the plain mathematics. -/
import Derived.Test.YtbmdnlomhnodeabDoorReadsAll
import Derived.Test.YtbmdnlomhnodeabDoorPairs
namespace Go.Proofs.YtbmdnlomhnodeabDoor
open Go.RowKit
set_option maxRecDepth 100000

theorem be_div (z : Nat → Nat) (hz : ∀ j, z j < 256) (k : Nat) : ∀ d, be z (k + d) / 256 ^ d = be z k
  | 0 => by simp
  | d + 1 => by
    have e : be z (k + (d + 1)) = be z (k + d) * 256 + z (k + d) := rfl
    have h := hz (k + d)
    rw [e, Nat.pow_succ, Nat.mul_comm (256 ^ d) 256, ← Nat.div_div_eq_div_mul, show (be z (k + d) * 256 + z (k + d)) / 256 = be z (k + d) by omega]
    exact be_div z hz k d
theorem fl_be (z : Nat → Nat) (hz : ∀ j, z j < 256) (width : Nat) : fl width (be z width) = (List.range width).map z := by
  unfold fl
  apply List.map_congr_left
  intro i hi
  have hi := List.mem_range.1 hi
  have e : width = (i + 1) + (width - 1 - i) := by omega
  have h1 := be_div z hz (i + 1) (width - 1 - i)
  rw [← e] at h1
  rw [h1]
  show (be z i * 256 + z i) % 256 = z i
  have := hz i
  omega
theorem range_cat (z : Nat → Nat) (a b : Nat) : (List.range a).map z ++ (List.range b).map (fun j => z (a + j)) = (List.range (a + b)).map z := by
  rw [List.range_add, List.map_append, List.map_map]; rfl

theorem vs_shift (z : Nat → Nat) : ∀ s, vs z (s + 1) = z 0 % 128 + 128 * vs (fun j => z (j + 1)) s
  | 0 => by simp [vs]
  | s + 1 => by
    have h := vs_shift z s
    have e1 : vs z (s + 1 + 1) = vs z (s + 1) + z (s + 1) % 128 * 128 ^ (s + 1) := rfl
    have e2 : vs (fun j => z (j + 1)) (s + 1) = vs (fun j => z (j + 1)) s + z (s + 1) % 128 * 128 ^ s := rfl
    rw [e1, e2, h, Nat.pow_succ, Nat.mul_add]
    have : z (s + 1) % 128 * (128 ^ s * 128) = 128 * (z (s + 1) % 128 * 128 ^ s) := by rw [← Nat.mul_assoc, Nat.mul_comm]
    omega
/-- A number in its shortest form: digits that go on, a last one that doesn't, and that isn't 0 but alone. -/
structure Shape (z : Nat → Nat) (s : Nat) : Prop where
  pos : 0 < s
  byte : ∀ j, z j < 256
  more : ∀ j, j + 1 < s → 128 ≤ z j
  last : z (s - 1) < 128
  nz : z (s - 1) = 0 → s = 1
theorem vl_shape : ∀ (s f : Nat) (z : Nat → Nat), Shape z s → s ≤ f + 1 → vl f (vs z s) = (List.range s).map z
  | 0, f, z, h, _ => absurd h.pos (Nat.lt_irrefl _)
  | 1, f, z, h, _ => by
    have h1 := h.last
    have h2 : z 0 < 128 := h1
    have e : vs z 1 = z 0 := by simp [vs]; omega
    rw [e]
    cases f with
    | zero => show [z 0 % 256] = [z 0]; rw [Nat.mod_eq_of_lt (by omega)]
    | succ f => unfold vl; rw [if_pos h2]; rfl
  | s + 2, f, z, h, hf => by
    have h0 := h.more 0 (by omega)
    have hb := h.byte 0
    have hS : Shape (fun j => z (j + 1)) (s + 1) := ⟨by omega, fun j => h.byte _, fun j hj => h.more (j + 1) (by omega), h.last, fun e => by have := h.nz e; omega⟩
    obtain ⟨g, rfl⟩ : ∃ g, f = g + 1 := ⟨f - 1, by omega⟩
    have ih := vl_shape (s + 1) g (fun j => z (j + 1)) hS (by omega)
    have hpos : 0 < vs (fun j => z (j + 1)) (s + 1) := by
      have e : vs (fun j => z (j + 1)) (s + 1) = vs (fun j => z (j + 1)) s + z (s + 1) % 128 * 128 ^ s := rfl
      have hl : z (s + 1) < 128 := h.last
      have hn : z (s + 1) ≠ 0 := fun e => by have := h.nz e; omega
      have : 0 < z (s + 1) % 128 * 128 ^ s := Nat.mul_pos (by omega) (Nat.pow_pos (by decide))
      omega
    have hN := vs_shift z (s + 1)
    rw [hN]
    unfold vl
    rw [if_neg (by omega), show (z 0 % 128 + 128 * vs (fun j => z (j + 1)) (s + 1)) / 128 = vs (fun j => z (j + 1)) (s + 1) by omega, ih, show (z 0 % 128 + 128 * vs (fun j => z (j + 1)) (s + 1)) % 128 + 128 = z 0 by omega]
    have er : (List.range (s + 2)).map z = z 0 :: (List.range (s + 1)).map (fun j => z (j + 1)) := by
      rw [show s + 2 = (s + 1) + 1 from rfl, List.range_succ_eq_map, List.map_cons, List.map_map]; rfl
    rw [er]
theorem vres_shape (z : Nat → Nat) (hz : ∀ j, z j < 256) (m most : Nat) : ∀ f i, (vres z m most f i).2.2 = 0 → (∀ j, i ≤ j → j + 1 < (vres z m most f i).2.1 → 128 ≤ z j) ∧ z ((vres z m most f i).2.1 - 1) < 128 ∧ (z ((vres z m most f i).2.1 - 1) = 0 → (vres z m most f i).2.1 = 1) ∧ (vres z m most f i).2.1 ≤ i + f
  | 0, i, h => by simp [vres] at h
  | f + 1, i, h => by
    unfold vres at h ⊢
    split at h
    · simp at h
    · next h1 =>
      rw [if_neg h1]
      split at h
      · simp at h
      · next h2 =>
        rw [if_neg h2]
        split at h
        · next h3 =>
          rw [if_pos h3]
          have := vres_shape z hz m most f (i + 1) h
          refine ⟨fun j hj hj2 => ?_, this.2.1, this.2.2.1, by omega⟩
          rcases Nat.eq_or_lt_of_le hj with e | e
          · rw [← e]; exact h3
          · exact this.1 j (by omega) hj2
        · next h3 =>
          rw [if_neg h3]
          split at h
          · simp at h
          · next h4 =>
            rw [if_neg h4]
            split at h
            · simp at h
            · next h5 =>
              rw [if_neg h5]
              refine ⟨fun j hj hj2 => ?_, ?_, ?_, by show i + 1 ≤ i + (f + 1); omega⟩
              · have : j + 1 < i + 1 := hj2
                omega
              · show z (i + 1 - 1) < 128
                rw [Nat.add_sub_cancel]; omega
              · show z (i + 1 - 1) = 0 → i + 1 = 1
                rw [Nat.add_sub_cancel]; omega
/-- WHAT IS READ AS A NUMBER, WRITTEN ANEW. -/
theorem vl_read (z : Nat → Nat) (hz : ∀ j, z j < 256) (m most : Nat) (h : (vlook z m most).2.2 = 0) : vl 9 (vlook z m most).1 = (List.range (vlook z m most).2.1).map z := by
  obtain ⟨h1, h2, h3, h4⟩ := vlook_size z m most h
  obtain ⟨g1, g2, g3, g4⟩ := vres_shape z hz m most 10 0 h
  rw [h3]
  exact vl_shape _ 9 z ⟨h2, hz, fun j hj => g1 j (Nat.zero_le _) hj, g2, g3⟩ (by have : (vlook z m most).2.1 ≤ 0 + 10 := g4; omega)
theorem vlook_lt (z : Nat → Nat) (hz : ∀ j, z j < 256) (m most : Nat) (hm : most < 18446744073709551616) : (vlook z m most).1 < 18446744073709551616 := by
  by_cases h : (vlook z m most).2.2 = 0
  · have := (vlook_size z m most h).2.2.2; have := hz 0; omega
  · rw [(vlook_bad z m most h).1]; decide
end Go.Proofs.YtbmdnlomhnodeabDoor
