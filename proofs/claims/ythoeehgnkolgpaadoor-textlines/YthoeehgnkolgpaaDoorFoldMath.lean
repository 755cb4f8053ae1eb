/- Plain mathematics of folding: byte by byte. No program here. -/
import Derived.Test.YthoeehgnkolgpaaDoorFold2
namespace Go.Proofs.YthoeehgnkolgpaaDoor
open Go.RowKit

abbrev contB (b : Nat) : Prop := 128 ≤ b ∧ b ≤ 191
/-- One byte, behind another. -/
def foldB1 (p b : UInt8) : UInt8 := if (65 ≤ b.toNat ∧ b.toNat ≤ 90) ∨ (p = 195 ∧ 128 ≤ b.toNat ∧ b.toNat ≤ 158 ∧ b.toNat ≠ 151) then UInt8.ofNat (b.toNat + 32) else b
def foldB (p : UInt8) : List UInt8 → List UInt8
  | [] => []
  | b :: t => foldB1 p b :: foldB b t
theorem foldB_len : ∀ (l : List UInt8) (p : UInt8), (foldB p l).length = l.length
  | [], _ => rfl
  | b :: t, p => by simp [foldB, foldB_len t b]
theorem of_nat (n : Nat) (h : n < 256) : (UInt8.ofNat n).toNat = n := by simp; omega
theorem foldB1_nat (p b : UInt8) : (foldB1 p b).toNat = if (65 ≤ b.toNat ∧ b.toNat ≤ 90) ∨ (p = 195 ∧ 128 ≤ b.toNat ∧ b.toNat ≤ 158 ∧ b.toNat ≠ 151) then b.toNat + 32 else b.toNat := by
  unfold foldB1
  split
  · rename_i h
    exact of_nat _ (by omega)
  · rfl
/-- The decoding, by the bytes of a list. -/
theorem decodeL_N (l : List UInt8) : Lib.decodeL l = Lib.decodeN l.length (l.getD 0 0).toNat (l.getD 1 0).toNat (l.getD 2 0).toNat (l.getD 3 0).toNat := by
  have h := Lib.decode_at ⟨l.toArray⟩ 0
  have g : ∀ i, ((⟨l.toArray⟩ : ByteArray).get! i) = l.getD i 0 := fun i => by
    simp only [ByteArray.get!]
    rw [getElem!_def]
    cases hi : l.toArray[i]? with
    | none => simp at hi; simp [List.getD, hi]; rfl
    | some v => simp at hi; simp [List.getD, hi]
  rw [g, g, g, g] at h
  rw [Lib.decodeL, h]
  congr 1
/-- Two lists that agree up to the first byte that goes on no code point. -/
def Alike : List UInt8 → List UInt8 → Prop
  | [], [] => True
  | a :: s, b :: t => (contB a.toNat ↔ contB b.toNat) ∧ (contB a.toNat → a = b ∧ Alike s t) ∧ s.length = t.length
  | _, _ => False
theorem Alike.len : ∀ {s t : List UInt8}, Alike s t → s.length = t.length
  | [], [], _ => rfl
  | a :: s, b :: t, h => by simp [h.2.2]
  | [], _ :: _, h => by cases h
  | _ :: _, [], h => by cases h
theorem decodeN_alike {n b0 b1 b2 b3 c1 c2 c3 : Nat} (h1 : contB b1 ↔ contB c1) (e1 : contB b1 → b1 = c1) (h2 : contB b1 → (contB b2 ↔ contB c2)) (e2 : contB b1 → contB b2 → b2 = c2) (h3 : contB b1 → contB b2 → (contB b3 ↔ contB c3)) (e3 : contB b1 → contB b2 → contB b3 → b3 = c3) :
    Lib.decodeN n b0 b1 b2 b3 = Lib.decodeN n b0 c1 c2 c3 := by
  have k : ∀ b : Nat, (b / 64 = 2) ↔ contB b := fun b => by unfold contB; omega
  unfold Lib.decodeN
  simp only [k]
  by_cases p1 : contB b1
  · have q1 := e1 p1
    subst q1
    by_cases p2 : contB b2
    · have q2 := e2 p1 p2
      subst q2
      by_cases p3 : contB b3
      · have q3 := e3 p1 p2 p3
        subst q3
        rfl
      · have n3 : ¬ contB c3 := fun h => p3 ((h3 p1 p2).2 h)
        simp only [p3, n3, and_false, if_false]
    · have n2 : ¬ contB c2 := fun h => p2 ((h2 p1).2 h)
      simp only [p2, n2, and_false, false_and, if_false]
  · have n1 : ¬ contB c1 := fun h => p1 (h1.2 h)
    simp only [p1, n1, and_false, false_and, if_false]
theorem zero_cont : ¬ contB ((0 : UInt8).toNat) := by unfold contB; simp
theorem Alike.at0 : ∀ {s t : List UInt8}, Alike s t → (contB (s.getD 0 0).toNat ↔ contB (t.getD 0 0).toNat) ∧ (contB (s.getD 0 0).toNat → s.getD 0 0 = t.getD 0 0 ∧ Alike (s.drop 1) (t.drop 1))
  | [], [], _ => ⟨Iff.rfl, fun h => absurd h zero_cont⟩
  | a :: s, b :: t, h => ⟨by simpa using h.1, by simpa using h.2.1⟩
  | [], _ :: _, h => by cases h
  | _ :: _, [], h => by cases h
theorem getD_drop (l : List UInt8) (i : Nat) : (l.drop 1).getD i 0 = l.getD (i + 1) 0 := by cases l <;> simp
theorem decode_alike (b : UInt8) {s t : List UInt8} (h : Alike s t) : Lib.decodeL (b :: s) = Lib.decodeL (b :: t) := by
  rw [decodeL_N, decodeL_N, List.length_cons, List.length_cons, h.len]
  simp only [List.getD_cons_zero, List.getD_cons_succ]
  have a0 := h.at0
  refine decodeN_alike a0.1 (fun c => by rw [(a0.2 c).1]) (fun c => ?_) (fun c d => ?_) (fun c d => ?_) (fun c d e => ?_)
  · have a1 := (a0.2 c).2.at0
    simp only [getD_drop] at a1
    exact a1.1
  · have a1 := (a0.2 c).2.at0
    simp only [getD_drop] at a1
    rw [(a1.2 d).1]
  · have a1 := (a0.2 c).2.at0
    simp only [getD_drop] at a1
    have a2 := (a1.2 d).2.at0
    simp only [getD_drop] at a2
    exact a2.1
  · have a1 := (a0.2 c).2.at0
    simp only [getD_drop] at a1
    have a2 := (a1.2 d).2.at0
    simp only [getD_drop] at a2
    rw [(a2.2 e).1]
/-- Folding leaves what goes on a code point, behind a byte that is not 195. -/
theorem alike_fold : ∀ (l : List UInt8) (p : UInt8), (p = 195 → ¬ contB (l.getD 0 0).toNat) → Alike l (foldB p l)
  | [], _, _ => trivial
  | b :: t, p, hp => by
    have hn := foldB1_nat p b
    simp only [List.getD_cons_zero] at hp
    refine ⟨?_, fun hc => ⟨?_, ?_⟩, (foldB_len t b).symm⟩
    · unfold contB at *
      rw [hn]
      by_cases h : p = 195
      · have := hp h
        split
        · rename_i h2; omega
        · exact Iff.rfl
      · simp only [h, false_and, or_false]
        split
        · omega
        · exact Iff.rfl
    · unfold contB at hc hp
      have h : ¬ p = 195 := fun e => hp e hc
      unfold foldB1
      rw [if_neg (by simp only [h, false_and, or_false]; omega)]
    · refine alike_fold t b (fun e => ?_)
      unfold contB at hc
      rw [e] at hc
      simp at hc
end Go.Proofs.YthoeehgnkolgpaaDoor
