/- Own texts, joined: MsgN, MsgO, J1, J2, Msg1, Msg2, Msg3, StrB. -/
import Derived.Test.YtonpmabdjngdcaaGreatDoorM5
import Derived.Lib.ConvBytes

/- The fields of messages; the program's and the document's answers are the same. -/
namespace Go.Proofs.YtonpmabdjngdcaaGreatDoor
open Go.RowKit

def fds : Nat → List Fd
  | 0 => [.var 4 1099511627776]
  | 1 => [.var 5 1099511627776, .var 6 1099511627776]
  | 2 => [.var 7 1099511627776]
  | 3 => [.var 8 1025]
  | 4 => [.var 9 1099511627776]
  | 5 => [.text 10 16384]
  | 6 => [.small 11 7]
  | 7 => [.var 12 1099511627776]
  | 8 => [.text 13 64]
  | 9 => [.text 14 64]
  | 10 => [.var 15 9007199254740992]
  | 11 => [.var 16 1099511627776, .var 17 1099511627776]
  | 12 => [.small 18 3]
  | 13 => [.small 19 7]
  | 14 => [.small 20 4]
  | 15 => [.var 21 307]
  | _ => []
def usesT : Nat → Nat
  | 1 => 1 | 2 => 35 | 3 => 17 | 4 => 42 | 5 => 2 | 6 => 13 | 7 => 5 | 8 => 1472 | 9 => 192 | 10 => 16256 | 11 => 52224 | _ => 0
def usedB (k i : Nat) : Bool := usesT k / 2 ^ i % 2 == 1
/-- The parts that a kind uses, of the first fields. -/
def fdsU (k : Nat) : Nat → List Fd
  | 0 => []
  | i + 1 => fdsU k i ++ (if usedB k i then fds i else [])
def fdsK (k : Nat) : List Fd := fdsU k 16
def hds : List Fd := [.small 0 11, .small 1 8, .small 2 8, .small 3 7]
def headB (m : Mg) : Bool := decide (0 ≤ m.n 1 ∧ m.n 1 < 9 ∧ 0 ≤ m.n 2 ∧ m.n 2 < 9 ∧ 0 ≤ m.n 3 ∧ m.n 3 < 8)
def mayU (m : Mg) (k : Nat) : Nat → Bool
  | 0 => true
  | i + 1 => mayU m k i && (fds i).all (fun f => f.may m (usedB k i))
def mayA (m : Mg) : Nat → Bool
  | 0 => true
  | i + 1 => mayA m i && (fds i).all (fun f => f.may m true)
def mayM (m : Mg) : Bool := headB m && mayU m (m.n 0).toNat 16
def kindB (m : Mg) : Bool := decide (1 ≤ m.n 0 ∧ m.n 0 ≤ 11)
def bodyG (m : Mg) : List Nat := putL m hds ++ putL m (fdsK (m.n 0).toNat)
def sealG (l : List Nat) : List Nat := l ++ fl 4 (Crc.sum l)
/-- Encode: the error, the bytes. -/
def encM (m : Mg) : Nat × List Nat := if kindB m = false then (80, []) else if mayM m = false then (83, []) else (0, sealG (bodyG m))
def headG (z : Nat → Nat) (n : Nat) : Mg × Nat × Nat := getL z n hds mg0 0 0
def partG (z : Nat → Nat) (n : Nat) : Mg × Nat × Nat := getL z n (fdsK ((headG z n).1.n 0).toNat) (headG z n).1 (headG z n).2.1 (headG z n).2.2
def readG (z : Nat → Nat) (n : Nat) : Option Mg :=
  if kindB (headG z n).1 = false then none else if (partG z n).2.2 = 0 ∧ (partG z n).2.1 = n ∧ mayM (partG z n).1 = true then some (partG z n).1 else none
/-- Decode: the error, the message. -/
def decM (z : Nat → Nat) (n : Nat) : Nat × Mg :=
  if n < 4 ∨ 17000 < n then (81, mg0) else if be (fun j => z (n - 4 + j)) 4 ≠ Crc.sum (cutZ z 0 (n - 4)) then (82, mg0) else match readG z (n - 4) with
    | none => (81, mg0)
    | some m => (0, m)
/-- The document's. -/
def wide (L : Nat) : Fd → Fd
  | .var c _ => .var c 18446744073709551615
  | .small c q => .small c q
  | .text c _ => .text c L
def lookG (z : Nat → Nat) (n : Nat) : Mg := (getL z n ((fdsK ((headG z n).1.n 0).toNat).map (wide n)) (headG z n).1 (headG z n).2.1 (headG z n).2.2).1
def onlyG (m : Mg) : Mg := takeL m (fdsK (m.n 0).toNat) (takeL m hds mg0)
def eqG (a b : Mg) : Bool := (List.range 22).all fun c => decide (a.n c = b.n c) && decide (a.s c = b.s c)
def encR (m : Mg) : Nat × List Nat := if kindB m = false then (80, []) else if eqG m (onlyG m) = false ∨ (headB m && mayA m 16) = false then (83, []) else (0, sealG (bodyG m))
def decR (z : Nat → Nat) (n : Nat) : Nat × Mg :=
  if n < 4 ∨ 17000 < n then (81, mg0) else if sealG (cutZ z 0 (n - 4)) ≠ cutZ z 0 n then (82, mg0) else
    if (encM (lookG z (n - 4))).1 ≠ 0 ∨ (encM (lookG z (n - 4))).2 ≠ cutZ z 0 n then (81, mg0) else (0, lookG z (n - 4))
structure Mg.wf (m : Mg) : Prop where
  n : ∀ c, c = 10 ∨ c = 13 ∨ c = 14 ∨ 22 ≤ c → m.n c = 0
  s : ∀ c, c ≠ 10 → c ≠ 13 → c ≠ 14 → m.s c = []

/-- A part as a field has it: its cell, its bound. -/
def Fd.good : Fd → Prop
  | .var c most => 4 ≤ c ∧ c < 22 ∧ c ≠ 10 ∧ c ≠ 13 ∧ c ≠ 14 ∧ most < 18446744073709551616 ∧ (c = 8 ∨ c = 21 → most < 9223372036854775808)
  | .small c most => 4 ≤ c ∧ c < 22 ∧ c ≠ 10 ∧ c ≠ 13 ∧ c ≠ 14 ∧ most < 256
  | .text c most => (c = 10 ∨ c = 13 ∨ c = 14) ∧ most < 18446744073709551616
theorem fds_good : ∀ i, ∀ f ∈ fds i, f.good := by
  intro i f hf
  match i, hf with
  | 0, hf => simp only [fds, List.mem_singleton] at hf; subst hf; simp [Fd.good]
  | 1, hf => simp only [fds, List.mem_cons, List.not_mem_nil, or_false] at hf; rcases hf with rfl | rfl <;> simp [Fd.good]
  | 2, hf => simp only [fds, List.mem_singleton] at hf; subst hf; simp [Fd.good]
  | 3, hf => simp only [fds, List.mem_singleton] at hf; subst hf; simp [Fd.good]
  | 4, hf => simp only [fds, List.mem_singleton] at hf; subst hf; simp [Fd.good]
  | 5, hf => simp only [fds, List.mem_singleton] at hf; subst hf; simp [Fd.good]
  | 6, hf => simp only [fds, List.mem_singleton] at hf; subst hf; simp [Fd.good]
  | 7, hf => simp only [fds, List.mem_singleton] at hf; subst hf; simp [Fd.good]
  | 8, hf => simp only [fds, List.mem_singleton] at hf; subst hf; simp [Fd.good]
  | 9, hf => simp only [fds, List.mem_singleton] at hf; subst hf; simp [Fd.good]
  | 10, hf => simp only [fds, List.mem_singleton] at hf; subst hf; simp [Fd.good]
  | 11, hf => simp only [fds, List.mem_cons, List.not_mem_nil, or_false] at hf; rcases hf with rfl | rfl <;> simp [Fd.good]
  | 12, hf => simp only [fds, List.mem_singleton] at hf; subst hf; simp [Fd.good]
  | 13, hf => simp only [fds, List.mem_singleton] at hf; subst hf; simp [Fd.good]
  | 14, hf => simp only [fds, List.mem_singleton] at hf; subst hf; simp [Fd.good]
  | 15, hf => simp only [fds, List.mem_singleton] at hf; subst hf; simp [Fd.good]
  | _ + 16, hf => simp [fds] at hf
theorem mem_fdsU {k : Nat} {f : Fd} : ∀ {i}, f ∈ fdsU k i → ∃ j, j < i ∧ usedB k j = true ∧ f ∈ fds j
  | 0, h => absurd h (List.not_mem_nil)
  | i + 1, h => by
    rcases List.mem_append.1 h with h | h
    · obtain ⟨j, h1, h2⟩ := mem_fdsU h
      exact ⟨j, by omega, h2⟩
    · by_cases hu : usedB k i = true
      · rw [if_pos hu] at h; exact ⟨i, by omega, hu, h⟩
      · rw [if_neg hu] at h; exact absurd h (List.not_mem_nil)
theorem fdsK_good {k : Nat} {f : Fd} (h : f ∈ fdsK k) : f.good := by
  obtain ⟨j, _, _, hf⟩ := mem_fdsU h
  exact fds_good j f hf
theorem Fd.good.sane {f : Fd} (h : f.good) : f.sane := by
  cases f with
  | var c most => exact ⟨h.2.2.2.2.2.1, h.2.2.2.2.2.2⟩
  | small c most => trivial
  | text c most => exact h.2
theorem Fd.good.fits {f : Fd} (h : f.good) {m : Mg} (hm : f.may m true = true) : f.fits m := by
  cases f with
  | var c most =>
    have hm := of_decide_eq_true hm
    simp only [if_true] at hm
    exact ⟨hm.1, hm.2.1, h.2.2.2.2.2.1, fun e => by have := h.2.2.2.2.2.2 e; omega⟩
  | small c most =>
    have hm := of_decide_eq_true hm
    simp only [if_true] at hm
    have : most < 256 := h.2.2.2.2.2
    exact ⟨hm.1, by omega⟩
  | text c most =>
    have hm := of_decide_eq_true hm
    simp only [if_true] at hm
    have : most < 18446744073709551616 := h.2
    exact ⟨hm, by omega⟩
theorem numC_mem {c : Nat} : ∀ {fs : List Fd}, c ∈ numC fs → ∃ f ∈ fs, c ∈ numC [f]
  | f :: fs, h => by
    rw [numC_cons, List.mem_append] at h
    rcases h with h | h
    · exact ⟨f, List.mem_cons_self .., h⟩
    · obtain ⟨g, hg, hc⟩ := numC_mem h
      exact ⟨g, List.mem_cons_of_mem _ hg, hc⟩
theorem txtC_mem {c : Nat} : ∀ {fs : List Fd}, c ∈ txtC fs → ∃ f ∈ fs, c ∈ txtC [f]
  | f :: fs, h => by
    rw [txtC_cons, List.mem_append] at h
    rcases h with h | h
    · exact ⟨f, List.mem_cons_self .., h⟩
    · obtain ⟨g, hg, hc⟩ := txtC_mem h
      exact ⟨g, List.mem_cons_of_mem _ hg, hc⟩
theorem Fd.good.num {f : Fd} (h : f.good) {c : Nat} (hc : c ∈ numC [f]) : 4 ≤ c ∧ c < 22 ∧ c ≠ 10 ∧ c ≠ 13 ∧ c ≠ 14 := by
  cases f with
  | var d most => obtain rfl : c = d := by simpa [numC] using hc
                  exact ⟨h.1, h.2.1, h.2.2.1, h.2.2.2.1, h.2.2.2.2.1⟩
  | small d most => obtain rfl : c = d := by simpa [numC] using hc
                    exact ⟨h.1, h.2.1, h.2.2.1, h.2.2.2.1, h.2.2.2.2.1⟩
  | text d most => exact absurd hc (List.not_mem_nil)
theorem Fd.good.txt {f : Fd} (h : f.good) {c : Nat} (hc : c ∈ txtC [f]) : c = 10 ∨ c = 13 ∨ c = 14 := by
  cases f with
  | var d most => exact absurd hc (List.not_mem_nil)
  | small d most => exact absurd hc (List.not_mem_nil)
  | text d most => obtain rfl : c = d := by simpa [txtC] using hc
                   exact h.1
theorem fdsK_num {k c : Nat} (h : c ∈ numC (fdsK k)) : 4 ≤ c ∧ c < 22 ∧ c ≠ 10 ∧ c ≠ 13 ∧ c ≠ 14 := by
  obtain ⟨f, hf, hc⟩ := numC_mem h
  exact (fdsK_good hf).num hc
theorem fdsK_txt {k c : Nat} (h : c ∈ txtC (fdsK k)) : c = 10 ∨ c = 13 ∨ c = 14 := by
  obtain ⟨f, hf, hc⟩ := txtC_mem h
  exact (fdsK_good hf).txt hc
theorem mayU_iff (m : Mg) (k : Nat) : ∀ i, mayU m k i = true ↔ ∀ j, j < i → ∀ f ∈ fds j, f.may m (usedB k j) = true
  | 0 => by simp [mayU]
  | i + 1 => by
    show (mayU m k i && (fds i).all (fun f => f.may m (usedB k i))) = true ↔ _
    rw [Bool.and_eq_true, mayU_iff m k i, List.all_eq_true]
    refine ⟨fun ⟨h1, h2⟩ j hj f hf => ?_, fun h => ⟨fun j hj => h j (by omega), fun f hf => h i (by omega) f hf⟩⟩
    by_cases e : j = i
    · subst e; exact h2 f hf
    · exact h1 j (by omega) f hf
theorem mayA_iff (m : Mg) : ∀ i, mayA m i = true ↔ ∀ j, j < i → ∀ f ∈ fds j, f.may m true = true
  | 0 => by simp [mayA]
  | i + 1 => by
    show (mayA m i && (fds i).all (fun f => f.may m true)) = true ↔ _
    rw [Bool.and_eq_true, mayA_iff m i, List.all_eq_true]
    refine ⟨fun ⟨h1, h2⟩ j hj f hf => ?_, fun h => ⟨fun j hj => h j (by omega), fun f hf => h i (by omega) f hf⟩⟩
    by_cases e : j = i
    · subst e; exact h2 f hf
    · exact h1 j (by omega) f hf
theorem may_weak {f : Fd} {m : Mg} {b : Bool} (h : f.may m b = true) : f.may m true = true := by
  cases b with
  | true => exact h
  | false =>
    cases f with
    | var c most =>
      have h := of_decide_eq_true h
      refine decide_eq_true ⟨h.1, ?_, h.2.2⟩
      have := h.2.1
      simp only [if_true] at *
      simp at this
      omega
    | small c most =>
      have h := of_decide_eq_true h
      refine decide_eq_true ⟨h.1, ?_⟩
      have := h.2
      simp only [if_true] at *
      simp at this
      omega
    | text c most =>
      have h := of_decide_eq_true h
      refine decide_eq_true ?_
      simp at h
      simp [h]
theorem may_zero_n {f : Fd} {m : Mg} {c : Nat} (h : f.may m false = true) (hc : c ∈ numC [f]) : m.n c = 0 := by
  cases f with
  | var d most => obtain rfl : c = d := by simpa [numC] using hc
                  have h := of_decide_eq_true h
                  simp at h
                  omega
  | small d most => obtain rfl : c = d := by simpa [numC] using hc
                    have h := of_decide_eq_true h
                    simp at h
                    omega
  | text d most => exact absurd hc (List.not_mem_nil)
theorem may_zero_s {f : Fd} {m : Mg} {c : Nat} (h : f.may m false = true) (hc : c ∈ txtC [f]) : m.s c = [] := by
  cases f with
  | var d most => exact absurd hc (List.not_mem_nil)
  | small d most => exact absurd hc (List.not_mem_nil)
  | text d most => obtain rfl : c = d := by simpa [txtC] using hc
                   have h := of_decide_eq_true h
                   simpa using h
theorem zero_may {f : Fd} {m : Mg} (h1 : ∀ c ∈ numC [f], m.n c = 0) (h2 : ∀ c ∈ txtC [f], m.s c = []) : f.may m false = true := by
  cases f with
  | var c most =>
    have := h1 c (by simp [numC])
    exact decide_eq_true ⟨by omega, by simp [this], fun _ => .inl this⟩
  | small c most =>
    have := h1 c (by simp [numC])
    exact decide_eq_true ⟨by omega, by simp [this]⟩
  | text c most =>
    have := h2 c (by simp [txtC])
    exact decide_eq_true (by simp [this])
/-- The field of a cell. -/
def fieldC : Nat → Nat
  | 4 => 0 | 5 => 1 | 6 => 1 | 7 => 2 | 8 => 3 | 9 => 4 | 10 => 5 | 11 => 6 | 12 => 7 | 13 => 8 | 14 => 9 | 15 => 10 | 16 => 11 | 17 => 11 | 18 => 12 | 19 => 13 | 20 => 14 | 21 => 15 | _ => 16
theorem field_n : ∀ k : Fin 12, ∀ c : Fin 22, 4 ≤ c.val → c.val ≠ 10 → c.val ≠ 13 → c.val ≠ 14 → fieldC c.val < 16 ∧ c.val ∈ numC (fds (fieldC c.val)) ∧ (c.val ∈ numC (fdsK k.val) ↔ usedB k.val (fieldC c.val) = true) := by decide +kernel
theorem field_s : ∀ k : Fin 12, ∀ c : Fin 22, c.val = 10 ∨ c.val = 13 ∨ c.val = 14 → fieldC c.val < 16 ∧ c.val ∈ txtC (fds (fieldC c.val)) ∧ (c.val ∈ txtC (fdsK k.val) ↔ usedB k.val (fieldC c.val) = true) := by decide +kernel
theorem field_back : ∀ j : Fin 16, (∀ c ∈ numC (fds j.val), fieldC c = j.val) ∧ (∀ c ∈ txtC (fds j.val), fieldC c = j.val) := by decide +kernel
theorem fdsK_nodup : ∀ k : Fin 12, (numC (fdsK k.val)).Nodup ∧ (txtC (fdsK k.val)).Nodup := by decide +kernel
theorem numC_sub {f : Fd} {fs : List Fd} (hf : f ∈ fs) {c : Nat} (h : c ∈ numC [f]) : c ∈ numC fs := by
  induction fs with
  | nil => exact absurd hf (List.not_mem_nil)
  | cons g fs ih =>
    rw [numC_cons, List.mem_append]
    rcases List.mem_cons.1 hf with rfl | hf
    · exact .inl h
    · exact .inr (ih hf)
theorem txtC_sub {f : Fd} {fs : List Fd} (hf : f ∈ fs) {c : Nat} (h : c ∈ txtC [f]) : c ∈ txtC fs := by
  induction fs with
  | nil => exact absurd hf (List.not_mem_nil)
  | cons g fs ih =>
    rw [txtC_cons, List.mem_append]
    rcases List.mem_cons.1 hf with rfl | hf
    · exact .inl h
    · exact .inr (ih hf)
theorem Mg.ext' {a b : Mg} (h1 : ∀ c, a.n c = b.n c) (h2 : ∀ c, a.s c = b.s c) : a = b := by
  obtain ⟨n1, s1⟩ := a
  obtain ⟨n2, s2⟩ := b
  have e1 : n1 = n2 := funext h1
  have e2 : s1 = s2 := funext h2
  rw [e1, e2]
theorem hds_num (c : Nat) : c ∈ numC hds ↔ c < 4 := by
  show c ∈ [0, 1, 2, 3] ↔ _
  simp
  omega
theorem only_n (m : Mg) (c : Nat) : (onlyG m).n c = if c ∈ numC (fdsK (m.n 0).toNat) then m.n c else if c < 4 then m.n c else 0 := by
  unfold onlyG
  rw [takeL_n, takeL_n]
  simp only [hds_num]
  rfl
theorem only_s (m : Mg) (c : Nat) : (onlyG m).s c = if c ∈ txtC (fdsK (m.n 0).toNat) then m.s c else [] := by
  unfold onlyG
  rw [takeL_s, takeL_s]
  simp only [show txtC hds = [] from rfl, List.not_mem_nil, if_false]
  rfl
theorem only_same {m : Mg} (hk : kindB m = true) (hw : m.wf) (hm : mayU m (m.n 0).toNat 16 = true) : onlyG m = m := by
  have hk := of_decide_eq_true hk
  have hm := (mayU_iff _ _ _).1 hm
  have hk12 : (m.n 0).toNat < 12 := by omega
  refine Mg.ext' (fun c => ?_) (fun c => ?_)
  · rw [only_n]
    by_cases h1 : c ∈ numC (fdsK (m.n 0).toNat)
    · rw [if_pos h1]
    · rw [if_neg h1]
      by_cases h4 : c < 4
      · rw [if_pos h4]
      · rw [if_neg h4]
        by_cases hc : c = 10 ∨ c = 13 ∨ c = 14 ∨ 22 ≤ c
        · exact (hw.n c hc).symm
        · obtain ⟨f1, f2, f3⟩ := field_n ⟨_, hk12⟩ ⟨c, by omega⟩ (by show 4 ≤ c; omega) (by show c ≠ 10; omega) (by show c ≠ 13; omega) (by show c ≠ 14; omega)
          have hu : usedB (m.n 0).toNat (fieldC c) = false := by
            cases hu : usedB (m.n 0).toNat (fieldC c) with
            | false => rfl
            | true => exact absurd (f3.2 hu) h1
          obtain ⟨f, hf, hcf⟩ := numC_mem f2
          have := hm _ f1 f hf
          have hu' : usedB (m.n 0).toNat (fieldC (⟨c, by omega⟩ : Fin 22).val) = false := hu
          rw [hu'] at this
          exact (may_zero_n this hcf).symm
  · rw [only_s]
    by_cases h1 : c ∈ txtC (fdsK (m.n 0).toNat)
    · rw [if_pos h1]
    · rw [if_neg h1]
      by_cases hc : c = 10 ∨ c = 13 ∨ c = 14
      · obtain ⟨f1, f2, f3⟩ := field_s ⟨_, hk12⟩ ⟨c, by omega⟩ hc
        have hu : usedB (m.n 0).toNat (fieldC c) = false := by
          cases hu : usedB (m.n 0).toNat (fieldC c) with
          | false => rfl
          | true => exact absurd (f3.2 hu) h1
        obtain ⟨f, hf, hcf⟩ := txtC_mem f2
        have := hm _ f1 f hf
        have hu' : usedB (m.n 0).toNat (fieldC (⟨c, by omega⟩ : Fin 22).val) = false := hu
        rw [hu'] at this
        exact (may_zero_s this hcf).symm
      · exact (hw.s c (by omega) (by omega) (by omega)).symm
theorem eqG_iff (a b : Mg) : eqG a b = true ↔ ∀ c, c < 22 → a.n c = b.n c ∧ a.s c = b.s c := by
  unfold eqG
  rw [List.all_eq_true]
  refine ⟨fun h c hc => ?_, fun h c hc => ?_⟩
  · have := h c (List.mem_range.2 hc)
    simpa using this
  · simpa using h c (List.mem_range.1 hc)
theorem eqG_refl (a : Mg) : eqG a a = true := (eqG_iff a a).2 fun _ _ => ⟨rfl, rfl⟩
theorem may_same {m : Mg} (hk : kindB m = true) (hw : m.wf) : (mayM m = true) ↔ (eqG m (onlyG m) = true ∧ (headB m && mayA m 16) = true) := by
  unfold mayM
  rw [Bool.and_eq_true, Bool.and_eq_true]
  constructor
  · rintro ⟨h1, h2⟩
    refine ⟨by rw [only_same hk hw h2]; exact eqG_refl m, h1, (mayA_iff _ _).2 fun j hj f hf => may_weak ((mayU_iff _ _ _).1 h2 j hj f hf)⟩
  · rintro ⟨h0, h1, h2⟩
    have h0 := (eqG_iff _ _).1 h0
    have h2 := (mayA_iff _ _).1 h2
    have hk := of_decide_eq_true hk
    have hk12 : (m.n 0).toNat < 12 := by omega
    refine ⟨h1, (mayU_iff _ _ _).2 fun j hj f hf => ?_⟩
    cases hu : usedB (m.n 0).toNat j with
    | true => exact h2 j hj f hf
    | false =>
      have hg := fds_good j f hf
      refine zero_may (fun c hc => ?_) (fun c hc => ?_)
      · obtain ⟨g1, g2, g3, g4, g5⟩ := hg.num hc
        have e : fieldC c = j := (field_back ⟨j, hj⟩).1 c (numC_sub hf hc)
        obtain ⟨_, _, f3⟩ := field_n ⟨_, hk12⟩ ⟨c, g2⟩ g1 g3 g4 g5
        have := (h0 c g2).1
        rw [only_n, if_neg (fun h => by have := f3.1 h; rw [show fieldC (⟨c, g2⟩ : Fin 22).val = j from e, hu] at this; exact absurd this (by decide)), if_neg (by omega)] at this
        exact this
      · have g := hg.txt hc
        have e : fieldC c = j := (field_back ⟨j, hj⟩).2 c (txtC_sub hf hc)
        have g2 : c < 22 := by omega
        obtain ⟨_, _, f3⟩ := field_s ⟨_, hk12⟩ ⟨c, g2⟩ g
        have := (h0 c g2).2
        rw [only_s, if_neg (fun h => by have := f3.1 h; rw [show fieldC (⟨c, g2⟩ : Fin 22).val = j from e, hu] at this; exact absurd this (by decide))] at this
        exact this
/-- ENCODE: the document's answer is the program's. -/
theorem encR_eq {m : Mg} (hw : m.wf) : encR m = encM m := by
  unfold encR encM
  by_cases hk : kindB m = false
  · rw [if_pos hk, if_pos hk]
  · rw [if_neg hk, if_neg hk]
    have := may_same (Bool.of_not_eq_false hk) hw
    by_cases hm : mayM m = false
    · rw [if_pos hm, if_pos ?_]
      by_cases h1 : eqG m (onlyG m) = false
      · exact .inl h1
      · refine .inr ?_
        by_cases h2 : (headB m && mayA m 16) = false
        · exact h2
        · rw [this.2 ⟨Bool.of_not_eq_false h1, Bool.of_not_eq_false h2⟩] at hm; exact absurd hm (by decide)
    · rw [if_neg hm, if_neg ?_]
      obtain ⟨h1, h2⟩ := this.1 (Bool.of_not_eq_false hm)
      rw [h1, h2]
      simp
end Go.Proofs.YtonpmabdjngdcaaGreatDoor

/- Decode: the document's answer is the program's. -/
namespace Go.Proofs.YtonpmabdjngdcaaGreatDoor
open Go.RowKit

theorem cutZ_get (z : Nat → Nat) (a k j : Nat) (h : j < k) : (cutZ z a k).getD j 0 = z (a + j) := by
  unfold cutZ
  exact getD_range_map (fun j => z (a + j)) k j h
theorem wide_put (L : Nat) (m : Mg) : ∀ fs, putL m (fs.map (wide L)) = putL m fs
  | [] => rfl
  | f :: fs => by
    show (wide L f).put m ++ putL m (fs.map (wide L)) = f.put m ++ putL m fs
    rw [wide_put L m fs]
    cases f <;> rfl
theorem wide_take (L : Nat) (m : Mg) : ∀ fs m0, takeL m (fs.map (wide L)) m0 = takeL m fs m0
  | [], _ => rfl
  | f :: fs, m0 => by
    show takeL m (fs.map (wide L)) ((wide L f).take m m0) = takeL m fs (f.take m m0)
    rw [wide_take L m fs]
    cases f <;> rfl
theorem wide_num (L : Nat) : ∀ fs, numC (fs.map (wide L)) = numC fs
  | [] => rfl
  | f :: fs => by
    rw [List.map_cons, numC_cons, numC_cons f fs, wide_num L fs]
    cases f <;> rfl
theorem wide_txt (L : Nat) : ∀ fs, txtC (fs.map (wide L)) = txtC fs
  | [] => rfl
  | f :: fs => by
    rw [List.map_cons, txtC_cons, txtC_cons f fs, wide_txt L fs]
    cases f <;> rfl
theorem put_le {m : Mg} {f : Fd} : ∀ {fs : List Fd}, f ∈ fs → (f.put m).length ≤ (putL m fs).length
  | g :: fs, h => by
    show _ ≤ (g.put m ++ putL m fs).length
    rw [List.length_append]
    rcases List.mem_cons.1 h with rfl | h
    · omega
    · have := put_le (m := m) h; omega
theorem kind_lt {m : Mg} (hk : kindB m = true) : (m.n 0).toNat < 12 := by
  have := of_decide_eq_true hk
  omega
theorem hds_fits {m : Mg} (hk : kindB m = true) (hh : headB m = true) : ∀ f ∈ hds, f.fits m := by
  have h0 := of_decide_eq_true hk
  have h1 := of_decide_eq_true hh
  intro f hf
  simp only [hds, List.mem_cons, List.not_mem_nil, or_false] at hf
  rcases hf with rfl | rfl | rfl | rfl
  · show 0 ≤ m.n 0 ∧ m.n 0 < 256; omega
  · show 0 ≤ m.n 1 ∧ m.n 1 < 256; omega
  · show 0 ≤ m.n 2 ∧ m.n 2 < 256; omega
  · show 0 ≤ m.n 3 ∧ m.n 3 < 256; omega
theorem hds_len (m : Mg) : (putL m hds).length = 4 := by
  show (fl 1 _ ++ (fl 1 _ ++ (fl 1 _ ++ (fl 1 _ ++ [])))).length = 4
  simp only [List.length_append, fl_len, List.length_nil]
theorem fdsK_fits {m : Mg} (hm : mayU m (m.n 0).toNat 16 = true) : ∀ f ∈ fdsK (m.n 0).toNat, f.fits m := fun f hf => by
  obtain ⟨j, hj, _, hfj⟩ := mem_fdsU hf
  exact (fds_good j f hfj).fits (may_weak ((mayU_iff _ _ _).1 hm j hj f hfj))
/-- The head of bytes that are a message's. -/
theorem head_back {z : Nat → Nat} {N : Nat} {m : Mg} (hk : kindB m = true) (hm : mayM m = true) (hb : bodyG m = cutZ z 0 N) : headG z N = (takeL m hds mg0, 4, 0) := by
  have hm := Bool.and_eq_true_iff.1 hm
  have hl : (bodyG m).length = N := by rw [hb, cutZ_len]
  have hl2 : (bodyG m).length = 4 + (putL m (fdsK (m.n 0).toNat)).length := by unfold bodyG; rw [List.length_append, hds_len]
  unfold headG
  rw [getL_put hds mg0 0 (hds_fits hk hm.1) (fun j hj => by
    rw [hds_len] at hj
    have : (bodyG m).getD j 0 = (putL m hds).getD j 0 := getD_left (by rw [hds_len]; exact hj)
    rw [← this, hb, cutZ_get _ _ _ _ (by omega)]) (by rw [hds_len]; omega), hds_len]
theorem part_put {z : Nat → Nat} {N : Nat} {m : Mg} (hb : bodyG m = cutZ z 0 N) : (∀ j, j < (putL m (fdsK (m.n 0).toNat)).length → z (4 + j) = (putL m (fdsK (m.n 0).toNat)).getD j 0) ∧ 4 + (putL m (fdsK (m.n 0).toNat)).length = N := by
  have hl : (bodyG m).length = N := by rw [hb, cutZ_len]
  have hl2 : (bodyG m).length = 4 + (putL m (fdsK (m.n 0).toNat)).length := by unfold bodyG; rw [List.length_append, hds_len]
  refine ⟨fun j hj => ?_, by omega⟩
  have : (bodyG m).getD ((putL m hds).length + j) 0 = (putL m (fdsK (m.n 0).toNat)).getD j 0 := getD_right
  rw [hds_len] at this
  rw [← this, hb, cutZ_get _ _ _ _ (by omega), Nat.zero_add]
theorem take_kind (m : Mg) : (takeL m hds mg0).n 0 = m.n 0 := by
  rw [takeL_n, if_pos ((hds_num 0).2 (by decide))]
/-- What is written of a message that may be is read as that message. -/
theorem read_back {z : Nat → Nat} {N : Nat} {m : Mg} (hk : kindB m = true) (hm : mayM m = true) (hw : m.wf) (hb : bodyG m = cutZ z 0 N) : readG z N = some m ∧ lookG z N = m := by
  have hh := head_back hk hm hb
  have hm2 := (Bool.and_eq_true_iff.1 hm).2
  have ho := only_same hk hw hm2
  unfold onlyG at ho
  obtain ⟨hp, hn⟩ := part_put hb
  have hkk : kindB (takeL m hds mg0) = true := by unfold kindB; rw [take_kind]; exact hk
  constructor
  · have e : partG z N = (m, N, 0) := by
      unfold partG
      rw [hh]
      simp only
      rw [take_kind, getL_put _ _ _ (fdsK_fits hm2) hp (by omega), hn, ho]
    unfold readG
    rw [hh, e, if_neg (by simp only; rw [hkk]; decide), if_pos ⟨rfl, rfl, hm⟩]
  · unfold lookG
    rw [hh]
    simp only
    rw [take_kind, getL_put (m := m) _ _ _ (fun f hf => ?_) (by rw [wide_put]; exact hp) (by rw [wide_put]; omega)]
    · simp only
      rw [wide_take, ho]
    · obtain ⟨g, hg, rfl⟩ := List.mem_map.1 hf
      have h1 := fdsK_fits hm2 g hg
      have h2 := put_le (m := m) hg
      cases g with
      | var c most =>
        obtain ⟨a1, a2, a3, a4⟩ := h1
        exact ⟨a1, by omega, by decide, a4⟩
      | small c most => exact h1
      | text c most =>
        obtain ⟨a1, a2⟩ := h1
        refine ⟨?_, a2⟩
        have : ((Fd.text c most).put m).length = (vl 9 (m.s c).length).length + (m.s c).length := by show (vl 9 (m.s c).length ++ m.s c).length = _; simp
        show (m.s c).length ≤ N
        omega
theorem hds_sane : ∀ f ∈ hds, f.sane := by
  intro f hf
  simp only [hds, List.mem_cons, List.not_mem_nil, or_false] at hf
  rcases hf with rfl | rfl | rfl | rfl <;> trivial
theorem headG_wf (z : Nat → Nat) (N : Nat) : (∀ c, 4 ≤ c → (headG z N).1.n c = 0) ∧ ∀ c, (headG z N).1.s c = [] := by
  refine ⟨fun c hc => ?_, fun c => ?_⟩
  · unfold headG
    rw [getL_n z N hds mg0 0 0 c (fun h => by have := (hds_num c).1 h; omega)]
    rfl
  · unfold headG
    rw [getL_s z N hds mg0 0 0 c (fun h => absurd h (by show c ∉ []; exact List.not_mem_nil))]
    rfl
theorem getL_wf (z : Nat → Nat) (N : Nat) (k : Nat) (fs : List Fd) (h1 : numC fs = numC (fdsK k)) (h2 : txtC fs = txtC (fdsK k)) (a b : Nat) : (getL z N fs (headG z N).1 a b).1.wf := by
  obtain ⟨g1, g2⟩ := headG_wf z N
  refine ⟨fun c hc => ?_, fun c c1 c2 c3 => ?_⟩
  · rw [getL_n z N fs _ _ _ c (fun h => by rw [h1] at h; have := fdsK_num h; omega)]
    exact g1 c (by omega)
  · rw [getL_s z N fs _ _ _ c (fun h => by rw [h2] at h; have := fdsK_txt h; omega)]
    exact g2 c
theorem look_wf (z : Nat → Nat) (N : Nat) : (lookG z N).wf := by unfold lookG; exact getL_wf z N ((headG z N).1.n 0).toNat _ (wide_num _ _) (wide_txt _ _) _ _
theorem part_wf (z : Nat → Nat) (N : Nat) : (partG z N).1.wf := by unfold partG; exact getL_wf z N ((headG z N).1.n 0).toNat _ rfl rfl _ _
/-- What is read is just what is written of it. -/
theorem read_form {z : Nat → Nat} (hz : ∀ j, z j < 256) {N : Nat} {m : Mg} (h : readG z N = some m) : kindB m = true ∧ mayM m = true ∧ m.wf ∧ bodyG m = cutZ z 0 N := by
  unfold readG at h
  by_cases hk : kindB (headG z N).1 = false
  · rw [if_pos hk] at h; exact absurd h (by simp)
  · rw [if_neg hk] at h
    have hk := Bool.of_not_eq_false hk
    by_cases hc : (partG z N).2.2 = 0 ∧ (partG z N).2.1 = N ∧ mayM (partG z N).1 = true
    · rw [if_pos hc] at h
      obtain rfl := Option.some.inj h
      obtain ⟨hc1, hc2, hc3⟩ := hc
      have hk12 := kind_lt hk
      have hnd := fdsK_nodup ⟨_, hk12⟩
      have h4 : ∀ c, c < 4 → (partG z N).1.n c = (headG z N).1.n c := fun c hc => by
        unfold partG
        rw [getL_n z N _ _ _ _ c (fun h => by have := fdsK_num h; omega)]
      have hHle : ∀ fs a b m0, a ≤ N → (getL z N fs m0 a b).2.1 ≤ N := by
        intro fs
        induction fs with
        | nil => intro a b m0 h; exact h
        | cons f fs ih =>
          intro a b m0 ha
          show (getL z N fs _ _ _).2.1 ≤ N
          refine ih _ _ _ ?_
          cases f with
          | var c most =>
            show (varAns z N most a b).2.1 ≤ N
            unfold varAns
            split
            · exact ha
            · simp only
              by_cases hv : (vlook (fun j => z (a + j)) (N - a) most).2.2 = 0
              · have := (vlook_size _ _ _ hv).1; omega
              · have := (vlook_bad _ _ _ hv).2; omega
          | small c most =>
            show (fixAns z N 1 a b).2.1 ≤ N
            unfold fixAns
            split
            · exact ha
            · split
              · exact ha
              · simp only; omega
          | text c most =>
            show (bytesAns z N most a b).2.2.1 ≤ N
            unfold bytesAns
            split
            · exact ha
            · simp only
              by_cases hv : (blook (fun j => z (a + j)) (N - a) most).2.2 = 0
              · have := blook_size _ _ _ hv; omega
              · have := (blook_bad _ _ _ hv).2; omega
      have hH : (headG z N).2.1 ≤ N := hHle hds 0 0 mg0 (Nat.zero_le _)
      obtain ⟨p0, p1, p2, p3⟩ := putL_get hz (fdsK ((headG z N).1.n 0).toNat) (headG z N).1 (headG z N).2.1 (headG z N).2.2 hH (fun f hf => (fdsK_good hf).sane) hnd.1 hnd.2 (by unfold partG at hc1; exact hc1)
      obtain ⟨q0, q1, q2, q3⟩ := putL_get hz hds mg0 0 0 (Nat.zero_le N) hds_sane (by decide) (by decide) (by unfold headG at p0; exact p0)
      have hkk : kindB (partG z N).1 = true := by unfold kindB; rw [h4 0 (by decide)]; exact hk
      refine ⟨hkk, hc3, part_wf z N, ?_⟩
      unfold bodyG
      rw [h4 0 (by decide)]
      have e1 : putL (partG z N).1 hds = putL (headG z N).1 hds := by
        show fl 1 ((partG z N).1.n 0).toNat ++ (fl 1 ((partG z N).1.n 1).toNat ++ (fl 1 ((partG z N).1.n 2).toNat ++ (fl 1 ((partG z N).1.n 3).toNat ++ []))) = _
        rw [h4 0 (by decide), h4 1 (by decide), h4 2 (by decide), h4 3 (by decide)]
        rfl
      rw [e1]
      have q3' : putL (headG z N).1 hds = cutZ z 0 ((headG z N).2.1 - 0) := by unfold headG; exact q3
      have p3' : putL (partG z N).1 (fdsK ((headG z N).1.n 0).toNat) = cutZ z (headG z N).2.1 ((partG z N).2.1 - (headG z N).2.1) := by unfold partG; exact p3
      rw [q3', p3', hc2]
      have := cutZ_cat z 0 (headG z N).2.1 (N - (headG z N).2.1)
      rw [Nat.zero_add] at this
      have e5 : (headG z N).2.1 + (N - (headG z N).2.1) = N := Nat.add_sub_of_le hH
      rw [e5] at this
      rw [Nat.sub_zero]
      exact this
    · rw [if_neg hc] at h; exact absurd h (by simp)
theorem seal_len (l : List Nat) : (sealG l).length = l.length + 4 := by unfold sealG; rw [List.length_append, fl_len]
theorem seal_inj {a b : List Nat} (h : sealG a = sealG b) : a = b := by
  have hl : a.length = b.length := by have := congrArg List.length h; rw [seal_len, seal_len] at this; omega
  exact (List.append_inj h hl).1
/-- The sum of bytes, and the four behind them. -/
theorem seal_iff (z : Nat → Nat) (hz : ∀ j, z j < 256) (N : Nat) : sealG (cutZ z 0 N) = cutZ z 0 (N + 4) ↔ be (fun j => z (N + j)) 4 = Crc.sum (cutZ z 0 N) := by
  have hs : Crc.sum (cutZ z 0 N) < 4294967296 := Crc.sum_lt _ (fun c hc => by
    obtain ⟨j, _, rfl⟩ := List.mem_map.1 hc
    exact hz _)
  have hc := cutZ_cat z 0 N 4
  rw [Nat.zero_add] at hc
  rw [← hc]
  unfold sealG
  have hf : fl 4 (be (fun j => z (N + j)) 4) = cutZ z N 4 := fl_be (fun j => z (N + j)) (fun j => hz _) 4
  constructor
  · intro h
    have h1 := (List.append_inj h rfl).2
    have h2 := be_digits (fun j => z (N + j)) 4 (Crc.sum (cutZ z 0 N)) (by rw [show 256 ^ 4 = 4294967296 by decide]; exact hs) (fun j hj => by
      rw [← fl_get 4 _ j hj, h1, cutZ_get z N 4 j hj]) 4 (Nat.le_refl _)
    rw [h2, Nat.sub_self, Nat.pow_zero, Nat.div_one]
  · intro h
    rw [← h, hf]
/-- DECODE: the document's answer is the program's. -/
theorem decR_eq (z : Nat → Nat) (hz : ∀ j, z j < 256) (n : Nat) : decR z n = decM z n := by
  unfold decR decM
  by_cases h0 : n < 4 ∨ 17000 < n
  · rw [if_pos h0, if_pos h0]
  · rw [if_neg h0, if_neg h0]
    obtain ⟨N, rfl⟩ : ∃ N, n = N + 4 := ⟨n - 4, by omega⟩
    rw [Nat.add_sub_cancel]
    have hs := seal_iff z hz N
    by_cases h1 : be (fun j => z (N + j)) 4 = Crc.sum (cutZ z 0 N)
    · rw [if_neg (show ¬ (sealG (cutZ z 0 N) ≠ cutZ z 0 (N + 4)) from fun e => e (hs.2 h1)), if_neg (show ¬ (be (fun j => z (N + j)) 4 ≠ Crc.sum (cutZ z 0 N)) from fun e => e h1)]
      cases hr : readG z N with
      | some m =>
        obtain ⟨hk, hm, hw, hb⟩ := read_form hz hr
        obtain ⟨_, hl⟩ := read_back hk hm hw hb
        have he : encM m = (0, cutZ z 0 (N + 4)) := by
          unfold encM
          rw [if_neg (by rw [hk]; decide), if_neg (by rw [hm]; decide), hb, hs.2 h1]
        rw [hl, he, if_neg (by simp)]
      | none =>
        rw [if_pos ?_]
        by_cases h2 : (encM (lookG z N)).1 ≠ 0
        · exact .inl h2
        · refine .inr fun h3 => ?_
          have h2 : (encM (lookG z N)).1 = 0 := Classical.not_not.1 h2
          unfold encM at h2 h3
          by_cases hk : kindB (lookG z N) = false
          · rw [if_pos hk] at h2; exact absurd (show (80 : Nat) = 0 from h2) (by decide)
          · rw [if_neg hk] at h2 h3
            by_cases hm : mayM (lookG z N) = false
            · rw [if_pos hm] at h2; exact absurd (show (83 : Nat) = 0 from h2) (by decide)
            · rw [if_neg hm] at h3
              have hb : bodyG (lookG z N) = cutZ z 0 N := seal_inj (h3.trans (hs.2 h1).symm)
              rw [(read_back (Bool.of_not_eq_false hk) (Bool.of_not_eq_false hm) (look_wf z N) hb).1] at hr
              exact absurd hr (by simp)
    · rw [if_pos (show sealG (cutZ z 0 N) ≠ cutZ z 0 (N + 4) from fun e => h1 (hs.1 e)), if_pos (show be (fun j => z (N + j)) 4 ≠ Crc.sum (cutZ z 0 N) from h1)]
/-- There and back. -/
theorem dec_enc {m : Mg} {z : Nat → Nat} (hz : ∀ j, z j < 256) (hw : m.wf) {l : List Nat} (he : encM m = (0, l)) (hl : l.length ≤ 17000) (hb : cutZ z 0 l.length = l) : decM z l.length = (0, m) := by
  unfold encM at he
  by_cases hk : kindB m = false
  · rw [if_pos hk] at he; exact absurd (congrArg Prod.fst he) (by simp)
  · rw [if_neg hk] at he
    by_cases hm : mayM m = false
    · rw [if_pos hm] at he; exact absurd (congrArg Prod.fst he) (by simp)
    · rw [if_neg hm] at he
      have e : sealG (bodyG m) = l := congrArg Prod.snd he
      have hlen : l.length = (bodyG m).length + 4 := by rw [← e, seal_len]
      have hb1 : bodyG m = cutZ z 0 (bodyG m).length := by
        have hc := cutZ_cat z 0 (bodyG m).length 4
        rw [Nat.zero_add, ← hlen, hb, ← e] at hc
        exact ((List.append_inj hc (by rw [cutZ_len])).1).symm
      have hs := seal_iff z hz (bodyG m).length
      rw [← hb1, ← hlen, hb] at hs
      have h1 := hs.1 e
      unfold decM
      rw [hlen] at hl ⊢
      rw [if_neg (by omega), Nat.add_sub_cancel, ← hb1, if_neg (fun q => q h1), (read_back (Bool.of_not_eq_false hk) (Bool.of_not_eq_false hm) hw hb1).1]
theorem dec_form {z : Nat → Nat} (hz : ∀ j, z j < 256) {n : Nat} {m : Mg} (h : decM z n = (0, m)) : encM m = (0, cutZ z 0 n) ∧ m.wf ∧ 4 ≤ n ∧ n ≤ 17000 := by
  unfold decM at h
  by_cases h0 : n < 4 ∨ 17000 < n
  · rw [if_pos h0] at h; exact absurd (congrArg Prod.fst h) (by simp)
  · rw [if_neg h0] at h
    obtain ⟨N, rfl⟩ : ∃ N, n = N + 4 := ⟨n - 4, by omega⟩
    rw [Nat.add_sub_cancel] at h
    by_cases h1 : be (fun j => z (N + j)) 4 = Crc.sum (cutZ z 0 N)
    · rw [if_neg (fun e => e h1)] at h
      cases hr : readG z N with
      | none => rw [hr] at h; exact absurd (congrArg Prod.fst h) (by simp)
      | some m' =>
        rw [hr] at h
        obtain rfl : m' = m := congrArg Prod.snd h
        obtain ⟨hk, hm, hw, hb⟩ := read_form hz hr
        refine ⟨?_, hw, by omega, by omega⟩
        unfold encM
        rw [if_neg (by rw [hk]; decide), if_neg (by rw [hm]; decide), hb, (seal_iff z hz N).2 h1]
    · rw [if_pos h1] at h; exact absurd (congrArg Prod.fst h) (by simp)
end Go.Proofs.YtonpmabdjngdcaaGreatDoor

/- Package journal: a record is written. -/
namespace Go.Proofs.YtonpmabdjngdcaaGreatDoor
open Go.RowKit
set_option maxRecDepth 100000

/-- The tables that package code reads. -/
structure Tb (w : World) : Prop where
  wid : Wid w
  crc : ∀ i, i < 16 → w.cell? ⟨0, i, none⟩ = some (.int .u32 (Crc.T i : Nat))
theorem Tb.since {w w' : World} (h : Tb w) (hs : w.Since w.heap.size w') : Tb w' :=
  ⟨h.wid.since hs, fun i hi => by rw [hs.cell (a := ⟨0, i, none⟩) (World.block_lt_of_cell? _ _ (h.crc i hi))]; exact h.crc i hi⟩
/-- A Writer of new memory. -/
def Wr (w0 w : World) (wb : Nat) (l : List Nat) : Prop := w0.heap.size ≤ wb ∧ w0.Since w0.heap.size w ∧ ∃ B v, w0.heap.size ≤ B ∧ IsL w wb B v l
theorem Own.ge {w : World} {B : Nat} {v : Value} {n : Nat} {x : Nat → Nat} (h : Own w B v n x) : ∀ k, v.ownBlock = some k → B ≤ k := own_block h
theorem Wr.on {w0 w w' : World} {wb : Nat} {l : List Nat} (h : Wr w0 w wb l) {v v' : Value} {B : Nat} {l' : List Nat} (hB : w0.heap.size ≤ B) (h1 : IsL w wb B v l) (h2 : IsL w' wb B v' l') (he : Ext wb v v' w w') : Wr w0 w' wb l' :=
  ⟨h.1, he.since h.2.1 h.1 h.2.1.size (fun k e => Nat.le_trans hB (Own.ge h1.own k e)), B, v', hB, h2⟩
end Go.Proofs.YtonpmabdjngdcaaGreatDoor

/- Package journal: bodyOf, record. -/
namespace Go.Proofs.YtonpmabdjngdcaaGreatDoor
open Go.RowKit
set_option maxRecDepth 100000

section
variable {w0 w : World} {wb : Nat} {l : List Nat}
theorem Wr.new (w0 w : World) (h : w0.Since w0.heap.size w) : Calls Tryz.prog 35 #[] w fun e w' => ∃ wb, e = .returned (.pointer (some ⟨wb, 0, none⟩)) ∧ Wr w0 w' wb [] :=
  (new_w w).mono fun e w' ⟨he, hs, hz, hI⟩ => ⟨w.heap.size, he, h.size, h.trans (since_mono hs h.size), w'.heap.size, _, by rw [hz]; exact Nat.le_succ_of_le h.size, hI _⟩
theorem Wr.u8 (h : Wr w0 w wb l) (ht : Tb w0) (N : Nat) (hN : N < 256) (hm : l.length ≤ 100000000000) : Calls Tryz.prog 82 #[.pointer (some ⟨wb, 0, none⟩), .int .u8 N] w fun e w' => e = .returned (.tuple #[]) ∧ Wr w0 w' wb (l ++ fl 1 N) := by
  obtain ⟨B, v, hB, hI⟩ := h.2.2
  exact (u8_l wb B v l N w hI (ht.since h.2.1).wid hN (by omega)).mono fun e w' ⟨he, v', h1, h2⟩ => ⟨he, h.on hB hI h1 h2⟩
theorem Wr.u32 (h : Wr w0 w wb l) (ht : Tb w0) (N : Nat) (hN : N < 4294967296) (hm : l.length ≤ 100000000000) : Calls Tryz.prog 37 #[.pointer (some ⟨wb, 0, none⟩), .int .u32 N] w fun e w' => e = .returned (.tuple #[]) ∧ Wr w0 w' wb (l ++ fl 4 N) := by
  obtain ⟨B, v, hB, hI⟩ := h.2.2
  exact (u32_l wb B v l N w hI (ht.since h.2.1).wid hN (by omega)).mono fun e w' ⟨he, v', h1, h2⟩ => ⟨he, h.on hB hI h1 h2⟩
theorem Wr.raw (h : Wr w0 w wb l) (a : Option Addr) (m c : Nat) (y : Nat → Nat) (hb : Byt w a m y) (ha : a = none → m = 0 ∧ c = 0) (hm : l.length + m ≤ 100000000000) : Calls Tryz.prog 157 #[.pointer (some ⟨wb, 0, none⟩), .slice a m c] w fun e w' => e = .returned (.tuple #[]) ∧ Wr w0 w' wb (l ++ (List.range m).map y) := by
  obtain ⟨B, v, hB, hI⟩ := h.2.2
  exact (raw_l wb B v l a m c y w hI hb ha (by omega)).mono fun e w' ⟨he, v', h1, h2⟩ => ⟨he, h.on hB hI h1 h2⟩
theorem Wr.bytes (h : Wr w0 w wb l) (a : Option Addr) (m c : Nat) (y : Nat → Nat) (hb : Byt w0 a m y) (ha : a = none → m = 0 ∧ c = 0) (hlt : ∀ q, a = some q → q.block < w0.heap.size) (hm : l.length + m ≤ 100000000000) : Calls Tryz.prog 128 #[.pointer (some ⟨wb, 0, none⟩), .slice a m c] w fun e w' => e = .returned (.tuple #[]) ∧ Wr w0 w' wb (l ++ partL ((List.range m).map y)) := by
  obtain ⟨B, v, hB, hI⟩ := h.2.2
  have h1 := h.1
  refine (bytes_l wb B v l a m c y w hI (hb.since h.2.1) ha (by omega) (fun b off e => ?_)).mono fun e w' ⟨he, v', h1, h2⟩ => ⟨he, ?_⟩
  · have hq := hlt _ e
    have hq : b < w0.heap.size := hq
    refine ⟨by omega, fun e2 => ?_⟩
    have := own_block hI.own b e2.symm
    omega
  · have := h.on hB hI h1 h2
    have el : (List.range m).length = m := by simp
    unfold partL
    rw [List.length_map, el, ← List.append_assoc]
    exact this
theorem Wr.out (h : Wr w0 w wb l) (hm : l.length ≤ 100000000000) : Calls Tryz.prog 39 #[.pointer (some ⟨wb, 0, none⟩)] w fun e w' => ∃ g, e = .returned (.slice (some ⟨g, 0, none⟩) l.length l.length) ∧ w0.heap.size ≤ g ∧ w'.rowIs g 5 l.length (fun j => .int .u8 (l.getD j 0 : Nat)) ∧ Wr w0 w' wb l := by
  obtain ⟨B, v, hB, hI⟩ := h.2.2
  refine (out_w wb B v l.length _ w hI (by omega)).mono fun e w' ⟨he, hs, hz, hr⟩ => ⟨w.heap.size, he, h.2.1.size, hr, h.1, h.2.1.trans (since_mono hs h.2.1.size), B, v, hB, ?_⟩
  exact ⟨row_since hI.cell hs, own_since hI.own hs, hI.ne, Nat.le_trans hI.lo hs.size⟩
end

/-- A part that is handed in. -/
structure Pt where
  a : Option Addr
  n : Nat
  c : Nat
  y : Nat → Nat
def Pt.bs (p : Pt) : List Nat := (List.range p.n).map p.y
theorem Pt.len (p : Pt) : p.bs.length = p.n := by simp [Pt.bs]
structure Pt.ok (p : Pt) (w : World) : Prop where
  byt : Byt w p.a p.n p.y
  nil : p.a = none → p.n = 0 ∧ p.c = 0
  lt : ∀ q, p.a = some q → q.block < w.heap.size
  byte : ∀ j, p.y j < 256
/-- Parts that are handed in. -/
structure Rws (w : World) (a : Option Addr) (L : List Pt) : Prop where
  cell : ∀ i p, L[i]? = some p → ∃ b o, a = some ⟨b, o, none⟩ ∧ w.cell? ⟨b, o + i, none⟩ = some (.slice p.a p.n p.c)
  ok : ∀ p ∈ L, p.ok w
theorem Pt.ok.since {p : Pt} {w w' : World} (h : p.ok w) (hs : w.Since w.heap.size w') : p.ok w' := ⟨h.byt.since hs, h.nil, fun q e => Nat.lt_of_lt_of_le (h.lt q e) hs.size, h.byte⟩
theorem Rws.since {w w' : World} {a : Option Addr} {L : List Pt} (h : Rws w a L) (hs : w.Since w.heap.size w') : Rws w' a L :=
  ⟨fun i p hp => by
    obtain ⟨b, o, e, hc⟩ := h.cell i p hp
    exact ⟨b, o, e, by rw [hs.cell (a := ⟨b, o + i, none⟩) (World.block_lt_of_cell? _ _ hc)]; exact hc⟩, fun p hp => (h.ok p hp).since hs⟩
def lensP : List Pt → Nat
  | [] => 0
  | p :: ps => p.n + 10 + lensP ps
theorem partL_len (p : Pt) : (partL p.bs).length ≤ p.n + 10 := by
  unfold partL
  have := vl_len 9 p.bs.length
  rw [List.length_append, Pt.len] at *
  omega
theorem lens_drop {L : List Pt} {i : Nat} {p : Pt} (h : L[i]? = some p) : lensP (L.drop i) = p.n + 10 + lensP (L.drop (i + 1)) ∧ L.take (i + 1) = L.take i ++ [p] := by
  have hi := (List.getElem?_eq_some_iff.1 h).1
  have e : L[i] = p := (List.getElem?_eq_some_iff.1 h).2
  refine ⟨?_, ?_⟩
  · rw [List.drop_eq_getElem_cons hi, e]
    rfl
  · rw [List.take_add_one, h]
    rfl

end Go.Proofs.YtonpmabdjngdcaaGreatDoor

/- Package message: where the fields lie. -/
namespace Go.Proofs.YtonpmabdjngdcaaGreatDoor
open Go.RowKit
set_option maxRecDepth 100000

/-- A function value that may be called. -/
def Ent (k : FuncId) : Prop := ∀ (args : Array Value) (w : World), (callFunc k args).run Tryz.prog w = .ok (.enter k args) w
/-- A function value that tells where a field lies. -/
structure IsAt (k : FuncId) (c : Nat) : Prop where
  ent : Ent k
  call : ∀ mb w, Calls Tryz.prog k #[.pointer (some ⟨mb, 0, none⟩)] w fun e w' => e = .returned (.pointer (some ⟨mb, c, none⟩)) ∧ w' = w
theorem isAt4 : IsAt 58 4 := by
  refine ⟨fun _ _ => rfl, fun mb w => ?_⟩
  go_enter Tryz.func58, Tryz.ntmps58
  go_wp2
  go_ret
  exact ⟨rfl, rfl⟩
theorem isAt5 : IsAt 60 5 := by
  refine ⟨fun _ _ => rfl, fun mb w => ?_⟩
  go_enter Tryz.func60, Tryz.ntmps60
  go_wp2
  go_ret
  exact ⟨rfl, rfl⟩
theorem isAt6 : IsAt 61 6 := by
  refine ⟨fun _ _ => rfl, fun mb w => ?_⟩
  go_enter Tryz.func61, Tryz.ntmps61
  go_wp2
  go_ret
  exact ⟨rfl, rfl⟩
theorem isAt7 : IsAt 62 7 := by
  refine ⟨fun _ _ => rfl, fun mb w => ?_⟩
  go_enter Tryz.func62, Tryz.ntmps62
  go_wp2
  go_ret
  exact ⟨rfl, rfl⟩
theorem isAt8 : IsAt 64 8 := by
  refine ⟨fun _ _ => rfl, fun mb w => ?_⟩
  go_enter Tryz.func64, Tryz.ntmps64
  go_wp2
  go_ret
  exact ⟨rfl, rfl⟩
theorem isAt9 : IsAt 65 9 := by
  refine ⟨fun _ _ => rfl, fun mb w => ?_⟩
  go_enter Tryz.func65, Tryz.ntmps65
  go_wp2
  go_ret
  exact ⟨rfl, rfl⟩
theorem isAt11 : IsAt 68 11 := by
  refine ⟨fun _ _ => rfl, fun mb w => ?_⟩
  go_enter Tryz.func68, Tryz.ntmps68
  go_wp2
  go_ret
  exact ⟨rfl, rfl⟩
theorem isAt12 : IsAt 69 12 := by
  refine ⟨fun _ _ => rfl, fun mb w => ?_⟩
  go_enter Tryz.func69, Tryz.ntmps69
  go_wp2
  go_ret
  exact ⟨rfl, rfl⟩
theorem isAt13 : IsAt 71 13 := by
  refine ⟨fun _ _ => rfl, fun mb w => ?_⟩
  go_enter Tryz.func71, Tryz.ntmps71
  go_wp2
  go_ret
  exact ⟨rfl, rfl⟩
theorem isAt14 : IsAt 72 14 := by
  refine ⟨fun _ _ => rfl, fun mb w => ?_⟩
  go_enter Tryz.func72, Tryz.ntmps72
  go_wp2
  go_ret
  exact ⟨rfl, rfl⟩
theorem isAt15 : IsAt 73 15 := by
  refine ⟨fun _ _ => rfl, fun mb w => ?_⟩
  go_enter Tryz.func73, Tryz.ntmps73
  go_wp2
  go_ret
  exact ⟨rfl, rfl⟩
theorem isAt16 : IsAt 74 16 := by
  refine ⟨fun _ _ => rfl, fun mb w => ?_⟩
  go_enter Tryz.func74, Tryz.ntmps74
  go_wp2
  go_ret
  exact ⟨rfl, rfl⟩
theorem isAt17 : IsAt 75 17 := by
  refine ⟨fun _ _ => rfl, fun mb w => ?_⟩
  go_enter Tryz.func75, Tryz.ntmps75
  go_wp2
  go_ret
  exact ⟨rfl, rfl⟩
theorem isAt18 : IsAt 76 18 := by
  refine ⟨fun _ _ => rfl, fun mb w => ?_⟩
  go_enter Tryz.func76, Tryz.ntmps76
  go_wp2
  go_ret
  exact ⟨rfl, rfl⟩
theorem isAt19 : IsAt 77 19 := by
  refine ⟨fun _ _ => rfl, fun mb w => ?_⟩
  go_enter Tryz.func77, Tryz.ntmps77
  go_wp2
  go_ret
  exact ⟨rfl, rfl⟩
theorem isAt20 : IsAt 78 20 := by
  refine ⟨fun _ _ => rfl, fun mb w => ?_⟩
  go_enter Tryz.func78, Tryz.ntmps78
  go_wp2
  go_ret
  exact ⟨rfl, rfl⟩
theorem isAt21 : IsAt 138 21 := by
  refine ⟨fun _ _ => rfl, fun mb w => ?_⟩
  go_enter Tryz.func138, Tryz.ntmps138
  go_wp2
  go_ret
  exact ⟨rfl, rfl⟩
end Go.Proofs.YtonpmabdjngdcaaGreatDoor

/- Package message: within, isKind, isBelow, isUsed. -/
namespace Go.Proofs.YtonpmabdjngdcaaGreatDoor
open Go.RowKit
set_option maxRecDepth 100000

set_option maxHeartbeats 1000000 in
theorem withinU (n most : Int) (used : Bool) (w : World) : Calls Tryz.prog 114 #[.int .u64 n, .int .u64 most, .bool used] w fun e w' => e = .returned (.bool (decide (0 ≤ n ∧ n ≤ (if used then most else 0)))) ∧ w' = w := by
  by_cases h0 : 0 ≤ n
  · have b0 : decide (0 ≤ n) = true := decide_eq_true h0
    have c0 : n ≥ 0 := h0
    cases used with
    | false =>
      by_cases h1 : n ≤ 0
      · have b1 : decide (n ≤ 0) = true := decide_eq_true h1
        have HE : Hid (decide (0 ≤ n ∧ n ≤ (if false = true then most else 0)) = true) := decide_eq_true ⟨h0, by simpa using h1⟩
        rw [HE.out]
        go_enter Tryz.func114, Tryz.ntmps114
        go_wp2
        go_ret
        exact ⟨by rfl, rfl⟩
      · have b1 : decide (n ≤ 0) = false := decide_eq_false h1
        have HE : Hid (decide (0 ≤ n ∧ n ≤ (if false = true then most else 0)) = false) := decide_eq_false (fun e => h1 (by simpa using e.2))
        rw [HE.out]
        go_enter Tryz.func114, Tryz.ntmps114
        go_wp2
        go_ret
        exact ⟨by rfl, rfl⟩
    | true =>
      by_cases h1 : n ≤ most
      · have b1 : decide (n ≤ most) = true := decide_eq_true h1
        have HE : Hid (decide (0 ≤ n ∧ n ≤ (if true = true then most else 0)) = true) := decide_eq_true ⟨h0, by simpa using h1⟩
        rw [HE.out]
        go_enter Tryz.func114, Tryz.ntmps114
        go_wp2
        go_ret
        exact ⟨by rfl, rfl⟩
      · have b1 : decide (n ≤ most) = false := decide_eq_false h1
        have HE : Hid (decide (0 ≤ n ∧ n ≤ (if true = true then most else 0)) = false) := decide_eq_false (fun e => h1 (by simpa using e.2))
        rw [HE.out]
        go_enter Tryz.func114, Tryz.ntmps114
        go_wp2
        go_ret
        exact ⟨by rfl, rfl⟩
  · have b0 : decide (0 ≤ n) = false := decide_eq_false h0
    have HE : Hid (decide (0 ≤ n ∧ n ≤ (if used then most else 0)) = false) := decide_eq_false (fun e => h0 e.1)
    rw [HE.out]
    cases used with
    | false =>
      go_enter Tryz.func114, Tryz.ntmps114
      go_wp2
      go_ret
      exact ⟨by rfl, rfl⟩
    | true =>
      go_enter Tryz.func114, Tryz.ntmps114
      go_wp2
      go_ret
      exact ⟨by rfl, rfl⟩
set_option maxHeartbeats 1000000 in
theorem withinI (n most : Int) (used : Bool) (w : World) : Calls Tryz.prog 123 #[.int .i64 n, .int .i64 most, .bool used] w fun e w' => e = .returned (.bool (decide (0 ≤ n ∧ n ≤ (if used then most else 0)))) ∧ w' = w := by
  by_cases h0 : 0 ≤ n
  · have b0 : decide (0 ≤ n) = true := decide_eq_true h0
    have c0 : n ≥ 0 := h0
    cases used with
    | false =>
      by_cases h1 : n ≤ 0
      · have b1 : decide (n ≤ 0) = true := decide_eq_true h1
        have HE : Hid (decide (0 ≤ n ∧ n ≤ (if false = true then most else 0)) = true) := decide_eq_true ⟨h0, by simpa using h1⟩
        rw [HE.out]
        go_enter Tryz.func123, Tryz.ntmps123
        go_wp2
        go_ret
        exact ⟨by rfl, rfl⟩
      · have b1 : decide (n ≤ 0) = false := decide_eq_false h1
        have HE : Hid (decide (0 ≤ n ∧ n ≤ (if false = true then most else 0)) = false) := decide_eq_false (fun e => h1 (by simpa using e.2))
        rw [HE.out]
        go_enter Tryz.func123, Tryz.ntmps123
        go_wp2
        go_ret
        exact ⟨by rfl, rfl⟩
    | true =>
      by_cases h1 : n ≤ most
      · have b1 : decide (n ≤ most) = true := decide_eq_true h1
        have HE : Hid (decide (0 ≤ n ∧ n ≤ (if true = true then most else 0)) = true) := decide_eq_true ⟨h0, by simpa using h1⟩
        rw [HE.out]
        go_enter Tryz.func123, Tryz.ntmps123
        go_wp2
        go_ret
        exact ⟨by rfl, rfl⟩
      · have b1 : decide (n ≤ most) = false := decide_eq_false h1
        have HE : Hid (decide (0 ≤ n ∧ n ≤ (if true = true then most else 0)) = false) := decide_eq_false (fun e => h1 (by simpa using e.2))
        rw [HE.out]
        go_enter Tryz.func123, Tryz.ntmps123
        go_wp2
        go_ret
        exact ⟨by rfl, rfl⟩
  · have b0 : decide (0 ≤ n) = false := decide_eq_false h0
    have HE : Hid (decide (0 ≤ n ∧ n ≤ (if used then most else 0)) = false) := decide_eq_false (fun e => h0 e.1)
    rw [HE.out]
    cases used with
    | false =>
      go_enter Tryz.func123, Tryz.ntmps123
      go_wp2
      go_ret
      exact ⟨by rfl, rfl⟩
    | true =>
      go_enter Tryz.func123, Tryz.ntmps123
      go_wp2
      go_ret
      exact ⟨by rfl, rfl⟩
set_option maxHeartbeats 1000000 in
theorem withinE (n most : Int) (used : Bool) (w : World) : Calls Tryz.prog 159 #[.int .i64 n, .int .i64 most, .bool used] w fun e w' => e = .returned (.bool (decide (0 ≤ n ∧ n ≤ (if used then most else 0)))) ∧ w' = w := by
  by_cases h0 : 0 ≤ n
  · have b0 : decide (0 ≤ n) = true := decide_eq_true h0
    have c0 : n ≥ 0 := h0
    cases used with
    | false =>
      by_cases h1 : n ≤ 0
      · have b1 : decide (n ≤ 0) = true := decide_eq_true h1
        have HE : Hid (decide (0 ≤ n ∧ n ≤ (if false = true then most else 0)) = true) := decide_eq_true ⟨h0, by simpa using h1⟩
        rw [HE.out]
        go_enter Tryz.func159, Tryz.ntmps159
        go_wp2
        go_ret
        exact ⟨by rfl, rfl⟩
      · have b1 : decide (n ≤ 0) = false := decide_eq_false h1
        have HE : Hid (decide (0 ≤ n ∧ n ≤ (if false = true then most else 0)) = false) := decide_eq_false (fun e => h1 (by simpa using e.2))
        rw [HE.out]
        go_enter Tryz.func159, Tryz.ntmps159
        go_wp2
        go_ret
        exact ⟨by rfl, rfl⟩
    | true =>
      by_cases h1 : n ≤ most
      · have b1 : decide (n ≤ most) = true := decide_eq_true h1
        have HE : Hid (decide (0 ≤ n ∧ n ≤ (if true = true then most else 0)) = true) := decide_eq_true ⟨h0, by simpa using h1⟩
        rw [HE.out]
        go_enter Tryz.func159, Tryz.ntmps159
        go_wp2
        go_ret
        exact ⟨by rfl, rfl⟩
      · have b1 : decide (n ≤ most) = false := decide_eq_false h1
        have HE : Hid (decide (0 ≤ n ∧ n ≤ (if true = true then most else 0)) = false) := decide_eq_false (fun e => h1 (by simpa using e.2))
        rw [HE.out]
        go_enter Tryz.func159, Tryz.ntmps159
        go_wp2
        go_ret
        exact ⟨by rfl, rfl⟩
  · have b0 : decide (0 ≤ n) = false := decide_eq_false h0
    have HE : Hid (decide (0 ≤ n ∧ n ≤ (if used then most else 0)) = false) := decide_eq_false (fun e => h0 e.1)
    rw [HE.out]
    cases used with
    | false =>
      go_enter Tryz.func159, Tryz.ntmps159
      go_wp2
      go_ret
      exact ⟨by rfl, rfl⟩
    | true =>
      go_enter Tryz.func159, Tryz.ntmps159
      go_wp2
      go_ret
      exact ⟨by rfl, rfl⟩
theorem isKind_any (n : Int) (w : World) : Calls Tryz.prog 32 #[.int .i64 n] w fun e w' => e = .returned (.bool (decide (1 ≤ n ∧ n ≤ 11))) ∧ w' = w := by
  by_cases h0 : 1 ≤ n
  · by_cases h1 : n ≤ 11
    · have HE : Hid (decide (1 ≤ n ∧ n ≤ 11) = true) := decide_eq_true ⟨h0, h1⟩
      rw [HE.out]
      go_enter Tryz.func32, Tryz.ntmps32
      go_wp2
      go_ret
      exact ⟨by rfl, rfl⟩
    · have HE : Hid (decide (1 ≤ n ∧ n ≤ 11) = false) := decide_eq_false (fun e => h1 e.2)
      rw [HE.out]
      go_enter Tryz.func32, Tryz.ntmps32
      go_wp2
      go_ret
      exact ⟨by rfl, rfl⟩
  · have HE : Hid (decide (1 ≤ n ∧ n ≤ 11) = false) := decide_eq_false (fun e => h0 e.1)
    rw [HE.out]
    go_enter Tryz.func32, Tryz.ntmps32
    go_wp2
    go_ret
    exact ⟨by rfl, rfl⟩
theorem isBelow_any (n c : Int) (w : World) : Calls Tryz.prog 80 #[.int .i64 n, .int .i64 c] w fun e w' => e = .returned (.bool (decide (0 ≤ n ∧ n < c))) ∧ w' = w := by
  by_cases h0 : 0 ≤ n
  · by_cases h1 : n < c
    · have HE : Hid (decide (0 ≤ n ∧ n < c) = true) := decide_eq_true ⟨h0, h1⟩
      rw [HE.out]
      go_enter Tryz.func80, Tryz.ntmps80
      go_wp2
      go_ret
      exact ⟨by rfl, rfl⟩
    · have HE : Hid (decide (0 ≤ n ∧ n < c) = false) := decide_eq_false (fun e => h1 e.2)
      rw [HE.out]
      go_enter Tryz.func80, Tryz.ntmps80
      go_wp2
      go_ret
      exact ⟨by rfl, rfl⟩
  · have HE : Hid (decide (0 ≤ n ∧ n < c) = false) := decide_eq_false (fun e => h0 e.1)
    rw [HE.out]
    go_enter Tryz.func80, Tryz.ntmps80
    go_wp2
    go_ret
    exact ⟨by rfl, rfl⟩
/-- The table of uses. -/
def Us (w : World) : Prop := ∀ k, k < 12 → w.cell? ⟨1, k, none⟩ = some (.int .u32 (usesT k : Nat))
theorem Us.since {w w' : World} (h : Us w) (hs : w.Since w.heap.size w') : Us w' := fun k hk => by
  rw [hs.cell (a := ⟨1, k, none⟩) (World.block_lt_of_cell? _ _ (h k hk))]; exact h k hk
theorem usesT_lt (k : Nat) : usesT k < 4294967296 := by
  unfold usesT
  split <;> decide
theorem isUsed_any (k i : Nat) (w : World) (h : Us w) (hk : k < 12) (hi : i < 16) : Calls Tryz.prog 81 #[.int .i64 (k : Nat), .int .i64 (i : Nat)] w fun e w' => e = .returned (.bool (usedB k i)) ∧ w' = w := by
  have hc := h k hk
  have hl := usesT_lt k
  have hd : usesT k / 2 ^ i < 4294967296 := Nat.lt_of_le_of_lt (Nat.div_le_self _ _) hl
  have hand : bits .and .u32 ((usesT k : Int) / (2 : Int) ^ i) 1 = ((usesT k / 2 ^ i % 2 : Nat) : Int) := by
    have := u32_and_nat (usesT k / 2 ^ i) 1 hd (by decide)
    rw [Nat.and_one_is_mod] at this
    simpa using this
  have z0 : (0 : Int) ≤ (k : Int) := by omega
  have z1 : (k : Int) < 12 := by omega
  have z2 : (0 : Int) ≤ (i : Int) := by omega
  have z3 : (i : Int) < 32 := by omega
  unfold usedB
  clear h hd hl
  generalize usesT k / 2 ^ i % 2 = b at *
  generalize usesT k = T at *
  by_cases hb : b = 1
  · subst hb
    have HE : Hid ((1 == 1) = true) := rfl
    go_enter Tryz.func81, Tryz.ntmps81
    go_wp2
    go_ret
    exact ⟨rfl, rfl⟩
  · have hbz : ((b : Int) == 1) = false := by simp; omega
    have HE : Hid ((b == 1) = false) := by show (b == 1) = false; simp [hb]
    rw [HE.out]
    go_enter Tryz.func81, Tryz.ntmps81
    go_wp2
    go_ret
    exact ⟨rfl, rfl⟩
end Go.Proofs.YtonpmabdjngdcaaGreatDoor

/- Package message: a message in memory; the closures of numbers. -/
namespace Go.Proofs.YtonpmabdjngdcaaGreatDoor
open Go.RowKit
set_option maxRecDepth 100000

def strL (l : List Nat) : ByteArray := strOfNums (l.map fun v : Nat => (v : Int))
def isU (i : Nat) : Bool := i == 4 || i == 5 || i == 6 || i == 7 || i == 9 || i == 12 || i == 15 || i == 16 || i == 17
/-- The cells of a message; va, vc: where its Value lies, and its room. -/
def mgCell (m : Mg) (va : Option Addr) (vc : Nat) (i : Nat) : Value :=
  if i = 10 then .slice va (m.s 10).length vc else if i = 13 ∨ i = 14 then .string (strL (m.s i)) else if isU i = true then .int .u64 (m.n i) else .int .i64 (m.n i)
/-- A message in memory. -/
structure MsgIs (w : World) (mb : Nat) (m : Mg) (va : Option Addr) (vc : Nat) : Prop where
  row : w.rowIs mb 37 22 (mgCell m va vc)
  val : Byt w va (m.s 10).length (fun j => (m.s 10).getD j 0)
  nil : va = none → (m.s 10).length = 0 ∧ vc = 0
  lt : ∀ q, va = some q → 0 < (m.s 10).length → q.block < w.heap.size
  ne : ∀ q, va = some q → 0 < (m.s 10).length → q.block ≠ mb
  len : ∀ c, (m.s c).length ≤ 140737488351232
  byte : ∀ c, ∀ v ∈ m.s c, v < 256
theorem MsgIs.keep {w w' : World} {mb : Nat} {m : Mg} {va : Option Addr} {vc : Nat} (h : MsgIs w mb m va vc) (h1 : w'.heap[mb]? = w.heap[mb]?) (h2 : ∀ q, va = some q → 0 < (m.s 10).length → w'.heap[q.block]? = w.heap[q.block]?) (hz : w.heap.size ≤ w'.heap.size) : MsgIs w' mb m va vc :=
  ⟨h.row.of_block h1, fun j hj => by
    obtain ⟨b, o, e, hc⟩ := h.val j hj
    have hq : w'.heap[b]? = w.heap[b]? := h2 _ e (by omega)
    exact ⟨b, o, e, by rw [World.cell?_of_block (a := ⟨b, o + j, none⟩) hq]; exact hc⟩, h.nil, fun q e h0 => Nat.lt_of_lt_of_le (h.lt q e h0) hz, h.ne, h.len, h.byte⟩
theorem MsgIs.since {w w' : World} {mb : Nat} {m : Mg} {va : Option Addr} {vc : Nat} (h : MsgIs w mb m va vc) (hs : w.Since w.heap.size w') : MsgIs w' mb m va vc :=
  h.keep (hs.block _ h.row.lt) (fun q e h0 => hs.block _ (h.lt q e h0)) hs.size
theorem MsgIs.cell {w : World} {mb : Nat} {m : Mg} {va : Option Addr} {vc : Nat} (h : MsgIs w mb m va vc) {i : Nat} (hi : i < 22) : w.cell? ⟨mb, i, none⟩ = some (mgCell m va vc i) := h.row.cell hi
theorem mgCell_u {m : Mg} {va : Option Addr} {vc i : Nat} (h : isU i = true) : mgCell m va vc i = .int .u64 (m.n i) := by
  have h10 : i ≠ 10 := fun e => by rw [e] at h; exact absurd h (by decide)
  have h13 : ¬ (i = 13 ∨ i = 14) := fun e => by rcases e with e | e <;> (rw [e] at h; exact absurd h (by decide))
  unfold mgCell
  rw [if_neg h10, if_neg h13, if_pos h]
theorem mgCell_i {m : Mg} {va : Option Addr} {vc i : Nat} (h : isU i = false) (h10 : i ≠ 10) (h13 : i ≠ 13) (h14 : i ≠ 14) : mgCell m va vc i = .int .i64 (m.n i) := by
  unfold mgCell
  rw [if_neg h10, if_neg (by omega), if_neg (by rw [h]; decide)]
theorem drewN_since (w : World) (k : Nat) : w.Since w.heap.size (w.drewN k) := since_drewN' (World.Since.refl _ _) k
set_option maxHeartbeats 1000000 in
theorem varMayU (ka : FuncId) (c ab qb mb : Nat) (hat : IsAt ka c) (most n : Int) (used : Bool) (w : World) (h1 : w.cell? ⟨ab, 0, none⟩ = some (.func (.func ka) #[] #[])) (h2 : w.cell? ⟨qb, 0, none⟩ = some (.int .u64 most)) (h3 : w.cell? ⟨mb, c, none⟩ = some (.int .u64 n)) :
    Calls Tryz.prog 113 #[.pointer (some ⟨mb, 0, none⟩), .bool used, .pointer (some ⟨ab, 0, none⟩), .pointer (some ⟨qb, 0, none⟩)] w fun e w' => e = .returned (.bool (decide (0 ≤ n ∧ n ≤ (if used then most else 0)))) ∧ ∃ k, w' = w.drewN k := by
  have hent := hat.ent
  unfold Ent at hent
  have HC := hide hat.call
  have HW : Hid (∀ w, Calls Tryz.prog 114 #[.int .u64 n, .int .u64 most, .bool used] w fun e w' => e = .returned (.bool (decide (0 ≤ n ∧ n ≤ (if used then most else 0)))) ∧ w' = w) := fun w => withinU n most used w
  generalize decide (0 ≤ n ∧ n ≤ (if used then most else 0)) = R at *
  clear hat
  go_enter Tryz.func113, Tryz.ntmps113
  go_wp2_with fail
  go_quiet (first | exact Calls.quiet_of_same (HC.out _ _) | exact Calls.quiet_of_same (HW.out _))
  go_wp2_with fail
  go_ret
  exact ⟨rfl, _, rfl⟩
set_option maxHeartbeats 1000000 in
theorem varMayI (ka : FuncId) (c ab qb mb : Nat) (hat : IsAt ka c) (most n : Int) (used : Bool) (w : World) (h1 : w.cell? ⟨ab, 0, none⟩ = some (.func (.func ka) #[] #[])) (h2 : w.cell? ⟨qb, 0, none⟩ = some (.int .i64 most)) (h3 : w.cell? ⟨mb, c, none⟩ = some (.int .i64 n)) :
    Calls Tryz.prog 122 #[.pointer (some ⟨mb, 0, none⟩), .bool used, .pointer (some ⟨ab, 0, none⟩), .pointer (some ⟨qb, 0, none⟩)] w fun e w' => e = .returned (.bool (decide (0 ≤ n ∧ n ≤ (if used then most else 0)))) ∧ ∃ k, w' = w.drewN k := by
  have hent := hat.ent
  unfold Ent at hent
  have HC := hide hat.call
  have HW : Hid (∀ w, Calls Tryz.prog 123 #[.int .i64 n, .int .i64 most, .bool used] w fun e w' => e = .returned (.bool (decide (0 ≤ n ∧ n ≤ (if used then most else 0)))) ∧ w' = w) := fun w => withinI n most used w
  generalize decide (0 ≤ n ∧ n ≤ (if used then most else 0)) = R at *
  clear hat
  go_enter Tryz.func122, Tryz.ntmps122
  go_wp2_with fail
  go_quiet (first | exact Calls.quiet_of_same (HC.out _ _) | exact Calls.quiet_of_same (HW.out _))
  go_wp2_with fail
  go_ret
  exact ⟨rfl, _, rfl⟩
set_option maxHeartbeats 1000000 in
theorem varMayE (ka : FuncId) (c ab qb mb : Nat) (hat : IsAt ka c) (most n : Int) (used : Bool) (w : World) (h1 : w.cell? ⟨ab, 0, none⟩ = some (.func (.func ka) #[] #[])) (h2 : w.cell? ⟨qb, 0, none⟩ = some (.int .i64 most)) (h3 : w.cell? ⟨mb, c, none⟩ = some (.int .i64 n)) :
    Calls Tryz.prog 158 #[.pointer (some ⟨mb, 0, none⟩), .bool used, .pointer (some ⟨ab, 0, none⟩), .pointer (some ⟨qb, 0, none⟩)] w fun e w' => e = .returned (.bool (decide (0 ≤ n ∧ n ≤ (if used then most else 0)))) ∧ ∃ k, w' = w.drewN k := by
  have hent := hat.ent
  unfold Ent at hent
  have HC := hide hat.call
  have HW : Hid (∀ w, Calls Tryz.prog 159 #[.int .i64 n, .int .i64 most, .bool used] w fun e w' => e = .returned (.bool (decide (0 ≤ n ∧ n ≤ (if used then most else 0)))) ∧ w' = w) := fun w => withinE n most used w
  generalize decide (0 ≤ n ∧ n ≤ (if used then most else 0)) = R at *
  clear hat
  go_enter Tryz.func158, Tryz.ntmps158
  go_wp2_with fail
  go_quiet (first | exact Calls.quiet_of_same (HC.out _ _) | exact Calls.quiet_of_same (HW.out _))
  go_wp2_with fail
  go_ret
  exact ⟨rfl, _, rfl⟩
end Go.Proofs.YtonpmabdjngdcaaGreatDoor

/- Strings as bytes: what []byte(s) makes. -/
namespace Go.Proofs.YtonpmabdjngdcaaGreatDoor
open Go.RowKit
set_option maxRecDepth 100000

/-- The bytes of a string. -/
def bx (s : ByteArray) (j : Nat) : Nat := (s.data.toList.getD j 0).toNat
theorem bx_lt (s : ByteArray) (j : Nat) : bx s j < 256 := (s.data.toList.getD j 0).toNat_lt
/-- Block g is what []byte(s) made: the bytes, then zeros, c in all. -/
structure FlB (w : World) (g c : Nat) (s : ByteArray) : Prop where
  blk : ∃ cs, w.heap[g]? = some (.cells cs 5 (c, c + 1)) ∧ cs.size = c ∧ (∀ j, j < s.size → cs[j]? = some (.int .u8 (bx s j : Nat))) ∧ ∀ j, j < c → ∃ q : Nat, cs[j]? = some (.int .u8 (q : Nat))
  le : s.size ≤ c
theorem FlB.on {w w' : World} {g c : Nat} {s : ByteArray} (h : FlB w g c s) (e : w'.heap[g]? = w.heap[g]?) : FlB w' g c s := by
  obtain ⟨cs, h1, h2⟩ := h.blk
  exact ⟨⟨cs, e.trans h1, h2⟩, h.le⟩
theorem FlB.lt {w : World} {g c : Nat} {s : ByteArray} (h : FlB w g c s) : g < w.heap.size := by
  obtain ⟨cs, h1, h2⟩ := h.blk
  exact (Array.getElem?_eq_some_iff.1 h1).1
theorem FlB.cell {w : World} {g c : Nat} {s : ByteArray} (h : FlB w g c s) (j : Nat) (hj : j < s.size) : w.cell? ⟨g, j, none⟩ = some (.int .u8 (bx s j : Nat)) := by
  obtain ⟨cs, h1, h2, h3, _⟩ := h.blk
  simp [World.cell?, h1, h3 j hj]
theorem FlB.byt {w : World} {g c : Nat} {s : ByteArray} (h : FlB w g c s) : Byt w (some ⟨g, 0, none⟩) s.size (bx s) := fun j hj => ⟨g, 0, rfl, by rw [Nat.zero_add]; exact h.cell j hj⟩
theorem flb_new (w : World) (s : ByteArray) : FlB (Lib.bytesWorld w 5 s) w.heap.size (grownCap w s.size 0 5) s := by
  have hc := grownCap_ge w s.size 0 5
  have hds : s.data.size = s.size := rfl
  have hsz : (Lib.bytesCells w 5 s).size = grownCap w s.size 0 5 := by
    unfold Lib.bytesCells
    rw [Array.size_append, Array.size_map, Array.size_replicate]
    omega
  refine ⟨⟨Lib.bytesCells w 5 s, ?_, hsz, fun j hj => ?_, fun j hj => ?_⟩, hc⟩
  · rw [Lib.bytesWorld_at_new, hsz]
  · unfold Lib.bytesCells bx
    rw [Array.getElem?_append_left (by rw [Array.size_map]; omega), Array.getElem?_map, Array.getElem?_eq_getElem (by omega)]
    simp only [List.getD, Array.getElem?_toList, Option.map_some]
    rw [Array.getElem?_eq_getElem (by omega)]
    rfl
  · unfold Lib.bytesCells
    by_cases h : j < s.data.size
    · rw [Array.getElem?_append_left (by rw [Array.size_map]; omega), Array.getElem?_map, Array.getElem?_eq_getElem h]
      exact ⟨s.data[j].toNat, rfl⟩
    · rw [Array.getElem?_append_right (by rw [Array.size_map]; omega), Array.getElem?_replicate, Array.size_map, if_pos (by omega)]
      exact ⟨0, rfl⟩
theorem since_bytes (w : World) (s : ByteArray) : w.Since w.heap.size (Lib.bytesWorld w 5 s) :=
  ⟨rfl, rfl, rfl, by rw [Lib.bytesWorld_size]; omega, fun k hk => Lib.bytesWorld_at_old w _ s k hk⟩
theorem strL_size (l : List Nat) : (strL l).size = l.length := by unfold strL; rw [strOfNums_size]; simp
theorem bx_strL {l : List Nat} (h : ∀ v ∈ l, v < 256) (j : Nat) : bx (strL l) j = l.getD j 0 := by
  unfold bx strL
  rw [strOfNums_data]
  by_cases hj : j < l.length
  · have hv := h l[j] (List.getElem_mem hj)
    have e : (l.map fun v : Nat => (v : Int)).map (fun n => UInt8.ofNat n.toNat) = l.map fun v => UInt8.ofNat v := by
      rw [List.map_map]
      exact List.map_congr_left fun v _ => by simp
    rw [e]
    simp only [List.getD, List.getElem?_map, List.getElem?_eq_getElem hj, Option.map_some, Option.getD_some]
    rw [UInt8.toNat_ofNat']
    omega
  · simp [List.getD, hj]
theorem strOf_strL (n : Nat) (x : Nat → Nat) : strOf n x = strL ((List.range n).map x) := by
  unfold strOf strL
  rw [List.map_map]
  rfl
theorem strL_inj {a b : List Nat} (ha : ∀ v ∈ a, v < 256) (hb : ∀ v ∈ b, v < 256) (h : strL a = strL b) : a = b := by
  have hl : a.length = b.length := by rw [← strL_size a, ← strL_size b, h]
  refine List.ext_getElem hl (fun j h1 h2 => ?_)
  have := congrArg (fun s => bx s j) h
  simp only [bx_strL ha, bx_strL hb] at this
  simpa [List.getD, h1, h2] using this
/-- The bytes of a string as a list. -/
def listS (s : ByteArray) : List Nat := s.data.toList.map (·.toNat)
theorem listS_len (s : ByteArray) : (listS s).length = s.size := by unfold listS; rw [List.length_map, Array.length_toList]; rfl
theorem listS_byte (s : ByteArray) : ∀ v ∈ listS s, v < 256 := fun v hv => by
  obtain ⟨u, _, rfl⟩ := List.mem_map.1 hv
  exact u.toNat_lt
theorem strL_listS (s : ByteArray) : strL (listS s) = s := by
  unfold strL listS strOfNums
  rw [List.map_map, List.map_map]
  have : (((fun n : Int => UInt8.ofNat n.toNat) ∘ fun v : Nat => (v : Int)) ∘ fun x : UInt8 => x.toNat) = id := by
    funext u
    simp
  rw [this]
  simp
end Go.Proofs.YtonpmabdjngdcaaGreatDoor
