/- Amounts: what isPart, areGroups, isWhole and Amount answer of any text. -/
import Derived.Test.YthoeehgnkolgpaaDoorTxt2
import Derived.Lib.SplitLaws
import Derived.Deep.LoopGhost
import Derived.Deep.Light
import Derived.Test.YthoeehgnkolgpaaDoorTxtMath
namespace Go.Proofs.YthoeehgnkolgpaaDoor
open Go.RowKit

theorem isPart_any (s : ByteArray) (w : World) :
    Calls Tryd.prog 34 #[.string s] w fun e w' => e = .returned (.bool (isPartM s.data.toList)) ∧ Below w.heap.size w w' := by
  have had := allDigits_any s w
  unfold isPartM
  rw [list_size]
  generalize allD s.data.toList = A at *
  go_enter Tryd.func34, Tryd.ntmps34
  by_cases h2 : s.size = 2
  · have e2 : ((s.size : Int) == 2) = true := beq_iff_eq.2 (by omega)
    rw [decide_eq_true h2]
    clear h2
    go_wp2_with (go_at_call 52; refine had.mono ?_; rintro e w' ⟨rfl, hb⟩)
    go_ret
    exact ⟨rfl, hb⟩
  · have e2 : ((s.size : Int) == 2) = false := beq_eq_false_iff_ne.2 (by omega)
    rw [decide_eq_false h2]
    go_wp2
    go_ret
    exact ⟨rfl, Below.refl _ _⟩

set_option maxHeartbeats 1600000 in
set_option maxRecDepth 100000 in
theorem areGroups_any (s : ByteArray) (m : Int) (w : World) (hs : s.size < 4294967281) (hm : w.cell? ⟨5, 0, none⟩ = some (.int .i64 m)) :
    Calls Tryd.prog 53 #[.string s] w fun e w' => e = .returned (.bool (areGroupsM s)) ∧ Below w.heap.size w w' := by
  have hsp := Tryd.strings_Split s ⟨#[39]⟩ m w hs hm (by decide)
  have hlen := pieces_length s
  have hcl := Lib.countB_le ⟨#[39]⟩ (by decide) s.size s (Nat.le_refl _)
  have hpc : pieces s = Lib.splitB ⟨#[39]⟩ 0 (Lib.countB s ⟨#[39]⟩) s := rfl
  rw [← hpc] at hsp
  unfold areGroupsM
  generalize pieces s = P at *
  generalize Lib.countB s ⟨#[39]⟩ = K at *
  clear hpc
  have b1 : Below w.heap.size w (w.alloc (.cells (P.map Value.string).toArray 9)) := (Below.refl _ w).alloc (Nat.le_refl _) _
  have z1 : (w.alloc (.cells (P.map Value.string).toArray 9)).heap.size = w.heap.size + 1 := by simp
  have c1 : ∀ k, (hk : k < P.length) → (w.alloc (.cells (P.map Value.string).toArray 9)).cell? ⟨w.heap.size, k, none⟩ = some (.string P[k]) := fun k hk => by simp [hk]
  go_enter Tryd.func53, Tryd.ntmps53
  go_wp2_with (go_at_call 71; refine hsp.mono ?_; rintro e w' ⟨rfl, rfl⟩)
  generalize w.alloc (.cells (P.map Value.string).toArray 9) = w1 at *
  have C1 := hide c1
  clear c1 hsp
  have Hlen := hide hlen
  have hcl2 : K < 4294967281 := by omega
  clear hlen hcl
  go_loopg [8] (K + 1) (fun q s8 wx => ∃ k : Nat, k ≤ K + 1 ∧ q = K + 1 - k ∧ s8 = .int .i64 k ∧ Below (w.heap.size + 1) w1 wx ∧ Hid ((P.all fun p => groupM p.data.toList) = ((P.drop k).all fun p => groupM p.data.toList)))
  case atStart => exact ⟨0, by omega, rfl, rfl, Below.refl _ _, hide rfl⟩
  case round =>
    obtain ⟨k, hk, rfl, rfl, hb, hr⟩ := hrel
    by_cases hlt : k < K + 1
    · have hkP : k < P.length := by rw [Hlen.out]; exact hlt
      have hc : wr.cell? ⟨w.heap.size, k, none⟩ = some (.string P[k]) := by rw [hb.cell (p := ⟨w.heap.size, k, none⟩) (by show w.heap.size < w.heap.size + 1; omega)]; exact C1.out k hkP
      have hst : Hid (((P.drop k).all fun p => groupM p.data.toList) = (groupM P[k].data.toList && ((P.drop (k + 1)).all fun p => groupM p.data.toList))) := hide (by rw [List.drop_eq_getElem_cons hkP]; rfl)
      have hz : (k : Int) < ((K : Int) + 1) := by omega
      have had := allDigits_any P[k] wr
      have hg : Hid (groupM P[k].data.toList = (decide (P[k].size = 3) && allD P[k].data.toList)) := hide (by unfold groupM; rw [list_size])
      have hzw : w1.heap.size ≤ wr.heap.size := hb.size
      generalize P[k] = p at *
      generalize allD p.data.toList = A at *
      have fin : ∀ wx, Below (w.heap.size + 1) w1 wx → Below w.heap.size w wx := fun wx h => b1.trans (h.mono (by omega))
      by_cases h3 : p.size = 3
      · have e3 : ((p.size : Int) != 3) = false := by simp; omega
        rw [decide_eq_true h3] at hg
        clear h3
        cases A with
        | true =>
          go_wp2_with (go_at_call 52; refine had.mono ?_; rintro e w' ⟨rfl, hb2⟩)
          go_roundg (K + 1 - (k + 1))
          case measure => go_light; omega
          case rel => go_light; exact ⟨k + 1, by omega, rfl, by simp, hb.trans (hb2.mono (by omega)), hide (by rw [hr.out, hst.out, hg.out]; rfl)⟩
        | false =>
          go_wp2_with (go_at_call 52; refine had.mono ?_; rintro e w' ⟨rfl, hb2⟩)
          go_ret
          exact ⟨ret_bool (by rw [hr.out, hst.out, hg.out]; rfl), fin _ (hb.trans (hb2.mono (by omega)))⟩
      · have e3 : ((p.size : Int) != 3) = true := by simp; omega
        rw [decide_eq_false h3] at hg
        go_wp2
        go_ret
        exact ⟨ret_bool (by rw [hr.out, hst.out, hg.out]; rfl), fin _ hb⟩
    · have hz : ¬ (k : Int) < ((K : Int) + 1) := by omega
      go_wp2
      go_ret
      exact ⟨ret_bool (by rw [hr.out, List.drop_eq_nil_of_le (by rw [Hlen.out]; omega)]; rfl), b1.trans (hb.mono (by omega))⟩

theorem back (f : List UInt8) : (⟨f.toArray⟩ : ByteArray).data.toList = f := rfl
theorem back_size (f : List UInt8) : (⟨f.toArray⟩ : ByteArray).size = f.length := List.size_toArray
theorem cut_call (s : ByteArray) (c : UInt8) (m : Int) (w : World) (hs : s.size < 4294967281) (hm : w.cell? ⟨5, 0, none⟩ = some (.int .i64 m)) :
    Calls Tryd.prog 32 #[.string s, .string ⟨#[c]⟩] w fun e w' => e = .returned (.tuple #[.string ⟨(cut1 c s.data.toList).1.toArray⟩, .string ⟨(cut1 c s.data.toList).2.1.toArray⟩, .bool (cut1 c s.data.toList).2.2]) ∧ ∃ n, w' = w.drewN n := by
  have h := Tryd.strings_Cut s ⟨#[c]⟩ m w hs hm
  rw [show (⟨#[c]⟩ : ByteArray).data.toList = [c] from rfl, cut_one] at h
  exact h
theorem below_drewN {B : Nat} {a w : World} (h : Below B a w) (n : Nat) : Below B a (w.drewN n) := ⟨h.os, h.tape, h.output, h.size, h.block⟩
theorem str_eq (f : List UInt8) (g : ByteArray) : ((⟨f.toArray⟩ : ByteArray) = g) ↔ f = g.data.toList := ⟨fun h => by rw [← h], fun h => by rw [h]⟩

set_option maxHeartbeats 3200000 in
set_option maxRecDepth 100000 in
theorem isWhole_any (s : ByteArray) (m : Int) (w : World) (hs : s.size < 4294967281) (hm : w.cell? ⟨5, 0, none⟩ = some (.int .i64 m)) :
    Calls Tryd.prog 33 #[.string s] w fun e w' => e = .returned (.bool (wholeM s.data.toList)) ∧ Below w.heap.size w w' := by
  have hcut := cut_call s 39 m w hs hm
  have hle := cut1_fst_le 39 s.data.toList
  rw [list_size] at hle
  unfold wholeM
  obtain ⟨f, hf⟩ : ∃ f, f = (cut1 39 s.data.toList).1 := ⟨_, rfl⟩
  obtain ⟨r, hr⟩ : ∃ r, r = (cut1 39 s.data.toList).2.1 := ⟨_, rfl⟩
  obtain ⟨g, hg⟩ : ∃ g, g = (cut1 39 s.data.toList).2.2 := ⟨_, rfl⟩
  rw [← hf, ← hr, ← hg] at hcut
  rw [← hf, ← hr] at hle
  rw [← hf, ← hr, ← hg]
  clear hf hr hg
  go_enter Tryd.func33, Tryd.ntmps33
  by_cases h0 : s.data.toList = [48]
  · have e0 : (s.toList == [48]) = true := by rw [Lib.toList_data]; exact beq_iff_eq.2 h0
    rw [decide_eq_true h0]
    clear h0
    go_wp2
    go_ret
    exact ⟨rfl, Below.refl _ _⟩
  have e0 : (s.toList == [48]) = false := by rw [Lib.toList_data]; exact beq_eq_false_iff_ne.2 h0
  rw [decide_eq_false h0, Bool.false_or]
  clear h0
  cases f with
  | nil =>
    go_wp2_with (go_at_call 32; refine hcut.mono ?_; rintro e w' ⟨rfl, n, rfl⟩)
    go_ret
    exact ⟨rfl, below_drewN (Below.refl _ _) _⟩
  | cons b t =>
    have had := fun n => allDigits_any ⟨(b :: t).toArray⟩ (w.drewN n)
    have hgr := fun W hW => areGroups_any ⟨r.toArray⟩ m W (by rw [back_size]; simp at hle; omega) hW
    have hz := back_size (b :: t)
    have hgrp := areGroups_grp ⟨r.toArray⟩
    rw [back] at hgrp
    simp only [hgrp] at hgr
    have hA : ∀ x : Bool, (decide (b :: t ≠ []) && x) = x := fun x => by simp
    simp only [hA]
    simp only [List.head?_cons, Option.some.injEq, ne_eq]
    have hb256 := b.toNat_lt
    have hb0 : (⟨(b :: t).toArray⟩ : ByteArray)[0]'(by rw [back_size]; simp) = b := rfl
    have Had := hide had
    have Hgr := hide hgr
    clear had hgr hgrp hA
    have hz1 : 0 < (⟨(b :: t).toArray⟩ : ByteArray).size := by rw [back_size]; simp
    have hmm := World.block_lt_of_cell? _ _ hm
    have hlz : (⟨(b :: t).toArray⟩ : ByteArray).size = (b :: t).length := back_size _
    generalize hA : allD (b :: t) = A at *
    have Hlz := hide hlz
    clear hz hlz hA
    by_cases h48 : b = 48
    · have e48 : ((b.toNat : Int) == 48) = true := beq_iff_eq.2 (by rw [h48]; rfl)
      rw [decide_eq_false (p := ¬ b = 48) (fun h => h h48)]
      clear h48
      go_wp2_with (first
        | (go_at_call 32; refine hcut.mono ?_; rintro e w' ⟨rfl, n, rfl⟩))
      go_ret
      exact ⟨ret_bool (by simp), below_drewN (Below.refl _ _) _⟩
    · have e48 : ((b.toNat : Int) == 48) = false := beq_eq_false_iff_ne.2 (fun e => h48 (UInt8.toNat_inj.1 (by simpa using (show b.toNat = 48 by omega))))
      rw [decide_eq_true (p := ¬ b = 48) h48]
      clear h48
      cases A with
      | false =>
        go_wp2_with (first
          | (go_at_call 32; refine hcut.mono ?_; rintro e w' ⟨rfl, n, rfl⟩)
          | (go_at_call 52; refine (Had.out _).mono ?_; rintro e w2 ⟨rfl, hb2⟩))
        go_ret
        exact ⟨ret_bool (by simp), (below_drewN (Below.refl _ _) _).trans hb2⟩
      | true =>
        cases g with
        | false =>
          go_wp2_with (first
            | (go_at_call 32; refine hcut.mono ?_; rintro e w' ⟨rfl, n, rfl⟩)
            | (go_at_call 52; refine (Had.out _).mono ?_; rintro e w2 ⟨rfl, hb2⟩))
          go_ret
          exact ⟨ret_bool (by simp), (below_drewN (Below.refl _ _) _).trans hb2⟩
        | true =>
          by_cases h3 : (b :: t).length ≤ 3
          · have h3z : (((⟨(b :: t).toArray⟩ : ByteArray).size : Nat) : Int) ≤ 3 := by rw [Hlz.out]; omega
            rw [decide_eq_true h3]
            clear h3
            go_wp2_with (first
              | (go_at_call 32; refine hcut.mono ?_; rintro e w' ⟨rfl, n, rfl⟩)
              | (go_at_call 52; refine (Had.out _).mono ?_; rintro e w2 ⟨rfl, hb2⟩)
              | (go_at_call 53; refine (Hgr.out _ ((hb2.cell (p := ⟨5, 0, none⟩) hmm).trans hm)).mono ?_; rintro e w3 ⟨rfl, hb3⟩))
            go_ret
            exact ⟨ret_bool (by simp), ((below_drewN (Below.refl _ _) _).trans hb2).trans (hb3.mono hb2.size)⟩
          · have h3z : ¬ (((⟨(b :: t).toArray⟩ : ByteArray).size : Nat) : Int) ≤ 3 := by rw [Hlz.out]; omega
            have h3y : ¬ ((t.length : Int) + 1 ≤ 3) := by simp only [List.length_cons] at h3; omega
            rw [decide_eq_false h3]
            clear h3
            go_wp2_with (first
              | (go_at_call 32; refine hcut.mono ?_; rintro e w' ⟨rfl, n, rfl⟩)
              | (go_at_call 52; refine (Had.out _).mono ?_; rintro e w2 ⟨rfl, hb2⟩))
            go_ret
            exact ⟨ret_bool (by simp), (below_drewN (Below.refl _ _) _).trans hb2⟩
end Go.Proofs.YthoeehgnkolgpaaDoor
