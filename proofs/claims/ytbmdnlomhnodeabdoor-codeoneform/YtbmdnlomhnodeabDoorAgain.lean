/- The walk of again: an item is read, and what was read is written. -/
import Derived.Test.YtbmdnlomhnodeabDoorFormMath
namespace Go.Proofs.YtbmdnlomhnodeabDoor
open Go.RowKit
set_option maxRecDepth 100000

/-- A Reader and a Writer side by side. -/
structure OF (w0 w : World) (rb hb n : Nat) (z : Nat → Nat) (at' bad wb B : Nat) (v : Value) (l : List Nat) : Prop where
  since : w0.Since w0.heap.size w
  rd : IsR w rb hb n z at' bad
  wt : IsL w wb B v l
  r1 : w0.heap.size ≤ rb
  h1 : w0.heap.size ≤ hb
  b1 : w0.heap.size ≤ wb
  v1 : ∀ k, v.ownBlock = some k → w0.heap.size ≤ k ∧ k ≠ rb ∧ k ≠ hb
  ne1 : rb ≠ wb
  ne2 : hb ≠ wb
theorem OF.read {w0 w w' : World} {rb hb n : Nat} {z : Nat → Nat} {at' bad wb B at2 bad2 : Nat} {v : Value} {l : List Nat} (h : OF w0 w rb hb n z at' bad wb B v l) (hb' : But rb w w') (hr : IsR w' rb hb n z at2 bad2) : OF w0 w' rb hb n z at2 bad2 wb B v l :=
  ⟨hb'.since h.since h.r1 (Nat.le_trans h.r1 (Nat.le_of_lt h.rd.rd.lt)), hr, ⟨hb'.row h.wt.cell h.ne1.symm, own_keep h.wt.own (fun k e => hb'.block k (own_lt h.wt.own k e) (h.v1 k e).2.1), h.wt.ne, Nat.le_trans h.wt.lo hb'.size⟩, h.r1, h.h1, h.b1, h.v1, h.ne1, h.ne2⟩
theorem OF.write {w0 w w' : World} {rb hb n : Nat} {z : Nat → Nat} {at' bad wb B : Nat} {v v' : Value} {l l' : List Nat} (h : OF w0 w rb hb n z at' bad wb B v l) (hE : Ext wb v v' w w') (hI : IsL w' wb B v' l') : OF w0 w' rb hb n z at' bad wb B v' l' :=
  ⟨hE.since h.since h.b1 h.since.size (fun k e => (h.v1 k e).1), ⟨h.rd.rd.of_block (hE.block rb h.rd.rd.lt h.ne1 (fun e => (h.v1 rb e.symm).2.1 rfl)), h.rd.row.of_block (hE.block hb h.rd.row.lt h.ne2 (fun e => (h.v1 hb e.symm).2.2 rfl)), h.rd.ne, h.rd.byte, h.rd.le, h.rd.room⟩, hI, h.r1, h.h1, h.b1, fun k e => by
    rcases hE.lies with e3 | ⟨g, e3, hg⟩
    · rw [e3] at e; exact h.v1 k e
    · rw [e3] at e; cases e
      have h1 := h.rd.rd.lt
      have h2 := h.rd.row.lt
      have h3 := h.since.size
      exact ⟨by omega, by omega, by omega⟩, h.ne1, h.ne2⟩
theorem OF.later {w0 w w' : World} {rb hb n : Nat} {z : Nat → Nat} {at' bad wb B : Nat} {v : Value} {l : List Nat} (h : OF w0 w rb hb n z at' bad wb B v l) (hs : w.Since w.heap.size w') : OF w0 w' rb hb n z at' bad wb B v l :=
  h.read (But.of_since hs) (h.rd.since hs)
theorem OF.lists {w0 w : World} {rb hb n : Nat} {z : Nat → Nat} {at' bad wb B : Nat} {v : Value} {l l' : List Nat} (h : OF w0 w rb hb n z at' bad wb B v l) (e : l = l') : OF w0 w rb hb n z at' bad wb B v l' := by subst e; exact h
theorem txt_byt {B : Nat} {w : World} {ta : Option Addr} {l : Nat} {tx : Nat → Nat} (h : Txt B w ta l tx) : Byt w ta l tx ∧ (ta = none → l = 0 ∧ l = 0) ∧ ∀ b off, ta = some ⟨b, off, none⟩ → B ≤ b := by
  rcases h with ⟨rfl, rfl⟩ | ⟨t, rfl, hb, hr⟩
  · exact ⟨fun j hj => absurd hj (Nat.not_lt_zero _), fun _ => ⟨rfl, rfl⟩, fun b off e => by cases e⟩
  · exact ⟨Byt.of_row hr, (fun e => by cases e), (fun b off e => by cases e; exact hb)⟩
theorem into_20 (K : Int) (w : World) : Calls Tryd.prog 26 #[.int .i64 K, .int .i64 20] w fun e w' => w' = w ∧ ∃ k : Nat, k < 20 ∧ e = .returned (.int .i64 k) := by
  have h1 := Int.tmod_lt_of_pos K (show (0 : Int) < 20 by decide)
  have h2 := Int.lt_tmod_of_pos K (show (0 : Int) < 20 by decide)
  by_cases hn : K.tmod 20 < 0
  · go_enter Tryd.func26, Tryd.ntmps26
    go_wp2_with fail
    go_ret
    exact ⟨rfl, (K.tmod 20 + 20).toNat, by omega, ret_int (by omega)⟩
  · go_enter Tryd.func26, Tryd.ntmps26
    go_wp2_with fail
    go_ret
    exact ⟨rfl, (K.tmod 20).toNat, by omega, ret_int (by omega)⟩

/-- Behind again: the Reader's place and fault; what the Writer holds is what was read, but behind a fault. -/
def Done (w0 w' : World) (rb hb n : Nat) (z : Nat → Nat) (at' wb B : Nat) : Prop :=
  ∃ at2 bad2 v' l', OF w0 w' rb hb n z at2 bad2 wb B v' l' ∧ at' ≤ at2 ∧ (bad2 = 0 → l' = (List.range at2).map z) ∧ (bad2 ≠ 0 → at2 = at')

theorem fix_form (z : Nat → Nat) (hz : ∀ j, z j < 256) (n width at' : Nat) : at' ≤ (fixAns z n width at' 0).2.1 ∧ ((fixAns z n width at' 0).2.2 = 0 → (List.range at').map z ++ fl width (fixAns z n width at' 0).1 = (List.range (fixAns z n width at' 0).2.1).map z) ∧ ((fixAns z n width at' 0).2.2 ≠ 0 → (fixAns z n width at' 0).2.1 = at') := by
  unfold fixAns
  rw [if_neg (by simp)]
  split
  · exact ⟨Nat.le_refl _, fun h => by simp at h, fun _ => rfl⟩
  · exact ⟨by show at' ≤ at' + width; omega, fun _ => by show _ ++ fl width (be (fun j => z (at' + j)) width) = (List.range (at' + width)).map z; rw [fl_be _ (fun j => hz _), range_cat], fun h => absurd rfl h⟩
theorem fixAns_lt (z : Nat → Nat) (hz : ∀ j, z j < 256) (n width at' bad : Nat) : (fixAns z n width at' bad).1 < 256 ^ width := by
  unfold fixAns
  split
  · exact Nat.pow_pos (by decide)
  · split
    · exact Nat.pow_pos (by decide)
    · exact be_lt _ (fun j => hz _) _
theorem var_form (z : Nat → Nat) (hz : ∀ j, z j < 256) (n most at' : Nat) : at' ≤ (varAns z n most at' 0).2.1 ∧ ((varAns z n most at' 0).2.2 = 0 → (List.range at').map z ++ vl 9 (varAns z n most at' 0).1 = (List.range (varAns z n most at' 0).2.1).map z) ∧ ((varAns z n most at' 0).2.2 ≠ 0 → (varAns z n most at' 0).2.1 = at') := by
  unfold varAns
  rw [if_neg (by simp)]
  refine ⟨Nat.le_add_right _ _, fun h => ?_, fun h => ?_⟩
  · rw [vl_read _ (fun j => hz _) _ _ h, range_cat]
  · have := (vlook_bad _ _ _ h).2
    show at' + (vlook _ _ _).2.1 = at'
    omega
theorem bytes_form (z : Nat → Nat) (hz : ∀ j, z j < 256) (n most at' : Nat) : at' ≤ (bytesAns z n most at' 0).2.2.1 ∧ ((bytesAns z n most at' 0).2.2.2 = 0 → (List.range at').map z ++ (vl 9 (bytesAns z n most at' 0).1 ++ (List.range (bytesAns z n most at' 0).1).map (fun j => z ((bytesAns z n most at' 0).2.1 + j))) = (List.range (bytesAns z n most at' 0).2.2.1).map z) ∧ ((bytesAns z n most at' 0).2.2.2 ≠ 0 → (bytesAns z n most at' 0).2.2.1 = at') ∧ (bytesAns z n most at' 0).1 ≤ n - at' := by
  unfold bytesAns
  rw [if_neg (by simp)]
  have hbad := blook_bad (fun j => z (at' + j)) (n - at') most
  refine ⟨Nat.le_add_right _ _, fun h => ?_, fun h => ?_, ?_⟩
  · have h1 : (vlook (fun j => z (at' + j)) (n - at') most).2.2 = 0 := by
      unfold blook at h
      split at h
      · next hh => exact absurd h hh
      · next hh => omega
    have h2 : blook (fun j => z (at' + j)) (n - at') most = ((vlook (fun j => z (at' + j)) (n - at') most).1, (vlook (fun j => z (at' + j)) (n - at') most).2.1 + (vlook (fun j => z (at' + j)) (n - at') most).1, 0) := by
      unfold blook at h ⊢
      rw [if_neg (by omega)] at h ⊢
      split at h
      · simp at h
      · next hh => rw [if_neg hh]
    rw [h2]
    have h3 := vl_read (fun j => z (at' + j)) (fun j => hz _) (n - at') most h1
    show (List.range at').map z ++ (vl 9 (vlook (fun j => z (at' + j)) (n - at') most).1 ++ (List.range (vlook (fun j => z (at' + j)) (n - at') most).1).map (fun j => z (at' + (vlook (fun j => z (at' + j)) (n - at') most).2.1 + j))) = (List.range (at' + ((vlook (fun j => z (at' + j)) (n - at') most).2.1 + (vlook (fun j => z (at' + j)) (n - at') most).1))).map z
    rw [h3, ← List.append_assoc, range_cat, range_cat, Nat.add_assoc]
  · have := (hbad h).2
    show at' + (blook _ _ _).2.1 = at'
    omega
  · show (blook _ _ _).1 ≤ n - at'
    by_cases h : (blook (fun j => z (at' + j)) (n - at') most).2.2 = 0
    · unfold blook at h ⊢
      split at h
      · next hh => exact absurd h hh
      · next hh =>
        rw [if_neg hh]
        split at h
        · simp at h
        · next h2 =>
          rw [if_neg h2]
          show (vlook _ _ _).1 ≤ n - at'
          omega
    · rw [(hbad h).1]; exact Nat.zero_le _
theorem raw_form (z : Nat → Nat) (n k at' : Nat) : at' ≤ (rawAns n k at' 0).2.2.1 ∧ ((rawAns n k at' 0).2.2.2 = 0 → (List.range at').map z ++ (List.range (rawAns n k at' 0).1).map (fun j => z ((rawAns n k at' 0).2.1 + j)) = (List.range (rawAns n k at' 0).2.2.1).map z) ∧ ((rawAns n k at' 0).2.2.2 ≠ 0 → (rawAns n k at' 0).2.2.1 = at') ∧ (rawAns n k at' 0).1 ≤ n - at' := by
  unfold rawAns
  rw [if_neg (by simp), if_neg (by omega), Int.toNat_natCast]
  unfold rlook
  split
  · exact ⟨Nat.le_refl _, fun h => by simp at h, fun _ => rfl, Nat.zero_le _⟩
  · exact ⟨Nat.le_add_right _ _, fun _ => range_cat z at' k, fun h => absurd rfl h, by show k ≤ n - at'; omega⟩
end Go.Proofs.YtbmdnlomhnodeabDoor
