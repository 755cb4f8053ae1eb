/- Own texts, joined: BytesLook, Looks, ReadsAll, Lend, Writer, Writes1, Other, RefCode. -/
import Derived.Test.YtonpmabdjngdcaaGreatDoorM1
import Derived.Deep.AppendLies
import Derived.Laws.AppendOwnNone
import Derived.OwnWalk
import Derived.Laws.BytesArg
import Derived.Maps.AppendAt
import Derived.Deep.RegionHeld3
import Derived.Deep.RegionLaw

/- The walk of package code's lookBytes. -/
namespace Go.Proofs.YtonpmabdjngdcaaGreatDoor
open Go.RowKit

/-- Behind the region that looks at the text: the item lies in a block of its own. -/
structure Seen2 (w wx : World) (ib : Nat) (ta : Option Addr) (l size : Nat) (tx : Nat → Nat) : Prop where
  since : w.Since w.heap.size wx
  it : wx.rowIs ib 137 3 (itemCell 0 ta l size)
  lo : w.heap.size ≤ ib
  txt : Txt w.heap.size wx ta l tx
  ne : ∀ t, ta = some ⟨t, 0, none⟩ → t < wx.heap.size → t ≠ ib
theorem seen2_a {w w' : World} {ta : Option Addr} {l size : Nat} {tx : Nat → Nat} (hs : w.drew.Since w.drew.heap.size w') (htx : Txt w.drew.heap.size w' ta l tx) (hn : ta = none → l = 0) :
    Seen2 w (w'.alloc (.cells #[.int .u64 0, .slice ta l l, .int .i64 size] 137)) w'.heap.size ta l size tx := by
  have hz : w.heap.size ≤ w'.heap.size := hs.size
  have hs' : w.Since w.heap.size w' := (World.Since.refl _ _).drew.trans hs
  have hx := hn
  refine ⟨hs'.alloc hz _, item_row w' 0 ta l size, hz, ?_, ?_⟩
  · rcases htx with h | ⟨t, e, hb, hr⟩
    · exact Or.inl h
    · exact Or.inr ⟨t, e, hb, hr.alloc _⟩
  · intro t e _
    rcases htx with ⟨h, _⟩ | ⟨t', e', hb, hr⟩
    · rw [h] at e; cases e
    · rw [e] at e'; cases e'
      have := hr.lt
      omega
theorem seen2_b {w w' : World} {ta : Option Addr} {l size : Nat} {tx : Nat → Nat}
    (hs : (w.alloc (.cells #[.int .u64 0, .slice none 0 0, .int .i64 0] 137)).drew.Since (w.alloc (.cells #[.int .u64 0, .slice none 0 0, .int .i64 0] 137)).drew.heap.size w')
    (htx : Txt (w.alloc (.cells #[.int .u64 0, .slice none 0 0, .int .i64 0] 137)).drew.heap.size w' ta l tx) :
    Seen2 w (((w'.setCell ⟨w.heap.size, 0, none⟩ (.int .u64 0)).setCell ⟨w.heap.size, 1, none⟩ (.slice ta l l)).setCell ⟨w.heap.size, 2, none⟩ (.int .i64 size)) w.heap.size ta l size tx := by
  have hs' : w.Since w.heap.size w' := (((World.Since.refl _ _).alloc (Nat.le_refl _) _).drew).trans (since_mono hs (by simp))
  have hrow : w'.rowIs w.heap.size 137 3 (itemCell 0 none 0 0) := row_since (item_row w 0 none 0 0).drew hs
  refine ⟨since_item hs' _ _ _, (((hrow.set 0 _).set 1 _).set 2 _).congr (fun i hi => ?_), Nat.le_refl _, ?_, ?_⟩
  · match i, hi with
    | 0, _ => rfl
    | 1, _ => rfl
    | 2, _ => rfl
  · exact txt_item (by simpa using htx) _ _ _
  · intro t e _
    rcases htx with ⟨h, _⟩ | ⟨t', e', hb, hr⟩
    · rw [h] at e; cases e
    · rw [e] at e'; cases e'
      have : w.heap.size + 1 ≤ t := by simpa using hb
      omega

set_option maxHeartbeats 1600000 in
set_option maxRecDepth 100000 in
theorem lookBytes_walk (b off m cap most : Nat) (z : Nat → Nat) (w : World) (N s bv l size bd : Nat) (hmax : m ≤ 281474976710656) (hcap : m ≤ cap) (hc : Byt w (some ⟨b, off, none⟩) m z) (hz : ∀ j, z j < 256) (hv : vlook z m most = (N, s, bv))
    (hl : bv = 0 → ((m - s < N ∧ l = 0 ∧ size = 0 ∧ bd = 10) ∨ (N ≤ m - s ∧ l = N ∧ size = N ∧ bd = 0))) :
    Calls Tryz.prog 163 #[.slice (some ⟨b, off, none⟩) m cap, .int .u64 most] w fun e w' =>
      ((bv ≠ 0 ∧ e = .returned (.tuple #[item0, .int .i64 bv])) ∨ (bv = 0 ∧ bd ≠ 0 ∧ e = .returned (.tuple #[item0, .int .i64 bd])) ∨
        (bv = 0 ∧ bd = 0 ∧ ∃ ta, e = .returned (.tuple #[.agg #[.int .u64 0, .slice ta l l, .int .i64 ((s + l : Nat) : Int)], .int .i64 0]) ∧ Txt w.heap.size w' ta l (fun j => z (s + j)))) ∧ w.Since w.heap.size w' := by
  have hs0 : w.Since w.heap.size (w.alloc (.cells #[.int .u64 0, .slice none 0 0, .int .i64 0] 137)) := (World.Since.refl _ _).alloc (Nat.le_refl _) _
  have hr0 := item_row w 0 none 0 0
  have e0 : (w.alloc (.cells #[.int .u64 0, .slice none 0 0, .int .i64 0] 137)).heap.size = w.heap.size + 1 := by simp
  have hc1 := hc.since hs0
  go_enter Tryz.func163, Tryz.ntmps163
  go_wp2_with fail
  generalize w.alloc (.cells #[.int .u64 0, .slice none 0 0, .int .i64 0] 137) = w0 at *
  refine (lookVar_walk _ m cap most z w0 N s bv hmax hc1 hz hv).mono ?_
  rintro e w1 ⟨rfl, h1⟩
  have hz1 : w0.heap.size ≤ w1.heap.size := h1.size
  have hsn1 : w.Since w.heap.size w1 := hs0.trans (since_mono h1 (by omega))
  have hrw := row_since hr0 h1
  have hh := item_row w1 N none 0 s
  have hrw2 := hrw.alloc (.cells #[.int .u64 N, .slice none 0 0, .int .i64 s] 137)
  have hsn2 : w.Since w.heap.size (w1.alloc (.cells #[.int .u64 N, .slice none 0 0, .int .i64 s] 137)) := hsn1.alloc (by omega) _
  have e2 : (w1.alloc (.cells #[.int .u64 N, .slice none 0 0, .int .i64 s] 137)).heap.size = w1.heap.size + 1 := by simp
  have hc2 := hc.since hsn2
  clear h1 hrw hsn1 hr0 hs0 hc1
  go_upto_region 2 with fail
  generalize w1.alloc (.cells #[.int .u64 N, .slice none 0 0, .int .i64 s] 137) = w2 at *
  generalize w1.heap.size = q1 at *
  by_cases hbv : bv = 0
  · subst hbv
    obtain ⟨hsm, hsp, hNs, hNm⟩ := vlook_size z m most (by rw [hv])
    rw [hv] at hsm hsp hNs hNm
    replace hsm : s ≤ m := hsm
    have hs1z : (s : Int) ≤ (m : Int) := by omega
    have hq0 : ((0 : Nat) : Int) = 0 := rfl
    have d0 : w2.cell? ⟨q1, 0, none⟩ = some (.int .u64 N) := hh.cell (by decide)
    have d2 : w2.cell? ⟨q1, 2, none⟩ = some (.int .i64 s) := hh.cell (by decide)
    have n0 := World.new_ne w2 _ d0
    have n2 := World.new_ne w2 _ d2
    have hcall : ∀ W, w2.Since w2.heap.size W → Calls Tryz.prog 164 #[.slice (if cap = s then some ⟨b, off, none⟩ else some ⟨b, off + s, none⟩) (m - s) (cap - s), .int .u64 N] W fun e w' => (∃ ta, e = .returned (.tuple #[.agg #[.int .u64 0, .slice ta l l, .int .i64 size], .int .i64 bd]) ∧ Txt W.heap.size w' ta l (fun j => z (s + j)) ∧ (ta = none → l = 0)) ∧ W.Since W.heap.size w' := fun W hW => by
      rcases hl rfl with ⟨h1, rfl, rfl, rfl⟩ | ⟨h1, rfl, rfl, rfl⟩
      · exact (lookRaw_short _ (m - s) (cap - s) N W (by omega) h1).mono fun e w' ⟨he, hs⟩ => ⟨⟨none, he, Or.inl ⟨rfl, rfl⟩, fun _ => rfl⟩, hs⟩
      · have hby : ∀ o, (m ≠ s → o = off + s) → Byt W (some ⟨b, o, none⟩) (m - s) (fun j => z (s + j)) := fun o ho j hj => by
          obtain ⟨b', off', e', hcell⟩ := hc2 (s + j) (by omega)
          cases e'
          refine ⟨b, o, rfl, ?_⟩
          rw [ho (by omega), hW.cell (a := ⟨b, off + s + j, none⟩) (World.block_lt_of_cell? _ _ (by rw [Nat.add_assoc]; exact hcell)), Nat.add_assoc]
          exact hcell
        by_cases hcs : cap = s
        · rw [if_pos hcs]
          exact (lookRaw_ok b off (m - s) (cap - s) _ (fun j => z (s + j)) W (by omega) (by omega) h1 (hby off (fun h => by omega))).mono fun e w' ⟨⟨ta, he, ht⟩, hs⟩ => ⟨⟨ta, he, ht, fun hn => by rcases ht with ⟨_, h⟩ | ⟨t, e', _⟩; exact h; rw [hn] at e'; cases e'⟩, hs⟩
        · rw [if_neg hcs]
          exact (lookRaw_ok b (off + s) (m - s) (cap - s) _ (fun j => z (s + j)) W (by omega) (by omega) h1 (hby _ (fun _ => rfl))).mono fun e w' ⟨⟨ta, he, ht⟩, hs⟩ => ⟨⟨ta, he, ht, fun hn => by rcases ht with ⟨_, h⟩ | ⟨t, e', _⟩; exact h; rw [hn] at e'; cases e'⟩, hs⟩
    have HL := hide hcall
    clear hcall hc hc2 hNs hNm hsp hv
    go_upto_region 4 with fail
    go_cut [7, 8] from 19 to 39 (fun s7 s8 wx => ∃ ib ta, s8 = .pointer (some ⟨ib, 0, none⟩) ∧ s7 = .int .i64 bd ∧ Seen2 w2 wx ib ta l size (fun j => z (s + j)))
    case first =>
      have hw1 : q1 < w2.heap.size := by omega
      by_cases hna : cap = s
      · have hms : m = s := by omega
        subst hna
        subst hms
        rw [if_pos rfl, Nat.sub_self] at HL
        go_region_held3 (fun w' => w'.cell? ⟨q1, 0, none⟩ = some (.int .u64 N) ∧ w'.cell? ⟨q1, 2, none⟩ = some (.int .i64 m))
          (first | go_keep | (refine ⟨?_, ?_⟩ <;> (rw [hcc _ _ (by simp; omega)]) <;> (go_simp)) | (refine ⟨?_, ?_⟩ <;> (iterate 3 (rw [World.cell?_setCell_far _ _ _ _ (by show w2.heap.size ≠ q1; omega)])) <;> (rw [hcc _ _ (by simp; omega)]) <;> (go_simp)))
          (first | (go_at_call 164; refine ((unhide HL) _ ?_).mono ?_; (first | exact (World.Since.refl _ _).drew | exact ((World.Since.refl _ _).alloc (Nat.le_refl _) _).drew | exact ((World.Since.refl _ _).drew).alloc (Nat.le_refl _) _); rintro e w' ⟨⟨ta, rfl, htx, hnn⟩, hs⟩; (obtain ⟨hcc, hff⟩ := scell hs; have x2 : q1 < w'.heap.size := (by have := hs.size; simp at this; omega); have x3 : q1 < w2.heap.size + 1 := (by omega))))
        all_goals
          go_wp2_with fail
          go_meet
          case rel => go_light; first | exact ⟨_, ta, rfl, rfl, seen2_a hs htx hnn⟩ | exact ⟨_, ta, rfl, rfl, by have h := seen2_b (size := size) hs htx; rw [e2] at h; exact h⟩
      · rw [if_neg hna] at HL
        go_region_held3 (fun w' => w'.cell? ⟨q1, 0, none⟩ = some (.int .u64 N) ∧ w'.cell? ⟨q1, 2, none⟩ = some (.int .i64 s))
          (first | go_keep | (refine ⟨?_, ?_⟩ <;> (rw [hcc _ _ (by simp; omega)]) <;> (go_simp)) | (refine ⟨?_, ?_⟩ <;> (iterate 3 (rw [World.cell?_setCell_far _ _ _ _ (by show w2.heap.size ≠ q1; omega)])) <;> (rw [hcc _ _ (by simp; omega)]) <;> (go_simp)))
          (first | (go_at_call 164; refine ((unhide HL) _ ?_).mono ?_; (first | exact (World.Since.refl _ _).drew | exact ((World.Since.refl _ _).alloc (Nat.le_refl _) _).drew | exact ((World.Since.refl _ _).drew).alloc (Nat.le_refl _) _); rintro e w' ⟨⟨ta, rfl, htx, hnn⟩, hs⟩; (obtain ⟨hcc, hff⟩ := scell hs; have x2 : q1 < w'.heap.size := (by have := hs.size; simp at this; omega); have x3 : q1 < w2.heap.size + 1 := (by omega))))
        all_goals
          go_wp2_with fail
          go_meet
          case rel => go_light; first | exact ⟨_, ta, rfl, rfl, seen2_a hs htx hnn⟩ | exact ⟨_, ta, rfl, rfl, by have h := seen2_b (size := size) hs htx; rw [e2] at h; exact h⟩
    case rest =>
      obtain ⟨ib, ta, rfl, rfl, hS⟩ := hcut
      have hw2 : w2.heap.size = q1 + 1 := e2
      have hlo := hS.lo
      have hsn3 : w.Since w.heap.size wc := hsn2.trans (since_mono hS.since (by omega))
      have hro := row_since hrw2 hS.since
      have hhd := row_since hh hS.since
      have o0 : wc.cell? ⟨w.heap.size, 0, none⟩ = some (.int .u64 0) := hro.cell (by decide)
      have o1 : wc.cell? ⟨w.heap.size, 1, none⟩ = some (.slice none 0 0) := hro.cell (by decide)
      have o2 : wc.cell? ⟨w.heap.size, 2, none⟩ = some (.int .i64 0) := hro.cell (by decide)
      have p0 := hro.frozen 0
      have p1 := hro.frozen 1
      have p2 := hro.frozen 2
      by_cases hbd : bd = 0
      · obtain ⟨h1, rfl, rfl, _⟩ : N ≤ m - s ∧ l = N ∧ size = N ∧ bd = 0 := by
          rcases hl rfl with ⟨_, _, _, h⟩ | h
          · omega
          · exact h
        subst hbd
        have i0 : wc.cell? ⟨ib, 0, none⟩ = some (.int .u64 0) := hS.it.cell (by decide)
        have i1 : wc.cell? ⟨ib, 1, none⟩ = some (.slice ta size size) := hS.it.cell (by decide)
        have i2 : wc.cell? ⟨ib, 2, none⟩ = some (.int .i64 size) := hS.it.cell (by decide)
        have j2 := hS.it.frozen 2
        have g2 : wc.cell? ⟨q1, 2, none⟩ = some (.int .i64 s) := hhd.cell (by decide)
        have hsn4 : w.Since w.heap.size (wc.setCell ⟨ib, 2, none⟩ (.int .i64 ((size : Int) + (s : Int)))) := hsn3.setCell (a := ⟨ib, 2, none⟩) (by show w.heap.size ≤ ib; omega) _
        have htx4 : Txt (w.heap.size + 1) (wc.setCell ⟨ib, 2, none⟩ (.int .i64 ((size : Int) + (s : Int)))) ta size (fun j => z (s + j)) := by
          rcases hS.txt with h | ⟨t, e, hb, hr⟩
          · exact Or.inl h
          · exact Or.inr ⟨t, e, by omega, hr.setOther (by show t ≠ ib; exact hS.ne t e hr.lt) _⟩
        have hro4 := hro.setOther (a := ⟨ib, 2, none⟩) (by show w.heap.size ≠ ib; omega) (.int .i64 ((size : Int) + (s : Int)))
        have hit4 := (hS.it.set 2 (.int .i64 ((size : Int) + (s : Int))))
        clear d0 d2 n0 n2 HL hhd hh
        go_wp2_with fail
        clear hit4
        generalize wc.setCell ⟨ib, 2, none⟩ (.int .i64 ((size : Int) + (s : Int))) = W4 at *
        have o0' : W4.cell? ⟨w.heap.size, 0, none⟩ = some (.int .u64 0) := hro4.cell (by decide)
        have o1' : W4.cell? ⟨w.heap.size, 1, none⟩ = some (.slice none 0 0) := hro4.cell (by decide)
        have o2' : W4.cell? ⟨w.heap.size, 2, none⟩ = some (.int .i64 0) := hro4.cell (by decide)
        refine bodyPost_ret (v := .tuple #[.agg #[.int .u64 0, .slice ta size size, .int .i64 ((size : Int) + (s : Int))], .int .i64 0]) (by simp [results, Tryz.results163, go_sem, o0', o1', o2']) rfl ⟨⟨ta, by rw [Int.add_comm], txt_item htx4 _ _ _⟩, since_item hsn4 _ _ _⟩
      · have hq : ((bd : Int) != 0) = true := by simp; omega
        clear d0 d2 n0 n2 HL hhd hh
        go_wp2_with fail
        refine bodyPost_ret (v := .tuple #[item0, .int .i64 bd]) (by simp [results, Tryz.results163, go_sem, o0, o1, o2]) rfl ⟨by first | rfl | exact Or.inr (Or.inl ⟨rfl, hbd, rfl⟩), since_item hsn3 _ _ _⟩
  · have hq : ((bv : Int) != 0) = true := by simp; omega
    have o0 : w2.cell? ⟨w.heap.size, 0, none⟩ = some (.int .u64 0) := hrw2.cell (by decide)
    have o1 : w2.cell? ⟨w.heap.size, 1, none⟩ = some (.slice none 0 0) := hrw2.cell (by decide)
    have o2 : w2.cell? ⟨w.heap.size, 2, none⟩ = some (.int .i64 0) := hrw2.cell (by decide)
    have p0 := hrw2.frozen 0
    have p1 := hrw2.frozen 1
    have p2 := hrw2.frozen 2
    go_wp2_with fail
    refine bodyPost_ret (v := .tuple #[item0, .int .i64 bv]) (by simp [results, Tryz.results163, go_sem, o0, o1, o2]) rfl ⟨Or.inl ⟨hbv, rfl⟩, since_item hsn2 _ _ _⟩
end Go.Proofs.YtonpmabdjngdcaaGreatDoor

/- look for the kinds Var, Bytes and Raw, at a Reader's place. -/
namespace Go.Proofs.YtonpmabdjngdcaaGreatDoor
open Go.RowKit

theorem lookBytes_any (b off m cap most : Nat) (z : Nat → Nat) (w : World) (hmax : m ≤ 281474976710656) (hcap : m ≤ cap) (hc : Byt w (some ⟨b, off, none⟩) m z) (hz : ∀ j, z j < 256) :
    Calls Tryz.prog 163 #[.slice (some ⟨b, off, none⟩) m cap, .int .u64 most] w fun e w' =>
      (∃ ta, e = .returned (.tuple #[.agg #[.int .u64 (0 : Nat), .slice ta (blook z m most).1 (blook z m most).1, .int .i64 ((blook z m most).2.1 : Nat)], .int .i64 ((blook z m most).2.2 : Nat)]) ∧ Txt w.heap.size w' ta (blook z m most).1 (fun j => z ((vlook z m most).2.1 + j))) ∧ w.Since w.heap.size w' := by
  obtain ⟨N, s, bv, hv⟩ : ∃ N s bv, vlook z m most = (N, s, bv) := ⟨_, _, _, rfl⟩
  unfold blook
  rw [hv]
  by_cases hbv : bv = 0
  · subst hbv
    rw [if_neg (by simp)]
    by_cases hN : m - s < N
    · simp only [hN, if_true]
      refine (lookBytes_walk b off m cap most z w N s 0 0 0 10 hmax hcap hc hz hv (fun _ => Or.inl ⟨hN, rfl, rfl, rfl⟩)).mono fun e w' ⟨h, hs⟩ => ⟨?_, hs⟩
      rcases h with ⟨h, _⟩ | ⟨_, _, he⟩ | ⟨_, h, _⟩
      · exact absurd rfl h
      · exact ⟨none, he, Or.inl ⟨rfl, rfl⟩⟩
      · exact absurd h (by decide)
    · simp only [hN, if_false]
      refine (lookBytes_walk b off m cap most z w N s 0 N N 0 hmax hcap hc hz hv (fun _ => Or.inr ⟨by omega, rfl, rfl, rfl⟩)).mono fun e w' ⟨h, hs⟩ => ⟨?_, hs⟩
      rcases h with ⟨h, _⟩ | ⟨_, h, _⟩ | ⟨_, _, h⟩
      · exact absurd rfl h
      · exact absurd rfl h
      · exact h
  · rw [if_pos hbv]
    refine (lookBytes_walk b off m cap most z w N s bv 0 0 0 hmax hcap hc hz hv (fun h => absurd h hbv)).mono fun e w' ⟨h, hs⟩ => ⟨?_, hs⟩
    rcases h with ⟨_, he⟩ | ⟨h, _⟩ | ⟨h, _⟩
    · exact ⟨none, he, Or.inl ⟨rfl, rfl⟩⟩
    · exact absurd h hbv
    · exact absurd h hbv

/-- So many bytes: how many, how many are taken, the fault. -/
def rlook (n m : Nat) : Nat × Nat × Nat := if m < n then (0, 0, 10) else (n, n, 0)
theorem lookRaw_any (b off m cap n : Nat) (z : Nat → Nat) (w : World) (hmax : m ≤ 281474976710656) (hcap : m ≤ cap) (hc : Byt w (some ⟨b, off, none⟩) m z) :
    Calls Tryz.prog 164 #[.slice (some ⟨b, off, none⟩) m cap, .int .u64 n] w fun e w' =>
      (∃ ta, e = .returned (.tuple #[.agg #[.int .u64 (0 : Nat), .slice ta (rlook n m).1 (rlook n m).1, .int .i64 ((rlook n m).2.1 : Nat)], .int .i64 ((rlook n m).2.2 : Nat)]) ∧ Txt w.heap.size w' ta (rlook n m).1 z) ∧ w.Since w.heap.size w' := by
  unfold rlook
  by_cases h : m < n
  · rw [if_pos h]
    exact (lookRaw_short _ m cap n w hmax h).mono fun e w' ⟨he, hs⟩ => ⟨⟨none, he, Or.inl ⟨rfl, rfl⟩⟩, hs⟩
  · rw [if_neg h]
    exact lookRaw_ok b off m cap n z w hmax hcap (by omega) hc

set_option maxHeartbeats 800000 in
theorem look_3 (sa : Option Addr) (m cap : Nat) (bound : Int) (N l size bd : Nat) (tx : Nat → Nat) (w : World)
    (hcall : ∀ W, w.Since w.heap.size W → Calls Tryz.prog 162 #[.slice sa m cap, .int .u64 bound] W fun e w' => (∃ ta, e = .returned (.tuple #[.agg #[.int .u64 N, .slice ta l l, .int .i64 size], .int .i64 bd]) ∧ Txt W.heap.size w' ta l tx) ∧ W.Since W.heap.size w') :
    Calls Tryz.prog 140 #[.int .i64 3, .slice sa m cap, .int .u64 bound] w fun e w' => (∃ ta, e = .returned (.tuple #[.agg #[.int .u64 N, .slice ta l l, .int .i64 size], .int .i64 bd]) ∧ Txt w.heap.size w' ta l tx) ∧ w.Since w.heap.size w' := by
  have hs0 : w.Since w.heap.size (w.alloc (.cells #[.int .u64 0, .slice none 0 0, .int .i64 0] 137)) := (World.Since.refl _ _).alloc (Nat.le_refl _) _
  have hr0 := item_row w 0 none 0 0
  have e0 : (w.alloc (.cells #[.int .u64 0, .slice none 0 0, .int .i64 0] 137)).heap.size = w.heap.size + 1 := by simp
  have H := hide (hcall _ hs0)
  clear hcall
  go_enter Tryz.func140, Tryz.ntmps140
  go_wp2_with fail
  generalize w.alloc (.cells #[.int .u64 0, .slice none 0 0, .int .i64 0] 137) = w0 at *
  refine (unhide H).mono ?_
  rintro e w1 ⟨⟨ta, rfl, htx⟩, h1⟩
  have hrw := row_since hr0 h1
  have o0 : w1.cell? ⟨w.heap.size, 0, none⟩ = some (.int .u64 0) := hrw.cell (by decide)
  have o1 : w1.cell? ⟨w.heap.size, 1, none⟩ = some (.slice none 0 0) := hrw.cell (by decide)
  have o2 : w1.cell? ⟨w.heap.size, 2, none⟩ = some (.int .i64 0) := hrw.cell (by decide)
  have p0 := hrw.frozen 0
  have p1 := hrw.frozen 1
  have p2 := hrw.frozen 2
  have hsn : w.Since w.heap.size w1 := hs0.trans (since_mono h1 (by omega))
  rw [e0] at htx
  clear hrw h1 hs0 hr0 H
  go_wp2_with fail
  refine bodyPost_ret (v := .tuple #[.agg #[.int .u64 N, .slice ta l l, .int .i64 size], .int .i64 bd]) (by simp [results, Tryz.results140, go_sem, o0, o1, o2]) rfl ⟨⟨ta, rfl, txt_item htx _ _ _⟩, since_item hsn _ _ _⟩

set_option maxHeartbeats 800000 in
theorem look_4 (sa : Option Addr) (m cap : Nat) (bound : Int) (N l size bd : Nat) (tx : Nat → Nat) (w : World)
    (hcall : ∀ W, w.Since w.heap.size W → Calls Tryz.prog 163 #[.slice sa m cap, .int .u64 bound] W fun e w' => (∃ ta, e = .returned (.tuple #[.agg #[.int .u64 N, .slice ta l l, .int .i64 size], .int .i64 bd]) ∧ Txt W.heap.size w' ta l tx) ∧ W.Since W.heap.size w') :
    Calls Tryz.prog 140 #[.int .i64 4, .slice sa m cap, .int .u64 bound] w fun e w' => (∃ ta, e = .returned (.tuple #[.agg #[.int .u64 N, .slice ta l l, .int .i64 size], .int .i64 bd]) ∧ Txt w.heap.size w' ta l tx) ∧ w.Since w.heap.size w' := by
  have hs0 : w.Since w.heap.size (w.alloc (.cells #[.int .u64 0, .slice none 0 0, .int .i64 0] 137)) := (World.Since.refl _ _).alloc (Nat.le_refl _) _
  have hr0 := item_row w 0 none 0 0
  have e0 : (w.alloc (.cells #[.int .u64 0, .slice none 0 0, .int .i64 0] 137)).heap.size = w.heap.size + 1 := by simp
  have H := hide (hcall _ hs0)
  clear hcall
  go_enter Tryz.func140, Tryz.ntmps140
  go_wp2_with fail
  generalize w.alloc (.cells #[.int .u64 0, .slice none 0 0, .int .i64 0] 137) = w0 at *
  refine (unhide H).mono ?_
  rintro e w1 ⟨⟨ta, rfl, htx⟩, h1⟩
  have hrw := row_since hr0 h1
  have o0 : w1.cell? ⟨w.heap.size, 0, none⟩ = some (.int .u64 0) := hrw.cell (by decide)
  have o1 : w1.cell? ⟨w.heap.size, 1, none⟩ = some (.slice none 0 0) := hrw.cell (by decide)
  have o2 : w1.cell? ⟨w.heap.size, 2, none⟩ = some (.int .i64 0) := hrw.cell (by decide)
  have p0 := hrw.frozen 0
  have p1 := hrw.frozen 1
  have p2 := hrw.frozen 2
  have hsn : w.Since w.heap.size w1 := hs0.trans (since_mono h1 (by omega))
  rw [e0] at htx
  clear hrw h1 hs0 hr0 H
  go_wp2_with fail
  refine bodyPost_ret (v := .tuple #[.agg #[.int .u64 N, .slice ta l l, .int .i64 size], .int .i64 bd]) (by simp [results, Tryz.results140, go_sem, o0, o1, o2]) rfl ⟨⟨ta, rfl, txt_item htx _ _ _⟩, since_item hsn _ _ _⟩

set_option maxHeartbeats 800000 in
theorem look_5 (sa : Option Addr) (m cap : Nat) (bound : Int) (N l size bd : Nat) (tx : Nat → Nat) (w : World)
    (hcall : ∀ W, w.Since w.heap.size W → Calls Tryz.prog 164 #[.slice sa m cap, .int .u64 bound] W fun e w' => (∃ ta, e = .returned (.tuple #[.agg #[.int .u64 N, .slice ta l l, .int .i64 size], .int .i64 bd]) ∧ Txt W.heap.size w' ta l tx) ∧ W.Since W.heap.size w') :
    Calls Tryz.prog 140 #[.int .i64 5, .slice sa m cap, .int .u64 bound] w fun e w' => (∃ ta, e = .returned (.tuple #[.agg #[.int .u64 N, .slice ta l l, .int .i64 size], .int .i64 bd]) ∧ Txt w.heap.size w' ta l tx) ∧ w.Since w.heap.size w' := by
  have hs0 : w.Since w.heap.size (w.alloc (.cells #[.int .u64 0, .slice none 0 0, .int .i64 0] 137)) := (World.Since.refl _ _).alloc (Nat.le_refl _) _
  have hr0 := item_row w 0 none 0 0
  have e0 : (w.alloc (.cells #[.int .u64 0, .slice none 0 0, .int .i64 0] 137)).heap.size = w.heap.size + 1 := by simp
  have H := hide (hcall _ hs0)
  clear hcall
  go_enter Tryz.func140, Tryz.ntmps140
  go_wp2_with fail
  generalize w.alloc (.cells #[.int .u64 0, .slice none 0 0, .int .i64 0] 137) = w0 at *
  refine (unhide H).mono ?_
  rintro e w1 ⟨⟨ta, rfl, htx⟩, h1⟩
  have hrw := row_since hr0 h1
  have o0 : w1.cell? ⟨w.heap.size, 0, none⟩ = some (.int .u64 0) := hrw.cell (by decide)
  have o1 : w1.cell? ⟨w.heap.size, 1, none⟩ = some (.slice none 0 0) := hrw.cell (by decide)
  have o2 : w1.cell? ⟨w.heap.size, 2, none⟩ = some (.int .i64 0) := hrw.cell (by decide)
  have p0 := hrw.frozen 0
  have p1 := hrw.frozen 1
  have p2 := hrw.frozen 2
  have hsn : w.Since w.heap.size w1 := hs0.trans (since_mono h1 (by omega))
  rw [e0] at htx
  clear hrw h1 hs0 hr0 H
  go_wp2_with fail
  refine bodyPost_ret (v := .tuple #[.agg #[.int .u64 N, .slice ta l l, .int .i64 size], .int .i64 bd]) (by simp [results, Tryz.results140, go_sem, o0, o1, o2]) rfl ⟨⟨ta, rfl, txt_item htx _ _ _⟩, since_item hsn _ _ _⟩

/-- A Reader's bytes from its place on. -/
theorem byt_place {w W : World} {rb hb n at' bad : Nat} {z : Nat → Nat} (h : IsR w rb hb n z at' bad) (hW : w.Since w.heap.size W) (o : Nat) (ho : n ≠ at' → o = at') : Byt W (some ⟨hb, o, none⟩) (n - at') (fun j => z (at' + j)) := fun j hj => by
  have hrow := row_since h.row hW
  have := hrow.cell (i := at' + j) (by omega)
  exact ⟨hb, o, rfl, by rw [ho (by omega)]; exact this⟩
theorem looks_var (rb hb n at' most : Nat) (z : Nat → Nat) (w : World) (h : IsR w rb hb n z at' 0) :
    Looks w (if n = at' then some ⟨hb, 0, none⟩ else some ⟨hb, at', none⟩) (n - at') 3 most (vlook (fun j => z (at' + j)) (n - at') most).1 0 (vlook (fun j => z (at' + j)) (n - at') most).2.1 (vlook (fun j => z (at' + j)) (n - at') most).2.2 z := fun W hW => by
  have hroom := h.room
  refine look_3 _ (n - at') (n - at') most _ 0 _ _ z W (fun W' hW' => ?_)
  have hW2 := hW.trans (since_mono hW' hW.size)
  have key : ∀ o, (n ≠ at' → o = at') → Calls Tryz.prog 162 #[.slice (some ⟨hb, o, none⟩) (n - at') (n - at'), .int .u64 most] W' fun e w' => (∃ ta, e = .returned (.tuple #[.agg #[.int .u64 ((vlook (fun j => z (at' + j)) (n - at') most).1 : Nat), .slice ta 0 0, .int .i64 ((vlook (fun j => z (at' + j)) (n - at') most).2.1 : Nat)], .int .i64 ((vlook (fun j => z (at' + j)) (n - at') most).2.2 : Nat)]) ∧ Txt W'.heap.size w' ta 0 z) ∧ W'.Since W'.heap.size w' := fun o ho =>
    (lookVar_any _ (n - at') (n - at') most (fun j => z (at' + j)) W' (by omega) (byt_place h hW2 o ho) (fun j => h.byte _)).mono fun e w' ⟨he, hs⟩ => ⟨⟨none, he, Or.inl ⟨rfl, rfl⟩⟩, hs⟩
  by_cases hna : n = at'
  · rw [if_pos hna]; exact key 0 (fun h => absurd hna h)
  · rw [if_neg hna]; exact key at' (fun _ => rfl)
theorem looks_bytes (rb hb n at' most : Nat) (z : Nat → Nat) (w : World) (h : IsR w rb hb n z at' 0) :
    Looks w (if n = at' then some ⟨hb, 0, none⟩ else some ⟨hb, at', none⟩) (n - at') 4 most 0 (blook (fun j => z (at' + j)) (n - at') most).1 (blook (fun j => z (at' + j)) (n - at') most).2.1 (blook (fun j => z (at' + j)) (n - at') most).2.2 (fun j => z (at' + ((vlook (fun j => z (at' + j)) (n - at') most).2.1 + j))) := fun W hW => by
  have hroom := h.room
  refine look_4 _ (n - at') (n - at') most 0 _ _ _ _ W (fun W' hW' => ?_)
  have hW2 := hW.trans (since_mono hW' hW.size)
  by_cases hna : n = at'
  · rw [if_pos hna]; exact lookBytes_any hb 0 (n - at') (n - at') most (fun j => z (at' + j)) W' (by omega) (Nat.le_refl _) (byt_place h hW2 0 (fun h => absurd hna h)) (fun j => h.byte _)
  · rw [if_neg hna]; exact lookBytes_any hb at' (n - at') (n - at') most (fun j => z (at' + j)) W' (by omega) (Nat.le_refl _) (byt_place h hW2 at' (fun _ => rfl)) (fun j => h.byte _)
theorem looks_raw (rb hb n at' k : Nat) (z : Nat → Nat) (w : World) (h : IsR w rb hb n z at' 0) :
    Looks w (if n = at' then some ⟨hb, 0, none⟩ else some ⟨hb, at', none⟩) (n - at') 5 k 0 (rlook k (n - at')).1 (rlook k (n - at')).2.1 (rlook k (n - at')).2.2 (fun j => z (at' + j)) := fun W hW => by
  have hroom := h.room
  refine look_5 _ (n - at') (n - at') k 0 _ _ _ _ W (fun W' hW' => ?_)
  have hW2 := hW.trans (since_mono hW' hW.size)
  by_cases hna : n = at'
  · rw [if_pos hna]; exact lookRaw_any hb 0 (n - at') (n - at') k (fun j => z (at' + j)) W' (by omega) (Nat.le_refl _) (byt_place h hW2 0 (fun h => absurd hna h))
  · rw [if_neg hna]; exact lookRaw_any hb at' (n - at') (n - at') k (fun j => z (at' + j)) W' (by omega) (Nat.le_refl _) (byt_place h hW2 at' (fun _ => rfl))
end Go.Proofs.YtonpmabdjngdcaaGreatDoor

/- The Reader's reads, whatever its place and fault. -/
namespace Go.Proofs.YtonpmabdjngdcaaGreatDoor
open Go.RowKit

/-- Behind a read of a number of fixed size: the number, the place, the fault. -/
def fixAns (z : Nat → Nat) (n width at' bad : Nat) : Nat × Nat × Nat := if bad ≠ 0 then (0, at', bad) else if n - at' < width then (0, at', 10) else (be (fun j => z (at' + j)) width, at' + width, 0)
def varAns (z : Nat → Nat) (n most at' bad : Nat) : Nat × Nat × Nat := if bad ≠ 0 then (0, at', bad) else ((vlook (fun j => z (at' + j)) (n - at') most).1, at' + (vlook (fun j => z (at' + j)) (n - at') most).2.1, (vlook (fun j => z (at' + j)) (n - at') most).2.2)
/-- Behind a read of a text: its length, where it lies, the place, the fault. -/
def bytesAns (z : Nat → Nat) (n most at' bad : Nat) : Nat × Nat × Nat × Nat := if bad ≠ 0 then (0, at', at', bad) else ((blook (fun j => z (at' + j)) (n - at') most).1, at' + (vlook (fun j => z (at' + j)) (n - at') most).2.1, at' + (blook (fun j => z (at' + j)) (n - at') most).2.1, (blook (fun j => z (at' + j)) (n - at') most).2.2)
def rawAns (n : Nat) (k : Int) (at' bad : Nat) : Nat × Nat × Nat × Nat := if bad ≠ 0 then (0, at', at', bad) else if k < 0 then (0, at', at', 14) else ((rlook k.toNat (n - at')).1, at', at' + (rlook k.toNat (n - at')).2.1, (rlook k.toNat (n - at')).2.2)
theorem blook_size (z : Nat → Nat) (m most : Nat) (h : (blook z m most).2.2 = 0) : (blook z m most).2.1 ≤ m := by
  unfold blook at h ⊢
  split at h
  · next h1 => exact absurd h h1
  · next h1 =>
    rw [if_neg h1]
    split at h
    · simp at h
    · next h2 =>
      rw [if_neg h2]
      have := (vlook_size z m most (by omega)).1
      show (vlook z m most).2.1 + (vlook z m most).1 ≤ m
      omega
theorem blook_bad (z : Nat → Nat) (m most : Nat) (h : (blook z m most).2.2 ≠ 0) : (blook z m most).1 = 0 ∧ (blook z m most).2.1 = 0 := by
  unfold blook at h ⊢
  split at h
  · next h1 => rw [if_pos h1]; exact ⟨rfl, rfl⟩
  · next h1 =>
    rw [if_neg h1]
    split at h
    · next h2 => rw [if_pos h2]; exact ⟨rfl, rfl⟩
    · exact absurd rfl h
theorem rlook_size (k m : Nat) (h : (rlook k m).2.2 = 0) : (rlook k m).2.1 ≤ m := by
  unfold rlook at h ⊢
  split at h
  · simp at h
  · next h1 => rw [if_neg h1]; show k ≤ m; omega
theorem rlook_bad (k m : Nat) (h : (rlook k m).2.2 ≠ 0) : (rlook k m).1 = 0 ∧ (rlook k m).2.1 = 0 := by
  unfold rlook at h ⊢
  split at h
  · next h1 => rw [if_pos h1]; exact ⟨rfl, rfl⟩
  · exact absurd rfl h
theorem isR_eq {w : World} {rb hb n a b c d : Nat} {z : Nat → Nat} (h : IsR w rb hb n z a c) (e : a = b) (f : c = d) : IsR w rb hb n z b d := by subst e; subst f; exact h
theorem txt_none (B : Nat) (w : World) (l : Nat) (tx : Nat → Nat) (h : l = 0) : Txt B w none l tx := Or.inl ⟨rfl, h⟩
theorem Txt.mono' {B B' : Nat} {w : World} {ta : Option Addr} {l : Nat} {tx : Nat → Nat} (h : Txt B w ta l tx) (hB : B' ≤ B) : Txt B' w ta l tx := by
  rcases h with h | ⟨t, e, hb, hr⟩
  · exact Or.inl h
  · exact Or.inr ⟨t, e, by omega, hr⟩
theorem be_pos (z : Nat → Nat) (hz : ∀ j, z j < 256) (i : Nat) (hi : i ≤ 4) : be z i < 4294967296 :=
  Nat.lt_of_lt_of_le (be_lt z hz i) (Nat.pow_le_pow_right (n := 256) (by decide) hi)

set_option maxHeartbeats 800000 in
theorem u8_r (rb hb n at' bad : Nat) (z : Nat → Nat) (w : World) (h : IsR w rb hb n z at' bad) (hw : Wid w) :
    Calls Tryz.prog 86 #[.pointer (some ⟨rb, 0, none⟩)] w fun e w' => e = .returned (.int .u8 ((fixAns z n 1 at' bad).1 : Nat)) ∧ But rb w w' ∧ IsR w' rb hb n z (fixAns z n 1 at' bad).2.1 (fixAns z n 1 at' bad).2.2 := by
  by_cases hbad : bad = 0
  · subst hbad
    unfold fixAns
    rw [if_neg (by simp)]
    by_cases hs : n - at' < 1
    · rw [if_pos hs]
      have hn := next_any rb hb n at' z 0 0 _ _ _ _ _ w h (looks_short 0 hb n at' z w (by decide) hw hs) (fun e => by simp at e)
      go_enter Tryz.func86, Tryz.ntmps86
      go_wp2_with fail
      refine hn.mono ?_
      rintro e w1 ⟨hb1, ⟨he, _⟩ | ⟨_, rfl, hI⟩⟩
      · exact absurd he (by decide)
      · have hfl := fld0 w1 0 0 none 0
        go_wp2
        go_ret
        exact ⟨rfl, hb1, hI⟩
    · rw [if_neg hs]
      have hle := h.le
      have hlt : be (fun j => z (at' + j)) 1 < 256 := be_lt _ (fun j => h.byte _) 1
      have hn := next_any rb hb n at' z 0 0 _ _ _ _ _ w h (looks_ok 0 rb hb n at' z w (by decide) hw h (by show 1 ≤ n - at'; omega)) (fun _ => by show at' + 1 ≤ n; omega)
      go_enter Tryz.func86, Tryz.ntmps86
      go_wp2_with fail
      refine hn.mono ?_
      rintro e w1 ⟨hb1, ⟨_, ⟨ta, rfl, _⟩, hI⟩ | ⟨hne, _⟩⟩
      · have hfl := fld0 w1 (be (fun j => z (at' + j)) (widthOf 0) : Nat) (widthOf 0 : Nat) ta 0
        change be (fun j => z (at' + j)) (widthOf 0) < _ at hlt
        go_wp2
        go_ret
        exact ⟨rfl, hb1, hI⟩
      · exact absurd rfl hne
  · unfold fixAns
    rw [if_pos hbad]
    go_enter Tryz.func86, Tryz.ntmps86
    go_wp2_with fail
    refine (next_bad rb hb n at' bad z 0 0 w h hbad).mono ?_
    rintro e w1 ⟨rfl, hs⟩
    have hfl := fld0 w1 0 0 none 0
    go_wp2
    go_ret
    exact ⟨rfl, But.of_since hs, h.since hs⟩

set_option maxHeartbeats 800000 in
theorem u32_r (rb hb n at' bad : Nat) (z : Nat → Nat) (w : World) (h : IsR w rb hb n z at' bad) (hw : Wid w) :
    Calls Tryz.prog 41 #[.pointer (some ⟨rb, 0, none⟩)] w fun e w' => e = .returned (.int .u32 ((fixAns z n 4 at' bad).1 : Nat)) ∧ But rb w w' ∧ IsR w' rb hb n z (fixAns z n 4 at' bad).2.1 (fixAns z n 4 at' bad).2.2 := by
  by_cases hbad : bad = 0
  · subst hbad
    unfold fixAns
    rw [if_neg (by simp)]
    by_cases hs : n - at' < 4
    · rw [if_pos hs]
      have hn := next_any rb hb n at' z 1 0 _ _ _ _ _ w h (looks_short 1 hb n at' z w (by decide) hw hs) (fun e => by simp at e)
      go_enter Tryz.func41, Tryz.ntmps41
      go_wp2_with fail
      refine hn.mono ?_
      rintro e w1 ⟨hb1, ⟨he, _⟩ | ⟨_, rfl, hI⟩⟩
      · exact absurd he (by decide)
      · have hfl := fld0 w1 0 0 none 0
        go_wp2
        go_ret
        exact ⟨rfl, hb1, hI⟩
    · rw [if_neg hs]
      have hle := h.le
      have hlt : be (fun j => z (at' + j)) 4 < 4294967296 := be_pos _ (fun j => h.byte _) 4 (by decide)
      have hn := next_any rb hb n at' z 1 0 _ _ _ _ _ w h (looks_ok 1 rb hb n at' z w (by decide) hw h (by show 4 ≤ n - at'; omega)) (fun _ => by show at' + 4 ≤ n; omega)
      go_enter Tryz.func41, Tryz.ntmps41
      go_wp2_with fail
      refine hn.mono ?_
      rintro e w1 ⟨hb1, ⟨_, ⟨ta, rfl, _⟩, hI⟩ | ⟨hne, _⟩⟩
      · have hfl := fld0 w1 (be (fun j => z (at' + j)) (widthOf 1) : Nat) (widthOf 1 : Nat) ta 0
        change be (fun j => z (at' + j)) (widthOf 1) < _ at hlt
        go_wp2
        go_ret
        exact ⟨rfl, hb1, hI⟩
      · exact absurd rfl hne
  · unfold fixAns
    rw [if_pos hbad]
    go_enter Tryz.func41, Tryz.ntmps41
    go_wp2_with fail
    refine (next_bad rb hb n at' bad z 1 0 w h hbad).mono ?_
    rintro e w1 ⟨rfl, hs⟩
    have hfl := fld0 w1 0 0 none 0
    go_wp2
    go_ret
    exact ⟨rfl, But.of_since hs, h.since hs⟩

set_option maxHeartbeats 800000 in
theorem var_r (rb hb n at' bad most : Nat) (z : Nat → Nat) (w : World) (h : IsR w rb hb n z at' bad) :
    Calls Tryz.prog 118 #[.pointer (some ⟨rb, 0, none⟩), .int .u64 most] w fun e w' => e = .returned (.int .u64 ((varAns z n most at' bad).1 : Nat)) ∧ But rb w w' ∧ IsR w' rb hb n z (varAns z n most at' bad).2.1 (varAns z n most at' bad).2.2 := by
  by_cases hbad : bad = 0
  · subst hbad
    unfold varAns
    rw [if_neg (by simp)]
    have hle := h.le
    have hn := next_any rb hb n at' z 3 most _ _ _ _ _ w h (looks_var rb hb n at' most z w h) (fun e => by have := (vlook_size _ _ _ e).1; omega)
    have hvb := vlook_bad (fun j => z (at' + j)) (n - at') most
    generalize vlook (fun j => z (at' + j)) (n - at') most = V at *
    obtain ⟨N, s, bd⟩ := V
    go_enter Tryz.func118, Tryz.ntmps118
    go_wp2_with fail
    refine hn.mono ?_
    rintro e w1 ⟨hb1, ⟨hbd, ⟨ta, rfl, _⟩, hI⟩ | ⟨hne, rfl, hI⟩⟩
    · have hfl := fld0 w1 N s ta 0
      clear hvb hn
      go_wp2
      go_ret
      exact ⟨rfl, hb1, isR_eq hI rfl hbd.symm⟩
    · have hfl := fld0 w1 0 0 none 0
      obtain ⟨e1, e2⟩ := hvb hne
      replace e1 : N = 0 := e1
      replace e2 : s = 0 := e2
      subst e1
      subst e2
      clear hvb hn
      go_wp2
      go_ret
      exact ⟨rfl, hb1, hI⟩
  · unfold varAns
    rw [if_pos hbad]
    go_enter Tryz.func118, Tryz.ntmps118
    go_wp2_with fail
    refine (next_bad rb hb n at' bad z 3 most w h hbad).mono ?_
    rintro e w1 ⟨rfl, hs⟩
    have hfl := fld0 w1 0 0 none 0
    go_wp2
    go_ret
    exact ⟨rfl, But.of_since hs, h.since hs⟩

set_option maxHeartbeats 800000 in
theorem bytes_r (rb hb n at' bad : Nat) (most : Int) (z : Nat → Nat) (w : World) (h : IsR w rb hb n z at' bad) (hm : most ≤ 9223372036854775807) :
    Calls Tryz.prog 130 #[.pointer (some ⟨rb, 0, none⟩), .int .i64 most] w fun e w' => (∃ ta, e = .returned (.slice ta (bytesAns z n most.toNat at' bad).1 (bytesAns z n most.toNat at' bad).1) ∧ Txt w.heap.size w' ta (bytesAns z n most.toNat at' bad).1 (fun j => z ((bytesAns z n most.toNat at' bad).2.1 + j))) ∧ But rb w w' ∧ IsR w' rb hb n z (bytesAns z n most.toNat at' bad).2.2.1 (bytesAns z n most.toNat at' bad).2.2.2 := by
  obtain ⟨M, hM, hMb⟩ : ∃ M : Nat, M = most.toNat ∧ M < 18446744073709551616 := ⟨_, rfl, by omega⟩
  rw [← hM]
  have key : Calls Tryz.prog 85 #[.pointer (some ⟨rb, 0, none⟩), .int .i64 4, .int .u64 (M : Nat)] w fun e w' => (∃ ta N S, e = .returned (.agg #[.int .u64 N, .slice ta (bytesAns z n M at' bad).1 (bytesAns z n M at' bad).1, .int .i64 S]) ∧ Txt w.heap.size w' ta (bytesAns z n M at' bad).1 (fun j => z ((bytesAns z n M at' bad).2.1 + j))) ∧ But rb w w' ∧ IsR w' rb hb n z (bytesAns z n M at' bad).2.2.1 (bytesAns z n M at' bad).2.2.2 := by
    by_cases hbad : bad = 0
    · subst hbad
      unfold bytesAns
      rw [if_neg (by simp)]
      have hle := h.le
      have hn := next_any rb hb n at' z 4 M _ _ _ _ _ w h (looks_bytes rb hb n at' M z w h) (fun e => by have := blook_size _ _ _ e; omega)
      have hvb := blook_bad (fun j => z (at' + j)) (n - at') M
      refine hn.mono ?_
      generalize blook (fun j => z (at' + j)) (n - at') M = V at *
      generalize vlook (fun j => z (at' + j)) (n - at') M = V2 at *
      obtain ⟨l, s, bd⟩ := V
      rintro e w1 ⟨hb1, ⟨hbd, ⟨ta, rfl, htx⟩, hI⟩ | ⟨hne, rfl, hI⟩⟩
      · exact ⟨⟨ta, _, _, rfl, by simpa [Nat.add_assoc] using htx⟩, hb1, isR_eq hI rfl hbd.symm⟩
      · obtain ⟨e1, e2⟩ := hvb hne
        replace e1 : l = 0 := e1
        replace e2 : s = 0 := e2
        subst e1
        subst e2
        exact ⟨⟨none, _, _, rfl, txt_none _ _ _ _ rfl⟩, hb1, hI⟩
    · unfold bytesAns
      rw [if_pos hbad]
      exact (next_bad rb hb n at' bad z 4 _ w h hbad).mono fun e w1 ⟨he, hs⟩ => ⟨⟨none, _, _, he, txt_none _ _ _ _ rfl⟩, But.of_since hs, h.since hs⟩
  generalize (bytesAns z n M at' bad) = V at *
  obtain ⟨l, f, a2, b2⟩ := V
  by_cases hneg : most < 0
  · obtain rfl : M = 0 := by omega
    have e0 : ((0 : Nat) : Int) = 0 := rfl
    rw [e0] at key
    have H := hide key
    clear key e0 hM
    go_enter Tryz.func130, Tryz.ntmps130
    go_wp2_with fail
    all_goals
      refine (unhide H).mono ?_
      rintro e w1 ⟨⟨ta, N, S, rfl, htx⟩, hb1, hI⟩
      have hfl := fld1 w1 N S ta l
      clear H
      go_wp2
      go_ret
      exact ⟨⟨ta, rfl, htx⟩, hb1, hI⟩
  · obtain rfl : most = (M : Nat) := by omega
    have H := hide key
    clear key hM
    go_enter Tryz.func130, Tryz.ntmps130
    go_wp2_with fail
    all_goals
      refine (unhide H).mono ?_
      rintro e w1 ⟨⟨ta, N, S, rfl, htx⟩, hb1, hI⟩
      have hfl := fld1 w1 N S ta l
      clear H
      go_wp2
      go_ret
      exact ⟨⟨ta, rfl, htx⟩, hb1, hI⟩

theorem since_drewN' {B : Nat} {w w' : World} (h : w.Since B w') (n : Nat) : w.Since B (w'.drewN n) := ⟨h.os, h.tape, h.output, h.size, h.block⟩
theorem end_r (rb hb n at' bad : Nat) (z : Nat → Nat) (w : World) (h : IsR w rb hb n z at' bad) :
    Calls Tryz.prog 87 #[.pointer (some ⟨rb, 0, none⟩)] w fun e w' => e = .returned (.int .i64 ((if bad = 0 ∧ at' < n then 13 else bad : Nat) : Int)) ∧ ∃ m, w' = w.drewN m := by
  have c2 := h.c2
  by_cases hbad : bad = 0
  · subst hbad
    have hlf := left_any rb hb n at' 0 z w h
    by_cases hlt : at' < n
    · rw [if_pos ⟨rfl, hlt⟩]
      have hp : (0 : Int) < ((n - at' : Nat) : Int) := by omega
      generalize n - at' = d at *
      go_enter Tryz.func87, Tryz.ntmps87
      go_wp2_with fail
      refine hlf.mono ?_
      rintro e w1 ⟨rfl, m, rfl⟩
      go_wp2
      go_ret
      exact ⟨rfl, m, rfl⟩
    · rw [if_neg (by omega)]
      have hp : ((n - at' : Nat) : Int) = 0 := by omega
      rw [hp] at hlf
      go_enter Tryz.func87, Tryz.ntmps87
      go_wp2_with fail
      refine hlf.mono ?_
      rintro e w1 ⟨rfl, m, rfl⟩
      have c3 := (h.since (since_drewN' (World.Since.refl _ _) m)).c2
      go_wp2
      go_ret
      exact ⟨rfl, m, rfl⟩
  · rw [if_neg (by omega)]
    have hq : ((bad : Int) == 0) = false := by simp; omega
    go_enter Tryz.func87, Tryz.ntmps87
    go_wp2
    go_ret
    exact ⟨rfl, 0, rfl⟩
end Go.Proofs.YtonpmabdjngdcaaGreatDoor

/- The walks of tallylaw1's Lend and Intact: bytes lent with marks behind them. -/
namespace Go.Proofs.YtonpmabdjngdcaaGreatDoor
open Go.RowKit
set_option maxRecDepth 100000

/-- Bytes as cells. -/
def cellsOf (n : Nat) (x : Nat → Nat) : List Value := (List.range n).map fun j => .int .u8 (x j : Nat)
theorem length_cellsOf (n : Nat) (x : Nat → Nat) : (cellsOf n x).length = n := by simp [cellsOf]
theorem get_cellsOf {n j : Nat} {x : Nat → Nat} (h : j < n) : (cellsOf n x)[j]? = some (.int .u8 (x j : Nat)) := by simp [cellsOf, h]
def cat (x : Nat → Nat) (n : Nat) (y : Nat → Nat) : Nat → Nat := fun j => if j < n then x j else y (j - n)
theorem cat_ge {x : Nat → Nat} {n : Nat} {y : Nat → Nat} {j : Nat} (h : n ≤ j) : cat x n y j = y (j - n) := if_neg (by omega)
theorem cellsOf_cat (n m : Nat) (x y : Nat → Nat) : cellsOf n x ++ cellsOf m y = cellsOf (n + m) (cat x n y) := by
  apply List.ext_getElem?
  intro j
  rcases Nat.lt_or_ge j n with h | h
  · rw [List.getElem?_append_left (by rw [length_cellsOf]; exact h), get_cellsOf h, get_cellsOf (by omega)]; simp [cat, h]
  · rw [List.getElem?_append_right (by rw [length_cellsOf]; exact h), length_cellsOf]
    rcases Nat.lt_or_ge (j - n) m with g | g
    · rw [get_cellsOf g, get_cellsOf (by omega)]; simp [cat, Nat.not_lt.2 h]
    · rw [List.getElem?_eq_none (by rw [length_cellsOf]; exact g), List.getElem?_eq_none (by rw [length_cellsOf]; omega)]
theorem one_cellsOf (n : Nat) (x : Nat → Nat) : ∀ u ∈ cellsOf n x, u.oneCell' = true := fun u hu => by
  obtain ⟨j, _, rfl⟩ := List.mem_map.1 hu; rfl

/-- A slice of bytes of the call's own. -/
def Own (w : World) (B : Nat) (v : Value) (n : Nat) (x : Nat → Nat) : Prop := w.ownsRow B 5 1 v n (cellsOf n x)
theorem own_nil (w : World) (B : Nat) (x : Nat → Nat) : Own w B (.slice none 0 0) 0 x := ⟨rfl, Or.inl ⟨rfl, rfl⟩⟩
/-- append OF ANY BYTES ONTO SUCH A SLICE. -/
theorem app_own (w : World) (B : Nat) (v : Value) (n : Nat) (x : Nat → Nat) (hown : Own w B v n x) (a : Option Addr) (m c : Nat) (y : Nat → Nat) (hb : Byt w a m y) (ha : a = none → m = 0 ∧ c = 0) (hmax : n + m ≤ 140737488355328) (hB : B ≤ w.heap.size) :
    ∃ v' w', (Builtin.append_ #[32, 32] 32 #[v, .slice a m c]).run Tryz.prog w = .ok v' w' ∧ Own w' B v' (n + m) (cat x n y) ∧ w.grownBy w' v.ownBlock := by
  obtain ⟨i0, hi, hz0, hz1, hz2⟩ := info_parts Tryz.info5
  cases a with
  | none =>
    obtain ⟨rfl, rfl⟩ := ha rfl
    refine ⟨v, w, run_append_owned_none w B 32 32 5 i0 1 Tryz.underlying32 hi v n _ hown, ?_, ⟨rfl, rfl, rfl, Nat.le_refl _, fun _ _ _ => rfl⟩⟩
    have e : cellsOf (n + 0) (cat x n y) = cellsOf n x := by rw [← cellsOf_cat]; simp [cellsOf]
    show w.ownsRow B 5 1 v (n + 0) (cellsOf (n + 0) (cat x n y))
    rw [e]; exact hown
  | some ad =>
    obtain ⟨v', w', hr, h1, h2, _⟩ := run_append_own (P := Tryz.prog) w B 32 32 5 i0 (.int .u8 0) 1 1 Tryz.underlying32 hi hz0 hz1 hz2 rfl (by decide) v n _ hown ad m c (cellsOf m y) (by rw [length_cellsOf, Nat.mul_one])
      (fun j u hu => by
        have hj : j < m := by have := (List.getElem?_eq_some_iff.1 hu).1; rwa [length_cellsOf] at this
        rw [get_cellsOf hj] at hu
        obtain ⟨b, off, e, hc⟩ := hb j hj
        obtain rfl : ad = ⟨b, off, none⟩ := by simpa using e
        rw [show (⟨b, off, none⟩ : Addr).add j = ⟨b, off + j, none⟩ by simp [Addr.add], hc]; exact hu)
      (one_cellsOf m y) (by unfold maxLen; omega) (by omega) hB
    exact ⟨v', w', hr, by rw [cellsOf_cat] at h1; exact h1, h2⟩
theorem grown_since {B : Nat} {w0 w w' : World} {row : Option Nat} (h : w0.Since B w) (hg : w.grownBy w' row) (hB : B ≤ w.heap.size) (hr : ∀ k, row = some k → B ≤ k) : w0.Since B w' := h.grown hg hB hr
theorem own_block {w : World} {B : Nat} {v : Value} {n : Nat} {x : Nat → Nat} (h : Own w B v n x) : ∀ k, v.ownBlock = some k → B ≤ k := fun k hk => by
  rcases h.2 with ⟨rfl, _⟩ | ⟨g, cap, cur, rfl, hb, _⟩
  · simp [Value.ownBlock] at hk
  · obtain rfl : g = k := by simpa [Value.ownBlock] using hk
    exact hb
theorem own_row {w : World} {B : Nat} {v : Value} {n : Nat} {x : Nat → Nat} (h : Own w B v n x) (hn : 0 < n) : ∃ g cap f, v = .slice (some ⟨g, 0, none⟩) n cap ∧ B ≤ g ∧ n ≤ cap ∧ w.rowIs g 5 cap f ∧ ∀ j, j < n → f j = .int .u8 (x j : Nat) := by
  rcases h.2 with ⟨rfl, h0⟩ | ⟨g, cap, cur, rfl, hb, hh, hnc, hm, hsz, htk⟩
  · omega
  · refine ⟨g, cap, fun j => cur[j]?.getD undef, rfl, hb, hnc, ⟨cur, hh, by omega, fun i hi => by show cur[i]? = some (cur[i]?.getD undef); rw [Array.getElem?_eq_getElem (by omega)]; rfl⟩, fun j hj => ?_⟩
    have h2 := congrArg (fun l : List Value => l[j]?) htk
    simp only [Nat.mul_one] at h2
    rw [List.getElem?_take_of_lt hj, get_cellsOf hj, Array.getElem?_toList] at h2
    show cur[j]?.getD undef = _
    rw [h2]; rfl

/-- append, by its run: at the operation. -/
theorem wpList_append_eq {P : Program} {w w' : World} {ops : Array Oper} {rest : List Oper} {o : Oper} {a : Act} {Q : Exit → Act → World → Prop} (hgd : o.guard = none) (s x : Operand) (t : TypeId)
    (ho : o.op = .call { callee := .builtin .append, args := #[s, x], argTypes := #[t, t] }) (v u v' : Value) (hs : a.eval s = v) (hx : a.eval x = u)
    (hrun : (Builtin.append_ #[t, t] o.type #[v, u]).run P w = .ok v' w') (h : wpList P ops Q rest (a.put o.dst v') w') : wpList P ops Q (o :: rest) a w := by
  refine wpList_plain hgd fun K hK => ?_
  unfold Oper.wp
  simp [execOp, ho, resolve, invoke, builtin, hs, hx, hrun, Result.andThen]
  exact hK _ _ h

/-- What is lent: the bytes, three marks behind them. -/
structure Lent (w : World) (g len cap : Nat) (x : Nat → Nat) (f : Nat → Value) : Prop where
  row : w.rowIs g 5 cap f
  room : len + 3 ≤ cap
  cap : cap ≤ 9223372036854775807
  byte : ∀ j, j < len → f j = .int .u8 (x j : Nat)
  k0 : f len = .int .u8 165
  k1 : f (len + 1) = .int .u8 90
  k2 : f (len + 2) = .int .u8 165

set_option maxHeartbeats 800000 in
theorem lend_any (a : Option Addr) (len cap : Nat) (x : Nat → Nat) (w : World) (hmax : len ≤ 140737488351232) (hb : Byt w a len x) (ha : a = none → len = 0 ∧ cap = 0) :
    Calls Tryz.prog 17 #[.slice a len cap] w fun e w' => ∃ g cap' f, e = .returned (.slice (some ⟨g, 0, none⟩) len cap') ∧ w.heap.size ≤ g ∧ w.Since w.heap.size w' ∧ Lent w' g len cap' x f := by
  obtain ⟨v1, w1, hr1, ho1, hg1⟩ := app_own w w.heap.size (.slice none 0 0) 0 x (own_nil _ _ _) a len cap x hb ha (by omega) (Nat.le_refl _)
  have hs1 := grown_since (World.Since.refl w.heap.size w) hg1 (Nat.le_refl _) (fun k hk => by simp [Value.ownBlock] at hk)
  have hz1 := hs1.size
  have hown1 : Own (w1.alloc (.cells #[.int .u8 165, .int .u8 90, .int .u8 165] 5)) w.heap.size v1 (0 + len) (cat x 0 x) := ho1.alloc _
  have hb1 : Byt (w1.alloc (.cells #[.int .u8 165, .int .u8 90, .int .u8 165] 5)) (some ⟨w1.heap.size, 0, none⟩) 3 (fun j => if j = 1 then 90 else 165) := fun j hj => ⟨w1.heap.size, 0, rfl, by
    match j, hj with
    | 0, _ => simp
    | 1, _ => simp
    | 2, _ => simp⟩
  obtain ⟨v2, w2, hr2, ho2, hg2⟩ := app_own _ w.heap.size v1 (0 + len) _ hown1 (some ⟨w1.heap.size, 0, none⟩) 3 3 _ hb1 (fun h => by cases h) (by omega) (by simp; omega)
  have hs2 := grown_since (hs1.alloc hz1 (.cells #[.int .u8 165, .int .u8 90, .int .u8 165] 5)) hg2 (by simp; omega) (own_block hown1)
  obtain ⟨g, cap2, f, rfl, hg, hc2, hrow, hf⟩ := own_row ho2 (by omega)
  have hcap2 : cap2 ≤ 9223372036854775807 := by
    rcases ho2.2 with ⟨h, _⟩ | ⟨g', cap', cur, h, _, _, _, hm, _⟩
    · cases h
    · cases h; exact hm
  have hL : Lent w2 g len cap2 x f := ⟨hrow, by omega, hcap2, fun j hj => by rw [hf j (by omega)]; simp [cat, hj],
    by rw [hf len (by omega), cat_ge (by omega), show len - (0 + len) = 0 by omega]; rfl, by rw [hf (len + 1) (by omega), cat_ge (by omega), show len + 1 - (0 + len) = 1 by omega]; rfl, by rw [hf (len + 2) (by omega), cat_ge (by omega), show len + 2 - (0 + len) = 2 by omega]; rfl⟩
  rw [show 0 + len + 3 = len + 3 by omega] at hr2
  clear ho1 ho2 hg1 hg2 hown1 hb1 hrow hf
  have H1 := hide hr1
  have H2 := hide hr2
  clear hr1 hr2
  have hcz : (len : Int) ≤ (cap2 : Int) := by have := hL.room; omega
  go_enter Tryz.func17, Tryz.ntmps17
  go_wp2_with (first
    | (at_builtin; refine wpList_append_eq rfl _ _ 32 rfl _ _ _ (by rfl) (by rfl) (unhide H1) ?_)
    | (at_builtin; refine wpList_append_eq rfl _ _ 32 rfl _ _ _ (by rfl) (by rfl) (unhide H2) ?_))
  go_ret
  exact ⟨g, cap2, f, rfl, hg, hs2, hL⟩
/-- Bytes as a string. -/
def strOf (n : Nat) (x : Nat → Nat) : ByteArray := strOfNums ((List.range n).map fun j => (x j : Int))
theorem str_byt (a : Option Addr) (len cap : Nat) (x : Nat → Nat) (w : World) (hb : Byt w a len x) (ha : a = none → len = 0) : (convert 32 9 (.slice a len cap)).run Tryz.prog w = .ok (.string (strOf len x)) w := by
  rcases Nat.eq_zero_or_pos len with rfl | hp
  · cases a with
    | none =>
      rw [run_convert_bytes_nil (P := Tryz.prog) w 32 5 Tryz.underlying32 Tryz.underlying5 0 cap 9 Tryz.underlying9]; rfl
    | some ad =>
      have hl : (loadCells ad 0).run Tryz.prog w = .ok (([] : List Int).map (Value.int .u8)).toArray w := by simpa using run_loadCells_list (P := Tryz.prog) w ad [] (by simp)
      rw [run_convert_bytes_string (P := Tryz.prog) w 32 9 5 _ 0 cap Tryz.underlying32 Tryz.underlying5 Tryz.underlying9, run_bytesToString w ad 0 cap [] hl]; rfl
  · obtain ⟨b, off, rfl, _⟩ := hb 0 hp
    exact run_convert_bytes_arg (P := Tryz.prog) w 32 5 Tryz.underlying32 Tryz.underlying5 b off len cap _ (by simp) (fun i hi => by
      obtain ⟨b', off', e, hc⟩ := hb i hi
      cases e
      rw [hc]; simp [List.getD, hi]) 9 Tryz.underlying9

theorem Lent.byt {w : World} {g len cap : Nat} {x : Nat → Nat} {f : Nat → Value} (h : Lent w g len cap x f) : Byt w (some ⟨g, 0, none⟩) len x := fun j hj =>
  ⟨g, 0, rfl, by rw [Nat.zero_add, h.row.cell (by have := h.room; omega), h.byte j hj]⟩
theorem Lent.since {w w' : World} {g len cap : Nat} {x : Nat → Nat} {f : Nat → Value} (h : Lent w g len cap x f) (hs : w.Since w.heap.size w') : Lent w' g len cap x f :=
  ⟨h.row.of_block (hs.block g h.row.lt), h.room, h.cap, h.byte, h.k0, h.k1, h.k2⟩
theorem Lent.drewN {w : World} {g len cap : Nat} {x : Nat → Nat} {f : Nat → Value} (h : Lent w g len cap x f) (n : Nat) : Lent (w.drewN n) g len cap x f := ⟨h.row, h.room, h.cap, h.byte, h.k0, h.k1, h.k2⟩

set_option maxHeartbeats 800000 in
theorem intact_any (g len cap : Nat) (x : Nat → Nat) (f : Nat → Value) (a : Option Addr) (capb : Nat) (w : World) (h : Lent w g len cap x f) (hb : Byt w a len x) (ha : a = none → len = 0) (hmax : len ≤ 140737488351232) :
    Calls Tryz.prog 18 #[.slice (some ⟨g, 0, none⟩) len cap, .slice a len capb] w fun e w' => e = .returned (.bool true) ∧ w' = w := by
  have s1 := str_byt (some ⟨g, 0, none⟩) len cap x w h.byt (fun e => by cases e)
  have s2 := str_byt a len capb x w hb ha
  have hroom := h.room
  have hcap := h.cap
  have c0 : w.cell? ⟨g, len, none⟩ = some (.int .u8 165) := by rw [h.row.cell (by omega), h.k0]
  have c1 : w.cell? ⟨g, len + 1, none⟩ = some (.int .u8 90) := by rw [h.row.cell (by omega), h.k1]
  have c2 : w.cell? ⟨g, len + 2, none⟩ = some (.int .u8 165) := by rw [h.row.cell (by omega), h.k2]
  have hcz : (len : Int) + 3 ≤ (cap : Int) := by omega
  generalize strOf len x = S at *
  clear h hb ha
  go_enter Tryz.func18, Tryz.ntmps18
  go_wp2
  go_ret
  exact ⟨rfl, rfl⟩
end Go.Proofs.YtonpmabdjngdcaaGreatDoor

/- What a Writer is in memory; the walks of its calls. -/
namespace Go.Proofs.YtonpmabdjngdcaaGreatDoor
open Go.RowKit
set_option maxRecDepth 100000

/-- append of any bytes onto a slice of the call's own; where the new one lies. -/
theorem app_at (w : World) (B : Nat) (v : Value) (n : Nat) (x : Nat → Nat) (hown : Own w B v n x) (a : Option Addr) (m c : Nat) (y : Nat → Nat) (hb : Byt w a m y) (ha : a = none → m = 0 ∧ c = 0) (hmax : n + m ≤ 140737488355328) (hB : B ≤ w.heap.size) :
    ∃ v' w', (Builtin.append_ #[32, 32] 32 #[v, .slice a m c]).run Tryz.prog w = .ok v' w' ∧ Own w' B v' (n + m) (cat x n y) ∧ w.grownBy w' v.ownBlock ∧ (v'.ownBlock = v.ownBlock ∨ v'.ownBlock = some w.heap.size) := by
  obtain ⟨i0, hi, hz0, hz1, hz2⟩ := info_parts Tryz.info5
  cases a with
  | none =>
    obtain ⟨rfl, rfl⟩ := ha rfl
    refine ⟨v, w, run_append_owned_none w B 32 32 5 i0 1 Tryz.underlying32 hi v n _ hown, ?_, ⟨rfl, rfl, rfl, Nat.le_refl _, fun _ _ _ => rfl⟩, Or.inl rfl⟩
    have e : cellsOf (n + 0) (cat x n y) = cellsOf n x := by rw [← cellsOf_cat]; simp [cellsOf]
    show w.ownsRow B 5 1 v (n + 0) (cellsOf (n + 0) (cat x n y))
    rw [e]; exact hown
  | some ad =>
    obtain ⟨v', w', hr, h1, h2, _, h5⟩ := run_append_own_at (P := Tryz.prog) w B 32 32 5 i0 (.int .u8 0) 1 1 Tryz.underlying32 hi hz0 hz1 hz2 rfl (by decide) v n _ hown ad m c (cellsOf m y) (by rw [length_cellsOf, Nat.mul_one])
      (fun j u hu => by
        have hj : j < m := by have := (List.getElem?_eq_some_iff.1 hu).1; rwa [length_cellsOf] at this
        rw [get_cellsOf hj] at hu
        obtain ⟨b, off, e, hc⟩ := hb j hj
        obtain rfl : ad = ⟨b, off, none⟩ := by simpa using e
        rw [show (⟨b, off, none⟩ : Addr).add j = ⟨b, off + j, none⟩ by simp [Addr.add], hc]; exact hu)
      (one_cellsOf m y) (by unfold maxLen; omega) (by omega) hB
    exact ⟨v', w', hr, by rw [cellsOf_cat] at h1; exact h1, h2, h5⟩

theorem one_cell {v v' : Value} : ∀ i, i < 1 → (if i = 0 then v' else v) = v' := fun i hi => by rw [if_pos (by omega)]
theorem own_form {w : World} {B : Nat} {v : Value} {n : Nat} {x : Nat → Nat} (h : Own w B v n x) : ∃ a c, v = .slice a n c := by
  rcases h.2 with ⟨rfl, rfl⟩ | ⟨g, cap, cur, rfl, _⟩
  · exact ⟨none, 0, rfl⟩
  · exact ⟨_, cap, rfl⟩
/-- A Writer whose cell holds the slice v. -/
structure IsW (w : World) (wb B : Nat) (v : Value) (n : Nat) (x : Nat → Nat) : Prop where
  cell : w.rowIs wb 129 1 (fun _ => v)
  own : Own w B v n x
  ne : v.ownBlock ≠ some wb
  lo : B ≤ w.heap.size
/-- What one write leaves of the rest: all but the Writer's cell and its own bytes. -/
structure Ext (wb : Nat) (v v' : Value) (w w' : World) : Prop where
  os : w'.os = w.os
  tape : w'.tape = w.tape
  output : w'.output = w.output
  size : w.heap.size ≤ w'.heap.size
  block : ∀ k, k < w.heap.size → k ≠ wb → some k ≠ v.ownBlock → w'.heap[k]? = w.heap[k]?
  lies : v'.ownBlock = v.ownBlock ∨ ∃ g, v'.ownBlock = some g ∧ w.heap.size ≤ g
theorem Ext.refl (wb : Nat) (v : Value) (w : World) : Ext wb v v w w := ⟨rfl, rfl, rfl, Nat.le_refl _, fun _ _ _ _ => rfl, Or.inl rfl⟩
theorem Ext.trans {wb : Nat} {v v' v'' : Value} {a b c : World} (h : Ext wb v v' a b) (k : Ext wb v' v'' b c) : Ext wb v v'' a c :=
  ⟨k.os.trans h.os, k.tape.trans h.tape, k.output.trans h.output, Nat.le_trans h.size k.size, fun i hi h1 h2 => (k.block i (Nat.lt_of_lt_of_le hi h.size) h1 (by
      rcases h.lies with e | ⟨g, e, hg⟩
      · rw [e]; exact h2
      · rw [e]; intro e2; cases e2; omega)).trans (h.block i hi h1 h2), by
    rcases k.lies with e | ⟨g, e, hg⟩
    · rw [e]; exact h.lies
    · exact Or.inr ⟨g, e, Nat.le_trans h.size hg⟩⟩
theorem Ext.since {wb B : Nat} {v v' : Value} {w0 w w' : World} (h0 : w0.Since B w) (hB : B ≤ wb) (hB2 : B ≤ w.heap.size) (hv : ∀ k, v.ownBlock = some k → B ≤ k) (h : Ext wb v v' w w') : w0.Since B w' :=
  ⟨h.os.trans h0.os, h.tape.trans h0.tape, h.output.trans h0.output, Nat.le_trans h0.size h.size, fun k hk => (h.block k (by omega) (by omega) (fun e => by have := hv k e.symm; omega)).trans (h0.block k hk)⟩

/-- THE APPEND OF A WRITER: in a world that has a block more (the bytes to be appended), then the store into the Writer's cell. -/
theorem write_step {w wx : World} {wb B : Nat} {v : Value} {n : Nat} {x : Nat → Nat} (h : IsW w wb B v n x) (hx : w.Since w.heap.size wx) (a : Option Addr) (m c : Nat) (y : Nat → Nat) (hb : Byt wx a m y) (ha : a = none → m = 0 ∧ c = 0) (hmax : n + m ≤ 140737488355328) :
    ∃ v' w', (Builtin.append_ #[32, 32] 32 #[v, .slice a m c]).run Tryz.prog wx = .ok v' w' ∧ IsW (w'.setCell ⟨wb, 0, none⟩ v') wb B v' (n + m) (cat x n y) ∧ Ext wb v v' w (w'.setCell ⟨wb, 0, none⟩ v') ∧ w'.cell? ⟨wb, 0, none⟩ = some v ∧ w'.frozen? ⟨wb, 0, none⟩ = false := by
  have hown : Own wx B v n x := by
    have h0 := h.own
    refine ⟨h0.1, ?_⟩
    rcases h0.2 with h1 | ⟨g, cap, cur, e, hb, hh, r⟩
    · exact Or.inl h1
    · exact Or.inr ⟨g, cap, cur, e, hb, by rw [hx.block g (by
        rcases Nat.lt_or_ge g w.heap.size with h | h
        · exact h
        · rw [Array.getElem?_eq_none h] at hh; cases hh)]; exact hh, r⟩
  obtain ⟨v', w', hr, ho, hg, hl⟩ := app_at wx B v n x hown a m c y hb ha hmax (Nat.le_trans h.lo hx.size)
  have hwb : wb < w.heap.size := h.cell.lt
  have hcell : w'.rowIs wb 129 1 (fun _ => v) := h.cell.of_block ((hg.block wb (Nat.lt_of_lt_of_le hwb hx.size) (fun e => h.ne e.symm)).trans (hx.block wb hwb))
  have hne' : v'.ownBlock ≠ some wb := by
    rcases hl with e | e
    · rw [e]; exact h.ne
    · rw [e]; intro e2
      have := hx.size
      cases e2; omega
  refine ⟨v', w', hr, ⟨(hcell.set 0 v').congr one_cell, ?_, hne', by rw [show (w'.setCell ⟨wb, 0, none⟩ v').heap.size = w'.heap.size by simp [World.setCell]]; exact Nat.le_trans h.lo (Nat.le_trans hx.size hg.size)⟩, ?_, hcell.cell (by decide), hcell.frozen 0⟩
  · refine ⟨ho.1, ?_⟩
    rcases ho.2 with h1 | ⟨g, cap, cur, e, hb, hh, r⟩
    · exact Or.inl h1
    · refine Or.inr ⟨g, cap, cur, e, hb, ?_, r⟩
      rw [Below.heap_setCell _ _ _ _ (by intro e2; apply hne'; rw [e, show g = wb from e2]; rfl)]; exact hh
  · refine ⟨hg.os.trans hx.os, hg.tape.trans hx.tape, hg.output.trans hx.output, ?_, fun k hk h1 h2 => ?_, ?_⟩
    · rw [show (w'.setCell ⟨wb, 0, none⟩ v').heap.size = w'.heap.size by simp [World.setCell]]; exact Nat.le_trans hx.size hg.size
    · rw [Below.heap_setCell _ _ _ _ h1, hg.block k (Nat.lt_of_lt_of_le hk hx.size) h2, hx.block k hk]
    · rcases hl with e | e
      · exact Or.inl e
      · exact Or.inr ⟨_, e, hx.size⟩

/-- Raw. -/
theorem raw_w (wb B : Nat) (v : Value) (n : Nat) (x : Nat → Nat) (a : Option Addr) (m c : Nat) (y : Nat → Nat) (w : World) (h : IsW w wb B v n x) (hb : Byt w a m y) (ha : a = none → m = 0 ∧ c = 0) (hmax : n + m ≤ 140737488355328) :
    Calls Tryz.prog 157 #[.pointer (some ⟨wb, 0, none⟩), .slice a m c] w fun e w' => e = .returned (.tuple #[]) ∧ ∃ v', IsW w' wb B v' (n + m) (cat x n y) ∧ Ext wb v v' w w' := by
  obtain ⟨v', w', hr, hI, hE, hc, hf⟩ := write_step h (World.Since.refl _ _) a m c y hb ha hmax
  obtain ⟨va, vc, rfl⟩ := own_form h.own
  obtain ⟨va', vc', rfl⟩ := own_form hI.own
  have H := hide hr
  have c0 := h.cell.cell (i := 0) (by decide)
  clear hr
  go_enter Tryz.func157, Tryz.ntmps157
  go_wp2_with (at_builtin; refine wpList_append_eq rfl _ _ 32 rfl _ _ _ (by rfl) (by rfl) (unhide H) ?_)
  go_end0
  exact ⟨rfl, _, hI, hE⟩

/-- A number of up to eight bytes: its byte i of so many, the highest first. -/
def fixByte (width N i : Nat) : Nat := N / 256 ^ (width - 1 - i) % 256
theorem fixByte_lt (width N i : Nat) : fixByte width N i < 256 := Nat.mod_lt _ (by decide)

/-- Var: the byte i of so many, the lowest first. -/
def varLen : Nat → Nat → Nat
  | 0, _ => 1
  | f + 1, N => if N < 128 then 1 else varLen f (N / 128) + 1
def varByte : Nat → Nat → Nat → Nat
  | 0, N, _ => N % 256
  | f + 1, N, i => if N < 128 then N else (match i with | 0 => N % 128 + 128 | i + 1 => varByte f (N / 128) i)

set_option maxHeartbeats 800000 in
theorem new_w (w : World) : Calls Tryz.prog 35 #[] w fun e w' => e = .returned (.pointer (some ⟨w.heap.size, 0, none⟩)) ∧ w.Since w.heap.size w' ∧ w'.heap.size = w.heap.size + 1 ∧ ∀ x, IsW w' w.heap.size w'.heap.size (.slice none 0 0) 0 x := by
  go_enter Tryz.func35, Tryz.ntmps35
  go_wp2
  go_ret
  refine ⟨rfl, (World.Since.refl _ _).alloc (Nat.le_refl _) _, by simp, fun x => ⟨World.rowIs_alloc w #[.slice none 0 0] 129 _ (fun i hi => ?_), own_nil _ _ _, by simp [Value.ownBlock], Nat.le_refl _⟩⟩
  match i, hi with
  | 0, _ => rfl
theorem own_byt' {w : World} {B : Nat} {v : Value} {n : Nat} {y : Nat → Nat} (h : Own w B v n y) : ∃ a c, v = .slice a n c ∧ Byt w a n y ∧ (a = none → n = 0 ∧ c = 0) := by
  rcases Nat.eq_zero_or_pos n with rfl | hp
  · rcases h.2 with ⟨rfl, _⟩ | ⟨g, cap, cur, rfl, hb, _⟩
    · exact ⟨none, 0, rfl, fun j hj => absurd hj (Nat.not_lt_zero _), fun _ => ⟨rfl, rfl⟩⟩
    · exact ⟨_, cap, rfl, fun j hj => absurd hj (Nat.not_lt_zero _), (fun e => by cases e)⟩
  · obtain ⟨g, cap, f, rfl, hg, hc, hrow, hf⟩ := own_row h hp
    exact ⟨_, cap, rfl, fun j hj => ⟨g, 0, rfl, by rw [Nat.zero_add, hrow.cell (by omega), hf j hj]⟩, (fun e => by cases e)⟩
theorem out_w (wb B : Nat) (v : Value) (n : Nat) (x : Nat → Nat) (w : World) (h : IsW w wb B v n x) (hmax : n ≤ 281474976710656) : Calls Tryz.prog 39 #[.pointer (some ⟨wb, 0, none⟩)] w fun e w' => e = .returned (.slice (some ⟨w.heap.size, 0, none⟩) n n) ∧ w.Since w.heap.size w' ∧ w'.heap.size = w.heap.size + 1 ∧ w'.rowIs w.heap.size 5 n (fun j => .int .u8 (x j : Nat)) := by
  obtain ⟨va, vc, rfl, hb, _⟩ := own_byt' h.own
  have c0 := h.cell.cell (i := 0) (by decide)
  go_enter Tryz.func39, Tryz.ntmps39
  go_wp2_with fail
  refine (copied_any va n vc x w hmax hb).mono ?_
  rintro e w1 ⟨rfl, h1, h2, h3⟩
  go_wp2
  go_ret
  exact ⟨rfl, h1, h2, h3⟩
end Go.Proofs.YtonpmabdjngdcaaGreatDoor

/- The walks of a Writer's Var, Bytes, fixed, U8, U32, U64: what it holds told as a list. -/
namespace Go.Proofs.YtonpmabdjngdcaaGreatDoor
open Go.RowKit

theorem own_congr {w : World} {B : Nat} {v : Value} {n : Nat} {x y : Nat → Nat} (h : Own w B v n x) (e : ∀ j, j < n → x j = y j) : Own w B v n y := by
  have e2 : cellsOf n x = cellsOf n y := List.map_congr_left (fun j hj => by rw [e j (List.mem_range.1 hj)])
  show w.ownsRow B 5 1 v n (cellsOf n y)
  rw [← e2]; exact h
/-- A Writer that holds this list of bytes. -/
def IsL (w : World) (wb B : Nat) (v : Value) (l : List Nat) : Prop := IsW w wb B v l.length (fun j => l.getD j 0)
theorem isL_add {w : World} {wb B : Nat} {v : Value} {l r : List Nat} {n : Nat} {y : Nat → Nat} (h : IsW w wb B v (l.length + n) (cat (fun j => l.getD j 0) l.length y)) (hr : r.length = n) (e : ∀ j, j < n → y j = r.getD j 0) : IsL w wb B v (l ++ r) := by
  subst hr
  refine ⟨h.cell, ?_, h.ne, h.lo⟩
  rw [List.length_append]
  refine own_congr h.own (fun j hj => ?_)
  unfold cat
  by_cases h1 : j < l.length
  · rw [if_pos h1]
    show l.getD j 0 = (l ++ r).getD j 0
    rw [List.getD_eq_getElem?_getD, List.getD_eq_getElem?_getD, List.getElem?_append_left h1]
  · rw [if_neg h1, e _ (by omega), List.getD_eq_getElem?_getD, List.getD_eq_getElem?_getD, List.getElem?_append_right (by omega)]

theorem raw_l (wb B : Nat) (v : Value) (l : List Nat) (a : Option Addr) (m c : Nat) (y : Nat → Nat) (w : World) (h : IsL w wb B v l) (hb : Byt w a m y) (ha : a = none → m = 0 ∧ c = 0) (hmax : l.length + m ≤ 140737488355328) :
    Calls Tryz.prog 157 #[.pointer (some ⟨wb, 0, none⟩), .slice a m c] w fun e w' => e = .returned (.tuple #[]) ∧ ∃ v', IsL w' wb B v' (l ++ (List.range m).map y) ∧ Ext wb v v' w w' :=
  (raw_w wb B v l.length _ a m c y w h hb ha hmax).mono fun _ _ ⟨he, v', h1, h2⟩ => ⟨he, v', isL_add h1 (by simp) (fun j hj => (getD_range_map y m j hj).symm), h2⟩

/-- A number in its shortest form. -/
def vl : Nat → Nat → List Nat
  | 0, N => [N % 256]
  | f + 1, N => if N < 128 then [N] else (N % 128 + 128) :: vl f (N / 128)
theorem vl_len : ∀ f N, (vl f N).length ≤ f + 1
  | 0, _ => Nat.le_refl _
  | f + 1, N => by
    unfold vl
    split
    · simp
    · have := vl_len f (N / 128); simp; omega
theorem vl_lt : ∀ f N, ∀ c, c ∈ vl f N → c < 256
  | 0, N, c, h => by
    have : c = N % 256 := by simpa [vl] using h
    omega
  | f + 1, N, c, h => by
    unfold vl at h
    split at h
    · have : c = N := by simpa using h
      omega
    · rcases List.mem_cons.1 h with e | e
      · omega
      · exact vl_lt f (N / 128) c e

theorem mask127 (N : Nat) (h : N < 18446744073709551616) : bits .and .u64 (N : Int) 127 = ((N % 128 : Nat) : Int) := by
  have := u64_and_nat N 127 h (by decide); rw [nat_mask7] at this; exact this
theorem or128 (c : Nat) (h : c < 128) : bits .or .u8 (c : Int) 128 = ((c + 128 : Nat) : Int) := by
  have h1 := u8_or_nat c 128 (by omega) (by decide)
  have h2 : c ||| 128 = c + 128 := by
    have := nat_join 7 128 c (by decide) h
    rw [Nat.or_comm]; omega
  rw [h2] at h1; exact h1

set_option maxHeartbeats 1600000 in
set_option maxRecDepth 100000 in
theorem var_l (wb B : Nat) (v : Value) (l : List Nat) (N : Nat) (w : World) (h : IsL w wb B v l) (hN : N < 18446744073709551616) (hmax : l.length + 10 ≤ 140737488355328) :
    Calls Tryz.prog 116 #[.pointer (some ⟨wb, 0, none⟩), .int .u64 N] w fun e w' => e = .returned (.tuple #[]) ∧ ∃ v', IsL w' wb B v' (l ++ vl 9 N) ∧ Ext wb v v' w w' := by
  go_enter Tryz.func116, Tryz.ntmps116
  go_wp2_with fail
  go_loopg [1] 9 (fun f s1 wx => ∃ (M : Nat) (r : List Nat) (v1 : Value), s1 = .int .u64 M ∧ M < 128 ^ (f + 1) ∧ M < 18446744073709551616 ∧ r ++ vl f M = vl 9 N ∧ r.length + f = 9 ∧ IsL wx wb B v1 (l ++ r) ∧ Ext wb v v1 w wx)
  case atStart => exact ⟨N, [], v, rfl, Nat.lt_of_lt_of_le hN (by decide), hN, rfl, rfl, by simpa using h, Ext.refl _ _ _⟩
  case round =>
    obtain ⟨M, r, v1, rfl, hM, hM64, hr, hrf, hI, hE⟩ := hrel
    obtain ⟨n1, hn1⟩ : ∃ n1, (l ++ r).length = n1 := ⟨_, rfl⟩
    have hlen : n1 ≤ l.length + 9 := by rw [← hn1, List.length_append]; omega
    have hW : IsW wr wb B v1 n1 (fun j => (l ++ r).getD j 0) := by rw [← hn1]; exact hI
    have hadd : ∀ (W : World) (v2 : Value) (c : Nat), IsW W wb B v2 (n1 + 1) (cat (fun j => (l ++ r).getD j 0) n1 (fun _ => c)) → IsL W wb B v2 (l ++ (r ++ [c])) := fun W v2 c hh => by
      rw [← List.append_assoc]
      subst hn1
      exact isL_add hh rfl (fun j hj => by
        have e : j = 0 := by omega
        subst e; rfl)
    obtain ⟨va, vc, rfl⟩ := own_form hW.own
    have c0 := hW.cell.cell (i := 0) (by decide)
    clear hI hn1
    by_cases hbig : 127 < M
    · cases gk with
      | zero => exact absurd hM (by simp; omega)
      | succ f =>
        have hr3 : (r ++ [M % 128 + 128]) ++ vl f (M / 128) = vl 9 N := by
          rw [← hr, List.append_assoc]
          show r ++ (M % 128 + 128) :: vl f (M / 128) = r ++ vl (f + 1) M
          rw [show vl (f + 1) M = (M % 128 + 128) :: vl f (M / 128) by rw [vl, if_neg (by omega)]]
        have hM3 : M / 128 < 128 ^ (f + 1) := by rw [Nat.pow_succ] at hM; omega
        have hma : bits .and .u64 (M : Int) 127 = (M : Int) % 128 := by have := mask127 M hM64; rw [this]; omega
        have hor : bits .or .u8 ((M : Int) % 128) 128 = ((M % 128 + 128 : Nat) : Int) := by have := or128 (M % 128) (by omega); rw [← this]; congr 1
        have hC : M % 128 + 128 < 256 := by omega
        generalize M % 128 + 128 = C at *
        have hs1 : wr.Since wr.heap.size (wr.alloc (.cells #[.int .u8 (C : Nat)] 5)) := (World.Since.refl _ _).alloc (Nat.le_refl _) _
        have hb1 : Byt (wr.alloc (.cells #[.int .u8 (C : Nat)] 5)) (some ⟨wr.heap.size, 0, none⟩) 1 (fun _ => C) := fun j hj => ⟨wr.heap.size, 0, rfl, by
          have e : j = 0 := by omega
          subst e; simp⟩
        obtain ⟨v', w', hrun, hI2, hE2, hc2, hf2⟩ := write_step hW hs1 (some ⟨wr.heap.size, 0, none⟩) 1 1 _ hb1 (fun e => by cases e) (by omega)
        obtain ⟨va', vc', rfl⟩ := own_form hI2.own
        have hI3 := hadd _ _ _ hI2
        have hE3 := hE.trans hE2
        have H := hide hrun
        have HM := hide hM3
        have HR := hide hr3
        clear hrun hI2 hE2 hb1 hs1 hW hE hr hM hM3 hr3 hadd
        go_wp2_with (at_builtin; refine wpList_append_eq rfl _ _ 32 rfl _ _ _ (by rfl) (by rfl) (unhide H) ?_)
        go_roundg f
        case measure => go_light; omega
        case rel => go_light; exact ⟨M / 128, r ++ [C], _, by go_num, unhide HM, by omega, unhide HR, by rw [List.length_append]; simp; omega, hI3, hE3⟩
    · have hv9 : vl gk M = [M] := by
        cases gk with
        | zero => show [M % 256] = [M]; rw [Nat.mod_eq_of_lt (by omega)]
        | succ f => rw [vl, if_pos (by omega)]
      have hr3 : r ++ [M] = vl 9 N := by rw [← hr, hv9]
      have hs1 : wr.Since wr.heap.size (wr.alloc (.cells #[.int .u8 (M : Nat)] 5)) := (World.Since.refl _ _).alloc (Nat.le_refl _) _
      have hb1 : Byt (wr.alloc (.cells #[.int .u8 (M : Nat)] 5)) (some ⟨wr.heap.size, 0, none⟩) 1 (fun _ => M) := fun j hj => ⟨wr.heap.size, 0, rfl, by
        have e : j = 0 := by omega
        subst e; simp⟩
      obtain ⟨v', w', hrun, hI2, hE2, hc2, hf2⟩ := write_step hW hs1 (some ⟨wr.heap.size, 0, none⟩) 1 1 _ hb1 (fun e => by cases e) (by omega)
      obtain ⟨va', vc', rfl⟩ := own_form hI2.own
      have hI3 := hadd _ _ _ hI2
      rw [hr3] at hI3
      have hE3 := hE.trans hE2
      have H := hide hrun
      clear hrun hI2 hE2 hb1 hs1 hW hE hr hM hr3 hadd hv9
      go_wp2_with (at_builtin; refine wpList_append_eq rfl _ _ 32 rfl _ _ _ (by rfl) (by rfl) (unhide H) ?_)
      go_end0
      exact ⟨rfl, _, hI3, hE3⟩
/-- Bytes: the length, the bytes. -/
theorem bytes_l (wb B : Nat) (v : Value) (l : List Nat) (a : Option Addr) (m c : Nat) (y : Nat → Nat) (w : World) (h : IsL w wb B v l) (hb : Byt w a m y) (ha : a = none → m = 0 ∧ c = 0) (hmax : l.length + 10 + m ≤ 140737488355328) (hne : ∀ b off, a = some ⟨b, off, none⟩ → b ≠ wb ∧ some b ≠ v.ownBlock) :
    Calls Tryz.prog 128 #[.pointer (some ⟨wb, 0, none⟩), .slice a m c] w fun e w' => e = .returned (.tuple #[]) ∧ ∃ v', IsL w' wb B v' (l ++ vl 9 m ++ (List.range m).map y) ∧ Ext wb v v' w w' := by
  go_enter Tryz.func128, Tryz.ntmps128
  go_wp2_with fail
  refine (var_l wb B v l m w h (by omega) (by omega)).mono ?_
  rintro e w1 ⟨rfl, v1, h1, hE1⟩
  have hb1 : Byt w1 a m y := fun j hj => by
    obtain ⟨b, off, e, hc⟩ := hb j hj
    have hn := hne b off e
    exact ⟨b, off, e, by rw [World.cell?_of_block (w := w) (hE1.block b (World.block_lt_of_cell? _ _ hc) hn.1 hn.2)]; exact hc⟩
  have hl := vl_len 9 m
  go_wp2_with fail
  refine (raw_l wb B v1 (l ++ vl 9 m) a m c y w1 h1 hb1 ha (by rw [List.length_append]; omega)).mono ?_
  rintro e w2 ⟨rfl, v2, h2, hE2⟩
  go_wp2_with fail
  go_end0
  exact ⟨rfl, v2, h2, hE1.trans hE2⟩

/-- A number in so many bytes, the highest first. -/
def fl (width N : Nat) : List Nat := (List.range width).map fun i => N / 256 ^ (width - 1 - i) % 256
/-- append in a region that draws, by its run. -/
theorem step_append_eq {P : Program} {w w' : World} {ops : Array Oper} {o : Oper} {a : Act} {K : Act → World → Prop} {Q : Exit → Act → World → Prop} {E : Prop} (hgd : o.guard = none) (s x : Operand) (t : TypeId)
    (ho : o.op = .call { callee := .builtin .append, args := #[s, x], argTypes := #[t, t] }) (v u v' : Value) (hs : a.eval s = v) (hx : a.eval x = u)
    (hrun : (Builtin.append_ #[t, t] o.type #[v, u]).run P w = .ok v' w') (h : K (a.put o.dst v') w') : if Region.wanted o (yielded ops a.tmps) = true then Oper.wp P o a w K Q else E := by
  have hw : Region.wanted o (yielded ops a.tmps) = true := by simp [Region.wanted, hgd]
  rw [if_pos hw]
  unfold Oper.wp
  simp [execOp, ho, resolve, invoke, builtin, hs, hx, hrun, Result.andThen]
  exact h

set_option maxHeartbeats 1600000 in
set_option maxRecDepth 100000 in
theorem fixed_l (wb B : Nat) (v : Value) (l : List Nat) (k N : Nat) (w : World) (h : IsL w wb B v l) (hk : k ≤ 2) (hw : Wid w) (hmax : l.length + 8 ≤ 140737488355328) :
    Calls Tryz.prog 83 #[.pointer (some ⟨wb, 0, none⟩), .int .i64 k, .int .u64 N] w fun e w' => e = .returned (.tuple #[]) ∧ ∃ v', IsL w' wb B v' (l ++ fl (widthOf k) N) ∧ Ext wb v v' w w' := by
  have hck := hw.at k hk
  have hw8 := widthOf_le k
  have kz : (k : Int) < 3 := by omega
  generalize widthOf k = width at *
  go_enter Tryz.func83, Tryz.ntmps83
  go_wp2_with fail
  go_loopg [12] width (fun q s12 wx => ∃ (i : Nat) (v1 : Value), i ≤ width ∧ q = width - i ∧ s12 = .int .i64 i ∧ IsL wx wb B v1 (l ++ (fl width N).take i) ∧ Ext wb v v1 w wx)
  case atStart => exact ⟨0, v, Nat.zero_le _, rfl, rfl, by simpa using h, Ext.refl _ _ _⟩
  case round =>
    obtain ⟨i, v1, hi, rfl, rfl, hI, hE⟩ := hrel
    have hfl : (fl width N).length = width := by simp [fl]
    by_cases hlt : i < width
    · have htk : (fl width N).take (i + 1) = (fl width N).take i ++ [N / 256 ^ (width - 1 - i) % 256] := by
        rw [List.take_succ_eq_append_getElem (by omega)]; simp [fl]
      obtain ⟨n1, hn1⟩ : ∃ n1, (l ++ (fl width N).take i).length = n1 := ⟨_, rfl⟩
      have hlen : n1 ≤ l.length + 8 := by rw [← hn1, List.length_append, List.length_take]; omega
      have hlen2 : n1 + 1 ≤ 140737488355328 := by rw [← hn1, List.length_append, List.length_take]; omega
      have hW : IsW wr wb B v1 n1 (fun j => (l ++ (fl width N).take i).getD j 0) := by rw [← hn1]; exact hI
      have hadd : ∀ (W : World) (v2 : Value) (c : Nat), IsW W wb B v2 (n1 + 1) (cat (fun j => (l ++ (fl width N).take i).getD j 0) n1 (fun _ => c)) → IsL W wb B v2 (l ++ ((fl width N).take i ++ [c])) := fun W v2 c hh => by
        rw [← List.append_assoc]
        subst hn1
        exact isL_add hh rfl (fun j hj => by
          have e : j = 0 := by omega
          subst e; rfl)
      obtain ⟨va, vc, rfl⟩ := own_form hW.own
      have c0 := hW.cell.cell (i := 0) (by decide)
      clear hI hn1
      obtain ⟨p, hp⟩ : ∃ p : Nat, p = width - 1 := ⟨_, rfl⟩
      obtain ⟨q, hq⟩ : ∃ q : Nat, q = width - 1 - i := ⟨_, rfl⟩
      obtain ⟨sh, hsh⟩ : ∃ sh : Nat, sh = 8 * q := ⟨_, rfl⟩
      obtain ⟨D, hD⟩ : ∃ D : Nat, D = N / 2 ^ sh := ⟨_, rfl⟩
      obtain ⟨C, hC⟩ : ∃ C : Nat, C = D % 256 := ⟨_, rfl⟩
      have u1 : IntKind.i64.wrap ((width : Int) - 1) = (p : Int) := by rw [IntKind.wrap_i64]; omega
      have u2 : IntKind.i64.wrap ((p : Int) - (i : Int)) = (q : Int) := by rw [IntKind.wrap_i64]; omega
      have u3 : IntKind.i64.wrap (8 * (q : Int)) = (sh : Int) := by rw [IntKind.wrap_i64]; omega
      have u4 : (N : Int) / 2 ^ min sh 64 = (D : Int) := by rw [Nat.min_eq_left (by omega), hD]; simp
      have u5 : IntKind.u8.wrap (D : Int) = (C : Int) := by rw [IntKind.wrap_u8']; omega
      have hCe : N / 256 ^ (width - 1 - i) % 256 = C := by
        rw [hC, hD, hsh, ← hq, Nat.pow_mul]
      rw [hCe] at htk
      have hClt : C < 256 := by omega
      clear hp hq hsh hD hC hCe
      have hs1 : wr.Since wr.heap.size (wr.alloc (.cells #[.int .u8 (C : Nat)] 5)).drew := ((World.Since.refl _ _).alloc (Nat.le_refl _) _).drew
      have hb1 : Byt (wr.alloc (.cells #[.int .u8 (C : Nat)] 5)).drew (some ⟨wr.heap.size, 0, none⟩) 1 (fun _ => C) := fun j hj => ⟨wr.heap.size, 0, rfl, by
        have e : j = 0 := by omega
        subst e
        show (wr.alloc _).cell? _ = _
        simp⟩
      have hwlt : wb < wr.heap.size := hW.cell.lt
      obtain ⟨v', w', hrun, hI2, hE2, hc2, hf2⟩ := write_step hW hs1 (some ⟨wr.heap.size, 0, none⟩) 1 1 _ hb1 (fun e => by cases e) (by omega)
      obtain ⟨va', vc', rfl⟩ := own_form hI2.own
      have hI3 := hadd _ _ _ hI2
      rw [← htk] at hI3
      have hE3 := hE.trans hE2
      have H := hide hrun
      have n0 := World.new_ne wr _ c0
      clear hrun hI2 hE2 hb1 hs1 hW hE hadd htk
      go_wp2_with fail
      go_region_law (refine step_append_eq (by rfl) (.tmp 19) (.tmp 28) 32 (by rfl) _ _ _ (by rfl) (by rfl) (unhide H) ?_)
      all_goals
        go_wp2_with fail
        go_roundg (width - (i + 1))
        case measure => go_light; omega
        case rel => go_light; exact ⟨i + 1, _, by omega, rfl, by simp, hI3, hE3⟩
    · obtain rfl : i = width := by omega
      have hfin : IsL wr wb B v1 (l ++ fl i N) := by rw [List.take_of_length_le (by omega)] at hI; exact hI
      clear hI
      go_wp2_with fail
      go_end0
      exact ⟨rfl, v1, hfin, hE⟩

theorem u8_l (wb B : Nat) (v : Value) (l : List Nat) (N : Nat) (w : World) (h : IsL w wb B v l) (hw : Wid w) (_hN : N < 256) (hmax : l.length + 8 ≤ 140737488355328) :
    Calls Tryz.prog 82 #[.pointer (some ⟨wb, 0, none⟩), .int .u8 N] w fun e w' => e = .returned (.tuple #[]) ∧ ∃ v', IsL w' wb B v' (l ++ fl 1 N) ∧ Ext wb v v' w w' := by
  have hf := fixed_l wb B v l 0 N w h (by decide) hw hmax
  go_enter Tryz.func82, Tryz.ntmps82
  go_wp2_with fail
  refine hf.mono ?_
  rintro e w1 ⟨rfl, v1, h1, hE1⟩
  go_wp2_with fail
  go_end0
  exact ⟨rfl, v1, h1, hE1⟩
theorem u32_l (wb B : Nat) (v : Value) (l : List Nat) (N : Nat) (w : World) (h : IsL w wb B v l) (hw : Wid w) (_hN : N < 4294967296) (hmax : l.length + 8 ≤ 140737488355328) :
    Calls Tryz.prog 37 #[.pointer (some ⟨wb, 0, none⟩), .int .u32 N] w fun e w' => e = .returned (.tuple #[]) ∧ ∃ v', IsL w' wb B v' (l ++ fl 4 N) ∧ Ext wb v v' w w' := by
  have hf := fixed_l wb B v l 1 N w h (by decide) hw hmax
  go_enter Tryz.func37, Tryz.ntmps37
  go_wp2_with fail
  refine hf.mono ?_
  rintro e w1 ⟨rfl, v1, h1, hE1⟩
  go_wp2_with fail
  go_end0
  exact ⟨rfl, v1, h1, hE1⟩
end Go.Proofs.YtonpmabdjngdcaaGreatDoor

/- The walks of tallylaw1's Into and Other. -/
namespace Go.Proofs.YtonpmabdjngdcaaGreatDoor
open Go.RowKit

/-- k bytes have been laid over the list. -/
structure Over (w wr : World) (g cap : Nat) (f : Nat → Value) (y : Nat → Nat) (k : Nat) : Prop where
  but : But g w wr
  row : wr.rowIs g 5 cap (fun j => if j < k then .int .u8 (y j : Nat) else f j)
theorem over_step {w wr : World} {g cap : Nat} {f : Nat → Value} {y : Nat → Nat} {k : Nat} (h : Over w wr g cap f y k) : Over w (wr.setCell ⟨g, k, none⟩ (.int .u8 (y k : Nat))) g cap f y (k + 1) :=
  ⟨h.but.setCell k _, (h.row.set k _).congr (fun j _ => by
    by_cases e : j = k
    · subst e; rw [if_pos rfl, if_pos (by omega)]
    · rw [if_neg e]
      by_cases h2 : j < k
      · rw [if_pos h2, if_pos (by omega)]
      · rw [if_neg h2, if_neg (by omega)])⟩

set_option maxHeartbeats 800000 in
/-- Into: the list holds these bytes now. -/
theorem into_any (g len cap : Nat) (f : Nat → Value) (a : Option Addr) (m c : Nat) (y : Nat → Nat) (w : World) (hrow : w.rowIs g 5 cap f) (hlc : len ≤ cap) (hmax : len ≤ 140737488351232) (hm : len ≤ m) (hb : Byt w a m y) (hne : ∀ b off, a = some ⟨b, off, none⟩ → b ≠ g) :
    Calls Tryz.prog 24 #[.slice (some ⟨g, 0, none⟩) len cap, .slice a m c] w fun e w' => e = .returned (.tuple #[]) ∧ Over w w' g cap f y len := by
  have hO0 : Over w w g cap f y 0 := ⟨But.of_since (World.Since.refl _ _), hrow.congr (fun j _ => by simp)⟩
  go_enter Tryz.func24, Tryz.ntmps24
  go_wp2
  go_loopg [4] len (fun q s4 wx => ∃ k : Nat, k ≤ len ∧ q = len - k ∧ s4 = .int .i64 k ∧ Over w wx g cap f y k)
  case atStart => exact ⟨0, Nat.zero_le _, rfl, rfl, hO0⟩
  case round =>
    obtain ⟨k, hk, rfl, rfl, hO⟩ := hrel
    clear hO0
    by_cases hlt : k < len
    · obtain ⟨b, off, rfl, hc⟩ := hb k (by omega)
      have hbg := hne b off rfl
      have hblt : b < w.heap.size := World.block_lt_of_cell? _ _ hc
      have t0 : wr.cell? ⟨b, off + k, none⟩ = some (.int .u8 (y k : Nat)) := by rw [World.cell?_of_block (w := w) (hO.but.block b hblt hbg)]; exact hc
      have t1 : wr.cell? ⟨g, k, none⟩ = some (f k) := by rw [hO.row.cell (by omega), if_neg (by omega)]
      have t2 := hO.row.frozen k
      have hst := over_step hO
      have kz : (k : Int) < (len : Int) := by omega
      have kz2 : (k : Int) < (m : Int) := by omega
      clear hc hO
      go_wp2_with fail
      go_roundg (len - (k + 1))
      case measure => go_light; omega
      case rel => go_light; exact ⟨k + 1, by omega, rfl, by simp, hst⟩
    · obtain rfl : k = len := by omega
      go_wp2_with fail
      go_end0
      exact ⟨rfl, hO⟩

theorem own_of_row {w : World} {B g n cap : Nat} {f : Nat → Value} {y : Nat → Nat} (h : w.rowIs g 5 cap f) (hB : B ≤ g) (hn : n ≤ cap) (hm : cap ≤ maxLen) (hf : ∀ j, j < n → f j = .int .u8 (y j : Nat)) : Own w B (.slice (some ⟨g, 0, none⟩) n cap) n y := by
  obtain ⟨c, hh, hs, hc⟩ := h
  refine ⟨by rw [length_cellsOf, Nat.mul_one], Or.inr ⟨g, cap, c, rfl, hB, hh, hn, hm, by rw [hs, Nat.mul_one], ?_⟩⟩
  rw [Nat.mul_one]
  apply List.ext_getElem?
  intro j
  rcases Nat.lt_or_ge j n with hj | hj
  · rw [List.getElem?_take_of_lt hj, get_cellsOf hj, Array.getElem?_toList, hc j (by omega), hf j hj]
  · rw [List.getElem?_eq_none (by rw [List.length_take]; omega), List.getElem?_eq_none (by rw [length_cellsOf]; exact hj)]
theorem byt_one (w : World) (c : Nat) : Byt (w.alloc (.cells #[.int .u8 (c : Nat)] 5)) (some ⟨w.heap.size, 0, none⟩) 1 (fun _ => c) := fun j hj => by
  obtain rfl : j = 0 := by omega
  exact ⟨w.heap.size, 0, rfl, by simp⟩

/-- THE LOOP OF Other: so many bytes are gathered. -/
structure Gath (w wr : World) (v : Value) (n : Nat) (y : Nat → Nat) : Prop where
  since : w.Since w.heap.size wr
  own : Own wr w.heap.size v n y

set_option maxHeartbeats 1600000 in
set_option maxRecDepth 100000 in
/-- Other: other bytes, as many, in new memory. -/
theorem other_any (a : Option Addr) (len cap : Nat) (x : Nat → Nat) (w : World) (hmax : len ≤ 140737488351232) (hb : Byt w a len x) (hr : ∀ j, x j < 256) (ha : a = none → len = 0) :
    Calls Tryz.prog 23 #[.slice a len cap] w fun e w' => ∃ v y, e = .returned v ∧ w.Since w.heap.size w' ∧ Own w' w.heap.size v len y ∧ ∀ j, y j < 256 := by
  have hG0 : Gath w w (.slice none 0 0) 0 (fun j => x (len - 1 - j)) := ⟨World.Since.refl _ _, own_nil _ _ _⟩
  go_enter Tryz.func23, Tryz.ntmps23
  go_wp2_with fail
  go_loopg [3, 4] len (fun q s3 s4 wx => q ≤ len ∧ s4 = .int .i64 ((q : Int) - 1) ∧ ∃ v, v = s3 ∧ Gath w wx v (len - q) (fun j => x (len - 1 - j)))
  case atStart => exact ⟨Nat.le_refl _, rfl, _, rfl, by rw [Nat.sub_self]; exact hG0⟩
  case round =>
    obtain ⟨hk, rfl, v, rfl, hG⟩ := hrel
    clear hG0
    cases gk with
    | succ q =>
      rw [show (((q + 1 : Nat) : Int) - 1) = (q : Int) by omega]
      obtain ⟨b, off, rfl, hc⟩ := hb q (by omega)
      have t0 : wr.cell? ⟨b, off + q, none⟩ = some (.int .u8 (x q : Nat)) := by rw [hG.since.cell (a := ⟨b, off + q, none⟩) (World.block_lt_of_cell? _ _ hc)]; exact hc
      have hz := hG.since.size
      have hown1 : Own (wr.alloc (.cells #[.int .u8 (x q : Nat)] 5)) w.heap.size v (len - (q + 1)) (fun j => x (len - 1 - j)) := hG.own.alloc _
      have hb1 := byt_one wr (x q)
      obtain ⟨v2, w2, hr2, ho2, hg2⟩ := app_own _ w.heap.size v _ _ hown1 (some ⟨wr.heap.size, 0, none⟩) 1 1 _ hb1 (fun h => by cases h) (by omega) (by simp; omega)
      have hs2 := grown_since (hG.since.alloc hz (.cells #[.int .u8 (x q : Nat)] 5)) hg2 (by simp; omega) (own_block hown1)
      have hG2 : Gath w w2 v2 (len - q) (fun j => x (len - 1 - j)) := ⟨hs2, by
        rw [show len - (q + 1) + 1 = len - q by omega] at ho2
        have e : cellsOf (len - q) (cat (fun j => x (len - 1 - j)) (len - (q + 1)) (fun _ => x q)) = cellsOf (len - q) (fun j => x (len - 1 - j)) := by
          unfold cellsOf
          apply List.map_congr_left
          intro j hj
          have hj' := List.mem_range.1 hj
          unfold cat
          by_cases h1 : j < len - (q + 1)
          · rw [if_pos h1]
          · rw [if_neg h1]
            show Value.int .u8 ((x q : Nat) : Int) = .int .u8 ((x (len - 1 - j) : Nat) : Int)
            rw [show len - 1 - j = q by omega]
        show w2.ownsRow _ 5 1 v2 (len - q) _
        rw [← e]; exact ho2⟩
      have H2 := hide hr2
      have kz : (q : Int) < (len : Int) := by omega
      clear hr2 ho2 hg2 hown1 hb1 hG hc hs2
      go_wp2_with (at_builtin; refine wpList_append_eq rfl _ _ 32 rfl _ _ _ (by rfl) (by rfl) (unhide H2) ?_)
      go_roundg q
      case measure => go_light; omega
      case rel => go_light; exact ⟨by omega, rfl, v2, rfl, hG2⟩
    | zero =>
      rw [Nat.sub_zero] at hG
      rw [show (((0 : Nat) : Int) - 1) = -1 by decide]
      have hyl : ∀ j, x (len - 1 - j) < 256 := fun j => hr _
      rcases Nat.eq_zero_or_pos len with rfl | hp
      · have hfin : ∃ y, Own wr w.heap.size v 0 y ∧ ∀ j, y j < 256 := ⟨_, hG.own, hyl⟩
        have hs := hG.since
        clear hG
        go_wp2_with fail
        go_ret
        obtain ⟨y, h1, h2⟩ := hfin
        exact ⟨v, rfl, hs, y, h1, h2⟩
      · obtain ⟨g, cap', f, rfl, hg, hc', hrow, hf⟩ := own_row hG.own hp
        have hby : Byt wr (some ⟨g, 0, none⟩) len (fun j => x (len - 1 - j)) := fun j hj => ⟨g, 0, rfl, by rw [Nat.zero_add, hrow.cell (by omega), hf j hj]⟩
        have s1 := str_byt (some ⟨g, 0, none⟩) len cap' _ wr hby (fun e => by cases e)
        have s2 := str_byt a len cap x wr (hb.since hG.since) ha
        have hs := hG.since
        have hown := hG.own
        have hpz : (0 : Int) < (len : Int) := by omega
        generalize strOf len (fun j => x (len - 1 - j)) = S1 at *
        generalize strOf len x = S2 at *
        clear hG hby
        have hcm : cap' ≤ maxLen := by
          rcases hown.2 with ⟨h, _⟩ | ⟨g', c', cur, h, _, _, _, hm, _⟩
          · cases h
          · cases h; exact hm
        by_cases hS : (S1.toList == S2.toList) = true
        · have k0 : wr.cell? ⟨g, len - 1, none⟩ = some (.int .u8 (x 0 : Nat)) := by rw [hrow.cell (by omega), hf _ (by omega), show len - 1 - (len - 1) = 0 by omega]
          have k1 := hrow.frozen (len - 1)
          have hxr : bits .xor .u8 ((x 0 : Nat) : Int) 1 = ((x 0 ^^^ 1 : Nat) : Int) := u8_xor_nat (x 0) 1 (hr 0) (by decide)
          have hx0 : x 0 ^^^ 1 < 256 := Nat.xor_lt_two_pow (n := 8) (hr 0) (by decide)
          generalize x 0 ^^^ 1 = X at *
          have hown2 : Own (wr.setCell ⟨g, len - 1, none⟩ (.int .u8 (X : Nat))) w.heap.size (.slice (some ⟨g, 0, none⟩) len cap') len (fun j => if j = len - 1 then X else x (len - 1 - j)) :=
            own_of_row (hrow.set (len - 1) _) hg hc' hcm (fun j hj => by
              by_cases e : j = len - 1
              · rw [if_pos e, if_pos e]
              · rw [if_neg e, if_neg e]; exact hf j hj)
          have hs2 := hs.setCell (a := ⟨g, len - 1, none⟩) hg (.int .u8 (X : Nat))
          have hy2 : ∀ j, (if j = len - 1 then X else x (len - 1 - j)) < 256 := fun j => by
            split
            · exact hx0
            · exact hr _
          clear hown hrow hf
          go_wp2_with fail
          go_ret
          exact ⟨_, _, rfl, hs2, hown2, hy2⟩
        · have hS' : (S1.toList == S2.toList) = false := by simpa using hS
          clear hS
          go_wp2_with fail
          go_ret
          exact ⟨_, _, rfl, hs, hown, hyl⟩
end Go.Proofs.YtonpmabdjngdcaaGreatDoor

/- The walks of the reference's writes: fixed, U8, U32, U64, Var, Text, and of Cmp and Eq. -/
namespace Go.Proofs.YtonpmabdjngdcaaGreatDoor
open Go.RowKit

/-- A slice of the call's own that holds this list of bytes. -/
def OwnL (w : World) (B : Nat) (v : Value) (l : List Nat) : Prop := Own w B v l.length (fun j => l.getD j 0)
theorem own_since {w w' : World} {B : Nat} {v : Value} {n : Nat} {x : Nat → Nat} (h : Own w B v n x) (hx : w.Since w.heap.size w') : Own w' B v n x := by
  refine ⟨h.1, ?_⟩
  rcases h.2 with h1 | ⟨g, cap, cur, e, hb, hh, r⟩
  · exact Or.inl h1
  · exact Or.inr ⟨g, cap, cur, e, hb, by rw [hx.block g (by
      rcases Nat.lt_or_ge g w.heap.size with h | h
      · exact h
      · rw [Array.getElem?_eq_none h] at hh; cases hh)]; exact hh, r⟩
theorem own_lower {w : World} {B B' : Nat} {v : Value} {n : Nat} {x : Nat → Nat} (h : Own w B v n x) (hB : B' ≤ B) : Own w B' v n x := by
  refine ⟨h.1, ?_⟩
  rcases h.2 with h1 | ⟨g, cap, cur, e, hb, r⟩
  · exact Or.inl h1
  · exact Or.inr ⟨g, cap, cur, e, Nat.le_trans hB hb, r⟩
theorem own_byt {w : World} {B : Nat} {v : Value} {n : Nat} {x : Nat → Nat} (h : Own w B v n x) : ∃ a c, v = .slice a n c ∧ Byt w a n x ∧ (a = none → n = 0 ∧ c = 0) := by
  rcases Nat.eq_zero_or_pos n with rfl | hp
  · rcases h.2 with ⟨rfl, _⟩ | ⟨g, cap, cur, rfl, _⟩
    · exact ⟨none, 0, rfl, fun j hj => by omega, fun _ => ⟨rfl, rfl⟩⟩
    · exact ⟨_, cap, rfl, fun j hj => by omega, fun e => by cases e⟩
  · obtain ⟨g, cap, f, rfl, _, hc, hrow, hf⟩ := own_row h hp
    exact ⟨_, cap, rfl, fun j hj => ⟨g, 0, rfl, by rw [Nat.zero_add, hrow.cell (by omega), hf j hj]⟩, fun e => by cases e⟩
theorem ownL_add {w : World} {B : Nat} {v : Value} {l r : List Nat} {n : Nat} {y : Nat → Nat} (h : Own w B v (l.length + n) (cat (fun j => l.getD j 0) l.length y)) (hr : r.length = n) (e : ∀ j, j < n → y j = r.getD j 0) : OwnL w B v (l ++ r) := by
  subst hr
  show Own w B v (l ++ r).length _
  rw [List.length_append]
  refine own_congr h (fun j hj => ?_)
  unfold cat
  by_cases h1 : j < l.length
  · rw [if_pos h1]
    show l.getD j 0 = (l ++ r).getD j 0
    rw [List.getD_eq_getElem?_getD, List.getD_eq_getElem?_getD, List.getElem?_append_left h1]
  · rw [if_neg h1, e _ (by omega), List.getD_eq_getElem?_getD, List.getD_eq_getElem?_getD, List.getElem?_append_right (by omega)]
/-- append of bytes onto such a slice. -/
theorem app_l {w : World} {B : Nat} {v : Value} {l : List Nat} (h : OwnL w B v l) (a : Option Addr) (m c : Nat) (y : Nat → Nat) (hb : Byt w a m y) (ha : a = none → m = 0 ∧ c = 0) (hmax : l.length + m ≤ 140737488355328) (hB : B ≤ w.heap.size) :
    ∃ v' w', (Builtin.append_ #[32, 32] 32 #[v, .slice a m c]).run Tryz.prog w = .ok v' w' ∧ OwnL w' B v' (l ++ (List.range m).map y) ∧ w.grownBy w' v.ownBlock ∧ (v'.ownBlock = v.ownBlock ∨ v'.ownBlock = some w.heap.size) := by
  obtain ⟨v', w', hr, ho, hg, hl⟩ := app_at w B v _ _ h a m c y hb ha hmax hB
  exact ⟨v', w', hr, ownL_add ho (by simp) (fun j hj => (getD_range_map y m j hj).symm), hg, hl⟩
theorem range_getD (l : List Nat) : (List.range l.length).map (fun j => l.getD j 0) = l := by
  apply List.ext_getElem?
  intro j
  by_cases h : j < l.length
  · simp [h]
  · simp [h]
theorem app_ll {w : World} {B B2 : Nat} {v v2 : Value} {l r : List Nat} (h : OwnL w B v l) (h2 : OwnL w B2 v2 r) (hmax : l.length + r.length ≤ 140737488355328) (hB : B ≤ w.heap.size) :
    ∃ v' w', (Builtin.append_ #[32, 32] 32 #[v, v2]).run Tryz.prog w = .ok v' w' ∧ OwnL w' B v' (l ++ r) ∧ w.grownBy w' v.ownBlock ∧ (v'.ownBlock = v.ownBlock ∨ v'.ownBlock = some w.heap.size) := by
  obtain ⟨a, c, rfl, hb, ha⟩ := own_byt h2
  have := app_l h a _ c _ hb ha hmax hB
  rwa [range_getD] at this
theorem row_one (w : World) (c : Nat) : (w.alloc (.cells #[.int .u8 (c : Nat)] 5)).rowIs w.heap.size 5 1 (fun _ => .int .u8 (c : Nat)) :=
  ⟨#[.int .u8 (c : Nat)], by show (w.heap.push _)[w.heap.size]? = _; simp, rfl, fun i hi => by
    have e : i = 0 := by omega
    subst e; rfl⟩
theorem own_one (w : World) (c : Nat) : OwnL (w.alloc (.cells #[.int .u8 (c : Nat)] 5)) w.heap.size (.slice (some ⟨w.heap.size, 0, none⟩) 1 1) [c] :=
  own_of_row (row_one w c) (Nat.le_refl _) (Nat.le_refl _) (by unfold maxLen; omega) (fun j hj => by
    have e : j = 0 := by simp at hj; omega
    subst e; rfl)

/-- THE LOOP OF THE REFERENCE'S fixed: the bytes from q on are laid. -/
structure Fill (w wr : World) (W N q : Nat) : Prop where
  since : w.Since w.heap.size wr
  row : wr.rowIs w.heap.size 5 W (fun j => if q ≤ j then .int .u8 (N / 256 ^ (W - 1 - j) % 256 : Nat) else .int .u8 0)
theorem fill_step {w wr : World} {W N q : Nat} (h : Fill w wr W N (q + 1)) (C : Nat) (hC : C = N / 256 ^ (W - 1 - q) % 256) : Fill w (wr.setCell ⟨w.heap.size, q, none⟩ (.int .u8 (C : Nat))) W N q :=
  ⟨h.since.setCell (a := ⟨w.heap.size, q, none⟩) (Nat.le_refl _) _, (h.row.set q _).congr (fun j _ => by
    by_cases e : j = q
    · subst e; rw [if_pos rfl, if_pos (Nat.le_refl _), hC]
    · rw [if_neg e]
      by_cases h2 : q + 1 ≤ j
      · rw [if_pos h2, if_pos (by omega)]
      · rw [if_neg h2, if_neg (by omega)])⟩

set_option maxHeartbeats 800000 in
theorem reffixed (N W : Nat) (w : World) (hN : N < 18446744073709551616) (hW : W ≤ 8) :
    Calls Tryz.prog 108 #[.int .u64 N, .int .i64 W] w fun e w' => ∃ v, e = .returned v ∧ w.Since w.heap.size w' ∧ OwnL w' w.heap.size v (fl W N) := by
  have hmk := run_make_row' (P := Tryz.prog) 32 5 (.int .u8 0) 1 Tryz.underlying32 Tryz.info5 rfl .i64 .i64 W (by omega) (by omega) w
  have hF0 : Fill w (w.alloc (.cells (madeCells #[.int .u8 0] W) 5)) W N W := ⟨(World.Since.refl _ _).alloc (Nat.le_refl _) _, (World.rowIs_made w (.int .u8 0) W 5).congr (fun j hj => by rw [if_neg (by omega)])⟩
  generalize w.alloc (.cells (madeCells #[.int .u8 0] W) 5) = W0 at *
  go_enter Tryz.func108, Tryz.ntmps108
  go_wp2_with fail
  go_loopg [0, 6] W (fun q s0 s6 wx => q ≤ W ∧ s6 = .int .i64 ((q : Int) - 1) ∧ ∃ D : Nat, s0 = .int .u64 D ∧ D < 18446744073709551616 ∧ D = N / 256 ^ (W - q) ∧ Fill w wx W N q)
  case atStart => exact ⟨Nat.le_refl _, by go_num, N, rfl, hN, by simp, hF0⟩
  case round =>
    obtain ⟨hq, rfl, D, rfl, hD, hDe, hF⟩ := hrel
    clear hF0 hmk
    cases gk with
    | succ q =>
      rw [show (((q + 1 : Nat) : Int) - 1) = (q : Int) by omega]
      obtain ⟨C, hC⟩ : ∃ C : Nat, C = D % 256 := ⟨_, rfl⟩
      obtain ⟨E, hE⟩ : ∃ E : Nat, E = D / 256 := ⟨_, rfl⟩
      have hst := fill_step hF C (by rw [hC, hDe, show W - (q + 1) = W - 1 - q by omega])
      have hE2 : E = N / 256 ^ (W - q) := by
        rw [hE, hDe, show W - q = W - (q + 1) + 1 by omega, Nat.pow_succ, Nat.div_div_eq_div_mul]
      have u1 : (D : Int) % 256 = (C : Int) := by omega
      have u2 : (D : Int) / 256 = (E : Int) := by omega
      have hClt : C < 256 := by omega
      have hElt : E < 18446744073709551616 := by omega
      have t1 : wr.cell? ⟨w.heap.size, q, none⟩ = some (.int .u8 0) := by rw [hF.row.cell (by omega), if_neg (by omega)]
      have t2 := hF.row.frozen q
      have kz : (q : Int) < (W : Int) := by omega
      have HE := hide hE2
      clear hC hE hE2 hDe hF
      go_wp2_with fail
      go_roundg q
      case measure => go_light; omega
      case rel => go_light; exact ⟨by omega, by go_num, E, rfl, hElt, unhide HE, hst⟩
    | zero =>
      rw [show (((0 : Nat) : Int) - 1) = -1 by decide]
      have hlen : (fl W N).length = W := by simp [fl]
      have hfin : OwnL wr w.heap.size (.slice (some ⟨w.heap.size, 0, none⟩) W W) (fl W N) := by
        show Own _ _ _ (fl W N).length _
        rw [hlen]
        exact own_of_row hF.row (Nat.le_refl _) (Nat.le_refl _) (by unfold maxLen; omega) (fun j hj => by
          rw [if_pos (Nat.zero_le _)]; unfold fl; rw [getD_range_map _ _ _ hj])
      have hs := hF.since
      clear hF hDe
      go_wp2_with fail
      go_ret
      exact ⟨_, rfl, hs, hfin⟩
theorem refu32 (N : Nat) (w : World) (hN : N < 4294967296) : Calls Tryz.prog 51 #[.int .u32 N] w fun e w' => ∃ v, e = .returned v ∧ w.Since w.heap.size w' ∧ OwnL w' w.heap.size v (fl 4 N) := by
  have hf := reffixed N 4 w (by omega) (by decide)
  go_enter Tryz.func51, Tryz.ntmps51
  go_wp2_with fail
  refine hf.mono ?_
  rintro e w1 ⟨v, rfl, h1, h2⟩
  go_wp2_with fail
  go_ret
  exact ⟨_, rfl, h1, h2⟩
set_option maxHeartbeats 800000 in
set_option maxRecDepth 100000 in
theorem refvar : ∀ (f N : Nat) (w : World), N < 128 ^ (f + 1) → N < 18446744073709551616 → f ≤ 9 → Calls Tryz.prog 111 #[.int .u64 N] w fun e w' => ∃ v, e = .returned v ∧ w.Since w.heap.size w' ∧ OwnL w' w.heap.size v (vl f N) := by
  intro f
  induction f with
  | zero =>
    intro N w h1 h2 _
    have hlt : N < 128 := by simpa using h1
    have hs : w.Since w.heap.size (w.alloc (.cells #[.int .u8 (N : Nat)] 5)) := (World.Since.refl _ _).alloc (Nat.le_refl _) _
    have ho : OwnL (w.alloc (.cells #[.int .u8 (N : Nat)] 5)) w.heap.size (.slice (some ⟨w.heap.size, 0, none⟩) 1 1) (vl 0 N) := by
      have := own_one w N
      rw [show vl 0 N = [N] by rw [vl, Nat.mod_eq_of_lt (by omega)]]; exact this
    clear h1
    go_enter Tryz.func111, Tryz.ntmps111
    go_wp2_with fail
    go_ret
    exact ⟨_, rfl, hs, ho⟩
  | succ f ih =>
    intro N w h1 h2 h9
    by_cases hlt : N < 128
    · have hs : w.Since w.heap.size (w.alloc (.cells #[.int .u8 (N : Nat)] 5)) := (World.Since.refl _ _).alloc (Nat.le_refl _) _
      have ho : OwnL (w.alloc (.cells #[.int .u8 (N : Nat)] 5)) w.heap.size (.slice (some ⟨w.heap.size, 0, none⟩) 1 1) (vl (f + 1) N) := by
        have := own_one w N
        rw [show vl (f + 1) N = [N] by rw [vl, if_pos hlt]]; exact this
      clear h1 ih
      go_enter Tryz.func111, Tryz.ntmps111
      go_wp2_with fail
      go_ret
      exact ⟨_, rfl, hs, ho⟩
    · obtain ⟨C, hC⟩ : ∃ C : Nat, C = N % 128 + 128 := ⟨_, rfl⟩
      obtain ⟨E, hE⟩ : ∃ E : Nat, E = N / 128 := ⟨_, rfl⟩
      have hv : vl (f + 1) N = [C] ++ vl f E := by rw [vl, if_neg hlt, hC, hE]; rfl
      have hE1 : E < 128 ^ (f + 1) := by rw [hE]; rw [Nat.pow_succ] at h1; omega
      have hlen := vl_len f E
      have u1 : (128 : Int) + (N : Int) % 128 = (C : Int) := by omega
      have u2 : (N : Int) / 128 = (E : Int) := by omega
      have hClt : C < 256 := by omega
      have hElt : E < 18446744073709551616 := by omega
      have hs : w.Since w.heap.size (w.alloc (.cells #[.int .u8 (C : Nat)] 5)) := (World.Since.refl _ _).alloc (Nat.le_refl _) _
      have ho := own_one w C
      have hrec := ih E (w.alloc (.cells #[.int .u8 (C : Nat)] 5)) hE1 hElt (by omega)
      have HV := hide hv
      clear hC hE hE1 h1 ih hv
      go_enter Tryz.func111, Tryz.ntmps111
      go_wp2_with fail
      refine hrec.mono ?_
      rintro e w1 ⟨v1, rfl, hs1, ho1⟩
      obtain ⟨v2, w2, hr2, ho2, hg2, _⟩ := app_ll (own_since ho hs1 : OwnL w1 _ _ _) ho1 (by simp; omega) (by have := hs1.size; have := hs.size; omega)
      have hs2 := grown_since (hs.trans (since_mono hs1 hs.size)) hg2 (by have := hs1.size; have := hs.size; omega) (own_block ho)
      have H2 := hide hr2
      rw [← unhide HV] at ho2
      clear hr2 hg2 ho ho1 hs hs1
      go_wp2_with (at_builtin; refine wpList_append_eq rfl _ _ 32 rfl _ _ _ (by rfl) (by rfl) (unhide H2) ?_)
      go_ret
      exact ⟨_, rfl, hs2, ho2⟩
end Go.Proofs.YtonpmabdjngdcaaGreatDoor
