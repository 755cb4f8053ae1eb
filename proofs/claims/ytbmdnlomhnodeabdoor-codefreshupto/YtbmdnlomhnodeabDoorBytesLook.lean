/- The walk of package code's lookBytes. -/
import Derived.Test.YtbmdnlomhnodeabDoorRawLook
namespace Go.Proofs.YtbmdnlomhnodeabDoor
open Go.RowKit
set_option maxRecDepth 100000

/-- Behind the region that looks at the text: the item lies in a block of its own. -/
structure Seen2 (w wx : World) (ib : Nat) (ta : Option Addr) (l size : Nat) (tx : Nat → Nat) : Prop where
  since : w.Since w.heap.size wx
  it : wx.rowIs ib 91 3 (itemCell 0 ta l size)
  lo : w.heap.size ≤ ib
  txt : Txt w.heap.size wx ta l tx
  ne : ∀ t, ta = some ⟨t, 0, none⟩ → t < wx.heap.size → t ≠ ib
theorem seen2_a {w w' : World} {ta : Option Addr} {l size : Nat} {tx : Nat → Nat} (hs : w.drew.Since w.drew.heap.size w') (htx : Txt w.drew.heap.size w' ta l tx) (hn : ta = none → l = 0) :
    Seen2 w (w'.alloc (.cells #[.int .u64 0, .slice ta l l, .int .i64 size] 91)) w'.heap.size ta l size tx := by
  have hz : w.heap.size ≤ w'.heap.size := hs.size
  have hs' : w.Since w.heap.size w' := (World.Since.refl _ _).drew.trans hs
  have hx := hn
  refine ⟨hs'.alloc hz _, item_row w' 0 ta l size, hz, ?_, ?_⟩
  · rcases htx with h | ⟨t, e, hb, hr⟩
    · exact Or.inl h
    · exact Or.inr ⟨t, e, hb, hr.alloc _⟩
  · intro t e _
    rcases htx with ⟨h, _⟩ | ⟨t', e', hb, hr⟩
    · rw [h] at e; cases e
    · rw [e] at e'; cases e'
      have := hr.lt
      omega
theorem seen2_b {w w' : World} {ta : Option Addr} {l size : Nat} {tx : Nat → Nat}
    (hs : (w.alloc (.cells #[.int .u64 0, .slice none 0 0, .int .i64 0] 91)).drew.Since (w.alloc (.cells #[.int .u64 0, .slice none 0 0, .int .i64 0] 91)).drew.heap.size w')
    (htx : Txt (w.alloc (.cells #[.int .u64 0, .slice none 0 0, .int .i64 0] 91)).drew.heap.size w' ta l tx) :
    Seen2 w (((w'.setCell ⟨w.heap.size, 0, none⟩ (.int .u64 0)).setCell ⟨w.heap.size, 1, none⟩ (.slice ta l l)).setCell ⟨w.heap.size, 2, none⟩ (.int .i64 size)) w.heap.size ta l size tx := by
  have hs' : w.Since w.heap.size w' := (((World.Since.refl _ _).alloc (Nat.le_refl _) _).drew).trans (since_mono hs (by simp))
  have hrow : w'.rowIs w.heap.size 91 3 (itemCell 0 none 0 0) := row_since (item_row w 0 none 0 0).drew hs
  refine ⟨since_item hs' _ _ _, (((hrow.set 0 _).set 1 _).set 2 _).congr (fun i hi => ?_), Nat.le_refl _, ?_, ?_⟩
  · match i, hi with
    | 0, _ => rfl
    | 1, _ => rfl
    | 2, _ => rfl
  · exact txt_item (by simpa using htx) _ _ _
  · intro t e _
    rcases htx with ⟨h, _⟩ | ⟨t', e', hb, hr⟩
    · rw [h] at e; cases e
    · rw [e] at e'; cases e'
      have : w.heap.size + 1 ≤ t := by simpa using hb
      omega

set_option maxHeartbeats 1600000 in
set_option maxRecDepth 100000 in
theorem lookBytes_walk (b off m cap most : Nat) (z : Nat → Nat) (w : World) (N s bv l size bd : Nat) (hmax : m ≤ 281474976710656) (hcap : m ≤ cap) (hc : Byt w (some ⟨b, off, none⟩) m z) (hz : ∀ j, z j < 256) (hv : vlook z m most = (N, s, bv))
    (hl : bv = 0 → ((m - s < N ∧ l = 0 ∧ size = 0 ∧ bd = 10) ∨ (N ≤ m - s ∧ l = N ∧ size = N ∧ bd = 0))) :
    Calls Tryd.prog 90 #[.slice (some ⟨b, off, none⟩) m cap, .int .u64 most] w fun e w' =>
      ((bv ≠ 0 ∧ e = .returned (.tuple #[item0, .int .i64 bv])) ∨ (bv = 0 ∧ bd ≠ 0 ∧ e = .returned (.tuple #[item0, .int .i64 bd])) ∨
        (bv = 0 ∧ bd = 0 ∧ ∃ ta, e = .returned (.tuple #[.agg #[.int .u64 0, .slice ta l l, .int .i64 ((s + l : Nat) : Int)], .int .i64 0]) ∧ Txt w.heap.size w' ta l (fun j => z (s + j)))) ∧ w.Since w.heap.size w' := by
  have hs0 : w.Since w.heap.size (w.alloc (.cells #[.int .u64 0, .slice none 0 0, .int .i64 0] 91)) := (World.Since.refl _ _).alloc (Nat.le_refl _) _
  have hr0 := item_row w 0 none 0 0
  have e0 : (w.alloc (.cells #[.int .u64 0, .slice none 0 0, .int .i64 0] 91)).heap.size = w.heap.size + 1 := by simp
  have hc1 := hc.since hs0
  go_enter Tryd.func90, Tryd.ntmps90
  go_wp2_with fail
  generalize w.alloc (.cells #[.int .u64 0, .slice none 0 0, .int .i64 0] 91) = w0 at *
  refine (lookVar_walk _ m cap most z w0 N s bv hmax hc1 hz hv).mono ?_
  rintro e w1 ⟨rfl, h1⟩
  have hz1 : w0.heap.size ≤ w1.heap.size := h1.size
  have hsn1 : w.Since w.heap.size w1 := hs0.trans (since_mono h1 (by omega))
  have hrw := row_since hr0 h1
  have hh := item_row w1 N none 0 s
  have hrw2 := hrw.alloc (.cells #[.int .u64 N, .slice none 0 0, .int .i64 s] 91)
  have hsn2 : w.Since w.heap.size (w1.alloc (.cells #[.int .u64 N, .slice none 0 0, .int .i64 s] 91)) := hsn1.alloc (by omega) _
  have e2 : (w1.alloc (.cells #[.int .u64 N, .slice none 0 0, .int .i64 s] 91)).heap.size = w1.heap.size + 1 := by simp
  have hc2 := hc.since hsn2
  clear h1 hrw hsn1 hr0 hs0 hc1
  go_upto_region 2 with fail
  generalize w1.alloc (.cells #[.int .u64 N, .slice none 0 0, .int .i64 s] 91) = w2 at *
  generalize w1.heap.size = q1 at *
  by_cases hbv : bv = 0
  · subst hbv
    obtain ⟨hsm, hsp, hNs, hNm⟩ := vlook_size z m most (by rw [hv])
    rw [hv] at hsm hsp hNs hNm
    replace hsm : s ≤ m := hsm
    have hs1z : (s : Int) ≤ (m : Int) := by omega
    have hq0 : ((0 : Nat) : Int) = 0 := rfl
    have d0 : w2.cell? ⟨q1, 0, none⟩ = some (.int .u64 N) := hh.cell (by decide)
    have d2 : w2.cell? ⟨q1, 2, none⟩ = some (.int .i64 s) := hh.cell (by decide)
    have n0 := World.new_ne w2 _ d0
    have n2 := World.new_ne w2 _ d2
    have hcall : ∀ W, w2.Since w2.heap.size W → Calls Tryd.prog 91 #[.slice (if cap = s then some ⟨b, off, none⟩ else some ⟨b, off + s, none⟩) (m - s) (cap - s), .int .u64 N] W fun e w' => (∃ ta, e = .returned (.tuple #[.agg #[.int .u64 0, .slice ta l l, .int .i64 size], .int .i64 bd]) ∧ Txt W.heap.size w' ta l (fun j => z (s + j)) ∧ (ta = none → l = 0)) ∧ W.Since W.heap.size w' := fun W hW => by
      rcases hl rfl with ⟨h1, rfl, rfl, rfl⟩ | ⟨h1, rfl, rfl, rfl⟩
      · exact (lookRaw_short _ (m - s) (cap - s) N W (by omega) h1).mono fun e w' ⟨he, hs⟩ => ⟨⟨none, he, Or.inl ⟨rfl, rfl⟩, fun _ => rfl⟩, hs⟩
      · have hby : ∀ o, (m ≠ s → o = off + s) → Byt W (some ⟨b, o, none⟩) (m - s) (fun j => z (s + j)) := fun o ho j hj => by
          obtain ⟨b', off', e', hcell⟩ := hc2 (s + j) (by omega)
          cases e'
          refine ⟨b, o, rfl, ?_⟩
          rw [ho (by omega), hW.cell (a := ⟨b, off + s + j, none⟩) (World.block_lt_of_cell? _ _ (by rw [Nat.add_assoc]; exact hcell)), Nat.add_assoc]
          exact hcell
        by_cases hcs : cap = s
        · rw [if_pos hcs]
          exact (lookRaw_ok b off (m - s) (cap - s) _ (fun j => z (s + j)) W (by omega) (by omega) h1 (hby off (fun h => by omega))).mono fun e w' ⟨⟨ta, he, ht⟩, hs⟩ => ⟨⟨ta, he, ht, fun hn => by rcases ht with ⟨_, h⟩ | ⟨t, e', _⟩; exact h; rw [hn] at e'; cases e'⟩, hs⟩
        · rw [if_neg hcs]
          exact (lookRaw_ok b (off + s) (m - s) (cap - s) _ (fun j => z (s + j)) W (by omega) (by omega) h1 (hby _ (fun _ => rfl))).mono fun e w' ⟨⟨ta, he, ht⟩, hs⟩ => ⟨⟨ta, he, ht, fun hn => by rcases ht with ⟨_, h⟩ | ⟨t, e', _⟩; exact h; rw [hn] at e'; cases e'⟩, hs⟩
    have HL := hide hcall
    clear hcall hc hc2 hNs hNm hsp hv
    go_upto_region 4 with fail
    go_cut [7, 8] from 19 to 39 (fun s7 s8 wx => ∃ ib ta, s8 = .pointer (some ⟨ib, 0, none⟩) ∧ s7 = .int .i64 bd ∧ Seen2 w2 wx ib ta l size (fun j => z (s + j)))
    case first =>
      have hw1 : q1 < w2.heap.size := by omega
      by_cases hna : cap = s
      · have hms : m = s := by omega
        subst hna
        subst hms
        rw [if_pos rfl, Nat.sub_self] at HL
        go_region_held3 (fun w' => w'.cell? ⟨q1, 0, none⟩ = some (.int .u64 N) ∧ w'.cell? ⟨q1, 2, none⟩ = some (.int .i64 m))
          (first | go_keep | (refine ⟨?_, ?_⟩ <;> (rw [hcc _ _ (by simp; omega)]) <;> (go_simp)) | (refine ⟨?_, ?_⟩ <;> (iterate 3 (rw [World.cell?_setCell_far _ _ _ _ (by show w2.heap.size ≠ q1; omega)])) <;> (rw [hcc _ _ (by simp; omega)]) <;> (go_simp)))
          (first | (go_at_call 91; refine ((unhide HL) _ ?_).mono ?_; (first | exact (World.Since.refl _ _).drew | exact ((World.Since.refl _ _).alloc (Nat.le_refl _) _).drew | exact ((World.Since.refl _ _).drew).alloc (Nat.le_refl _) _); rintro e w' ⟨⟨ta, rfl, htx, hnn⟩, hs⟩; (obtain ⟨hcc, hff⟩ := scell hs; have x2 : q1 < w'.heap.size := (by have := hs.size; simp at this; omega); have x3 : q1 < w2.heap.size + 1 := (by omega))))
        all_goals
          go_wp2_with fail
          go_meet
          case rel => go_light; first | exact ⟨_, ta, rfl, rfl, seen2_a hs htx hnn⟩ | exact ⟨_, ta, rfl, rfl, by have h := seen2_b (size := size) hs htx; rw [e2] at h; exact h⟩
      · rw [if_neg hna] at HL
        go_region_held3 (fun w' => w'.cell? ⟨q1, 0, none⟩ = some (.int .u64 N) ∧ w'.cell? ⟨q1, 2, none⟩ = some (.int .i64 s))
          (first | go_keep | (refine ⟨?_, ?_⟩ <;> (rw [hcc _ _ (by simp; omega)]) <;> (go_simp)) | (refine ⟨?_, ?_⟩ <;> (iterate 3 (rw [World.cell?_setCell_far _ _ _ _ (by show w2.heap.size ≠ q1; omega)])) <;> (rw [hcc _ _ (by simp; omega)]) <;> (go_simp)))
          (first | (go_at_call 91; refine ((unhide HL) _ ?_).mono ?_; (first | exact (World.Since.refl _ _).drew | exact ((World.Since.refl _ _).alloc (Nat.le_refl _) _).drew | exact ((World.Since.refl _ _).drew).alloc (Nat.le_refl _) _); rintro e w' ⟨⟨ta, rfl, htx, hnn⟩, hs⟩; (obtain ⟨hcc, hff⟩ := scell hs; have x2 : q1 < w'.heap.size := (by have := hs.size; simp at this; omega); have x3 : q1 < w2.heap.size + 1 := (by omega))))
        all_goals
          go_wp2_with fail
          go_meet
          case rel => go_light; first | exact ⟨_, ta, rfl, rfl, seen2_a hs htx hnn⟩ | exact ⟨_, ta, rfl, rfl, by have h := seen2_b (size := size) hs htx; rw [e2] at h; exact h⟩
    case rest =>
      obtain ⟨ib, ta, rfl, rfl, hS⟩ := hcut
      have hw2 : w2.heap.size = q1 + 1 := e2
      have hlo := hS.lo
      have hsn3 : w.Since w.heap.size wc := hsn2.trans (since_mono hS.since (by omega))
      have hro := row_since hrw2 hS.since
      have hhd := row_since hh hS.since
      have o0 : wc.cell? ⟨w.heap.size, 0, none⟩ = some (.int .u64 0) := hro.cell (by decide)
      have o1 : wc.cell? ⟨w.heap.size, 1, none⟩ = some (.slice none 0 0) := hro.cell (by decide)
      have o2 : wc.cell? ⟨w.heap.size, 2, none⟩ = some (.int .i64 0) := hro.cell (by decide)
      have p0 := hro.frozen 0
      have p1 := hro.frozen 1
      have p2 := hro.frozen 2
      by_cases hbd : bd = 0
      · obtain ⟨h1, rfl, rfl, _⟩ : N ≤ m - s ∧ l = N ∧ size = N ∧ bd = 0 := by
          rcases hl rfl with ⟨_, _, _, h⟩ | h
          · omega
          · exact h
        subst hbd
        have i0 : wc.cell? ⟨ib, 0, none⟩ = some (.int .u64 0) := hS.it.cell (by decide)
        have i1 : wc.cell? ⟨ib, 1, none⟩ = some (.slice ta size size) := hS.it.cell (by decide)
        have i2 : wc.cell? ⟨ib, 2, none⟩ = some (.int .i64 size) := hS.it.cell (by decide)
        have j2 := hS.it.frozen 2
        have g2 : wc.cell? ⟨q1, 2, none⟩ = some (.int .i64 s) := hhd.cell (by decide)
        have hsn4 : w.Since w.heap.size (wc.setCell ⟨ib, 2, none⟩ (.int .i64 ((size : Int) + (s : Int)))) := hsn3.setCell (a := ⟨ib, 2, none⟩) (by show w.heap.size ≤ ib; omega) _
        have htx4 : Txt (w.heap.size + 1) (wc.setCell ⟨ib, 2, none⟩ (.int .i64 ((size : Int) + (s : Int)))) ta size (fun j => z (s + j)) := by
          rcases hS.txt with h | ⟨t, e, hb, hr⟩
          · exact Or.inl h
          · exact Or.inr ⟨t, e, by omega, hr.setOther (by show t ≠ ib; exact hS.ne t e hr.lt) _⟩
        have hro4 := hro.setOther (a := ⟨ib, 2, none⟩) (by show w.heap.size ≠ ib; omega) (.int .i64 ((size : Int) + (s : Int)))
        have hit4 := (hS.it.set 2 (.int .i64 ((size : Int) + (s : Int))))
        clear d0 d2 n0 n2 HL hhd hh
        go_wp2_with fail
        clear hit4
        generalize wc.setCell ⟨ib, 2, none⟩ (.int .i64 ((size : Int) + (s : Int))) = W4 at *
        have o0' : W4.cell? ⟨w.heap.size, 0, none⟩ = some (.int .u64 0) := hro4.cell (by decide)
        have o1' : W4.cell? ⟨w.heap.size, 1, none⟩ = some (.slice none 0 0) := hro4.cell (by decide)
        have o2' : W4.cell? ⟨w.heap.size, 2, none⟩ = some (.int .i64 0) := hro4.cell (by decide)
        refine bodyPost_ret (v := .tuple #[.agg #[.int .u64 0, .slice ta size size, .int .i64 ((size : Int) + (s : Int))], .int .i64 0]) (by simp [results, Tryd.results90, go_sem, o0', o1', o2']) rfl ⟨⟨ta, by rw [Int.add_comm], txt_item htx4 _ _ _⟩, since_item hsn4 _ _ _⟩
      · have hq : ((bd : Int) != 0) = true := by simp; omega
        clear d0 d2 n0 n2 HL hhd hh
        go_wp2_with fail
        refine bodyPost_ret (v := .tuple #[item0, .int .i64 bd]) (by simp [results, Tryd.results90, go_sem, o0, o1, o2]) rfl ⟨by first | rfl | exact Or.inr (Or.inl ⟨rfl, hbd, rfl⟩), since_item hsn3 _ _ _⟩
  · have hq : ((bv : Int) != 0) = true := by simp; omega
    have o0 : w2.cell? ⟨w.heap.size, 0, none⟩ = some (.int .u64 0) := hrw2.cell (by decide)
    have o1 : w2.cell? ⟨w.heap.size, 1, none⟩ = some (.slice none 0 0) := hrw2.cell (by decide)
    have o2 : w2.cell? ⟨w.heap.size, 2, none⟩ = some (.int .i64 0) := hrw2.cell (by decide)
    have p0 := hrw2.frozen 0
    have p1 := hrw2.frozen 1
    have p2 := hrw2.frozen 2
    go_wp2_with fail
    refine bodyPost_ret (v := .tuple #[item0, .int .i64 bv]) (by simp [results, Tryd.results90, go_sem, o0, o1, o2]) rfl ⟨Or.inl ⟨hbv, rfl⟩, since_item hsn2 _ _ _⟩
end Go.Proofs.YtbmdnlomhnodeabDoor
