/- The walks of tallylaw1's Into and Other. -/
import Derived.Test.YtbmdnlomhnodeabDoorLend
import Derived.Test.YtbmdnlomhnodeabDoorNext
namespace Go.Proofs.YtbmdnlomhnodeabDoor
open Go.RowKit
set_option maxRecDepth 100000

/-- k bytes have been laid over the list. -/
structure Over (w wr : World) (g cap : Nat) (f : Nat → Value) (y : Nat → Nat) (k : Nat) : Prop where
  but : But g w wr
  row : wr.rowIs g 5 cap (fun j => if j < k then .int .u8 (y j : Nat) else f j)
theorem over_step {w wr : World} {g cap : Nat} {f : Nat → Value} {y : Nat → Nat} {k : Nat} (h : Over w wr g cap f y k) : Over w (wr.setCell ⟨g, k, none⟩ (.int .u8 (y k : Nat))) g cap f y (k + 1) :=
  ⟨h.but.setCell k _, (h.row.set k _).congr (fun j _ => by
    by_cases e : j = k
    · subst e; rw [if_pos rfl, if_pos (by omega)]
    · rw [if_neg e]
      by_cases h2 : j < k
      · rw [if_pos h2, if_pos (by omega)]
      · rw [if_neg h2, if_neg (by omega)])⟩

set_option maxHeartbeats 800000 in
/-- Into: the list holds these bytes now. -/
theorem into_any (g len cap : Nat) (f : Nat → Value) (a : Option Addr) (m c : Nat) (y : Nat → Nat) (w : World) (hrow : w.rowIs g 5 cap f) (hlc : len ≤ cap) (hmax : len ≤ 140737488351232) (hm : len ≤ m) (hb : Byt w a m y) (hne : ∀ b off, a = some ⟨b, off, none⟩ → b ≠ g) :
    Calls Tryd.prog 32 #[.slice (some ⟨g, 0, none⟩) len cap, .slice a m c] w fun e w' => e = .returned (.tuple #[]) ∧ Over w w' g cap f y len := by
  have hO0 : Over w w g cap f y 0 := ⟨But.of_since (World.Since.refl _ _), hrow.congr (fun j _ => by simp)⟩
  go_enter Tryd.func32, Tryd.ntmps32
  go_wp2
  go_loopg [4] len (fun q s4 wx => ∃ k : Nat, k ≤ len ∧ q = len - k ∧ s4 = .int .i64 k ∧ Over w wx g cap f y k)
  case atStart => exact ⟨0, Nat.zero_le _, rfl, rfl, hO0⟩
  case round =>
    obtain ⟨k, hk, rfl, rfl, hO⟩ := hrel
    clear hO0
    by_cases hlt : k < len
    · obtain ⟨b, off, rfl, hc⟩ := hb k (by omega)
      have hbg := hne b off rfl
      have hblt : b < w.heap.size := World.block_lt_of_cell? _ _ hc
      have t0 : wr.cell? ⟨b, off + k, none⟩ = some (.int .u8 (y k : Nat)) := by rw [World.cell?_of_block (w := w) (hO.but.block b hblt hbg)]; exact hc
      have t1 : wr.cell? ⟨g, k, none⟩ = some (f k) := by rw [hO.row.cell (by omega), if_neg (by omega)]
      have t2 := hO.row.frozen k
      have hst := over_step hO
      have kz : (k : Int) < (len : Int) := by omega
      have kz2 : (k : Int) < (m : Int) := by omega
      clear hc hO
      go_wp2_with fail
      go_roundg (len - (k + 1))
      case measure => go_light; omega
      case rel => go_light; exact ⟨k + 1, by omega, rfl, by simp, hst⟩
    · obtain rfl : k = len := by omega
      go_wp2_with fail
      go_end0
      exact ⟨rfl, hO⟩

theorem own_of_row {w : World} {B g n cap : Nat} {f : Nat → Value} {y : Nat → Nat} (h : w.rowIs g 5 cap f) (hB : B ≤ g) (hn : n ≤ cap) (hm : cap ≤ maxLen) (hf : ∀ j, j < n → f j = .int .u8 (y j : Nat)) : Own w B (.slice (some ⟨g, 0, none⟩) n cap) n y := by
  obtain ⟨c, hh, hs, hc⟩ := h
  refine ⟨by rw [length_cellsOf, Nat.mul_one], Or.inr ⟨g, cap, c, rfl, hB, hh, hn, hm, by rw [hs, Nat.mul_one], ?_⟩⟩
  rw [Nat.mul_one]
  apply List.ext_getElem?
  intro j
  rcases Nat.lt_or_ge j n with hj | hj
  · rw [List.getElem?_take_of_lt hj, get_cellsOf hj, Array.getElem?_toList, hc j (by omega), hf j hj]
  · rw [List.getElem?_eq_none (by rw [List.length_take]; omega), List.getElem?_eq_none (by rw [length_cellsOf]; exact hj)]
theorem byt_one (w : World) (c : Nat) : Byt (w.alloc (.cells #[.int .u8 (c : Nat)] 5)) (some ⟨w.heap.size, 0, none⟩) 1 (fun _ => c) := fun j hj => by
  obtain rfl : j = 0 := by omega
  exact ⟨w.heap.size, 0, rfl, by simp⟩

/-- THE LOOP OF Other: so many bytes are gathered. -/
structure Gath (w wr : World) (v : Value) (n : Nat) (y : Nat → Nat) : Prop where
  since : w.Since w.heap.size wr
  own : Own wr w.heap.size v n y

set_option maxHeartbeats 1600000 in
set_option maxRecDepth 100000 in
/-- Other: other bytes, as many, in new memory. -/
theorem other_any (a : Option Addr) (len cap : Nat) (x : Nat → Nat) (w : World) (hmax : len ≤ 140737488351232) (hb : Byt w a len x) (hr : ∀ j, x j < 256) (ha : a = none → len = 0) :
    Calls Tryd.prog 29 #[.slice a len cap] w fun e w' => ∃ v y, e = .returned v ∧ w.Since w.heap.size w' ∧ Own w' w.heap.size v len y ∧ ∀ j, y j < 256 := by
  have hG0 : Gath w w (.slice none 0 0) 0 (fun j => x (len - 1 - j)) := ⟨World.Since.refl _ _, own_nil _ _ _⟩
  go_enter Tryd.func29, Tryd.ntmps29
  go_wp2_with fail
  go_loopg [3, 4] len (fun q s3 s4 wx => q ≤ len ∧ s4 = .int .i64 ((q : Int) - 1) ∧ ∃ v, v = s3 ∧ Gath w wx v (len - q) (fun j => x (len - 1 - j)))
  case atStart => exact ⟨Nat.le_refl _, rfl, _, rfl, by rw [Nat.sub_self]; exact hG0⟩
  case round =>
    obtain ⟨hk, rfl, v, rfl, hG⟩ := hrel
    clear hG0
    cases gk with
    | succ q =>
      rw [show (((q + 1 : Nat) : Int) - 1) = (q : Int) by omega]
      obtain ⟨b, off, rfl, hc⟩ := hb q (by omega)
      have t0 : wr.cell? ⟨b, off + q, none⟩ = some (.int .u8 (x q : Nat)) := by rw [hG.since.cell (a := ⟨b, off + q, none⟩) (World.block_lt_of_cell? _ _ hc)]; exact hc
      have hz := hG.since.size
      have hown1 : Own (wr.alloc (.cells #[.int .u8 (x q : Nat)] 5)) w.heap.size v (len - (q + 1)) (fun j => x (len - 1 - j)) := hG.own.alloc _
      have hb1 := byt_one wr (x q)
      obtain ⟨v2, w2, hr2, ho2, hg2⟩ := app_own _ w.heap.size v _ _ hown1 (some ⟨wr.heap.size, 0, none⟩) 1 1 _ hb1 (fun h => by cases h) (by omega) (by simp; omega)
      have hs2 := grown_since (hG.since.alloc hz (.cells #[.int .u8 (x q : Nat)] 5)) hg2 (by simp; omega) (own_block hown1)
      have hG2 : Gath w w2 v2 (len - q) (fun j => x (len - 1 - j)) := ⟨hs2, by
        rw [show len - (q + 1) + 1 = len - q by omega] at ho2
        have e : cellsOf (len - q) (cat (fun j => x (len - 1 - j)) (len - (q + 1)) (fun _ => x q)) = cellsOf (len - q) (fun j => x (len - 1 - j)) := by
          unfold cellsOf
          apply List.map_congr_left
          intro j hj
          have hj' := List.mem_range.1 hj
          unfold cat
          by_cases h1 : j < len - (q + 1)
          · rw [if_pos h1]
          · rw [if_neg h1]
            show Value.int .u8 ((x q : Nat) : Int) = .int .u8 ((x (len - 1 - j) : Nat) : Int)
            rw [show len - 1 - j = q by omega]
        show w2.ownsRow _ 5 1 v2 (len - q) _
        rw [← e]; exact ho2⟩
      have H2 := hide hr2
      have kz : (q : Int) < (len : Int) := by omega
      clear hr2 ho2 hg2 hown1 hb1 hG hc hs2
      go_wp2_with (at_builtin; refine wpList_append_eq rfl _ _ 22 rfl _ _ _ (by rfl) (by rfl) (unhide H2) ?_)
      go_roundg q
      case measure => go_light; omega
      case rel => go_light; exact ⟨by omega, rfl, v2, rfl, hG2⟩
    | zero =>
      rw [Nat.sub_zero] at hG
      rw [show (((0 : Nat) : Int) - 1) = -1 by decide]
      have hyl : ∀ j, x (len - 1 - j) < 256 := fun j => hr _
      rcases Nat.eq_zero_or_pos len with rfl | hp
      · have hfin : ∃ y, Own wr w.heap.size v 0 y ∧ ∀ j, y j < 256 := ⟨_, hG.own, hyl⟩
        have hs := hG.since
        clear hG
        go_wp2_with fail
        go_ret
        obtain ⟨y, h1, h2⟩ := hfin
        exact ⟨v, rfl, hs, y, h1, h2⟩
      · obtain ⟨g, cap', f, rfl, hg, hc', hrow, hf⟩ := own_row hG.own hp
        have hby : Byt wr (some ⟨g, 0, none⟩) len (fun j => x (len - 1 - j)) := fun j hj => ⟨g, 0, rfl, by rw [Nat.zero_add, hrow.cell (by omega), hf j hj]⟩
        have s1 := str_byt (some ⟨g, 0, none⟩) len cap' _ wr hby (fun e => by cases e)
        have s2 := str_byt a len cap x wr (hb.since hG.since) ha
        have hs := hG.since
        have hown := hG.own
        have hpz : (0 : Int) < (len : Int) := by omega
        generalize strOf len (fun j => x (len - 1 - j)) = S1 at *
        generalize strOf len x = S2 at *
        clear hG hby
        have hcm : cap' ≤ maxLen := by
          rcases hown.2 with ⟨h, _⟩ | ⟨g', c', cur, h, _, _, _, hm, _⟩
          · cases h
          · cases h; exact hm
        by_cases hS : (S1.toList == S2.toList) = true
        · have k0 : wr.cell? ⟨g, len - 1, none⟩ = some (.int .u8 (x 0 : Nat)) := by rw [hrow.cell (by omega), hf _ (by omega), show len - 1 - (len - 1) = 0 by omega]
          have k1 := hrow.frozen (len - 1)
          have hxr : bits .xor .u8 ((x 0 : Nat) : Int) 1 = ((x 0 ^^^ 1 : Nat) : Int) := u8_xor_nat (x 0) 1 (hr 0) (by decide)
          have hx0 : x 0 ^^^ 1 < 256 := Nat.xor_lt_two_pow (n := 8) (hr 0) (by decide)
          generalize x 0 ^^^ 1 = X at *
          have hown2 : Own (wr.setCell ⟨g, len - 1, none⟩ (.int .u8 (X : Nat))) w.heap.size (.slice (some ⟨g, 0, none⟩) len cap') len (fun j => if j = len - 1 then X else x (len - 1 - j)) :=
            own_of_row (hrow.set (len - 1) _) hg hc' hcm (fun j hj => by
              by_cases e : j = len - 1
              · rw [if_pos e, if_pos e]
              · rw [if_neg e, if_neg e]; exact hf j hj)
          have hs2 := hs.setCell (a := ⟨g, len - 1, none⟩) hg (.int .u8 (X : Nat))
          have hy2 : ∀ j, (if j = len - 1 then X else x (len - 1 - j)) < 256 := fun j => by
            split
            · exact hx0
            · exact hr _
          clear hown hrow hf
          go_wp2_with fail
          go_ret
          exact ⟨_, _, rfl, hs2, hown2, hy2⟩
        · have hS' : (S1.toList == S2.toList) = false := by simpa using hS
          clear hS
          go_wp2_with fail
          go_ret
          exact ⟨_, _, rfl, hs, hown, hyl⟩
end Go.Proofs.YtbmdnlomhnodeabDoor
