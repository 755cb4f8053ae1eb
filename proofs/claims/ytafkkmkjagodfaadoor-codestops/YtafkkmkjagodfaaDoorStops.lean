/- The walk of CodeStops: on any bytes and calls it answers true; nothing that was there is turned. -/
import Derived.Test.YtafkkmkjagodfaaDoorReads
namespace Go.Proofs.YtafkkmkjagodfaaDoor
open Go.RowKit

/-- Behind a fault every read answers nothing. -/
theorem u8_bad (rb hb n at' bad : Nat) (z : Nat → Nat) (w : World) (h : IsR w rb hb n z at' bad) (hbad : bad ≠ 0) :
    Calls Tryd.prog 41 #[.pointer (some ⟨rb, 0, none⟩)] w fun e w' => e = .returned (.int .u8 0) ∧ w.Since w.heap.size w' := by
  go_enter Tryd.func41, Tryd.ntmps41
  go_wp2_with fail
  refine (next_bad rb hb n at' bad z 0 0 w h hbad).mono ?_
  rintro e w1 ⟨rfl, hs⟩
  have hfl := fld0 w1 0 0 none 0
  go_wp2
  go_ret
  exact ⟨rfl, hs⟩
theorem u32_bad (rb hb n at' bad : Nat) (z : Nat → Nat) (w : World) (h : IsR w rb hb n z at' bad) (hbad : bad ≠ 0) :
    Calls Tryd.prog 34 #[.pointer (some ⟨rb, 0, none⟩)] w fun e w' => e = .returned (.int .u32 0) ∧ w.Since w.heap.size w' := by
  go_enter Tryd.func34, Tryd.ntmps34
  go_wp2_with fail
  refine (next_bad rb hb n at' bad z 1 0 w h hbad).mono ?_
  rintro e w1 ⟨rfl, hs⟩
  have hfl := fld0 w1 0 0 none 0
  go_wp2
  go_ret
  exact ⟨rfl, hs⟩
theorem u64_bad (rb hb n at' bad : Nat) (z : Nat → Nat) (w : World) (h : IsR w rb hb n z at' bad) (hbad : bad ≠ 0) :
    Calls Tryd.prog 19 #[.pointer (some ⟨rb, 0, none⟩)] w fun e w' => e = .returned (.int .u64 0) ∧ w.Since w.heap.size w' := by
  go_enter Tryd.func19, Tryd.ntmps19
  go_wp2_with fail
  refine (next_bad rb hb n at' bad z 2 0 w h hbad).mono ?_
  rintro e w1 ⟨rfl, hs⟩
  have hfl := fld0 w1 0 0 none 0
  go_wp2
  go_ret
  exact ⟨rfl, hs⟩
theorem var_bad (rb hb n at' bad : Nat) (z : Nat → Nat) (most : Int) (w : World) (h : IsR w rb hb n z at' bad) (hbad : bad ≠ 0) :
    Calls Tryd.prog 42 #[.pointer (some ⟨rb, 0, none⟩), .int .u64 most] w fun e w' => e = .returned (.int .u64 0) ∧ w.Since w.heap.size w' := by
  go_enter Tryd.func42, Tryd.ntmps42
  go_wp2_with fail
  refine (next_bad rb hb n at' bad z 3 most w h hbad).mono ?_
  rintro e w1 ⟨rfl, hs⟩
  have hfl := fld0 w1 0 0 none 0
  go_wp2
  go_ret
  exact ⟨rfl, hs⟩
theorem bytes_bad (rb hb n at' bad : Nat) (z : Nat → Nat) (most : Int) (w : World) (hR : IsR w rb hb n z at' bad) (hbad : bad ≠ 0) :
    Calls Tryd.prog 43 #[.pointer (some ⟨rb, 0, none⟩), .int .i64 most] w fun e w' => e = .returned (.slice none 0 0) ∧ w.Since w.heap.size w' := by
  go_enter Tryd.func43, Tryd.ntmps43
  go_wp2_with fail
  all_goals
    refine (next_bad rb hb n at' bad z 4 _ w hR hbad).mono ?_
    rintro e w1 ⟨rfl, hs⟩
    have hfl := fld1 w1 0 0 none 0
    go_wp2
    go_ret
    exact ⟨rfl, hs⟩
theorem raw_bad (rb hb n at' bad : Nat) (z : Nat → Nat) (m : Int) (w : World) (h : IsR w rb hb n z at' bad) (hbad : bad ≠ 0) :
    Calls Tryd.prog 44 #[.pointer (some ⟨rb, 0, none⟩), .int .i64 m] w fun e w' => e = .returned (.slice none 0 0) ∧ w.Since w.heap.size w' := by
  have hq : ((bad : Int) == 0) = false := by simp; omega
  by_cases hm : m < 0
  · have hf := fail_none rb 14 bad w h.c2 hq
    go_enter Tryd.func44, Tryd.ntmps44
    go_wp2_with fail
    refine hf.mono ?_
    rintro e w1 ⟨rfl, rfl⟩
    go_wp2
    go_ret
    exact ⟨rfl, World.Since.refl _ _⟩
  · go_enter Tryd.func44, Tryd.ntmps44
    go_wp2_with fail
    refine (next_bad rb hb n at' bad z 5 _ w h hbad).mono ?_
    rintro e w1 ⟨rfl, hs⟩
    have hfl := fld1 w1 0 0 none 0
    go_wp2
    go_ret
    exact ⟨rfl, hs⟩
theorem end_bad (rb hb n at' bad : Nat) (z : Nat → Nat) (w : World) (h : IsR w rb hb n z at' bad) (hbad : bad ≠ 0) :
    Calls Tryd.prog 24 #[.pointer (some ⟨rb, 0, none⟩)] w fun e w' => e = .returned (.int .i64 bad) ∧ w' = w := by
  have c2 := h.c2
  have hq : ((bad : Int) == 0) = false := by simp; omega
  go_enter Tryd.func24, Tryd.ntmps24
  go_wp2
  go_ret
  exact ⟨rfl, rfl⟩
theorem num_any (n : Int) (w : World) : Calls Tryd.prog 20 #[.int .i64 n] w fun e w' => e = .returned (.int .i64 n) ∧ w' = w := by
  go_enter Tryd.func20, Tryd.ntmps20
  go_wp2
  go_ret
  exact ⟨rfl, rfl⟩

set_option maxHeartbeats 800000 in
/-- silent: behind a fault it answers true, whatever the call. -/
theorem silent_any (rb hb n at' bad : Nat) (z : Nat → Nat) (K WH M N : Int) (ba : Option Addr) (bl bc : Nat) (w : World) (h : IsR w rb hb n z at' bad) (hbad : bad ≠ 0) :
    Calls Tryd.prog 23 #[.pointer (some ⟨rb, 0, none⟩), .agg #[.int .i64 K, .int .i64 WH, .int .i64 M, .int .u64 N, .slice ba bl bc]] w fun e w' => e = .returned (.bool true) ∧ w.Since w.heap.size w' := by
  have hs0 : w.Since w.heap.size (w.alloc (.cells #[.int .i64 K, .int .i64 WH, .int .i64 M, .int .u64 N, .slice ba bl bc] 52)) := (World.Since.refl _ _).alloc (Nat.le_refl _) _
  have h1 := h.since hs0
  have e1 : (w.alloc (.cells #[.int .i64 K, .int .i64 WH, .int .i64 M, .int .u64 N, .slice ba bl bc] 52)).heap.size = w.heap.size + 1 := by simp
  go_enter Tryd.func23, Tryd.ntmps23
  go_wp2_with fail
  all_goals
    first
    | (go_at_call 41; refine (u8_bad rb hb n at' bad z _ h1 hbad).mono ?_)
    | (go_at_call 34; refine (u32_bad rb hb n at' bad z _ h1 hbad).mono ?_)
    | (go_at_call 19; refine (u64_bad rb hb n at' bad z _ h1 hbad).mono ?_)
    | (go_at_call 42; refine (var_bad rb hb n at' bad z _ _ h1 hbad).mono ?_)
    | (go_at_call 43; refine (bytes_bad rb hb n at' bad z _ _ h1 hbad).mono ?_)
    | (go_at_call 44; refine (raw_bad rb hb n at' bad z _ _ h1 hbad).mono ?_)
    rintro e w1 ⟨rfl, hs⟩
    have hs2 : w.Since w.heap.size w1 := hs0.trans (since_mono hs (by omega))
    clear hs
    go_wp2
    go_ret
    exact ⟨rfl, hs2⟩

/-- WHAT HOLDS IN CodeStops: the boxed argument, the Reader. -/
structure St (w1 wr : World) (rb hb n : Nat) (z : Nat → Nat) (at' bad : Nat) : Prop where
  since : w1.Since w1.heap.size wr
  lo : w1.heap.size ≤ rb
  lo2 : w1.heap.size ≤ hb
  rd : IsR wr rb hb n z at' bad
theorem St.go {w1 wr w' : World} {rb hb n : Nat} {z : Nat → Nat} {at' bad at2 bad2 : Nat} (h : St w1 wr rb hb n z at' bad) (hb' : But rb wr w') (hr : IsR w' rb hb n z at2 bad2) : St w1 w' rb hb n z at2 bad2 :=
  ⟨hb'.since h.since h.lo (Nat.le_trans h.lo (Nat.le_of_lt h.rd.rd.lt)), h.lo, h.lo2, hr⟩
theorem St.later {w1 wr w' : World} {rb hb n : Nat} {z : Nat → Nat} {at' bad : Nat} (h : St w1 wr rb hb n z at' bad) (hs : wr.Since wr.heap.size w') : St w1 w' rb hb n z at' bad :=
  ⟨h.since.trans (since_mono hs h.since.size), h.lo, h.lo2, h.rd.since hs⟩
theorem St.drewN {w1 wr : World} {rb hb n : Nat} {z : Nat → Nat} {at' bad : Nat} (h : St w1 wr rb hb n z at' bad) (m : Nat) : St w1 (wr.drewN m) rb hb n z at' bad :=
  ⟨⟨h.since.os, h.since.tape, h.since.output, h.since.size, h.since.block⟩, h.lo, h.lo2, ⟨h.rd.rd, h.rd.row, h.rd.ne, h.rd.byte, h.rd.le, h.rd.room⟩⟩

set_option maxHeartbeats 1600000 in
set_option maxRecDepth 100000 in
theorem stops_walk (a0 : Option Addr) (len0 cap0 : Nat) (a1 : Option Addr) (len1 cap1 : Nat) (oa : Option Addr) (ob oo olen ocap : Nat) (x : Nat → Nat) (w : World) (hlen : len0 ≤ 281474976710656) (holen : olen ≤ 281474976710656)
    (hx : Byt w a0 len0 x) (hr : ∀ j, x j < 256) (hw : Wid w) (hoa : 0 < olen → oa = some ⟨ob, oo, none⟩)
    (hop : ∀ i, i < olen → ∃ (K WH M N : Int) (ba : Option Addr) (bl bc : Nat), w.cell? ⟨ob, oo + i * 5, none⟩ = some (.int .i64 K) ∧ w.cell? ⟨ob, oo + i * 5 + 1, none⟩ = some (.int .i64 WH) ∧ w.cell? ⟨ob, oo + i * 5 + 2, none⟩ = some (.int .i64 M) ∧ w.cell? ⟨ob, oo + i * 5 + 3, none⟩ = some (.int .u64 N) ∧ w.cell? ⟨ob, oo + i * 5 + 4, none⟩ = some (.slice ba bl bc)) :
    Calls Tryd.prog 6 #[.agg #[.slice a0 len0 cap0, .slice a1 len1 cap1, .slice oa olen ocap]] w fun e w' => e = .returned (.bool true) ∧ w.Since w.heap.size w' := by
  have hs1 : w.Since w.heap.size (w.alloc (.cells #[.slice a0 len0 cap0, .slice a1 len1 cap1, .slice oa olen ocap] 41)) := (World.Since.refl _ _).alloc (Nat.le_refl _) _
  have e0 : (w.alloc (.cells #[.slice a0 len0 cap0, .slice a1 len1 cap1, .slice oa olen ocap] 41)).heap.size = w.heap.size + 1 := by simp
  have box2 : (w.alloc (.cells #[.slice a0 len0 cap0, .slice a1 len1 cap1, .slice oa olen ocap] 41)).cell? ⟨w.heap.size, 2, none⟩ = some (.slice oa olen ocap) := by simp
  have hx1 := hx.since hs1
  have hw1 := hw.since hs1
  go_enter Tryd.func6, Tryd.ntmps6
  go_wp2_with fail
  generalize w.alloc (.cells #[.slice a0 len0 cap0, .slice a1 len1 cap1, .slice oa olen ocap] 41) = w1 at *
  refine (read_any a0 len0 cap0 x w1 hlen hx1 hr).mono ?_
  rintro e w2 ⟨rb, rfl, hrb, hs2, hI⟩
  obtain ⟨hb, hS0⟩ : ∃ hb, St w1 w2 rb hb len0 x 0 0 := ⟨w1.heap.size, hs2, by omega, Nat.le_refl _, hI⟩
  clear hI hs2 hrb
  go_wp2_with fail
  go_loopg [5] (len0 / 8 + 1) (fun g s5 wx => ∃ k : Nat, k ≤ len0 / 8 + 1 ∧ g = len0 / 8 + 1 - k ∧ s5 = .int .i64 k ∧ St w1 wx rb hb len0 x (8 * min k (len0 / 8)) (if k = len0 / 8 + 1 then 10 else 0))
  case atStart => exact ⟨0, Nat.zero_le _, rfl, rfl, by rw [if_neg (by omega), Nat.zero_min]; exact hS0⟩
  case round =>
    obtain ⟨k, hk, rfl, rfl, hS⟩ := hrel
    clear hS0
    by_cases hk1 : k < len0 / 8 + 1
    · have hkz : (k : Int) < (len0 : Int) / 8 + 1 := by omega
      rw [if_neg (by omega), Nat.min_eq_left (by omega)] at hS
      have hww := hw1.since hS.since
      by_cases hk2 : k < len0 / 8
      · go_wp2_with fail
        refine (u64_ok rb hb len0 (8 * k) x _ hS.rd hww (by omega)).mono ?_
        rintro e w3 ⟨rfl, hb3, hI3⟩
        have hS3 := hS.go hb3 hI3
        clear hS hb3 hI3
        go_wp2_with fail
        go_roundg (len0 / 8 + 1 - (k + 1))
        case measure => go_light; omega
        case rel => go_light; exact ⟨k + 1, by omega, rfl, by simp, by rw [if_neg (by omega), Nat.min_eq_left (by omega)]; exact hS3⟩
      · go_wp2_with fail
        refine (u64_short rb hb len0 (8 * k) x _ hS.rd hww (by omega)).mono ?_
        rintro e w3 ⟨rfl, hb3, hI3⟩
        have hS3 := hS.go hb3 hI3
        clear hS hb3 hI3
        go_wp2_with fail
        go_roundg (len0 / 8 + 1 - (k + 1))
        case measure => go_light; omega
        case rel => go_light; exact ⟨k + 1, by omega, rfl, by simp, by rw [if_pos (by omega), Nat.min_eq_right (by omega), show len0 / 8 = k by omega]; exact hS3⟩
    · obtain rfl : k = len0 / 8 + 1 := by omega
      rw [if_pos rfl, Nat.min_eq_right (by omega)] at hS
      have hkz : ¬ ((len0 / 8 + 1 : Nat) : Int) < (len0 : Int) / 8 + 1 := by omega
      generalize len0 / 8 + 1 = kk at *
      have hD1 : (((8 * (len0 / 8) : Nat) : Int) != (len0 : Int) / 8 * 8) = false := by simp; omega
      have hD2 : (((len0 - 8 * (len0 / 8) : Nat) : Int) != (len0 : Int) % 8) = false := by simp; omega
      generalize 8 * (len0 / 8) = D at *
      go_wp2_with fail
      refine (fault_any rb hb len0 D 10 x _ hS.rd).mono ?_
      rintro e w' ⟨rfl, rfl⟩
      go_wp2_with fail
      refine (num_any _ _).mono ?_
      rintro e w' ⟨rfl, rfl⟩
      go_wp2_with fail
      refine (at_any rb hb len0 D 10 x _ hS.rd).mono ?_
      rintro e w' ⟨rfl, rfl⟩
      go_wp2_with fail
      go_loopg [6] olen (fun g s6 wx => ∃ i : Nat, i ≤ olen ∧ g = olen - i ∧ s6 = .int .i64 i ∧ St w1 wx rb hb len0 x D 10)
      case atStart => exact ⟨0, Nat.zero_le _, rfl, rfl, hS⟩
      case round =>
        obtain ⟨i, hi, rfl, rfl, hS2⟩ := hrel
        clear hS
        have bx : wr.cell? ⟨w.heap.size, 2, none⟩ = some (.slice oa olen ocap) := by rw [hS2.since.cell (a := ⟨w.heap.size, 2, none⟩) (by show w.heap.size < w1.heap.size; omega)]; exact box2
        by_cases hgo : i < olen ∧ i < 400
        · obtain ⟨hi1, hi2⟩ := hgo
          obtain rfl := hoa (by omega)
          have q1 : decide ((i : Int) < (olen : Int)) = true := by simp; omega
          have q2 : decide ((i : Int) < 400) = true := by simp; omega
          have q3 : (i : Int) < (olen : Int) := by omega
          obtain ⟨K, WH, M, N, ba, bl, bc, g0, g1, g2, g3, g4⟩ := hop i hi1
          have hlt : ob < w.heap.size := World.block_lt_of_cell? _ _ g0
          have up : ∀ o v, w.cell? ⟨ob, o, none⟩ = some v → wr.cell? ⟨ob, o, none⟩ = some v := fun o v hv => by
            rw [hS2.since.cell (a := ⟨ob, o, none⟩) (by show ob < w1.heap.size; omega), hs1.cell (a := ⟨ob, o, none⟩) hlt]; exact hv
          have j0 := up _ _ g0
          have j1 := up _ _ g1
          have j2 := up _ _ g2
          have j3 := up _ _ g3
          have j4 := up _ _ g4
          clear g0 g1 g2 g3 g4 up hop
          go_wp2_with fail
          refine (silent_any rb hb len0 D 10 x K WH M N ba bl bc _ hS2.rd (by decide)).mono ?_
          rintro e w3 ⟨rfl, h3⟩
          have hS3 := hS2.later h3
          clear hS2 h3 j0 j1 j2 j3 j4 bx
          go_wp2_with fail
          refine (fault_any rb hb len0 D 10 x _ hS3.rd).mono ?_
          rintro e w' ⟨rfl, rfl⟩
          go_wp2_with fail
          refine (num_any _ _).mono ?_
          rintro e w' ⟨rfl, rfl⟩
          go_wp2_with fail
          refine (end_bad rb hb len0 D 10 x _ hS3.rd (by decide)).mono ?_
          rintro e w' ⟨rfl, rfl⟩
          go_wp2_with fail
          refine (num_any _ _).mono ?_
          rintro e w' ⟨rfl, rfl⟩
          go_wp2_with fail
          refine (at_any rb hb len0 D 10 x _ hS3.rd).mono ?_
          rintro e w' ⟨rfl, rfl⟩
          go_wp2_with fail
          refine (left_any rb hb len0 D 10 x _ hS3.rd).mono ?_
          rintro e w' ⟨rfl, m, rfl⟩
          have hS4 := hS3.drewN m
          clear hS3
          go_wp2_with fail
          go_roundg (olen - (i + 1))
          case measure => go_light; omega
          case rel => go_light; exact ⟨i + 1, by omega, rfl, by simp, hS4⟩
        · have hcases : (decide ((i : Int) < (olen : Int)) = true ∧ decide ((i : Int) < 400) = false) ∨ decide ((i : Int) < (olen : Int)) = false := by
            by_cases h1 : i < olen
            · exact Or.inl ⟨by simp; omega, by simp; omega⟩
            · exact Or.inr (by simp; omega)
          have hfin := hs1.trans (since_mono hS2.since (by omega))
          rcases hcases with ⟨q1, q2⟩ | q1
          all_goals go_wp2
          all_goals go_ret
          all_goals exact ⟨rfl, hfin⟩
end Go.Proofs.YtafkkmkjagodfaaDoor
