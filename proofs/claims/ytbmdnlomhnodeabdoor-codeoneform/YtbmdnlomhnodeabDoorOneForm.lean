/- The walk of CodeOneForm. -/
import Derived.Test.YtbmdnlomhnodeabDoorAgain2
namespace Go.Proofs.YtbmdnlomhnodeabDoor
open Go.RowKit
set_option maxRecDepth 100000

theorem num_r (n : Int) (w : World) : Calls Tryd.prog 16 #[.int .i64 n] w fun e w' => e = .returned (.int .i64 n) ∧ w' = w := by
  go_enter Tryd.func16, Tryd.ntmps16
  go_wp2
  go_ret
  exact ⟨rfl, rfl⟩
theorem byt_congr {w : World} {a : Option Addr} {n : Nat} {x y : Nat → Nat} (h : Byt w a n x) (e : ∀ j, j < n → x j = y j) : Byt w a n y := fun j hj => by
  obtain ⟨b, off, ea, hc⟩ := h j hj
  exact ⟨b, off, ea, by rw [← e j hj]; exact hc⟩

set_option maxHeartbeats 3200000 in
set_option maxRecDepth 100000 in
theorem oneForm_walk (a0 : Option Addr) (len0 cap0 : Nat) (a1 : Option Addr) (len1 cap1 : Nat) (oa : Option Addr) (ob oo olen ocap : Nat) (x0 : Nat → Nat) (w : World) (hl0 : len0 ≤ 140737488351232) (hc0 : len0 ≤ cap0) (holen : olen ≤ 281474976710656) (hb : Byt w a0 len0 x0) (hz : ∀ j, x0 j < 256) (hW : Wid w) (hoa : 0 < olen → oa = some ⟨ob, oo, none⟩)
    (hop : ∀ i, i < olen → ∃ (K WH M : Int) (N : Nat) (ba : Option Addr) (bl bc : Nat), w.cell? ⟨ob, oo + i * 5, none⟩ = some (.int .i64 K) ∧ w.cell? ⟨ob, oo + i * 5 + 1, none⟩ = some (.int .i64 WH) ∧ w.cell? ⟨ob, oo + i * 5 + 2, none⟩ = some (.int .i64 M) ∧ w.cell? ⟨ob, oo + i * 5 + 3, none⟩ = some (.int .u64 N) ∧ w.cell? ⟨ob, oo + i * 5 + 4, none⟩ = some (.slice ba bl bc) ∧ N < 18446744073709551616 ∧ M ≤ 9223372036854775807) :
    Calls Tryd.prog 4 #[.agg #[.slice a0 len0 cap0, .slice a1 len1 cap1, .slice oa olen ocap]] w fun e w' => e = .returned (.bool true) ∧ w.Since w.heap.size w' := by
  have hs1 : w.Since w.heap.size (w.alloc (.cells #[.slice a0 len0 cap0, .slice a1 len1 cap1, .slice oa olen ocap] 26)) := (World.Since.refl _ _).alloc (Nat.le_refl _) _
  have e0 : (w.alloc (.cells #[.slice a0 len0 cap0, .slice a1 len1 cap1, .slice oa olen ocap] 26)).heap.size = w.heap.size + 1 := by simp
  have box1 : (w.alloc (.cells #[.slice a0 len0 cap0, .slice a1 len1 cap1, .slice oa olen ocap] 26)).cell? ⟨w.heap.size, 2, none⟩ = some (.slice oa olen ocap) := by simp
  have hb1 := hb.since hs1
  have hW1 := hW.since hs1
  go_enter Tryd.func4, Tryd.ntmps4
  go_wp2_with fail
  generalize w.alloc (.cells #[.slice a0 len0 cap0, .slice a1 len1 cap1, .slice oa olen ocap] 26) = w1 at *
  refine (read_any a0 len0 cap0 x0 w1 (by omega) hb1 hz).mono ?_
  rintro e w2 ⟨rb, rfl, hrb, hs2, hR⟩
  go_wp2_with fail
  refine (new_w w2).mono ?_
  rintro e w3 ⟨rfl, hs3, e3, hI3⟩
  have hO3 : OF w1 w3 rb w1.heap.size len0 x0 0 0 w2.heap.size w3.heap.size (.slice none 0 0) ((List.range 0).map x0) := by
    have q1 := hR.rd.lt
    have q2 := hR.row.lt
    exact ⟨hs2.trans (since_mono hs3 hs2.size), hR.since hs3, hI3 _, by omega, Nat.le_refl _, by omega, fun k e => by simp [Value.ownBlock] at e, by omega, by omega⟩
  have hlf := left_any rb w1.heap.size len0 0 0 x0 w3 hO3.rd
  rw [Nat.sub_zero] at hlf
  generalize w3.heap.size = B at *
  generalize w2.heap.size = wb at *
  generalize hhb : w1.heap.size = hb0 at *
  clear hs3 hI3 e3 hR hs2
  go_wp2_with fail
  refine hlf.mono ?_
  rintro e w4 ⟨rfl, m4, rfl⟩
  have hO4 := hO3.later (since_drewN' (World.Since.refl _ _) m4)
  generalize w3.drewN m4 = w4 at *
  clear hlf hO3
  go_wp2_with fail
  go_loopg [6] 400 (fun q s6 wx => ∃ (i at' : Nat) (v : Value), i ≤ olen ∧ i ≤ 400 ∧ q = 400 - i ∧ s6 = .int .i64 i ∧ OF w1 wx rb hb0 len0 x0 at' 0 wb B v ((List.range at').map x0))
  case atStart => exact ⟨0, 0, _, Nat.zero_le _, by omega, rfl, rfl, hO4⟩
  case round =>
    obtain ⟨i, at', v, hi, hi4, rfl, rfl, hO⟩ := hrel
    clear hO4
    have box : wr.cell? ⟨w.heap.size, 2, none⟩ = some (.slice oa olen ocap) := by rw [hO.since.cell (a := ⟨w.heap.size, 2, none⟩) (by show w.heap.size < _; omega)]; exact box1
    have hle := hO.rd.le
    by_cases hlt : i < olen ∧ i < 400
    · obtain ⟨hlo, hl4⟩ := hlt
      have hoa1 := hoa (by omega)
      subst hoa1
      obtain ⟨K, WH, M, N, ba, bl, bc, c0, c1, c2, c3, c4, hN, hM⟩ := hop i hlo
      have mv : ∀ {W : World}, w1.Since w1.heap.size W → ∀ {o : Nat} {u : Value}, w.cell? ⟨ob, o, none⟩ = some u → W.cell? ⟨ob, o, none⟩ = some u := fun {W} hs {o u} hc => by
        have hob := World.block_lt_of_cell? _ _ hc
        have hob : ob < w.heap.size := hob
        rw [hs.cell (a := ⟨ob, o, none⟩) (by show ob < _; omega), hs1.cell (a := ⟨ob, o, none⟩) (by show ob < _; omega)]; exact hc
      have d0 := mv hO.since c0
      have d1 := mv hO.since c1
      have d2 := mv hO.since c2
      have d3 := mv hO.since c3
      have d4 := mv hO.since c4
      have hz1 : (i : Int) < (olen : Int) := by omega
      have hz2 : (i : Int) < 400 := by omega
      have hat := at_any rb hb0 len0 at' 0 x0 wr hO.rd
      have hln := len_w wb B v _ _ wr hO.wt
      simp only [List.length_map, List.length_range] at hln
      have hag := again_walk w1 wr rb hb0 len0 x0 at' wb B v K WH M N ba bl bc hO hW1 hl0 hN hM
      clear mv c0 c1 c2 c3 c4
      go_wp2_with fail
      refine hat.mono ?_
      rintro e w5 ⟨rfl, rfl⟩
      go_wp2_with fail
      refine hln.mono ?_
      rintro e w5 ⟨rfl, rfl⟩
      go_wp2_with fail
      refine hag.mono ?_
      rintro e w6 ⟨rfl, at2, bad2, v2, l2, hO2, hge, hl2, hbd⟩
      have hfa := fault_any rb hb0 len0 at2 bad2 x0 w6 hO2.rd
      have hnu := num_r bad2 w6
      have hat2 := at_any rb hb0 len0 at2 bad2 x0 w6 hO2.rd
      clear hat hln hag d0 d1 d2 d3 d4
      go_wp2_with fail
      refine hfa.mono ?_
      rintro e w7 ⟨rfl, rfl⟩
      go_wp2_with fail
      refine hnu.mono ?_
      rintro e w7 ⟨rfl, rfl⟩
      by_cases hb2 : bad2 = 0
      · subst hb2
        obtain rfl := hl2 rfl
        have hle2 := hO2.rd.le
        have hr1 : ¬ ((at2 : Int) < (at' : Int)) := by omega
        have hr2 : ¬ ((len0 : Int) < (at2 : Int)) := by omega
        have hr3 : ((((len0 - at2 : Nat) : Int)) != (len0 : Int) - (at2 : Int)) = false := by simp; omega
        have hlf := left_any rb hb0 len0 at2 0 x0 w7 hO2.rd
        clear hfa hnu hbd hl2
        go_wp2_with fail
        refine hat2.mono ?_
        rintro e w8 ⟨rfl, rfl⟩
        go_wp2_with fail
        refine hat2.mono ?_
        rintro e w8' ⟨rfl, rfl⟩
        go_wp2_with fail
        refine hlf.mono ?_
        rintro e w9 ⟨rfl, m9, rfl⟩
        have hO9 := hO2.later (since_drewN' (World.Since.refl _ _) m9)
        have hat9 := at_any rb hb0 len0 at2 0 x0 _ hO9.rd
        have hln9 := len_w wb B v2 _ _ _ hO9.wt
        simp only [List.length_map, List.length_range] at hln9
        have hou := out_w wb B v2 _ _ _ hO9.wt (by simp; omega)
        simp only [List.length_map, List.length_range] at hou
        generalize w8'.drewN m9 = w9 at *
        clear hlf hat2 hO2
        generalize ((len0 - at2 : Nat) : Int) = LL at *
        go_wp2_with fail
        refine hat9.mono ?_
        rintro e w10 ⟨rfl, rfl⟩
        go_wp2_with fail
        refine hln9.mono ?_
        rintro e w10' ⟨rfl, rfl⟩
        go_wp2_with fail
        refine hat9.mono ?_
        rintro e w11 ⟨rfl, rfl⟩
        go_wp2_with fail
        refine hou.mono ?_
        rintro e w12 ⟨rfl, hs12, e12, hrow⟩
        have hO12 := hO9.later hs12
        have hat12 := at_any rb hb0 len0 at2 0 x0 w12 hO12.rd
        have hz3 : (at2 : Int) ≤ (cap0 : Int) := by omega
        have hy : Byt w12 (some ⟨w11.heap.size, 0, none⟩) at2 x0 := byt_congr (Byt.of_row hrow) (fun j hj => getD_range_map x0 at2 j hj)
        have hy2 : Byt w12 a0 at2 x0 := (hb1.since hO12.since).le hle2
        have heq := eq_same (some ⟨w11.heap.size, 0, none⟩) a0 at2 at2 cap0 x0 w12 hy hy2 (by omega)
        generalize w11.heap.size = gq at *
        clear hou hat9 hln9 hO9 hrow hy hs12 e12
        go_wp2_with fail
        refine hat12.mono ?_
        rintro e w13 ⟨rfl, rfl⟩
        go_wp2_with fail
        refine heq.mono ?_
        rintro e w14 ⟨rfl, m14, rfl⟩
        have hO14 := hO12.later (since_drewN' (World.Since.refl _ _) m14)
        generalize w13.drewN m14 = w14 at *
        clear heq hat12 hO12 hy2
        go_wp2_with fail
        go_roundg (400 - (i + 1))
        case measure => go_light; omega
        case rel => go_light; exact ⟨i + 1, at2, v2, by omega, by omega, rfl, by simp, hO14⟩
      · have hq : ((bad2 : Int) != 0) = true := by simp; omega
        obtain rfl := hbd hb2
        have hfin : w.Since w.heap.size w7 := hs1.trans (since_mono hO2.since (by omega))
        go_wp2_with fail
        refine hat2.mono ?_
        rintro e w8 ⟨rfl, rfl⟩
        go_wp2_with fail
        go_ret
        exact ⟨rfl, hfin⟩
    · have hfin : w.Since w.heap.size wr := hs1.trans (since_mono hO.since (by omega))
      have hen := end_r rb hb0 len0 at' 0 x0 wr hO.rd
      have hl4 : (i : Int) < (olen : Int) → ¬ ((i : Int) < 400) := by omega
      by_cases hio : (i : Int) < (olen : Int)
      all_goals
        try have hl5 := hl4 hio
        clear hl4 hlt
        by_cases hend : at' < len0
        · rw [if_pos ⟨rfl, hend⟩] at hen
          go_wp2_with fail
          refine hen.mono ?_
          rintro e w5 ⟨rfl, m5, rfl⟩
          have hO5 := hO.later (since_drewN' (World.Since.refl _ _) m5)
          have hlf := left_any rb hb0 len0 at' 0 x0 _ hO5.rd
          have hlz : (((len0 - at' : Nat) : Int) == 0) = false := by simp; omega
          have hfin5 := since_drewN' hfin m5
          generalize wr.drewN m5 = w5 at *
          generalize ((len0 - at' : Nat) : Int) = LL at *
          go_wp2_with fail
          refine (num_r 13 w5).mono ?_
          rintro e w6 ⟨rfl, rfl⟩
          go_wp2_with fail
          refine hlf.mono ?_
          rintro e w7 ⟨rfl, m7, rfl⟩
          go_wp2_with fail
          go_ret
          exact ⟨rfl, since_drewN' hfin5 m7⟩
        · rw [if_neg (by omega)] at hen
          go_wp2_with fail
          refine hen.mono ?_
          rintro e w5 ⟨rfl, m5, rfl⟩
          have hO5 := hO.later (since_drewN' (World.Since.refl _ _) m5)
          have hlf := left_any rb hb0 len0 at' 0 x0 _ hO5.rd
          have hlz : ((len0 - at' : Nat) : Int) = 0 := by omega
          rw [hlz] at hlf
          have hfin5 := since_drewN' hfin m5
          generalize wr.drewN m5 = w5 at *
          go_wp2_with fail
          refine (num_r 0 w5).mono ?_
          rintro e w6 ⟨rfl, rfl⟩
          go_wp2_with fail
          refine hlf.mono ?_
          rintro e w7 ⟨rfl, m7, rfl⟩
          go_wp2_with fail
          go_ret
          exact ⟨rfl, since_drewN' hfin5 m7⟩
end Go.Proofs.YtbmdnlomhnodeabDoor
