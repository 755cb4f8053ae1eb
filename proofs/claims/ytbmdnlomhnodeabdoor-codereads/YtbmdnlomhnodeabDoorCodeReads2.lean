/- The walk of CodeReads, whole. -/
import Derived.Test.YtbmdnlomhnodeabDoorCodeReads1
import Derived.Deep.RegionHeld3
namespace Go.Proofs.YtbmdnlomhnodeabDoor
open Go.RowKit
set_option maxRecDepth 100000

set_option maxHeartbeats 6400000 in
set_option maxRecDepth 100000 in
theorem codeReads_walk (A : Nat → Option Addr) (L C : Nat → Nat) (zz : Nat → Nat → Nat) (oa : Option Addr) (ob oo olen ocap : Nat) (w : World) (holen : olen ≤ 281474976710656) (hW : Wid w) (hoa : 0 < olen → oa = some ⟨ob, oo, none⟩)
    (hA : ∀ k, k < 2 → Byt w (A k) (L k) (zz k)) (hn : ∀ k, k < 2 → A k = none → L k = 0 ∧ C k = 0) (hz : ∀ k, k < 2 → ∀ j, zz k j < 256) (hL : ∀ k, k < 2 → L k ≤ 140737488351232)
    (hop : ∀ i, i < olen → ∃ (K WH M : Int) (N : Nat) (ba : Option Addr) (bl bc : Nat), w.cell? ⟨ob, oo + i * 5, none⟩ = some (.int .i64 K) ∧ w.cell? ⟨ob, oo + i * 5 + 1, none⟩ = some (.int .i64 WH) ∧ w.cell? ⟨ob, oo + i * 5 + 2, none⟩ = some (.int .i64 M) ∧ w.cell? ⟨ob, oo + i * 5 + 3, none⟩ = some (.int .u64 N) ∧ w.cell? ⟨ob, oo + i * 5 + 4, none⟩ = some (.slice ba bl bc) ∧ M ≤ 9223372036854775807) :
    Calls Tryd.prog 5 #[.agg #[.slice (A 0) (L 0) (C 0), .slice (A 1) (L 1) (C 1), .slice oa olen ocap]] w fun e w' => e = .returned (.bool true) ∧ w.Since w.heap.size w' := by
  have hs1 : w.Since w.heap.size (w.alloc (.cells #[.slice (A 0) (L 0) (C 0), .slice (A 1) (L 1) (C 1), .slice oa olen ocap] 26)) := (World.Since.refl _ _).alloc (Nat.le_refl _) _
  have e0 : (w.alloc (.cells #[.slice (A 0) (L 0) (C 0), .slice (A 1) (L 1) (C 1), .slice oa olen ocap] 26)).heap.size = w.heap.size + 1 := by simp
  have box : ∀ k, k < 2 → (w.alloc (.cells #[.slice (A 0) (L 0) (C 0), .slice (A 1) (L 1) (C 1), .slice oa olen ocap] 26)).cell? ⟨w.heap.size, k, none⟩ = some (.slice (A k) (L k) (C k)) := fun k hk => by
    match k, hk with
    | 0, _ => simp
    | 1, _ => simp
  have box2 : (w.alloc (.cells #[.slice (A 0) (L 0) (C 0), .slice (A 1) (L 1) (C 1), .slice oa olen ocap] 26)).cell? ⟨w.heap.size, 2, none⟩ = some (.slice oa olen ocap) := by simp
  have hA1 : ∀ k, k < 2 → Byt (w.alloc (.cells #[.slice (A 0) (L 0) (C 0), .slice (A 1) (L 1) (C 1), .slice oa olen ocap] 26)) (A k) (L k) (zz k) := fun k hk => (hA k hk).since hs1
  have hW1 := hW.since hs1
  have hfinW : ∀ W, (w.alloc (.cells #[.slice (A 0) (L 0) (C 0), .slice (A 1) (L 1) (C 1), .slice oa olen ocap] 26)).Since (w.alloc (.cells #[.slice (A 0) (L 0) (C 0), .slice (A 1) (L 1) (C 1), .slice oa olen ocap] 26)).heap.size W → w.Since w.heap.size W := fun W h => hs1.trans (since_mono h hs1.size)
  have hop1 : ∀ i, i < olen → ∃ (K WH M : Int) (N : Nat) (ba : Option Addr) (bl bc : Nat), (w.alloc (.cells #[.slice (A 0) (L 0) (C 0), .slice (A 1) (L 1) (C 1), .slice oa olen ocap] 26)).cell? ⟨ob, oo + i * 5, none⟩ = some (.int .i64 K) ∧ (w.alloc (.cells #[.slice (A 0) (L 0) (C 0), .slice (A 1) (L 1) (C 1), .slice oa olen ocap] 26)).cell? ⟨ob, oo + i * 5 + 1, none⟩ = some (.int .i64 WH) ∧ (w.alloc (.cells #[.slice (A 0) (L 0) (C 0), .slice (A 1) (L 1) (C 1), .slice oa olen ocap] 26)).cell? ⟨ob, oo + i * 5 + 2, none⟩ = some (.int .i64 M) ∧ (w.alloc (.cells #[.slice (A 0) (L 0) (C 0), .slice (A 1) (L 1) (C 1), .slice oa olen ocap] 26)).cell? ⟨ob, oo + i * 5 + 3, none⟩ = some (.int .u64 N) ∧ (w.alloc (.cells #[.slice (A 0) (L 0) (C 0), .slice (A 1) (L 1) (C 1), .slice oa olen ocap] 26)).cell? ⟨ob, oo + i * 5 + 4, none⟩ = some (.slice ba bl bc) ∧ M ≤ 9223372036854775807 := fun i hi => by
    obtain ⟨K, WH, M, N, ba, bl, bc, c0, c1, c2, c3, c4, hM⟩ := hop i hi
    have mv : ∀ {o : Nat} {u : Value}, w.cell? ⟨ob, o, none⟩ = some u → (w.alloc (.cells #[.slice (A 0) (L 0) (C 0), .slice (A 1) (L 1) (C 1), .slice oa olen ocap] 26)).cell? ⟨ob, o, none⟩ = some u := fun {o u} hc => by
      rw [hs1.cell (a := ⟨ob, o, none⟩) (World.block_lt_of_cell? _ _ hc)]; exact hc
    exact ⟨K, WH, M, N, ba, bl, bc, mv c0, mv c1, mv c2, mv c3, mv c4, hM⟩
  clear hop hA hW hs1
  go_enter Tryd.func5, Tryd.ntmps5
  go_upto_region 3 with fail
  have hD0 : Duo2 (w.alloc (.cells #[.slice (A 0) (L 0) (C 0), .slice (A 1) (L 1) (C 1), .slice oa olen ocap] 26)) (((w.alloc (.cells #[.slice (A 0) (L 0) (C 0), .slice (A 1) (L 1) (C 1), .slice oa olen ocap] 26)).alloc (.cells #[.pointer none, .pointer none] 46)).alloc (.cells #[.pointer none, .pointer none] 48)) 0 (w.heap.size + 1) (w.heap.size + 1 + 1) (fun _ => 0) (fun _ => 0) (fun _ => 0) (fun _ => 0) L (fun _ => 0) (fun _ => 0) (fun _ => 0) (fun _ => 0) zz := by
    rw [← e0]
    generalize w.alloc (.cells #[.slice (A 0) (L 0) (C 0), .slice (A 1) (L 1) (C 1), .slice oa olen ocap] 26) = w1
    have q1 : (w1.alloc (.cells #[.pointer none, .pointer none] 46)).heap.size = w1.heap.size + 1 := by simp
    refine ⟨((World.Since.refl _ _).alloc (Nat.le_refl _) _).alloc (by simp) _, ?_, ?_, fun j hj => absurd hj (Nat.not_lt_zero _), fun j hj => absurd hj (Nat.not_lt_zero _), fun j hj => absurd hj (Nat.not_lt_zero _), fun i j _ hj => absurd hj (Nat.not_lt_zero _), fun j hj => absurd hj (Nat.not_lt_zero _), by omega, Nat.le_refl _⟩
    · refine (World.rowIs_alloc w1 #[.pointer none, .pointer none] 46 _ (fun i hi => ?_)).alloc _
      match i, hi with
      | 0, _ => rfl
      | 1, _ => rfl
    · rw [← q1]
      refine World.rowIs_alloc _ #[.pointer none, .pointer none] 48 _ (fun i hi => ?_)
      match i, hi with
      | 0, _ => rfl
      | 1, _ => rfl
  generalize hw1 : w.alloc (.cells #[.slice (A 0) (L 0) (C 0), .slice (A 1) (L 1) (C 1), .slice oa olen ocap] 26) = w1 at *
  generalize (w1.alloc (.cells #[.pointer none, .pointer none] 46)).alloc (.cells #[.pointer none, .pointer none] 48) = w3 at *
  generalize hsb : w.heap.size = sb at *
  generalize hAR : sb + 1 = aR at *
  clear hw1
  generalize hAE : aR + 1 = aE at *
  go_wp2_with fail
  go_loopg [5] 2 (fun q s5 wx => ∃ (k : Nat) (R HB E HE at' bad Lo Hi : Nat → Nat), k ≤ 2 ∧ q = 2 - k ∧ s5 = .int .i64 k ∧ Duo2 w1 wx k aR aE R HB E HE L at' bad Lo Hi zz)
  case atStart => exact ⟨0, _, _, _, _, _, _, _, _, by omega, rfl, rfl, hD0⟩
  case round =>
    obtain ⟨k, R, HB, E, HE, at', bad, Lo, Hi, hk, rfl, rfl, hD⟩ := hrel
    clear hD0
    have z1 := hD.since.size
    have lo := hD.lo
    have ar := hD.ar
    by_cases hlt : k < 2
    · have hkz : (k : Int) < 2 := by omega
      have bk : wr.cell? ⟨sb, k, none⟩ = some (.slice (A k) (L k) (C k)) := by rw [hD.since.cell (a := ⟨sb, k, none⟩) (by show sb < w1.heap.size; omega)]; exact box k hlt
      have hbk := (hA1 k hlt).since hD.since
      have hLk := hL k hlt
      have hnk := hn k hlt
      have hzk := hz k hlt
      go_wp2_with fail
      refine (lend_any (A k) (L k) (C k) (zz k) wr hLk hbk hnk).mono ?_
      rintro e w2 ⟨g, cap, f, rfl, hg, hs2, hLe⟩
      go_wp2_with fail
      refine (read_any (some ⟨g, 0, none⟩) (L k) cap (zz k) w2 (by omega) hLe.byt hzk).mono ?_
      rintro e w4 ⟨rb, rfl, hrb, hs3, hR⟩
      have hs13 := hs2.trans (since_mono hs3 hs2.size)
      have hs04 := hD.since.trans (since_mono hs13 hD.since.size)
      have cR := (row_since hD.arrR hs13).cell hlt
      simp only [Nat.lt_irrefl, if_false] at cR
      have fR := (row_since hD.arrR hs13).frozen k
      have bk4 : (w4.setCell ⟨aR, k, none⟩ (.pointer (some ⟨rb, 0, none⟩))).cell? ⟨sb, k, none⟩ = some (.slice (A k) (L k) (C k)) := by
        rw [World.cell?_of_block (w := w4) (Below.heap_setCell _ _ _ _ (by show sb ≠ aR; omega)), hs04.cell (a := ⟨sb, k, none⟩) (by show sb < w1.heap.size; omega)]; exact box k hlt
      have hb4 : Byt (w4.setCell ⟨aR, k, none⟩ (.pointer (some ⟨rb, 0, none⟩))) (A k) (L k) (zz k) := fun j hj => by
        obtain ⟨b, off, e, hc⟩ := hA1 k hlt j hj
        have hbl := World.block_lt_of_cell? _ _ hc
        refine ⟨b, off, e, ?_⟩
        rw [World.cell?_of_block (w := w4) (Below.heap_setCell _ _ _ _ (by show b ≠ aR; replace hbl : b < w1.heap.size := hbl; omega)), hs04.cell (a := ⟨b, off + j, none⟩) hbl]; exact hc
      have hz4 : (w4.setCell ⟨aR, k, none⟩ (.pointer (some ⟨rb, 0, none⟩))).heap.size = w4.heap.size := size_setCell _ _ _
      go_wp2_with fail
      refine (copy_any (A k) (L k) (C k) (zz k) _ (by omega) hb4).mono ?_
      rintro e w5 ⟨rfl, hs5, e5, hrow5⟩
      rw [hz4] at e5 hrow5
      rw [hz4]
      have hM := made hD hs2 hLe hg hs3 hR hrb hs5 e5 hrow5
      rw [e5] at hM
      have hb13 : But2 aR aE wr (w4.setCell ⟨aR, k, none⟩ (.pointer (some ⟨rb, 0, none⟩))) := (But2.of_since hs13).setL k _
      have rE := ((row_since ((row_since hD.arrE hs13).setOther (a := ⟨aR, k, none⟩) (by show aE ≠ aR; omega) (.pointer (some ⟨rb, 0, none⟩))) hs5).alloc (.cells #[.slice (some ⟨w4.heap.size, 0, none⟩) (L k) (L k), .int .i64 0, .int .i64 0] 51))
      have cE := rE.cell hlt
      simp only [Nat.lt_irrefl, if_false] at cE
      have fE := rE.frozen k
      clear rE
      go_upto_region 9 with fail
      generalize (w5.alloc (.cells #[.slice (some ⟨w4.heap.size, 0, none⟩) (L k) (L k), .int .i64 0, .int .i64 0] 51)).setCell ⟨aE, k, none⟩ (.pointer (some ⟨w4.heap.size + 1, 0, none⟩)) = wm at *
      have haR : aR < wr.heap.size := hD.arrR.lt
      have haE : aE < wr.heap.size := hD.arrE.lt
      have hs0m : w1.Since w1.heap.size wm := hM.but.since hD.since (by omega) (by omega) hD.since.size
      have bkm : wm.cell? ⟨sb, k, none⟩ = some (.slice (A k) (L k) (C k)) := by rw [hs0m.cell (a := ⟨sb, k, none⟩) (by show sb < w1.heap.size; omega)]; exact box k hlt
      have cRm := hM.rowR.cell hlt
      simp only [if_true] at cRm
      have hin := intact_any g (L k) cap (zz k) f (A k) (C k) wm hM.len ((hA1 k hlt).since hs0m) (fun h => (hnk h).1) hLk
      have hadd : ∀ W, But g wm W → Duo2 w1 W (k + 1) aR aE (up R k rb) (up HB k w2.heap.size) (up E k (w4.heap.size + 1)) (up HE k w4.heap.size) L (up at' k 0) (up bad k 0) (up Lo k wr.heap.size) (up Hi k W.heap.size) zz := fun W hb => by
        obtain ⟨q1, q2, q3, q4, q5⟩ := hM.go haE haR hb
        exact hD.add q1 q2 q3 q4 q5
      have hrg := hM.len.row
      have hroom := hM.len.room
      have hcap := hM.len.cap
      have hgl := hM.g1
      have hsz : w1.heap.size ≤ wm.heap.size := hs0m.size
      clear hs5 e5 hrow5 hM hb13 cE fE bk4 hb4 hz4 cR fR hs13 hs04 hs3 hR hrb hs2 hLe hg bk hbk
      generalize w2.heap.size = hb at *
      generalize w4.heap.size = he at *
      go_wp2_with fail
      refine hin.mono ?_
      rintro e w6 ⟨rfl, rfl⟩
      clear hin
      go_upto_region 11 with fail
      go_wp2_with fail
      go_loopg [7] (L k) (fun q s7 wx => ∃ (j : Nat), j ≤ L k ∧ q = L k - j ∧ s7 = .int .i64 j ∧ But g w6 wx ∧ ∃ f', wx.rowIs g 5 cap f')
      case atStart => exact ⟨0, Nat.zero_le _, rfl, rfl, But.of_since (World.Since.refl _ _), _, hrg⟩
      case round =>
        obtain ⟨j, hj, rfl, rfl, hbj, f', hrow⟩ := hrel
        by_cases hjl : j < L k
        · have hjz : (j : Int) < (L k : Nat) := by omega
          have cj := hrow.cell (i := j) (by omega)
          have fj := hrow.frozen j
          have hnb := hbj.setCell j (.int .u8 238)
          have hnr := hrow.set j (.int .u8 238)
          go_wp2_with fail
          go_roundg (L k - (j + 1))
          case measure => go_light; omega
          case rel => go_light; exact ⟨j + 1, by omega, rfl, by simp, hnb, _, hnr⟩
        · have hjz : ¬ ((j : Int) < (L k : Nat)) := by omega
          have hDn := hadd _ hbj
          have hsN := hDn.since
          have bkn : wr.cell? ⟨sb, k, none⟩ = some (.slice (A k) (L k) (C k)) := by rw [hsN.cell (a := ⟨sb, k, none⟩) (by show sb < w1.heap.size; omega)]; exact box k hlt
          have cRn := hDn.arrR.cell hlt
          simp only [Nat.lt_succ_self, if_true, up_at] at cRn
          have hRn := (hDn.re k (Nat.lt_succ_self k)).rd
          simp only [up_at] at hRn
          have hleft : ∀ W, wr.Since wr.heap.size W → _ := fun W hs => left_any rb hb (L k) 0 0 (zz k) W (hRn.since hs)
          clear hadd hbj hrow cRm bkm hrg
          go_upto_region 15 with fail
          go_region_held3 (fun W => W.cell? ⟨sb, k, none⟩ = some (.slice (A k) (L k) (C k)) ∧ W.cell? ⟨aR, k, none⟩ = some (.pointer (some ⟨rb, 0, none⟩)))
            (exact ⟨bkn, cRn⟩)
            ((first | (go_at_call 19; refine (hleft _ (World.Since.refl _ _).drew).mono ?_; rintro e w7 ⟨rfl, m7, rfl⟩)))
          all_goals
            clear hleft
            go_wp2_with fail
            go_roundg (2 - (k + 1))
            case measure => go_light; omega
            case rel => go_light; exact ⟨k + 1, _, _, _, _, _, _, _, _, by omega, rfl, by simp, hDn.later (since_drewN' (World.Since.refl _ _) _)⟩
    · obtain rfl : k = 2 := by omega
      go_wp2_with fail
      go_loopg [8] 400 (fun q s8 wx => ∃ (i : Nat) (at' bad : Nat → Nat), i ≤ olen ∧ i ≤ 400 ∧ q = 400 - i ∧ s8 = .int .i64 i ∧ Duo2 w1 wx 2 aR aE R HB E HE L at' bad Lo Hi zz)
      case atStart => exact ⟨0, _, _, Nat.zero_le _, by omega, rfl, rfl, hD⟩
      case round =>
        obtain ⟨i, a2, b2, hi, hi4, rfl, rfl, hD2⟩ := hrel
        clear hD z1 lo ar hk
        have bx : wr.cell? ⟨sb, 2, none⟩ = some (.slice oa olen ocap) := by rw [hD2.since.cell (a := ⟨sb, 2, none⟩) (by show sb < w1.heap.size; omega)]; exact box2
        by_cases hlt : i < olen ∧ i < 400
        · obtain ⟨hlo, hl4⟩ := hlt
          have hoa1 := hoa (by omega)
          subst hoa1
          obtain ⟨K, WH, M, N, ba, bl, bc, c0, c1, c2, c3, c4, hM⟩ := hop1 i hlo
          have mv : ∀ {o : Nat} {u : Value}, w1.cell? ⟨ob, o, none⟩ = some u → wr.cell? ⟨ob, o, none⟩ = some u := fun {o u} hc => by
            rw [hD2.since.cell (a := ⟨ob, o, none⟩) (World.block_lt_of_cell? _ _ hc)]; exact hc
          have d0 := mv c0
          have d1 := mv c1
          have d2 := mv c2
          have d3 := mv c3
          have d4 := mv c4
          have hz1 : (i : Int) < (olen : Int) := by omega
          have hz2 : (i : Int) < 400 := by omega
          have hsA : wr.Since wr.heap.size (wr.alloc (.cells #[.int .i64 K, .int .i64 WH, .int .i64 M, .int .u64 N, .slice ba bl bc] 33)) := (World.Since.refl _ _).alloc (Nat.le_refl _) _
          have hDA := hD2.later hsA
          have htop : ∀ k, k < 2 → R k < wr.heap.size ∧ E k < wr.heap.size := fun k hk => by
            have := hD2.top k hk
            have := (hD2.sp k hk).r2
            have := (hD2.sp k hk).e2
            omega
          clear mv c0 c1 c2 c3 c4
          go_upto_region 21 with fail
          have p0 : (wr.alloc (.cells #[.int .i64 K, .int .i64 WH, .int .i64 M, .int .u64 N, .slice ba bl bc] 33)).cell? ⟨wr.heap.size, 0, none⟩ = some (.int .i64 K) := by simp
          have p1 : (wr.alloc (.cells #[.int .i64 K, .int .i64 WH, .int .i64 M, .int .u64 N, .slice ba bl bc] 33)).cell? ⟨wr.heap.size, 1, none⟩ = some (.int .i64 WH) := by simp
          have p2 : (wr.alloc (.cells #[.int .i64 K, .int .i64 WH, .int .i64 M, .int .u64 N, .slice ba bl bc] 33)).cell? ⟨wr.heap.size, 2, none⟩ = some (.int .i64 M) := by simp
          have p3 : (wr.alloc (.cells #[.int .i64 K, .int .i64 WH, .int .i64 M, .int .u64 N, .slice ba bl bc] 33)).cell? ⟨wr.heap.size, 3, none⟩ = some (.int .u64 N) := by simp
          have p4 : (wr.alloc (.cells #[.int .i64 K, .int .i64 WH, .int .i64 M, .int .u64 N, .slice ba bl bc] 33)).cell? ⟨wr.heap.size, 4, none⟩ = some (.slice ba bl bc) := by simp
          generalize wr.alloc (.cells #[.int .i64 K, .int .i64 WH, .int .i64 M, .int .u64 N, .slice ba bl bc] 33) = wa at *
          generalize wr.heap.size = pb at *
          clear d0 d1 d2 d3 d4 hsA hD2 bx
          go_wp2_with fail
          refine (into_two WH wa).mono ?_
          rintro e w6 ⟨rfl, he⟩
          obtain ⟨k, hk, rfl⟩ : ∃ k : Nat, k < 2 ∧ e = .returned (.int .i64 (k : Nat)) := by
            rcases he with rfl | rfl
            · exact ⟨0, by decide, rfl⟩
            · exact ⟨1, by decide, rfl⟩
          have hkz : (k : Int) < 2 := by omega
          have hLk := hL k hk
          have ⟨ht1, ht2⟩ := htop k hk
          have hcall : ∀ W, w6.Since w6.heap.size W → Calls Tryd.prog 27 #[.pointer (some ⟨R k, 0, none⟩), .pointer (some ⟨E k, 0, none⟩), .agg #[.int .i64 K, .int .i64 WH, .int .i64 M, .int .u64 N, .slice ba bl bc]] W fun e w' => e = .returned (.bool true) ∧ (∃ at2 bad2, Duo2 w1 w' 2 aR aE R HB E HE L at2 bad2 Lo Hi zz) ∧ w'.cell? ⟨aR, k, none⟩ = some (.pointer (some ⟨R k, 0, none⟩)) ∧ w'.cell? ⟨aE, k, none⟩ = some (.pointer (some ⟨E k, 0, none⟩)) ∧ w'.cell? ⟨pb, 0, none⟩ = some (.int .i64 K) ∧ w'.cell? ⟨pb, 1, none⟩ = some (.int .i64 WH) ∧ w'.cell? ⟨pb, 2, none⟩ = some (.int .i64 M) ∧ w'.cell? ⟨pb, 3, none⟩ = some (.int .u64 N) ∧ w'.cell? ⟨pb, 4, none⟩ = some (.slice ba bl bc) := fun W hsW => by
            have hDW := hDA.later hsW
            refine (reads_walk W (R k) (HB k) (E k) (HE k) (L k) (zz k) (a2 k) (b2 k) K WH M N ba bl bc (hDW.re k hk) (hW1.since hDW.since) hLk hM).mono (fun e w' ⟨he, hg⟩ => ⟨he, ?_⟩)
            have hg2 := hg
            obtain ⟨x, y, h⟩ := hDW.step hk hg
            obtain ⟨_, _, _, hbt⟩ := hg2
            have cR := h.arrR.cell hk
            have cE := h.arrE.cell hk
            simp only [hk, if_true] at cR cE
            have hmv : ∀ {o : Nat} {u : Value}, w6.cell? ⟨pb, o, none⟩ = some u → w'.cell? ⟨pb, o, none⟩ = some u := fun {o u} hc => by
              have h1 : W.cell? ⟨pb, o, none⟩ = some u := by rw [hsW.cell (a := ⟨pb, o, none⟩) (World.block_lt_of_cell? _ _ hc)]; exact hc
              rw [World.cell?_of_block (w := W) (hbt.block pb (World.block_lt_of_cell? _ _ h1) (by omega) (by omega))]; exact h1
            exact ⟨⟨_, _, h⟩, cR, cE, hmv p0, hmv p1, hmv p2, hmv p3, hmv p4⟩
          have cR := hDA.arrR.cell hk
          have cE := hDA.arrE.cell hk
          simp only [hk, if_true] at cR cE
          go_upto_region 22 with fail
          go_region_held3 (fun W => W.cell? ⟨aR, k, none⟩ = some (.pointer (some ⟨R k, 0, none⟩)) ∧ W.cell? ⟨aE, k, none⟩ = some (.pointer (some ⟨E k, 0, none⟩)) ∧ W.cell? ⟨pb, 0, none⟩ = some (.int .i64 K) ∧ W.cell? ⟨pb, 1, none⟩ = some (.int .i64 WH) ∧ W.cell? ⟨pb, 2, none⟩ = some (.int .i64 M) ∧ W.cell? ⟨pb, 3, none⟩ = some (.int .u64 N) ∧ W.cell? ⟨pb, 4, none⟩ = some (.slice ba bl bc))
            ((first | exact ⟨cR, cE, p0, p1, p2, p3, p4⟩ | exact hS7))
            ((first | (go_at_call 27; refine (hcall _ (World.Since.refl _ _).drew).mono ?_; rintro e w7 ⟨rfl, ⟨at2, bad2, hDn⟩, hS7⟩)))
          all_goals
            clear hcall
            go_wp2_with fail
            go_roundg (400 - (i + 1))
            case measure => go_light; omega
            case rel => go_light; exact ⟨i + 1, _, _, by omega, by omega, rfl, by simp, hDn⟩
        · have hlz : ¬ ((i : Int) < (olen : Int)) ∨ ¬ ((i : Int) < 400) := by omega
          have hl4 : (i : Int) < (olen : Int) → ¬ ((i : Int) < 400) := by omega
          have hfin : ∀ W, wr.Since wr.heap.size W → w.Since w.heap.size W := fun W hs => hsb ▸ hfinW W (hD2.since.trans (since_mono hs hD2.since.size))
          have x1 := hD2.arrR.cell (i := 0) (by decide)
          have x2 := hD2.arrR.cell (i := 1) (by decide)
          have x3 := hD2.arrE.cell (i := 0) (by decide)
          have x4 := hD2.arrE.cell (i := 1) (by decide)
          simp only [show (0 : Nat) < 2 by decide, show (1 : Nat) < 2 by decide, if_true] at x1 x2 x3 x4
          have x5 := (hD2.re 0 (by decide)).ey.c1
          have x6 := (hD2.re 0 (by decide)).ey.c2
          have hat : ∀ W, wr.Since wr.heap.size W → _ := fun W hs => at_any (R 0) (HB 0) (L 0) (a2 0) (b2 0) (zz 0) W ((hD2.later hs).re 0 (by decide)).rd
          have hft : ∀ W, wr.Since wr.heap.size W → _ := fun W hs => fault_any (R 0) (HB 0) (L 0) (a2 0) (b2 0) (zz 0) W ((hD2.later hs).re 0 (by decide)).rd
          have hend : ∀ W, wr.Since wr.heap.size W → _ := fun W hs => end_r (R 1) (HB 1) (L 1) (a2 1) (b2 1) (zz 1) W ((hD2.later hs).re 1 (by decide)).rd
          have hend2 : ∀ W, wr.Since wr.heap.size W → _ := fun W hs => eyeEnd (E 1) (HE 1) (L 1) (a2 1) (b2 1) (zz 1) W ((hD2.later hs).re 1 (by decide)).ey
          generalize (if b2 1 = 0 ∧ a2 1 < L 1 then 13 else b2 1) = X at *
          generalize R 0 = R0 at *
          generalize R 1 = R1 at *
          generalize E 0 = E0 at *
          generalize E 1 = E1 at *
          generalize a2 0 = p at *
          generalize b2 0 = q at *
          clear hD2 hlz hlt hop1 hoa hA1 box hn hz hL hW1 hfinW
          by_cases hio : (i : Int) < (olen : Int)
          all_goals
            try have hl5 := hl4 hio
            clear hl4
            go_upto_region 24 with fail
            go_region_held3 (fun W => W.cell? ⟨aR, 0, none⟩ = some (.pointer (some ⟨R0, 0, none⟩)) ∧ W.cell? ⟨aR, 1, none⟩ = some (.pointer (some ⟨R1, 0, none⟩)) ∧ W.cell? ⟨aE, 0, none⟩ = some (.pointer (some ⟨E0, 0, none⟩)) ∧ W.cell? ⟨aE, 1, none⟩ = some (.pointer (some ⟨E1, 0, none⟩)) ∧ W.cell? ⟨E0, 1, none⟩ = some (.int .i64 p) ∧ W.cell? ⟨E0, 2, none⟩ = some (.int .i64 q))
              (exact ⟨x1, x2, x3, x4, x5, x6⟩)
              ((first
                | (go_at_call 20; refine (hat _ ?_).mono ?_; (exact ⟨rfl, rfl, rfl, Nat.le_refl _, fun _ _ => rfl⟩); rintro e w7 ⟨rfl, rfl⟩)
                | (go_at_call 17; refine (hft _ ?_).mono ?_; (exact ⟨rfl, rfl, rfl, Nat.le_refl _, fun _ _ => rfl⟩); rintro e w7 ⟨rfl, rfl⟩)
                | (go_at_call 16; refine (num_e _ _).mono ?_; rintro e w7 ⟨rfl, rfl⟩)
                | (go_at_call 18; refine (hend _ ?_).mono ?_; (exact ⟨rfl, rfl, rfl, Nat.le_refl _, fun _ _ => rfl⟩); rintro e w7 ⟨rfl, m7, rfl⟩)
                | (go_at_call 28; refine (hend2 _ ?_).mono ?_; (exact ⟨rfl, rfl, rfl, Nat.le_refl _, fun _ _ => rfl⟩); rintro e w8 ⟨rfl, m8, rfl⟩)))
            all_goals
              go_wp2_with fail
              go_ret
              exact ⟨rfl, hfin _ ⟨rfl, rfl, rfl, Nat.le_refl _, fun _ _ => rfl⟩⟩
end Go.Proofs.YtbmdnlomhnodeabDoor
