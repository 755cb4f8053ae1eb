/- The walk of CodeWrites. -/
import Derived.Test.YtbmdnlomhnodeaaDoorWrites3
import Derived.Deep.RegionHeld3
namespace Go.Proofs.YtbmdnlomhnodeaaDoor
open Go.RowKit

set_option maxHeartbeats 3200000 in
set_option maxRecDepth 100000 in
theorem writes_walk (a0 : Option Addr) (len0 cap0 : Nat) (a1 : Option Addr) (len1 cap1 : Nat) (oa : Option Addr) (ob oo olen ocap : Nat) (w : World) (holen : olen ≤ 281474976710656) (hW : Wid w) (hoa : 0 < olen → oa = some ⟨ob, oo, none⟩)
    (hop : ∀ i, i < olen → ∃ (K WH M : Int) (N : Nat) (ba : Option Addr) (bl bc : Nat) (zb : Nat → Nat), w.cell? ⟨ob, oo + i * 5, none⟩ = some (.int .i64 K) ∧ w.cell? ⟨ob, oo + i * 5 + 1, none⟩ = some (.int .i64 WH) ∧ w.cell? ⟨ob, oo + i * 5 + 2, none⟩ = some (.int .i64 M) ∧ w.cell? ⟨ob, oo + i * 5 + 3, none⟩ = some (.int .u64 N) ∧ w.cell? ⟨ob, oo + i * 5 + 4, none⟩ = some (.slice ba bl bc) ∧ N < 18446744073709551616 ∧ Byt w ba bl zb ∧ (ba = none → bl = 0 ∧ bc = 0) ∧ bl ≤ 1048576) :
    Calls Tryd.prog 8 #[.agg #[.slice a0 len0 cap0, .slice a1 len1 cap1, .slice oa olen ocap]] w fun e w' => e = .returned (.bool true) ∧ w.Since w.heap.size w' := by
  have hs1 : w.Since w.heap.size (w.alloc (.cells #[.slice a0 len0 cap0, .slice a1 len1 cap1, .slice oa olen ocap] 41)) := (World.Since.refl _ _).alloc (Nat.le_refl _) _
  have e0 : (w.alloc (.cells #[.slice a0 len0 cap0, .slice a1 len1 cap1, .slice oa olen ocap] 41)).heap.size = w.heap.size + 1 := by simp
  have box2 : (w.alloc (.cells #[.slice a0 len0 cap0, .slice a1 len1 cap1, .slice oa olen ocap] 41)).cell? ⟨w.heap.size, 2, none⟩ = some (.slice oa olen ocap) := by simp
  go_enter Tryd.func8, Tryd.ntmps8
  go_wp2_with fail
  generalize w.alloc (.cells #[.slice a0 len0 cap0, .slice a1 len1 cap1, .slice oa olen ocap] 41) = w1 at *
  refine (new_w w1).mono ?_
  rintro e w2 ⟨rfl, hs2, e2, hI0⟩
  go_wp2_with fail
  refine (new_w w2).mono ?_
  rintro e w3 ⟨rfl, hs3, e3, hI1⟩
  go_upto_region 5 with fail
  have hs13 : w1.Since w1.heap.size w3 := hs2.trans (since_mono hs3 hs2.size)
  have hs03 : w.Since w.heap.size w3 := hs1.trans (since_mono hs13 hs1.size)
  have hD0 : Duo w ((w3.alloc (.cells #[.pointer (some ⟨w.heap.size + 1, 0, none⟩), .pointer (some ⟨w.heap.size + 1 + 1, 0, none⟩)] 66)).alloc (.cells #[.slice none 0 0, .slice none 0 0] 38)) (fun i => w.heap.size + 1 + i) (fun _ => .slice none 0 0) (fun _ => .slice none 0 0) (fun _ => []) (w.heap.size + 1 + 1 + 1) (w.heap.size + 1 + 1 + 1 + 1) w.heap.size 0 := by
    have f0 : w3.rowIs (w.heap.size + 1) 82 1 (fun _ => .slice none 0 0) := by
      have := (hI0 (fun _ => 0)).cell
      rw [e0] at this
      exact this.of_block (hs3.block _ (by omega))
    have f1 : w3.rowIs (w.heap.size + 1 + 1) 82 1 (fun _ => .slice none 0 0) := by
      have := (hI1 (fun _ => 0)).cell
      rw [e2, e0] at this
      exact this
    have z3 : w3.heap.size = w.heap.size + 1 + 1 + 1 := by omega
    have hft : ∀ i k, Foot (w.heap.size + 1 + i) (.slice none 0 0) (.slice none 0 0) k → k = w.heap.size + 1 + i := fun i k hf => by
      rcases hf with e | e | e
      · exact e
      · simp [Value.ownBlock] at e
      · simp [Value.ownBlock] at e
    refine ⟨((hs03.alloc (by omega) _).alloc (by simp; omega) _), fun k hk => ⟨⟨?_, own_nil _ _ _, by simp [Value.ownBlock], by simp; omega⟩, own_nil _ _ _, by simp [Value.ownBlock], fun k e => by simp [Value.ownBlock] at e, by omega⟩, fun i j k hi hj hij h1 h2 => ?_, ?_, ?_, fun i k hi hf => ?_, by omega, by omega, by omega, by simp; omega, fun k hk => Nat.le_refl _⟩
    · match k, hk with
      | 0, _ => exact (f0.alloc _).alloc _
      | 1, _ => exact (f1.alloc _).alloc _
    · have := hft i k h1
      have := hft j k h2
      omega
    · rw [← z3]
      refine (World.rowIs_alloc w3 #[.pointer (some ⟨w.heap.size + 1, 0, none⟩), .pointer (some ⟨w.heap.size + 1 + 1, 0, none⟩)] 66 _ (fun i hi => ?_)).alloc _
      match i, hi with
      | 0, _ => rfl
      | 1, _ => rfl
    · have zz : w.heap.size + 1 + 1 + 1 + 1 = (w3.alloc (.cells #[.pointer (some ⟨w.heap.size + 1, 0, none⟩), .pointer (some ⟨w.heap.size + 1 + 1, 0, none⟩)] 66)).heap.size := by simp; omega
      rw [zz]
      refine World.rowIs_alloc _ #[.slice none 0 0, .slice none 0 0] 38 _ (fun i hi => ?_)
      match i, hi with
      | 0, _ => rfl
      | 1, _ => rfl
    · have := hft i k hf
      omega
  have box5 : ((w3.alloc (.cells #[.pointer (some ⟨w.heap.size + 1, 0, none⟩), .pointer (some ⟨w.heap.size + 1 + 1, 0, none⟩)] 66)).alloc (.cells #[.slice none 0 0, .slice none 0 0] 38)).cell? ⟨w.heap.size, 2, none⟩ = some (.slice oa olen ocap) := by
    have h3 : w3.cell? ⟨w.heap.size, 2, none⟩ = some (.slice oa olen ocap) := by rw [hs13.cell (a := ⟨w.heap.size, 2, none⟩) (by show w.heap.size < _; omega)]; exact box2
    have hh := ((World.Since.refl w3.heap.size w3).alloc (Nat.le_refl _) (.cells #[.pointer (some ⟨w.heap.size + 1, 0, none⟩), .pointer (some ⟨w.heap.size + 1 + 1, 0, none⟩)] 66)).alloc (by simp) (.cells #[.slice none 0 0, .slice none 0 0] 38)
    rw [hh.cell (a := ⟨w.heap.size, 2, none⟩) (by show w.heap.size < _; omega)]; exact h3
  generalize (w3.alloc (.cells #[.pointer (some ⟨w.heap.size + 1, 0, none⟩), .pointer (some ⟨w.heap.size + 1 + 1, 0, none⟩)] 66)).alloc (.cells #[.slice none 0 0, .slice none 0 0] 38) = w5 at *
  generalize hsb : w.heap.size = sb at *
  generalize (fun i => sb + 1 + i) = P at hD0
  generalize sb + 1 + 1 + 1 + 1 = ah at *
  generalize sb + 1 + 1 + 1 = aw at *
  clear hs03 hs13 hs3 e3 hI1 hs2 e2 hI0 box2 hs1 e0 w3 w2 w1
  go_wp2_with fail
  go_loopg [5] 400 (fun q s5 wx => ∃ (i : Nat) (V H : Nat → Value) (L : Nat → List Nat), i ≤ olen ∧ i ≤ 400 ∧ q = 400 - i ∧ s5 = .int .i64 i ∧ Duo w wx P V H L aw ah sb (i * 1048586) ∧ wx.cell? ⟨sb, 2, none⟩ = some (.slice oa olen ocap))
  case atStart => exact ⟨0, _, _, _, Nat.zero_le _, by omega, rfl, rfl, hD0, box5⟩
  case round =>
    obtain ⟨i, V, H, L, hi, hi4, rfl, rfl, hD, box⟩ := hrel
    clear hD0 box5
    by_cases hlt : i < olen ∧ i < 400
    · obtain ⟨hlo, hl4⟩ := hlt
      have hoa1 := hoa (by omega)
      subst hoa1
      obtain ⟨K, WH, M, N, ba, bl, bc, zb, c0, c1, c2, c3, c4, hN, hbz, hba, hbl⟩ := hop i hlo
      have mv : ∀ {o : Nat} {u : Value}, w.cell? ⟨ob, o, none⟩ = some u → wr.cell? ⟨ob, o, none⟩ = some u := fun {o u} hc => by
        rw [hD.since.cell (a := ⟨ob, o, none⟩) (World.block_lt_of_cell? _ _ hc)]; exact hc
      have d0 := mv c0
      have d1 := mv c1
      have d2 := mv c2
      have d3 := mv c3
      have d4 := mv c4
      have hz1 : (i : Int) < (olen : Int) := by omega
      have hz2 : (i : Int) < 400 := by omega
      have hsA : wr.Since wr.heap.size (wr.alloc (.cells #[.int .i64 K, .int .i64 WH, .int .i64 M, .int .u64 N, .slice ba bl bc] 52)) := (World.Since.refl _ _).alloc (Nat.le_refl _) _
      have hDA := hD.later hsA
      have boxA : (wr.alloc (.cells #[.int .i64 K, .int .i64 WH, .int .i64 M, .int .u64 N, .slice ba bl bc] 52)).cell? ⟨sb, 2, none⟩ = some (.slice (some ⟨ob, oo, none⟩) olen ocap) := by rw [hsA.cell (a := ⟨sb, 2, none⟩) (World.block_lt_of_cell? _ _ box)]; exact box
      clear mv c0 c1 c2 c3 c4
      go_upto_region 9 with fail
      have p0 : (wr.alloc (.cells #[.int .i64 K, .int .i64 WH, .int .i64 M, .int .u64 N, .slice ba bl bc] 52)).cell? ⟨wr.heap.size, 0, none⟩ = some (.int .i64 K) := by simp
      have p1 : (wr.alloc (.cells #[.int .i64 K, .int .i64 WH, .int .i64 M, .int .u64 N, .slice ba bl bc] 52)).cell? ⟨wr.heap.size, 1, none⟩ = some (.int .i64 WH) := by simp
      have p2 : (wr.alloc (.cells #[.int .i64 K, .int .i64 WH, .int .i64 M, .int .u64 N, .slice ba bl bc] 52)).cell? ⟨wr.heap.size, 2, none⟩ = some (.int .i64 M) := by simp
      have p3 : (wr.alloc (.cells #[.int .i64 K, .int .i64 WH, .int .i64 M, .int .u64 N, .slice ba bl bc] 52)).cell? ⟨wr.heap.size, 3, none⟩ = some (.int .u64 N) := by simp
      have p4 : (wr.alloc (.cells #[.int .i64 K, .int .i64 WH, .int .i64 M, .int .u64 N, .slice ba bl bc] 52)).cell? ⟨wr.heap.size, 4, none⟩ = some (.slice ba bl bc) := by simp
      generalize wr.alloc (.cells #[.int .i64 K, .int .i64 WH, .int .i64 M, .int .u64 N, .slice ba bl bc] 52) = wa at *
      generalize wr.heap.size = pb at *
      clear d0 d1 d2 d3 d4 hsA hD box
      go_wp2_with fail
      refine (into_two WH wa).mono ?_
      rintro e w6 ⟨rfl, he⟩
      obtain ⟨k, hk, rfl⟩ : ∃ k : Nat, k < 2 ∧ e = .returned (.int .i64 (k : Nat)) := by
        rcases he with rfl | rfl
        · exact ⟨0, by decide, rfl⟩
        · exact ⟨1, by decide, rfl⟩
      have hkz : (k : Int) < 2 := by omega
      have hcall : ∀ W, w6.Since w6.heap.size W → Calls Tryd.prog 35 #[.pointer (some ⟨P k, 0, none⟩), H k, .agg #[.int .i64 K, .int .i64 WH, .int .i64 M, .int .u64 N, .slice ba bl bc]] W fun e w' => ∃ v' hv' l', e = .returned (.tuple #[hv', .bool true]) ∧ Did w W w' (P k) (V k) (H k) v' hv' l' ((i + 1) * 1048586) := fun W hsW => by
        have hDW := hDA.later hsW
        have hln := hDW.len k hk
        exact (writes_any w W (P k) (V k) (H k) (L k) K WH M N ba bl bc zb hDW.since (hDW.pair k hk) hW hbz hba hN (by omega)).mono (fun e w' ⟨v', hv', l', he, hd⟩ => ⟨v', hv', l', he, hd.since, hd.pair, hd.move, by have := hd.len; omega⟩)
      have ca := hDA.arr.cell hk
      have ch := hDA.hel.cell hk
      go_upto_region 10 with fail
      go_cut [8, 9] from 21 to 55 (fun s8 s9 wx => ∃ (W : World) (v' hv' : Value) (l' : List Nat), hv' = s8 ∧ s9 = .bool true ∧ w6.Since w6.heap.size W ∧ Did w W wx (P k) (V k) (H k) v' hv' l' ((i + 1) * 1048586))
      case first =>
        go_region_with (first | (go_at_call 35; refine (hcall _ ?_).mono ?_; (first | exact World.Since.refl _ _ | exact (World.Since.refl _ _).drew | exact since_drewN (World.Since.refl _ _) _); rintro e w7 ⟨v', hv', l', rfl, hd⟩))
        all_goals
          go_wp2_with fail
          go_meet
          case rel => go_light; first | exact ⟨_, v', hv', l', rfl, rfl, World.Since.refl _ _, hd⟩ | exact ⟨_, v', hv', l', rfl, rfl, (World.Since.refl _ _).drew, hd⟩ | exact ⟨_, v', hv', l', rfl, rfl, since_drewN (World.Since.refl _ _) _, hd⟩
      case rest =>
        obtain ⟨W, v', hv', l', rfl, rfl, hsW, hd⟩ := hcut
        obtain ⟨fa, fc, rfl⟩ := own_form hd.pair.own
        obtain ⟨x1, x2, hDn⟩ := (hDA.later hsW).step hk hd (by omega)
        have boxn : (wc.setCell ⟨ah, k, none⟩ (.slice fa l'.length fc)).cell? ⟨sb, 2, none⟩ = some (.slice (some ⟨ob, oo, none⟩) olen ocap) := by
          have hnf : ¬ Foot (P k) (V k) (H k) sb := fun hf => ((hDA.far k sb hk hf).2.2 rfl)
          have y1 : W.cell? ⟨sb, 2, none⟩ = some (.slice (some ⟨ob, oo, none⟩) olen ocap) := by rw [hsW.cell (a := ⟨sb, 2, none⟩) (World.block_lt_of_cell? _ _ boxA)]; exact boxA
          have y2 := hd.move.cell y1 hnf
          rw [World.cell?_of_block (w := wc) (Below.heap_setCell _ _ _ _ hDA.ne2)]; exact y2
        clear hd hsW hcall hDA
        go_wp2_with fail
        go_roundg (400 - (i + 1))
        case measure => go_light; omega
        case rel => go_light; exact ⟨i + 1, _, _, _, by omega, by omega, rfl, by simp, hDn, boxn⟩
    · have hfin : ∀ W, wr.Since wr.heap.size W → w.Since w.heap.size W := fun W hs => hD.since.trans (since_mono hs hD.since.size)
      obtain ⟨b0, k0, hH0, hb0, _⟩ := own_byt (hD.pair 0 (by decide)).own
      obtain ⟨b1, k1, hH1, hb1, _⟩ := own_byt (hD.pair 1 (by decide)).own
      have hl0 := hD.len 0 (by decide)
      have hl1 := hD.len 1 (by decide)
      have hcell : ∀ W, wr.Since wr.heap.size W → W.cell? ⟨aw, 0, none⟩ = some (.pointer (some ⟨P 0, 0, none⟩)) ∧ W.cell? ⟨aw, 1, none⟩ = some (.pointer (some ⟨P 1, 0, none⟩)) ∧ W.cell? ⟨ah, 0, none⟩ = some (.slice b0 (L 0).length k0) ∧ W.cell? ⟨ah, 1, none⟩ = some (.slice b1 (L 1).length k1) := fun W hs => by
        have hDW := hD.later hs
        exact ⟨hDW.arr.cell (i := 0) (by decide), hDW.arr.cell (i := 1) (by decide), by rw [← hH0]; exact hDW.hel.cell (i := 0) (by decide), by rw [← hH1]; exact hDW.hel.cell (i := 1) (by decide)⟩
      have hout0 : ∀ W, wr.Since wr.heap.size W → Calls Tryd.prog 33 #[.pointer (some ⟨P 0, 0, none⟩)] W fun e w' => ∃ g, e = .returned (.slice (some ⟨g, 0, none⟩) (L 0).length (L 0).length) ∧ wr.Since wr.heap.size w' ∧ Byt w' (some ⟨g, 0, none⟩) (L 0).length (fun j => (L 0).getD j 0) ∧ Byt w' b0 (L 0).length (fun j => (L 0).getD j 0) := fun W hs =>
        (out_w (P 0) _ (V 0) (L 0).length _ W ((hD.later hs).pair 0 (by decide)).isl (by omega)).mono (fun e w' ⟨h1, h2, _, h4⟩ => ⟨_, h1, hs.trans (since_mono h2 hs.size), Byt.of_row h4, hb0.since (hs.trans (since_mono h2 hs.size))⟩)
      have hout1 : ∀ W, wr.Since wr.heap.size W → Calls Tryd.prog 33 #[.pointer (some ⟨P 1, 0, none⟩)] W fun e w' => ∃ g, e = .returned (.slice (some ⟨g, 0, none⟩) (L 1).length (L 1).length) ∧ wr.Since wr.heap.size w' ∧ Byt w' (some ⟨g, 0, none⟩) (L 1).length (fun j => (L 1).getD j 0) ∧ Byt w' b1 (L 1).length (fun j => (L 1).getD j 0) := fun W hs =>
        (out_w (P 1) _ (V 1) (L 1).length _ W ((hD.later hs).pair 1 (by decide)).isl (by omega)).mono (fun e w' ⟨h1, h2, _, h4⟩ => ⟨_, h1, hs.trans (since_mono h2 hs.size), Byt.of_row h4, hb1.since (hs.trans (since_mono h2 hs.size))⟩)
      have hlen0 : ∀ W, wr.Since wr.heap.size W → Calls Tryd.prog 36 #[.pointer (some ⟨P 0, 0, none⟩)] W fun e w' => e = .returned (.int .i64 (L 0).length) ∧ w' = W := fun W hs =>
        len_w (P 0) _ (V 0) (L 0).length _ W ((hD.later hs).pair 0 (by decide)).isl
      obtain ⟨a00, a01, a10, a11⟩ := hcell wr (World.Since.refl _ _)
      have hS0 : wr.Since wr.heap.size wr := World.Since.refl _ _
      have hlz : ¬ ((i : Int) < (olen : Int)) ∨ ¬ ((i : Int) < 400) := by omega
      generalize hn0 : (L 0).length = n0 at *
      generalize hn1 : (L 1).length = n1 at *
      generalize (fun j => (L 0).getD j 0) = x0 at *
      generalize (fun j => (L 1).getD j 0) = x1 at *
      generalize P 0 = p0 at *
      generalize P 1 = p1 at *
      have hn0m : n0 ≤ 140737488355328 := by omega
      have hn1m : n1 ≤ 140737488355328 := by omega
      clear hD hH0 hH1 hn0 hn1
      have heq0 : ∀ W g, wr.Since wr.heap.size W → Byt W (some ⟨g, 0, none⟩) n0 x0 → Calls Tryd.prog 32 #[.slice (some ⟨g, 0, none⟩) n0 n0, .slice b0 n0 k0] W fun e w' => e = .returned (.bool true) ∧ wr.Since wr.heap.size w' := fun W g hs hy =>
        (eq_same _ b0 n0 n0 k0 x0 W hy (hb0.since hs) hn0m).mono (fun e w' ⟨h1, m, h2⟩ => ⟨h1, by rw [h2]; exact since_drewN hs m⟩)
      have heq1 : ∀ W g, wr.Since wr.heap.size W → Byt W (some ⟨g, 0, none⟩) n1 x1 → Calls Tryd.prog 32 #[.slice (some ⟨g, 0, none⟩) n1 n1, .slice b1 n1 k1] W fun e w' => e = .returned (.bool true) ∧ wr.Since wr.heap.size w' := fun W g hs hy =>
        (eq_same _ b1 n1 n1 k1 x1 W hy (hb1.since hs) hn1m).mono (fun e w' ⟨h1, m, h2⟩ => ⟨h1, by rw [h2]; exact since_drewN hs m⟩)
      have hl4 : (i : Int) < (olen : Int) → ¬ ((i : Int) < 400) := by omega
      clear hlz hlt hop hoa
      by_cases hio : (i : Int) < (olen : Int)
      all_goals
        try have hl5 := hl4 hio
        clear hl4
        go_upto_region 14 with fail
        go_region_held3 (fun W => wr.Since wr.heap.size W ∧ W.cell? ⟨aw, 0, none⟩ = some (.pointer (some ⟨p0, 0, none⟩)) ∧ W.cell? ⟨aw, 1, none⟩ = some (.pointer (some ⟨p1, 0, none⟩)) ∧ W.cell? ⟨ah, 0, none⟩ = some (.slice b0 n0 k0) ∧ W.cell? ⟨ah, 1, none⟩ = some (.slice b1 n1 k1))
          ((first | exact ⟨by assumption, hcell _ (by assumption)⟩ | exact ⟨World.Since.drew (by assumption), hcell _ (World.Since.drew (by assumption))⟩))
          ((first
            | (go_at_call 33; have _h7 := hy7; refine (hout1 _ ?_).mono ?_; (go_split_ands; assumption); rintro e w8 ⟨g8, rfl, hs8, hy8, _⟩)
            | (go_at_call 33; refine (hout0 _ ?_).mono ?_; (go_split_ands; assumption); rintro e w7 ⟨g7, rfl, hs7, hy7, _⟩)
            | (go_at_call 32; have _h8 := hy8; refine (heq1 _ _ ?_ _h8).mono ?_; (go_split_ands; assumption); rintro e w10 ⟨rfl, hs10⟩)
            | (go_at_call 32; refine (heq0 _ _ ?_ hy7).mono ?_; (go_split_ands; assumption); rintro e w9 ⟨rfl, hs9⟩)
            | (go_at_call 36; refine (hlen0 _ ?_).mono ?_; (go_split_ands; assumption); rintro e w11 ⟨rfl, rfl⟩)))
        all_goals
          go_wp2_with fail
          go_ret
          exact ⟨rfl, hfin _ (by first | assumption | (go_split_ands; assumption) | exact World.Since.drew (by assumption))⟩
end Go.Proofs.YtbmdnlomhnodeaaDoor
