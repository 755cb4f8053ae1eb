/- The law's own helpers: given, untouched; tallyref0.Cmp, Eq, EqImage of the same. -/
import Derived.Test.YtbebnjeamlmclaaD9
namespace Go.Proofs.Ytbebnjeamlmclaa
open Go.RowKit Go.Maps Go.Sort
set_option maxRecDepth 100000
set_option maxRecDepth 100000

def markS : ByteArray := { data := #[35, 109, 97, 114, 107] }
/-- What given hands out. -/
structure Giv (w : World) (gb cap n : Nat) (nm : Nat → ByteArray) (dl : Nat → Nat) (dx : Nat → Nat → Nat) (lg lc : Nat → Nat) (fl : Nat → Nat → Value) : Prop where
  room : n + 1 ≤ cap
  files : ∀ k, k < n → w.cell? ⟨gb, k * 2, none⟩ = some (.string (nm k)) ∧ w.cell? ⟨gb, k * 2 + 1, none⟩ = some (.slice (some ⟨lg k, 0, none⟩) (dl k) (lc k)) ∧ Lent w (lg k) (dl k) (lc k) (dx k) (fl k)
  mark : w.cell? ⟨gb, n * 2, none⟩ = some (.string markS)
theorem Giv.on {w w' : World} {gb cap n : Nat} {nm : Nat → ByteArray} {dl : Nat → Nat} {dx : Nat → Nat → Nat} {lg lc : Nat → Nat} {fl : Nat → Nat → Value} (h : Giv w gb cap n nm dl dx lg lc fl) (hb : Below w.heap.size w w') : Giv w' gb cap n nm dl dx lg lc fl :=
  ⟨h.room, fun k hk => by obtain ⟨h1, h2, h3⟩ := h.files k hk; exact ⟨cel_on hb h1, cel_on hb h2, h3.on hb⟩, cel_on hb h.mark⟩
theorem Giv.img {w : World} {gb cap n : Nat} {nm : Nat → ByteArray} {dl : Nat → Nat} {dx : Nat → Nat → Nat} {lg lc : Nat → Nat} {fl : Nat → Nat → Value} (h : Giv w gb cap n nm dl dx lg lc fl) : Img w (some ⟨gb, 0, none⟩) n nm dl dx := fun i hi => by
  obtain ⟨h1, h2, h3⟩ := h.files i hi
  exact ⟨gb, 0, rfl, by rw [Nat.zero_add]; exact h1, _, _, by rw [Nat.zero_add]; exact h2, h3.byt⟩

set_option maxHeartbeats 3200000 in
theorem given_any (a : Option Addr) (n c : Nat) (nm : Nat → ByteArray) (dl : Nat → Nat) (dx : Nat → Nat → Nat) (w : World) (h : Src w a n nm dl dx) (hn : n ≤ 1048576) (hd : ∀ i, i < n → dl i ≤ 1048576) :
    Calls Try.prog 9 #[.slice a n c] w fun e w' => ∃ gb cap, e = .returned (.slice (some ⟨gb, 0, none⟩) n cap) ∧ (∃ lg lc fl, Giv w' gb cap n nm dl dx lg lc fl) ∧ Below w.heap.size w w' := by
  obtain ⟨i0, hi0, hh⟩ := Option.map_eq_some_iff.1 infoFB
  simp only [Prod.mk.injEq] at hh
  obtain ⟨hz0, hz1, hz2⟩ := hh
  have hml : maxLen = 9223372036854775807 := rfl
  obtain ⟨W1, hmk, hown, hgr⟩ := run_make_own (P := Try.prog) w w.heap.size 22 28 i0 _ 2 Try.underlying22 hi0 hz0 hz1 .i64 .i64 (n + 1) (by rw [hz2]; omega) (by omega) (Nat.le_refl _)
  obtain ⟨N1, hN1, hN2⟩ : ∃ N1 : Nat, (n : Int) + 1 = (N1 : Int) ∧ N1 = n + 1 := ⟨n + 1, by omega, rfl⟩
  have hw1 : IntKind.i64.wrap (N1 : Int) = (N1 : Int) := by rw [IntKind.wrap_i64]; omega
  rw [← hN2] at hmk hown
  have hG0 : Gv w W1 (.slice (some ⟨w.heap.size, 0, none⟩) 0 N1) 0 nm dl dx (fun _ => 0) (fun _ => 0) (fun _ _ => undef) [] 0 := ⟨(Below.refl _ _).grown hgr (Nat.le_refl _) (fun j hj => by cases hj), hown, fun k hk => absurd hk (Nat.not_lt_zero _)⟩
  have HS : Hid (Src w a n nm dl dx) := h
  have HL : Hid (∀ i, i < n → dl i ≤ 1048576) := hd
  clear hgr hown h hd hi0 hz0 hz1 hz2 hN2
  go_enter Try.func9, Try.ntmps9
  go_wp2_with fail
  go_loopg [3, 4] n (fun q s3 s4 wx => ∃ (i : Nat) (va : Option Addr) (vc : Nat) (lg lc : Nat → Nat) (fl : Nat → Nat → Value), i ≤ n ∧ q = n - i ∧ s4 = .int .i64 i ∧ s3 = .slice va i vc ∧ Gv w wx (.slice va i vc) i nm dl dx lg lc fl [] i)
  case atStart => exact ⟨0, _, _, _, _, _, Nat.zero_le _, rfl, rfl, rfl, hG0⟩
  case round =>
    obtain ⟨i, va, vc, lg, lc, fl, hi, rfl, rfl, rfl, hG⟩ := hrel
    clear hG0 hmk hw1 hN1
    by_cases hlt : i < n
    · have hz : (i : Int) < (n : Int) := by omega
      obtain ⟨b, o, rfl, h1, da, dc, h2, h3, h4⟩ := HS.out.on hG.below i hlt
      have HLE : Hid (∀ W, Below wr.heap.size wr W → Calls Try.prog 34 #[.slice da (dl i) dc] W fun e w' => ∃ g cap' f, e = .returned (.slice (some ⟨g, 0, none⟩) (dl i) cap') ∧ Below W.heap.size W w' ∧ Lent w' g (dl i) cap' (dx i) f) := fun W hb =>
        (lend_any da (dl i) dc (dx i) W (by have := HL.out i hlt; omega) (h4.on hb) h3).mono fun e w' ⟨g, cap', f, he, _, hs, hl⟩ => ⟨g, cap', f, he, below_of_since hs, hl⟩
      have HPU : Hid (∀ W g c f, Below wr.heap.size wr W → Lent W g (dl i) c (dx i) f → ∃ va' vc' w3, (Builtin.append_ #[22, 22] 22 #[.slice va i vc, .slice (some ⟨W.heap.size, 0, none⟩) 1 1]).run Try.prog (W.alloc (.cells #[.string (nm i), .slice (some ⟨g, 0, none⟩) (dl i) c] 28)) = .ok (.slice va' (i + 1) vc') w3 ∧ (∃ lg' lc' fl', Gv w w3 (.slice va' (i + 1) vc') (i + 1) nm dl dx lg' lc' fl' [] (i + 1)) ∧ Below w.heap.size w w3) := fun W g c f hb hl => by
        obtain ⟨v', w3, hr, lg', lc', fl', hG'⟩ := hG.push hb (by omega) hl
        obtain ⟨va', vc', rfl⟩ : ∃ va' vc', v' = .slice va' (i + 1) vc' := by
          rcases hG'.own.2 with ⟨rfl, h0⟩ | ⟨g', c', cur, rfl, _⟩
          · omega
          · exact ⟨_, c', rfl⟩
        exact ⟨va', vc', w3, hr, ⟨lg', lc', fl', hG'⟩, hG'.below⟩
      have bw := hG.below
      have bd : Below wr.heap.size wr wr.drew := (Below.refl _ _).drew
      obtain ⟨hsrc, _⟩ : (∀ W, Below w.heap.size w W → W.cell? ⟨b, o + i * 2, none⟩ = some (.string (nm i)) ∧ W.cell? ⟨b, o + i * 2 + 1, none⟩ = some (.slice da (dl i) dc)) ∧ True := ⟨fun W hb => by
        obtain ⟨b', o', e', q1, da', dc', q2, q3, q4⟩ := HS.out i hlt
        cases e'
        have c1 := hG.below.cell (p := ⟨b, o + i * 2, none⟩) (World.block_lt_of_cell? _ _ q1)
        have c2 := hG.below.cell (p := ⟨b, o + i * 2 + 1, none⟩) (World.block_lt_of_cell? _ _ q2)
        rw [h1] at c1
        rw [h2] at c2
        exact ⟨(hb.cell (p := ⟨b, o + i * 2, none⟩) (World.block_lt_of_cell? _ _ q1)).trans c1.symm, (hb.cell (p := ⟨b, o + i * 2 + 1, none⟩) (World.block_lt_of_cell? _ _ q2)).trans c2.symm⟩, trivial⟩
      have HSR : Hid _ := hsrc
      clear h3 h4 hG hsrc
      generalize nm i = s at *
      generalize dl i = d at *
      go_upto_region 5 with fail
      go_region_held3 (fun W => W.cell? ⟨b, o + i * 2, none⟩ = some (.string s) ∧ W.cell? ⟨b, o + i * 2 + 1, none⟩ = some (.slice da d dc))
        (first | exact ⟨h1, h2⟩ | exact HSR.out _ hbA | exact HSR.out _ hb2 | exact HSR.out _ (hb2.alloc hb2.size _))
        (first
          | (go_at_call 34; refine (HLE.out _ (by first | exact Below.refl _ _ | exact bd)).mono ?_; rintro e w2 ⟨g, cap', f, rfl, hbL, hlt2⟩; have hbr := bd.trans hbL; have hb2 := bw.trans (hbr.mono bw.size))
          | (obtain ⟨va', vc', w3, hrA, hGA, hbA⟩ := HPU.out w2 g cap' f hbr hlt2; refine step_apps (by rfl) _ _ 22 (by rfl) _ _ _ (by rfl) (by rfl) hrA ?_))
      all_goals
        obtain ⟨lg', lc', fl', hG'⟩ := hGA
        go_wp2_with fail
        go_roundg (n - (i + 1))
        case measure => go_light; omega
        case rel => go_light; exact ⟨i + 1, va', vc', lg', lc', fl', by omega, rfl, by simp, rfl, hG'⟩
    · obtain rfl : i = n := by omega
      obtain ⟨v', w3, hrM, hGM⟩ := hG.mark (by omega) markS
      obtain ⟨g', c', hgc, ev'⟩ : ∃ g' c', i + 1 ≤ c' ∧ v' = .slice (some ⟨g', 0, none⟩) (i + 1) c' := by
        rcases hGM.own.2 with ⟨rfl, h0⟩ | ⟨g', c', cur, rfl, _, _, hc, _⟩
        · omega
        · exact ⟨g', c', hc, rfl⟩
      subst ev'
      have HM : Hid _ := hrM
      have hz : ¬ ((i : Int) < (i : Int)) := by omega
      have hic : (i : Int) ≤ (c' : Int) := by omega
      clear hG hrM
      unfold markS at HM
      go_wp2_with (at_builtin; refine wpList_append_eq rfl _ _ 22 rfl _ _ _ (by rfl) (by rfl) HM.out ?_)
      go_ret
      refine ⟨g', c', rfl, ⟨lg, lc, fl, hgc, fun k hk => ?_, ?_⟩, hGM.below⟩
      · have q := fbCells_at nm dl lg lc i k hk
        have hl := fbCells_len nm dl lg lc i
        refine ⟨?_, ?_, hGM.lent k hk⟩
        · rw [World.ownsRow.cellAt hGM.own (k * 2) (by omega), List.getElem?_append_left (by omega)]; exact q.1
        · rw [World.ownsRow.cellAt hGM.own (k * 2 + 1) (by omega), List.getElem?_append_left (by omega)]; exact q.2
      · have hl := fbCells_len nm dl lg lc i
        rw [World.ownsRow.cellAt hGM.own (i * 2) (by omega), List.getElem?_append_right (by omega), hl, Nat.sub_self]
        rfl

set_option maxHeartbeats 800000 in
theorem cmp_same (a b : Option Addr) (n c d : Nat) (x : Nat → Nat) (w : World) (ha : Byt w a n x) (hb : Byt w b n x) (hmax : n ≤ 140737488355328) :
    Calls Try.prog 45 #[.slice a n c, .slice b n d] w fun e w' => e = .returned (.int .i64 0) ∧ ∃ m, w' = w.drewN m := by
  have hm : (n : Int) ≤ 140737488355328 := by omega
  go_enter Try.func45, Try.ntmps45
  go_wp2_with fail
  go_loopg [5] n (fun q s5 wx => ∃ (i m : Nat), i ≤ n ∧ q = n - i ∧ s5 = .int .i64 i ∧ wx = w.drewN m)
  case atStart => exact ⟨0, 0, Nat.zero_le _, rfl, rfl, rfl⟩
  case round =>
    obtain ⟨i, m, hi, rfl, rfl, rfl⟩ := hrel
    by_cases hlt : i < n
    · obtain ⟨b1, o1, rfl, hc1⟩ := ha i hlt
      obtain ⟨b2, o2, rfl, hc2⟩ := hb i hlt
      have hc1' : (w.drewN m).cell? ⟨b1, o1 + i, none⟩ = some (.int .u8 (x i : Nat)) := hc1
      have hc2' : (w.drewN m).cell? ⟨b2, o2 + i, none⟩ = some (.int .u8 (x i : Nat)) := hc2
      have hz : (i : Int) < (n : Int) := by omega
      have HD : Hid (∀ n, (w.drewN m).drewN n = w.drewN (m + n)) := fun n => World.drewN_drewN _ _ _
      generalize w.drewN m = wd at *
      clear hc1 hc2 ha hb
      go_wp2_with fail
      go_quiet (fail)
      go_wp2_with fail
      go_quiet (fail)
      go_wp2_with fail
      go_roundg (n - (i + 1))
      case measure => go_light; omega
      case rel => go_light; exact ⟨i + 1, _, by omega, rfl, by simp, (unhide HD) _⟩
    · obtain rfl : i = n := by omega
      clear ha hb
      go_wp2_with fail
      go_ret
      exact ⟨rfl, m, rfl⟩
theorem eq_same (a b : Option Addr) (n c d : Nat) (x : Nat → Nat) (w : World) (ha : Byt w a n x) (hb : Byt w b n x) (hmax : n ≤ 140737488355328) :
    Calls Try.prog 18 #[.slice a n c, .slice b n d] w fun e w' => e = .returned (.bool true) ∧ ∃ m, w' = w.drewN m := by
  have hc := cmp_same a b n c d x w ha hb hmax
  go_enter Try.func18, Try.ntmps18
  go_wp2_with fail
  refine hc.mono ?_
  rintro e w1 ⟨rfl, m, rfl⟩
  go_wp2_with fail
  go_ret
  exact ⟨rfl, m, rfl⟩
theorem num_any (e : Int) (w : World) : Calls Try.prog 12 #[.int .i64 e] w fun r w' => r = .returned (.int .i64 e) ∧ w' = w := by
  go_enter Try.func12, Try.ntmps12
  go_wp2
  go_ret
  exact ⟨rfl, rfl⟩

set_option maxHeartbeats 1600000 in
theorem eqImage_same (a b : Option Addr) (n c d : Nat) (nm : Nat → ByteArray) (dl : Nat → Nat) (dx : Nat → Nat → Nat) (w : World) (ha : Img w a n nm dl dx) (hb : Img w b n nm dl dx) (hn : n ≤ 1048576) (hd : ∀ i, i < n → dl i ≤ 1048576) :
    Calls Try.prog 46 #[.slice a n c, .slice b n d] w fun e w' => e = .returned (.bool true) ∧ ∃ m, w' = w.drewN m := by
  have HA : Hid _ := ha
  have HB : Hid _ := hb
  have HL : Hid _ := hd
  have hm : (n : Int) ≤ 1048576 := by omega
  clear ha hb hd
  go_enter Try.func46, Try.ntmps46
  go_wp2_with fail
  go_loopg [5] n (fun q s5 wx => ∃ (i m : Nat), i ≤ n ∧ q = n - i ∧ s5 = .int .i64 i ∧ wx = w.drewN m)
  case atStart => exact ⟨0, 0, Nat.zero_le _, rfl, rfl, rfl⟩
  case round =>
    obtain ⟨i, m, hi, rfl, rfl, rfl⟩ := hrel
    by_cases hlt : i < n
    · obtain ⟨b1, o1, rfl, p1, da1, dc1, p2, p3⟩ := HA.out i hlt
      obtain ⟨b2, o2, rfl, q1, da2, dc2, q2, q3⟩ := HB.out i hlt
      have r1 : (w.drewN m).cell? ⟨b1, o1 + i * 2, none⟩ = some (.string (nm i)) := p1
      have r2 : (w.drewN m).cell? ⟨b1, o1 + i * 2 + 1, none⟩ = some (.slice da1 (dl i) dc1) := p2
      have t1 : (w.drewN m).cell? ⟨b2, o2 + i * 2, none⟩ = some (.string (nm i)) := q1
      have t2 : (w.drewN m).cell? ⟨b2, o2 + i * 2 + 1, none⟩ = some (.slice da2 (dl i) dc2) := q2
      have hz : (i : Int) < (n : Int) := by omega
      have HC : Hid (∀ k, Calls Try.prog 45 #[.slice da1 (dl i) dc1, .slice da2 (dl i) dc2] ((w.drewN m).drewN k) fun e w' => e = .returned (.int .i64 0) ∧ ∃ j, w' = ((w.drewN m).drewN k).drewN j) := fun k => cmp_same da1 da2 (dl i) dc1 dc2 (dx i) ((w.drewN m).drewN k) ((p3.drewN m).drewN k) ((q3.drewN m).drewN k) (by have := HL.out i hlt; omega)
      have hne : ∀ W, (binOp .neq 9 (.string (nm i)) (.string (nm i))).run Try.prog W = .ok (.bool false) W := fun W => by simp [binOp, Op.stringOp]
      have HD : Hid (∀ n, (w.drewN m).drewN n = w.drewN (m + n)) := fun n => World.drewN_drewN _ _ _
      generalize w.drewN m = wd at *
      clear p1 p2 p3 q1 q2 q3
      generalize nm i = s at *
      generalize dl i = d at *
      go_wp2_with fail
      go_quiet (exact Calls.quiet_of (HC.out _))
      go_wp2_with fail
      go_roundg (n - (i + 1))
      case measure => go_light; omega
      case rel => go_light; exact ⟨i + 1, _, by omega, rfl, by simp, HD.out _⟩
    · obtain rfl : i = n := by omega
      go_wp2_with fail
      go_ret
      exact ⟨rfl, m, rfl⟩
end Go.Proofs.Ytbebnjeamlmclaa
