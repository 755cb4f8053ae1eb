/- The law PaceAnew. -/
import Derived.Test.YtjmgddaikcpinaaPC6
namespace Go.Proofs.Ytjmgddaikcpinaa
open Go.RowKit
set_option maxRecDepth 100000
set_option maxRecDepth 100000

set_option maxHeartbeats 4000000 in
theorem anewLaw (C T : Int) (a : Option Addr) (c : Nat) (rs : List Int) (w : World) (hR : IntsIn w a rs) :
    Calls Try.prog 3 #[.agg #[.int .i64 C, .slice a rs.length c, .int .i64 T]] w fun e w' => e = .returned (.bool true) ∧ Below w.heap.size w w' := by
  obtain ⟨W0, HW0⟩ : ∃ W, Hid (w.alloc (.cells #[.int .i64 C, .slice a rs.length c, .int .i64 T] 24) = W) := ⟨_, rfl⟩
  have hb0 : Below w.heap.size w W0 := by rw [← HW0.out]; exact (Below.refl _ _).alloc (Nat.le_refl _) _
  have k0 : W0.cell? ⟨w.heap.size, 0, none⟩ = some (.int .i64 C) := by rw [← HW0.out]; exact World.cell?_alloc_at (w := w) _ _ _ 0 rfl
  have k1 : W0.cell? ⟨w.heap.size, 1, none⟩ = some (.slice a rs.length c) := by rw [← HW0.out]; exact World.cell?_alloc_at (w := w) _ _ _ 1 rfl
  have k2 : W0.cell? ⟨w.heap.size, 2, none⟩ = some (.int .i64 T) := by rw [← HW0.out]; exact World.cell?_alloc_at (w := w) _ _ _ 2 rfl
  have hlt := cel_lt k0
  have HR : Hid (IntsIn W0 a rs) := hR.on hb0
  have HB0 : Hid (Below w.heap.size w W0) := hb0
  have HI1 : Hid (Calls Try.prog 6 #[.int .i64 C, .int .i64 64] W0 fun e w' => W0 = w' ∧ ∃ k n : Nat, e = .returned (.int .i64 (k : Nat)) ∧ 1 + (k : Int) = (n : Int) ∧ IntKind.i64.wrap (n : Int) = (n : Int) ∧ Hid (1 ≤ n ∧ n ≤ 64)) := into_one C 64 (by decide) (by decide) W0
  have HN : Hid (∀ m : Nat, Hid (1 ≤ m ∧ m ≤ 64) → Calls Try.prog 7 #[.int .i64 (m : Nat)] W0 fun e w' => e = .returned (.tuple #[.pointer (some ⟨W0.heap.size, 0, none⟩), .int .i64 0]) ∧ Hid (PcIs w' W0.heap.size 0 1 m ∧ Below W0.heap.size W0 w')) := fun m hm => (new_any m hm.out.1 hm.out.2 W0).mono fun e w' ⟨h1, h2, h3, _⟩ => ⟨h1, h2, h3⟩
  clear hR hb0
  generalize hsb : w.heap.size = sb at *
  go_enter Try.func3, Try.ntmps3
  go_upto_region 1 with fail
  rw [HW0.out]
  clear hsb HW0
  go_wp2_with (first
    | (go_at_call 6; refine HI1.out.mono ?_; rintro e w2 ⟨rfl, k, m, rfl, hm, wm, HM⟩)
    | (go_at_call 7; refine (HN.out m HM).mono ?_; rintro e w3 ⟨rfl, HP⟩))
  go_loopg [6] 30 (fun q s6 wx => ∃ i l g : Nat, i ≤ 30 ∧ i ≤ rs.length ∧ q = 30 - i ∧ s6 = .int .i64 (i : Nat) ∧ PcIs wx W0.heap.size l g m ∧ Below W0.heap.size W0 wx)
  case atStart => exact ⟨0, 0, 1, by omega, Nat.zero_le _, rfl, rfl, HP.out⟩
  case round =>
    obtain ⟨i, l, g, hi, hil, rfl, rfl, hP, hB⟩ := hrel
    have c1 : wr.cell? ⟨sb, 1, none⟩ = some (.slice a rs.length c) := cel_on hB hlt k1
    have hBsz := hB.size
    have hBsz0 := hB.size
    clear HN HI1 k0 k1 HP
    by_cases hgo : i < rs.length ∧ i < 30
    · obtain ⟨hg1, hg2⟩ := hgo
      obtain ⟨b, o, rfl, hx⟩ := HR.out i rs[i] (List.getElem?_eq_getElem hg1)
      have hx2 : wr.cell? ⟨b, o + i, none⟩ = some (.int .i64 rs[i]) := cel_on hB (cel_lt hx) hx
      have z1 : (i : Int) < (rs.length : Int) := by omega
      have z2 : (i : Int) < 30 := by omega
      have z0 : (0 : Int) ≤ (i : Int) := by omega
      have wi1 : IntKind.i64.wrap ((i : Int) + 1) = (i : Int) + 1 := by rw [IntKind.wrap_i64]; omega
      have HI : Hid (Calls Try.prog 6 #[.int .i64 rs[i], .int .i64 300] wr fun e w' => wr = w' ∧ ∃ k : Nat, e = .returned (.int .i64 (k : Nat)) ∧ Hid (k < 300)) := (into_any _ 300 (by decide) (by decide) wr).mono fun e w' ⟨h1, k, hk, h2⟩ => ⟨h1, k, h2, hk⟩
      have HP1 : Hid (PcIs wr W0.heap.size l g m ∧ Below W0.heap.size W0 wr) := ⟨hP, hB⟩
      generalize rs[i] = X at *
      have hmm : 30 - (i + 1) < 30 - i := by omega
      have HL : Hid (i + 1 ≤ 30 ∧ i + 1 ≤ rs.length) := ⟨by omega, by omega⟩
      generalize rs.length = L at *
      clear hP hB hx hBsz hi hil hg1 hg2
      have HK2 : Hid (W0.cell? ⟨sb, 2, none⟩ = some (.int .i64 T)) := k2
      clear k2
      go_wp2_with (first
        | (go_at_call 6; refine HI.out.mono ?_; rintro e w2 ⟨rfl, k2, rfl, HM2⟩))
      go_loopg [7] k2 (fun q s7 wy => ∃ j l g : Nat, j = q ∧ Hid (j < 300) ∧ s7 = .int .i64 (j : Nat) ∧ Hid (PcIs wy W0.heap.size l g m ∧ Below W0.heap.size W0 wy))
      case atStart => exact ⟨k2, l, g, rfl, HM2, rfl, HP1⟩
      case round =>
        obtain ⟨j, l, g, rfl, hj, rfl, HP2⟩ := hrel
        obtain ⟨hP, hB⟩ := HP2.out
        have hBsz := hB.size
        clear HP2 HP1 HI c1 hx2 HM2
        rcases Nat.eq_zero_or_pos j with e0 | e0
        · subst e0
          have HRS : Hid (Calls Try.prog 9 #[.pointer (some ⟨W0.heap.size, 0, none⟩)] wr fun e w' => e = .returned (.tuple #[]) ∧ ∃ qb, Hid (qb ≠ W0.heap.size) ∧ Hid (Calls Try.prog 7 #[.int .i64 (m : Nat)] w' fun e w'' => e = .returned (.tuple #[.pointer (some ⟨qb, 0, none⟩), .int .i64 0]) ∧ Hid (PcIs w'' W0.heap.size 0 1 m ∧ PcIs w'' qb 0 1 m ∧ W0.heap.size ≤ qb ∧ Below W0.heap.size W0 w'') ∧ w''.cell? ⟨sb, 2, none⟩ = some (.int .i64 T))) :=
            (reset_any hP).mono fun e w' ⟨he, hp, hv⟩ => by
              have hb' : Below W0.heap.size W0 w' := hv.below hB hBsz (fun k hk => by omega)
              have := hp.row.lt
              refine ⟨he, w'.heap.size, by show _ ≠ _; omega, (new_any m HM.out.1 HM.out.2 w').mono fun e w'' ⟨h1, h2, h3, _⟩ => ?_⟩
              have hb'' : Below W0.heap.size W0 w'' := hb'.trans (h3.mono hb'.size)
              exact ⟨h1, ⟨hp.on h3, h2, hb'.size, hb''⟩, cel_on hb'' hlt HK2.out⟩
          have HIT : Hid (∀ W, Calls Try.prog 6 #[.int .i64 T, .int .i64 300] W fun e w' => W = w' ∧ ∃ k : Nat, e = .returned (.int .i64 (k : Nat)) ∧ Hid (k < 300)) := fun W => (into_any _ 300 (by decide) (by decide) W).mono fun e w' ⟨h1, k, hk, h2⟩ => ⟨h1, k, h2, hk⟩
          have z5 : ¬ (0 : Int) > 0 := by omega
          clear hP hB hBsz hj
          generalize hpb : W0.heap.size = pb at *
          go_wp2_with (first
            | (go_at_call 9; refine HRS.out.mono ?_; rintro e w4 ⟨rfl, qb, HQ, HN2⟩)
            | (go_at_call 7; refine HN2.out.mono ?_; rintro e w5 ⟨rfl, HS, c2⟩)
            | (go_at_call 6; refine (HIT.out _).mono ?_; rintro e w6 ⟨rfl, k3, rfl, HM3⟩))
          go_loopg [10] (k3 + 1) (fun q s10 wy => ∃ l g : Nat, ((∃ j : Nat, q = j + 1 ∧ s10 = .int .i64 (j : Nat) ∧ Hid (j < 300)) ∨ (q = 0 ∧ s10 = .int .i64 (-1))) ∧ Hid (PcIs wy pb l g m ∧ PcIs wy qb l g m ∧ pb ≤ qb ∧ Below pb W0 wy))
          case atStart => exact ⟨0, 1, .inl ⟨k3, rfl, rfl, HM3⟩, HS⟩
          case round =>
            obtain ⟨l, g, hcase, HS2⟩ := hrel
            obtain ⟨hP, hQ, hpq, hB⟩ := HS2.out
            have hBsz := hB.size
            clear HS HS2 HN2 HRS HIT c2 HM3
            rcases hcase with ⟨j, rfl, rfl, hj⟩ | ⟨rfl, rfl⟩
            · have z5 : (j : Int) ≥ 0 := by omega
              have HWP : Hid (Calls Try.prog 10 #[.pointer (some ⟨pb, 0, none⟩)] wr fun e w' => e = .returned (.int .i64 (l : Nat)) ∧ wr = w') := wait_any hP
              have HWQ : Hid (Calls Try.prog 10 #[.pointer (some ⟨qb, 0, none⟩)] wr fun e w' => e = .returned (.int .i64 (l : Nat)) ∧ wr = w') := wait_any hQ
              have HT : Hid (Calls Try.prog 8 #[.pointer (some ⟨pb, 0, none⟩)] wr fun e w' => e = .returned (.bool (decide (l ≤ 1))) ∧ Hid (Calls Try.prog 8 #[.pointer (some ⟨qb, 0, none⟩)] w' fun e w'' => e = .returned (.bool (decide (l ≤ 1))) ∧ Hid (PcIs w'' pb (tkL l g) (tkG l g m) m ∧ PcIs w'' qb (tkL l g) (tkG l g m) m ∧ pb ≤ qb ∧ Below pb W0 w''))) := (tick_any hP).mono fun e w' ⟨he, hp, hv⟩ => ⟨he, by
                have hq : PcIs w' qb l g m := hQ.later (hv.block qb hQ.row.lt HQ.out)
                refine (tick_any hq).mono fun e w'' ⟨he2, hp2, hv2⟩ => ⟨he2, hp.later (hv2.block pb hp.row.lt (fun e => HQ.out e.symm)), hp2, hpq, ?_⟩
                have hb1 : Below pb W0 w' := hv.below hB (by omega) (fun k hk => by omega)
                exact hv2.below hb1 (by have := hp.row.lt; omega) (fun k hk => by omega)⟩
              have hpt : decide (l ≤ 1) = decide (l ≤ 1) := rfl
              generalize decide (l ≤ 1) = d at *
              clear hpt
              have z6 : (d == d) = true := by simp
              have z7 : ((l : Int) == (l : Int)) = true := by simp
              clear hP hQ hB hBsz hpq
              rcases Nat.eq_zero_or_pos j with e0 | e0
              · subst e0
                have z8 : (0 : Int) - 1 = -1 := by decide
                have z9 : IntKind.i64.wrap (-1) = -1 := by decide
                go_wp2_with (first
                  | (go_at_call 10; with_reducible refine HWP.out.mono ?_; rintro e w2 ⟨rfl, rfl⟩)
                  | (go_at_call 10; with_reducible refine HWQ.out.mono ?_; rintro e w2 ⟨rfl, rfl⟩)
                  | (go_at_call 8; with_reducible refine HT.out.mono ?_; rintro e w3 ⟨rfl, HT2⟩)
                  | (go_at_call 8; with_reducible refine HT2.out.mono ?_; rintro e w4 ⟨rfl, HS3⟩))
                go_roundg 0
                case measure => go_light; omega
                case rel => go_light; exact ⟨tkL l g, tkG l g m, .inr ⟨rfl, rfl⟩, HS3⟩
              · obtain ⟨j1, hj1, hj2⟩ : ∃ k : Nat, (j : Int) - 1 = (k : Int) ∧ k = j - 1 := ⟨j - 1, by omega, rfl⟩
                have wj : IntKind.i64.wrap (j1 : Int) = (j1 : Int) := wi (by have := hj.out; omega)
                have hjm : j1 + 1 < j + 1 := by omega
                have HJ : Hid (j1 < 300) := by have := hj.out; show _ < _; omega
                clear hj hj2 e0
                go_wp2_with (first
                  | (go_at_call 10; with_reducible refine HWP.out.mono ?_; rintro e w2 ⟨rfl, rfl⟩)
                  | (go_at_call 10; with_reducible refine HWQ.out.mono ?_; rintro e w2 ⟨rfl, rfl⟩)
                  | (go_at_call 8; with_reducible refine HT.out.mono ?_; rintro e w3 ⟨rfl, HT2⟩)
                  | (go_at_call 8; with_reducible refine HT2.out.mono ?_; rintro e w4 ⟨rfl, HS3⟩))
                go_roundg (j1 + 1)
                case measure => go_light; exact hjm
                case rel => go_light; exact ⟨tkL l g, tkG l g m, .inl ⟨j1, rfl, rfl, HJ⟩, HS3⟩
            · have z5 : ¬ (-1 : Int) ≥ 0 := by decide
              have HE : Hid (PcIs wr pb l g m ∧ Below pb W0 wr) := ⟨hP, hB⟩
              clear hP hQ hB hBsz hpq
              go_wp2_with fail
              go_roundg (30 - (i + 1))
              case measure => go_light; exact hmm
              case rel => go_light; exact ⟨i + 1, l, g, HL.out.1, HL.out.2, rfl, rfl, HE.out⟩
        · obtain ⟨j1, hj1, hj2⟩ : ∃ k : Nat, (j : Int) - 1 = (k : Int) ∧ k = j - 1 := ⟨j - 1, by omega, rfl⟩
          have wj : IntKind.i64.wrap (j1 : Int) = (j1 : Int) := wi (by have := hj.out; omega)
          have z5 : (j : Int) > 0 := by omega
          have HT : Hid (Calls Try.prog 8 #[.pointer (some ⟨W0.heap.size, 0, none⟩)] wr fun e w' => e = .returned (.bool (decide (l ≤ 1))) ∧ Hid (PcIs w' W0.heap.size (tkL l g) (tkG l g m) m ∧ Below W0.heap.size W0 w')) := (tick_any hP).mono fun e w' ⟨he, hp, hv⟩ => ⟨he, hp, hv.below hB hBsz (fun k hk => by omega)⟩
          have hjm : j1 < j := by omega
          have HJ : Hid (j1 < 300) := by have := hj.out; show _ < _; omega
          clear hP hB hBsz hj hj2 e0
          go_wp2_with (first
            | (go_at_call 8; refine HT.out.mono ?_; rintro e w4 ⟨rfl, HS⟩))
          go_roundg j1
          case measure => go_light; exact hjm
          case rel => go_light; exact ⟨j1, tkL l g, tkG l g m, rfl, HJ, rfl, HS⟩
    · have HW : Hid (Calls Try.prog 10 #[.pointer (some ⟨W0.heap.size, 0, none⟩)] wr fun e w' => e = .returned (.int .i64 (l : Nat)) ∧ wr = w') := wait_any hP
      have HK : Hid (Below sb w wr) := HB0.out.trans (hB.mono (by omega))
      have z3 : (l : Int) ≤ (m : Int) := by have := hP.hl; omega
      by_cases hg1 : i < rs.length
      · have z1 : (i : Int) < (rs.length : Int) := by omega
        have z2 : ¬ (i : Int) < 30 := by omega
        generalize rs.length = L at *
        clear hP hB hBsz hi hil hgo k2
        generalize W0.heap.size = pb at *
        go_wp2_with (first
          | (go_at_call 10; refine HW.out.mono ?_; rintro e w2 ⟨rfl, rfl⟩))
        go_ret
        exact ⟨rfl, HK.out⟩
      · have z1 : ¬ (i : Int) < (rs.length : Int) := by omega
        generalize rs.length = L at *
        clear hP hB hBsz hi hil hgo k2
        generalize W0.heap.size = pb at *
        go_wp2_with (first
          | (go_at_call 10; refine HW.out.mono ?_; rintro e w2 ⟨rfl, rfl⟩))
        go_ret
        exact ⟨rfl, HK.out⟩
end Go.Proofs.Ytjmgddaikcpinaa
