/- Stage 3's laws: PlaneCopies. -/
import Derived.Test.YtfjfoomlpfbmkaaPlaneCop1
namespace Go.Proofs.Ytfjfoomlpfbmkaa
open Go.RowKit Go.Shelf Go.Sort
set_option maxRecDepth 100000
set_option maxRecDepth 100000

theorem boolInfo : (Try.prog.info? 4).map (fun i => (i.zero, i.size, i.bytes)) = some (some (.bool false), 1, 1) := by kernel_rfl

/-- Is a node among the first so many? -/
def inB (s n i m : Nat) : Bool := (List.range i).any fun j => cT s n j == m
theorem inB_zero (s n m : Nat) : inB s n 0 m = false := rfl
theorem inB_succ (s n i m : Nat) : inB s n (i + 1) m = (inB s n i m || cT s n i == m) := by unfold inB; rw [List.range_succ, List.any_append]; simp
theorem inB_not {s n i m : Nat} (h : ∀ j, j < i → cT s n j ≠ m) : inB s n i m = false := by
  unfold inB
  rw [List.any_eq_false]
  intro j hj
  simpa using h j (List.mem_range.1 hj)
theorem of_inB {s n i m : Nat} (h : inB s n i m = false) : ∀ j, j < i → cT s n j ≠ m := by
  unfold inB at h
  rw [List.any_eq_false] at h
  intro j hj
  simpa using h j (List.mem_range.2 hj)

/-- The law's state: the list, the marks. -/
structure Cop (w : World) (g ib s n c i : Nat) (W : World) : Prop where
  below : RowKit.Below w.heap.size w W
  list : ∀ j, j < c → W.cell? ⟨g, j, none⟩ = some (.int .i64 (cT s n j : Nat))
  row : W.rowIs ib 4 n (fun m => .bool (inB s n i m))
theorem Cop.on {w : World} {g ib s n c i : Nat} {W W' : World} (h : Cop w g ib s n c i W) (hb : RowKit.Below W.heap.size W W') : Cop w g ib s n c i W' :=
  ⟨h.below.trans (hb.mono h.below.size), fun j hj => below_cell hb (h.list j hj), h.row.of_block (hb.block _ h.row.lt)⟩
theorem Cop.drewN {w : World} {g ib s n c i : Nat} {W : World} (h : Cop w g ib s n c i W) (q : Nat) : Cop w g ib s n c i (W.drewN q) :=
  ⟨⟨h.below.os, h.below.tape, h.below.output, h.below.size, h.below.block⟩, h.list, h.row⟩
theorem Cop.mark {w : World} {g ib s n c i : Nat} {W : World} (h : Cop w g ib s n c i W) (hne : g ≠ ib) (hib : w.heap.size ≤ ib) : Cop w g ib s n c (i + 1) (W.setCell ⟨ib, cT s n i, none⟩ (.bool true)) :=
  ⟨h.below.setCell hib _, fun j hj => by rw [World.cell?_of_block (w := W) (a := ⟨g, j, none⟩) (Below.heap_setCell _ _ _ _ hne)]; exact h.list j hj,
   (h.row.set (cT s n i) (.bool true)).congr (fun m _ => by
     rw [inB_succ]
     by_cases e : m = cT s n i
     · rw [if_pos e, e]; simp
     · rw [if_neg e]
       have : (cT s n i == m) = false := beq_eq_false_iff_ne.2 (fun h => e h.symm)
       rw [this, Bool.or_false])⟩

/-- What the law asks of the program, in any world in which its state stands. -/
theorem apart_cop {s : Nat} (hs : s < 8) {ta tb : Nat} (fa : Fl ta (shardM s).1) (fb : Fl tb (shardM s).2) {xa xb m : Nat} (hm : m < 9) (h1 : Fl xa (spM m).1) (h2 : Fl xb (spM m).2) (W : World) :
    Calls Try.prog 12 #[.complex .f64 xa xb, .complex .f64 ta tb] W fun e w' => e = .returned (.int .i64 (dT s m)) ∧ w' = W := by
  obtain ⟨q1, q2⟩ := sp_near m (by omega)
  obtain ⟨r1, r2⟩ := sp_near (s + 1) (by omega)
  have hsh : (shardM s).1.natAbs ≤ 2097151 ∧ (shardM s).2.natAbs ≤ 2097151 := by
    show (-(spM (s + 1)).2).natAbs ≤ _ ∧ (spM (s + 1)).1.natAbs ≤ _
    omega
  have := apart_any h1 h2 fa fb (by omega) (by omega) W
  rwa [show apM ((spM m).1, (spM m).2) ((shardM s).1, (shardM s).2) = dT s m from dT_eq s hs m hm] at this

set_option maxHeartbeats 8000000 in
theorem coplaw_any (X Y Z : Int) (w : World) :
    Calls Try.prog 3 #[.agg #[.int .i64 X, .int .i64 Y, .int .i64 Z]] w fun e w' => e = .returned (.bool true) ∧ RowKit.Below w.heap.size w w' := by
  have bb : RowKit.Below w.heap.size w (w.alloc (.cells #[.int .i64 X, .int .i64 Y, .int .i64 Z] 23)) := (RowKit.Below.refl _ _).alloc (Nat.le_refl _) _
  go_enter Try.func3, Try.ntmps3
  go_wp2_with fail
  refine (into_any X 8 (by decide) (by decide) _).mono ?_
  rintro e w1 ⟨s, rfl, hs, rfl⟩
  go_wp2_with fail
  refine (into_any Y 9 (by decide) (by decide) _).mono ?_
  rintro e w1 ⟨k1, rfl, hk1, rfl⟩
  obtain ⟨n, hn⟩ : ∃ n : Nat, 1 + (k1 : Int) = n := ⟨k1 + 1, by omega⟩
  obtain ⟨h, hh⟩ : ∃ h : Nat, h = (n + 1) / 2 := ⟨_, rfl⟩
  have hq1 : ((n : Int) + 1).tdiv 2 = (h : Int) := by rw [Int.tdiv_eq_ediv_of_nonneg (by omega)]; omega
  have hq2 : ((n : Int) + 1) / 2 = (h : Int) := by omega
  have hn9 : (n : Int) ≤ 9 := by omega
  have hn1 : (1 : Int) ≤ (n : Int) := by omega
  have HN : Hid (h = (n + 1) / 2) := hh
  clear hh
  go_wp2_with fail
  refine (into_any Z h (by have := HN.out; omega) (by have := HN.out; omega) _).mono ?_
  rintro e w1 ⟨k2, rfl, hk2, rfl⟩
  obtain ⟨c0, hc0⟩ : ∃ c0 : Nat, 1 + 2 * (k2 : Int) = c0 := ⟨1 + 2 * k2, by omega⟩
  have HC : Hid (c0 = 1 + 2 * k2 ∧ k2 < h) := ⟨by omega, by omega⟩
  have hk2b : k2 < 5 := by have := HN.out; omega
  clear hk2 hq1 hq2 hk1
  by_cases h7 : c0 > 7
  · have h7z : (c0 : Int) > 7 := by omega
    go_wp2_with fail
    obtain ⟨c, hc⟩ : ∃ c : Nat, (7 : Int) = c := ⟨7, rfl⟩
    rw [hc]
    have HG : Hid (goodM s n c) := by
      have e1 := HN.out; have e2 := HC.out
      show goodM s n c
      refine ⟨by omega, by omega, by omega, by omega, by omega, by omega, by omega, by omega⟩
    clear hc h7z h7 hc0 hn HC HN hk2b
    refine (copies_any s n c HG.out _).mono ?_
    rintro e w1 ⟨v, B, rfl, hB, hO, hv, b1⟩
    have bb1 := bb.trans (b1.mono bb.size)
    have hG : 1 ≤ c ∧ c ≤ 7 ∧ c ≤ n ∧ n ≤ 9 ∧ s < 8 := by
      obtain ⟨_, _, _, _, _, _, _, _⟩ := HG.out
      omega
    obtain ⟨hc1, hc7, hcn, hnn, hs8⟩ := hG
    obtain ⟨g, cap, rfl, hcells, hcap⟩ : ∃ g cap, v = .slice (some ⟨g, 0, none⟩) c cap ∧ (∀ j, j < c → w1.cell? ⟨g, j, none⟩ = some (.int .i64 (cT s n j : Nat))) ∧ c ≤ cap := by
      rcases hO.2 with ⟨rfl, _⟩ | ⟨g, cap, cur, rfl, _, _, hcap, _⟩
      · exact absurd rfl hv
      · refine ⟨g, cap, rfl, fun j hj => ?_, hcap⟩
        rw [hO.cellAt j (by omega)]
        simp [hj, cop_tab hs8 (show 1 ≤ n by omega) hnn (show j < n by omega)]
    clear hO hv b1 bb hB
    go_wp2_with fail
    refine (num_any 0 _).mono ?_
    rintro e w1 ⟨rfl, rfl⟩
    go_wp2_with fail
    refine (wakes_any _).mono ?_
    rintro e w2 ⟨rfl, b2⟩
    have hcells2 : ∀ j, j < c → w2.cell? ⟨g, j, none⟩ = some (.int .i64 (cT s n j : Nat)) := fun j hj => below_cell b2 (hcells j hj)
    have bb2 := bb1.trans (b2.mono bb1.size)
    clear hcells bb1 b2
    have e1 : ((s + 1 : Nat) : Int) = (s : Int) + 1 := by omega
    have hsp := fun w => spiral_in (s + 1) (by omega) w
    rw [e1] at hsp
    go_wp2_with fail
    refine (hsp _).mono ?_
    rintro e w3 ⟨ta, tb, rfl, fta, ftb, b3⟩
    have hcells3 : ∀ j, j < c → w3.cell? ⟨g, j, none⟩ = some (.int .i64 (cT s n j : Nat)) := fun j hj => below_cell b3 (hcells2 j hj)
    have bb3 := bb2.trans (b3.mono bb2.size)
    clear hcells2 bb2 b3 hsp e1
    go_wp2_with fail
    refine (turn_any 1 fta ftb _).mono ?_
    rintro e w3 ⟨ra, rb, rfl, fra, frb, rfl⟩
    have hat : turnN (1 % 4 : Int).toNat ((spM (s + 1)).1, (spM (s + 1)).2) = shardM s := rfl
    rw [hat] at fra frb
    clear hat fta ftb
    have hmk := run_make_row' (P := Try.prog) 34 4 (.bool false) 1 Try.underlying34 boolInfo rfl .i64 .i64 n (by omega) (by omega) w3
    obtain ⟨W, hW⟩ : ∃ W, w3.alloc (.cells (madeCells #[.bool false] n) 4) = W := ⟨_, rfl⟩
    have hgl : g < w3.heap.size := World.block_lt_of_cell? _ _ (hcells3 0 (by omega))
    have hS : Cop w g w3.heap.size s n c 0 W := by
      rw [← hW]
      exact ⟨bb3.alloc bb3.size _, fun j hj => by rw [alloc_keeps _ _ _ _ hgl]; exact hcells3 j hj, World.rowIs_made w3 (.bool false) n 4⟩
    rw [hW] at hmk
    have hib := bb3.size
    have hne : g ≠ w3.heap.size := by omega
    clear hcells3 bb3 hgl hW
    have hcz : (c : Int) ≤ (n : Int) := by omega
    have hc7z : (c : Int) ≤ 7 := by omega
    have hc1z : (1 : Int) ≤ (c : Int) := by omega
    have hccap : (c : Int) ≤ (cap : Int) := by omega
    have HO : Hid (c % 2 = 1) := by
      obtain ⟨_, _, _, _, _, _, _, _⟩ := HG.out
      show c % 2 = 1
      omega
    go_wp2_with fail
    go_loopg [10, 11, 12] c (fun q s10 s11 s12 wr => ∃ i : Nat, i ≤ c ∧ q = c - i ∧ s10 = .int .i64 i ∧ Cop w g w3.heap.size s n c i wr)
    case atStart => exact ⟨0, Nat.zero_le _, rfl, rfl, hS⟩
    case round =>
      obtain ⟨i, hi, rfl, rfl, hC⟩ := hrel
      clear hS hmk
      by_cases hlt : i < c
      · have hz : (i : Int) < (c : Int) := by omega
        have hLn := cop_lt s hs8 n (by omega) i (by omega)
        have hnot : inB s n i (cT s n i) = false := inB_not (fun j hj => cop_ne s hs8 n (by omega) i (by omega) j hj)
        have hl := hC.list i hlt
        have hin := hC.row.cell hLn
        rw [hnot] at hin
        have hfz := hC.row.frozen (cT s n i)
        have hC2 := hC.mark hne hib
        rcases Nat.eq_zero_or_pos i with h0 | h0
        · subst h0
          have hLz : ((cT s n 0 : Nat) : Int) < (n : Int) := by omega
          obtain ⟨L, hL⟩ : ∃ L, cT s n 0 = L := ⟨_, rfl⟩
          rw [hL] at hl hin hfz hLz hC2
          clear hnot hLn hC
          obtain ⟨W2, hW2⟩ : ∃ W2, wr.setCell ⟨w3.heap.size, L, none⟩ (.bool true) = W2 := ⟨_, rfl⟩
          rw [hW2] at hC2
          go_wp2_with fail
          go_roundg (c - 1)
          case measure => omega
          case rel => exact ⟨1, by omega, rfl, rfl, hC2⟩
        · obtain ⟨p, rfl⟩ : ∃ p, i = p + 1 := ⟨i - 1, by omega⟩
          have hpc : p < c := by omega
          have hl' := hC2.list p hpc
          have hl2 := hC2.list (p + 1) hlt
          have hPn := cop_lt s hs8 n (by omega) p (by omega)
          obtain ⟨u1, u2⟩ := cop_up s hs8 n (by omega) p (by omega) (by omega)
          obtain ⟨L, hL⟩ : ∃ L, cT s n (p + 1) = L := ⟨_, rfl⟩
          obtain ⟨M, hM⟩ : ∃ M, cT s n p = M := ⟨_, rfl⟩
          have hapL := fun xa xb W (h1 : Fl xa (spM L).1) (h2 : Fl xb (spM L).2) => apart_cop hs8 fra frb (show L < 9 by omega) h1 h2 W
          have hapM := fun xa xb W (h1 : Fl xa (spM M).1) (h2 : Fl xb (spM M).2) => apart_cop hs8 fra frb (show M < 9 by omega) h1 h2 W
          have hLz : (L : Int) < (n : Int) := by omega
          have hMz : (M : Int) < (n : Int) := by omega
          rw [hL] at hl hin hfz hC2 hl2 hl' u1 u2
          rw [hM] at hl' u1 u2
          have HLM : Hid (L < 9 ∧ M < 9) := ⟨by omega, by omega⟩
          clear hnot hLn hC hPn
          have hpz : (p : Int) + 1 < (c : Int) := by omega
          have hwr : IntKind.i64.wrap ((p : Int) + 1 - 1) = (p : Int) := by rw [IntKind.wrap_i64]; omega
          have hpz2 : (p : Int) < (c : Int) := by omega
          have hwr2 : IntKind.i64.wrap (((p + 1 : Nat) : Int) - 1) = (p : Int) := by rw [IntKind.wrap_i64]; omega
          have hwr3 : ((p : Int) + 1 - 1) = (p : Int) := by omega
          have hpz0 : (0 : Int) ≤ (p : Int) := by omega
          have hpz3 : ((p + 1 : Nat) : Int) < (c : Int) := by omega
          obtain ⟨W2, hW2⟩ : ∃ W2, wr.setCell ⟨w3.heap.size, L, none⟩ (.bool true) = W2 := ⟨_, rfl⟩
          rw [hW2] at hC2 hl' hl2
          have HP : Hid (∀ W', RowKit.Below W2.heap.size W2 W' → W'.cell? ⟨g, p, none⟩ = some (.int .i64 (M : Nat)) ∧ W'.cell? ⟨g, p + 1, none⟩ = some (.int .i64 (L : Nat))) := fun W' hb => ⟨below_cell hb hl', below_cell hb hl2⟩
          go_wp2_with fail
          refine (spiral_in M (by have := HLM.out; omega) _).mono ?_
          rintro e W3 ⟨xa, xb, rfl, fxa, fxb, b3⟩
          go_wp2_with fail
          refine (hapM _ _ _ fxa fxb).mono ?_
          rintro e W3 ⟨rfl, rfl⟩
          obtain ⟨m1, m2⟩ := HP.out _ b3
          have hC3 := hC2.on b3
          clear fxa fxb
          go_wp2_with fail
          refine (spiral_in L (by have := HLM.out; omega) _).mono ?_
          rintro e W4 ⟨xa, xb, rfl, fxa, fxb, b4⟩
          go_wp2_with fail
          refine (hapL _ _ _ fxa fxb).mono ?_
          rintro e W4 ⟨rfl, rfl⟩
          have n1 := below_cell b4 m1
          have n2 := below_cell b4 m2
          have hC4 := hC3.on b4
          clear fxa fxb hapL hapM m1 m2 hl' hl2 hl hin hfz hC3 hC2 b3 b4 HP
          generalize dT s M = dm at *
          generalize dT s L = dl at *
          have ngt : ¬ dl < dm := by omega
          have ngt2 : decide (dl < dm) = false := decide_eq_false ngt
          by_cases heq : dm = dl
          · have g1 : (dm == dl) = true := beq_iff_eq.2 heq
            have hML := u2 heq
            have hMLz : ¬ (L : Int) < (M : Int) := by omega
            have hMLn : ¬ L < M := by omega
            have hMLd : decide (L < M) = false := decide_eq_false hMLn
            have hMLe : decide ((L : Int) < (M : Int)) = false := decide_eq_false hMLz
            clear heq u1 u2
            go_wp2_with fail
            have hwr1 : IntKind.i64.wrap ((p : Int) + 1 - 1) = (p : Int) := by rw [IntKind.wrap_i64]; omega
            have hwr2 : IntKind.i64.wrap (((p + 1 : Nat) : Int) - 1) = (p : Int) := by rw [IntKind.wrap_i64]; omega
            have hwr4 : IntKind.i64.wrap (p : Int) = (p : Int) := by rw [IntKind.wrap_i64]; omega
            have hpy2 : (p : Int) < (c : Int) := by omega
            have hpy3 : (p : Int) + 1 < (c : Int) := by omega
            have hpy0 : (0 : Int) ≤ (p : Int) := by omega
            have hpy1 : (0 : Int) ≤ (p : Int) + 1 := by omega
            have r1 : ∀ w, (binOp .gtr 3 (.int .i64 dm) (.int .i64 dl)).run Try.prog w = .ok (.bool false) w := fun w => by go_simp
            have r2 : ∀ w, (binOp .eql 3 (.int .i64 dm) (.int .i64 dl)).run Try.prog w = .ok (.bool true) w := fun w => by go_simp
            go_region_held3 (fun W => W.cell? ⟨g, p, none⟩ = some (.int .i64 (M : Nat)) ∧ W.cell? ⟨g, p + 1, none⟩ = some (.int .i64 (L : Nat)))
              (exact ⟨n1, n2⟩)
              (fail)
            all_goals
              go_wp2_with fail
              go_roundg (c - (p + 1 + 1))
              case measure => omega
              case rel => exact ⟨p + 1 + 1, by omega, rfl, by go_num, hC4.drewN 1⟩
          · have g1 : (dm == dl) = false := beq_eq_false_iff_ne.2 heq
            have g2 : decide (dm = dl) = false := decide_eq_false heq
            clear u1 u2
            go_wp2_with fail
            have hwr1 : IntKind.i64.wrap ((p : Int) + 1 - 1) = (p : Int) := by rw [IntKind.wrap_i64]; omega
            have hwr2 : IntKind.i64.wrap (((p + 1 : Nat) : Int) - 1) = (p : Int) := by rw [IntKind.wrap_i64]; omega
            have hwr4 : IntKind.i64.wrap (p : Int) = (p : Int) := by rw [IntKind.wrap_i64]; omega
            have hpy2 : (p : Int) < (c : Int) := by omega
            have hpy3 : (p : Int) + 1 < (c : Int) := by omega
            have hpy0 : (0 : Int) ≤ (p : Int) := by omega
            have hpy1 : (0 : Int) ≤ (p : Int) + 1 := by omega
            have r1 : ∀ w, (binOp .gtr 3 (.int .i64 dm) (.int .i64 dl)).run Try.prog w = .ok (.bool false) w := fun w => by go_simp
            have r2 : ∀ w, (binOp .eql 3 (.int .i64 dm) (.int .i64 dl)).run Try.prog w = .ok (.bool false) w := fun w => by go_simp
            go_quiet (fail)
            go_wp2_with fail
            go_roundg (c - (p + 1 + 1))
            case measure => omega
            case rel => exact ⟨p + 1 + 1, by omega, rfl, by go_num, hC4.drewN _⟩
      · have hz : ¬ (i : Int) < (c : Int) := by omega
        obtain rfl : i = c := by omega
        obtain ⟨e, he⟩ : ∃ e : Nat, (i : Int) - 1 = (e : Int) := ⟨i - 1, by omega⟩
        have hen : e < i := by omega
        have hei : e + 1 = i := by omega
        have hezz : (0 : Int) ≤ (e : Int) := by omega
        have hez : (e : Int) < (i : Int) := by omega
        have hwre : IntKind.i64.wrap ((i : Int) - 1) = (e : Int) := by rw [he, IntKind.wrap_i64]; omega
        have hle := hC.list e hen
        have hEn := cop_lt s hs8 n (by omega) e (by omega)
        have hrest := cop_rest s hs8 n (by omega) e (by omega)
        rw [hei] at hrest
        obtain ⟨L, hL⟩ : ∃ L, cT s n e = L := ⟨_, rfl⟩
        rw [hL] at hle hEn hrest
        have hapL := fun xa xb W (h1 : Fl xa (spM L).1) (h2 : Fl xb (spM L).2) => apart_cop hs8 fra frb (show L < 9 by omega) h1 h2 W
        have HLL : Hid (L < 9) := hide (by omega)
        go_wp2_with fail
        refine (spiral_in L (by have := HLL.out; omega) _).mono ?_
        rintro e' W3 ⟨xa, xb, rfl, fxa, fxb, b3⟩
        go_wp2_with fail
        refine (hapL _ _ _ fxa fxb).mono ?_
        rintro e' W3 ⟨rfl, rfl⟩
        have hC3 := hC.on b3
        clear fxa fxb hapL hle hC b3 hEn hei he
        obtain ⟨far, hfar⟩ : ∃ far, dT s L = far := ⟨_, rfl⟩
        rw [hfar]
        rw [hfar] at hrest
        have hLL : Hid (cT s n e = L) := hL
        clear hfar hL
        have HR : Hid (∀ m, m < n → (∀ j, j < i → cT s n j ≠ m) → far ≤ dT s m ∧ (dT s m = far → L < m)) := hrest
        clear hrest
        have HCL : Hid (∀ W, Cop w g w3.heap.size s n i i W → W.cell? ⟨g, e, none⟩ = some (.int .i64 (L : Nat))) := hide (fun W hW => by rw [hW.list e hen, hLL.out])
        go_wp2_with fail
        go_loopg [14, 15] n (fun q s14 s15 wr => ∃ m : Nat, m ≤ n ∧ q = n - m ∧ s14 = .int .i64 m ∧ Cop w g w3.heap.size s n i i wr)
        case atStart => exact ⟨0, Nat.zero_le _, rfl, rfl, hC3⟩
        case round =>
          obtain ⟨m, hm, rfl, rfl, hC⟩ := hrel
          clear hC3
          by_cases hmn : m < n
          · have hmz : (m : Int) < (n : Int) := by omega
            have HM9 : Hid (m < 9) := hide (by omega)
            go_wp2_with fail
            refine (spiral_in m (by have := HM9.out; omega) _).mono ?_
            rintro e' W4 ⟨xa, xb, rfl, fxa, fxb, b4⟩
            go_wp2_with fail
            refine (apart_cop hs8 fra frb HM9.out fxa fxb _).mono ?_
            rintro e' W4 ⟨rfl, rfl⟩
            have hC4 := hC.on b4
            have hin := hC4.row.cell hmn
            have hle := HCL.out _ hC4
            clear fxa fxb hC b4
            cases hb : inB s n i m with
            | true =>
              rw [hb] at hin
              clear hb
              go_wp2_with fail
              go_roundg (n - (m + 1))
              case measure => omega
              case rel => exact ⟨m + 1, by omega, rfl, by go_num, hC4⟩
            | false =>
              obtain ⟨v1, v2⟩ := HR.out m hmn (of_inB hb)
              rw [hb] at hin
              clear hb
              generalize dT s m = dm at *
              have hnl : ¬ dm < far := by omega
              by_cases heq : dm = far
              · have hLm := v2 heq
                have hLm' : ¬ (m : Int) < (L : Int) := by omega
                have hLm2 : ¬ m < L := by omega
                have g1 : (dm == far) = true := beq_iff_eq.2 heq
                have r1 : ∀ w, (binOp .lss 3 (.int .i64 dm) (.int .i64 far)).run Try.prog w = .ok (.bool false) w := fun w => by go_simp
                have r2 : ∀ w, (binOp .eql 3 (.int .i64 dm) (.int .i64 far)).run Try.prog w = .ok (.bool true) w := fun w => by go_simp
                have r3 : ∀ w, (binOp .lss 3 (.int .i64 (m : Int)) (.int .i64 (L : Int))).run Try.prog w = .ok (.bool false) w := fun w => by go_simp
                clear v1 v2 heq
                go_wp2_with fail
                go_roundg (n - (m + 1))
                case measure => omega
                case rel => exact ⟨m + 1, by omega, rfl, by go_num, hC4⟩
              · have g1 : (dm == far) = false := beq_eq_false_iff_ne.2 heq
                have r1 : ∀ w, (binOp .lss 3 (.int .i64 dm) (.int .i64 far)).run Try.prog w = .ok (.bool false) w := fun w => by go_simp
                have r2 : ∀ w, (binOp .eql 3 (.int .i64 dm) (.int .i64 far)).run Try.prog w = .ok (.bool false) w := fun w => by go_simp
                clear v1 v2
                go_wp2_with fail
                go_roundg (n - (m + 1))
                case measure => omega
                case rel => exact ⟨m + 1, by omega, rfl, by go_num, hC4⟩
          · have hmz : ¬ (m : Int) < (n : Int) := by omega
            by_cases h3 : i < 3
            · have h3z : (i : Int) < 3 := by omega
              go_wp2_with fail
              go_ret
              exact ⟨rfl, hC.below⟩
            · have h3z : ¬ (i : Int) < 3 := by omega
              obtain ⟨f, hf⟩ : ∃ f : Nat, (i : Int) - 2 = (f : Int) := ⟨i - 2, by omega⟩
              have hwrf : IntKind.i64.wrap ((i : Int) - 2) = (f : Int) := by rw [hf, IntKind.wrap_i64]; omega
              have hgf : goodM s n f := by
                obtain ⟨_, _, _, _, _, _, _, _⟩ := HG.out
                refine ⟨by omega, by omega, by omega, by omega, by omega, by omega, by omega, by omega⟩
              have hff : f ≤ n ∧ f < i ∧ f ≤ 7 ∧ f ≤ cap := ⟨by omega, by omega, by omega, by omega⟩
              have hfc : (f : Int) ≤ (cap : Int) := by omega
              have hf0 : (0 : Int) ≤ (f : Int) := by omega
              have HF : Hid (f ≤ n ∧ f < i ∧ f ≤ 7 ∧ f ≤ cap) := hff
              clear hff hf
              go_wp2_with fail
              refine (copies_any s n f hgf _).mono ?_
              rintro e' w5 ⟨v, B', rfl, _, hO, _, b5⟩
              obtain ⟨a, c', rfl, hI⟩ := IntsAt.of_own (f := fun j => (copN s n j : Nat)) hO
              have hC5 := hC.on b5
              have hI2 : IntsAt w5 (some ⟨g, 0, none⟩) f (fun j => (copN s n j : Nat)) := fun j hj => by
                refine ⟨g, 0, rfl, ?_⟩
                have := HF.out
                rw [Nat.zero_add, hC5.list j (by omega)]
                show _ = some (Value.int .i64 ((copN s n j : Nat) : Int))
                rw [cop_tab hs8 (by omega) hnn (by omega)]
              clear hO hC b5 hgf
              go_wp2_with fail
              refine (num_any 0 _).mono ?_
              rintro e' w5 ⟨rfl, rfl⟩
              go_wp2_with fail
              refine (eqInts_same a (some ⟨g, 0, none⟩) f c' cap _ _ (by have := HF.out; omega) hI hI2).mono ?_
              rintro e' w6 ⟨rfl, q, rfl⟩
              go_wp2_with fail
              go_ret
              exact ⟨rfl, (hC5.drewN q).below⟩
  · have h7z : ¬ (c0 : Int) > 7 := by omega
    go_wp2_with fail
    have HG : Hid (goodM s n c0) := by
      have e1 := HN.out; have e2 := HC.out
      show goodM s n c0
      refine ⟨by omega, by omega, by omega, by omega, by omega, by omega, by omega, by omega⟩
    clear h7z h7 hc0 hn HC HN hk2b
    generalize c0 = c at *
    refine (copies_any s n c HG.out _).mono ?_
    rintro e w1 ⟨v, B, rfl, hB, hO, hv, b1⟩
    have bb1 := bb.trans (b1.mono bb.size)
    have hG : 1 ≤ c ∧ c ≤ 7 ∧ c ≤ n ∧ n ≤ 9 ∧ s < 8 := by
      obtain ⟨_, _, _, _, _, _, _, _⟩ := HG.out
      omega
    obtain ⟨hc1, hc7, hcn, hnn, hs8⟩ := hG
    obtain ⟨g, cap, rfl, hcells, hcap⟩ : ∃ g cap, v = .slice (some ⟨g, 0, none⟩) c cap ∧ (∀ j, j < c → w1.cell? ⟨g, j, none⟩ = some (.int .i64 (cT s n j : Nat))) ∧ c ≤ cap := by
      rcases hO.2 with ⟨rfl, _⟩ | ⟨g, cap, cur, rfl, _, _, hcap, _⟩
      · exact absurd rfl hv
      · refine ⟨g, cap, rfl, fun j hj => ?_, hcap⟩
        rw [hO.cellAt j (by omega)]
        simp [hj, cop_tab hs8 (show 1 ≤ n by omega) hnn (show j < n by omega)]
    clear hO hv b1 bb hB
    go_wp2_with fail
    refine (num_any 0 _).mono ?_
    rintro e w1 ⟨rfl, rfl⟩
    go_wp2_with fail
    refine (wakes_any _).mono ?_
    rintro e w2 ⟨rfl, b2⟩
    have hcells2 : ∀ j, j < c → w2.cell? ⟨g, j, none⟩ = some (.int .i64 (cT s n j : Nat)) := fun j hj => below_cell b2 (hcells j hj)
    have bb2 := bb1.trans (b2.mono bb1.size)
    clear hcells bb1 b2
    have e1 : ((s + 1 : Nat) : Int) = (s : Int) + 1 := by omega
    have hsp := fun w => spiral_in (s + 1) (by omega) w
    rw [e1] at hsp
    go_wp2_with fail
    refine (hsp _).mono ?_
    rintro e w3 ⟨ta, tb, rfl, fta, ftb, b3⟩
    have hcells3 : ∀ j, j < c → w3.cell? ⟨g, j, none⟩ = some (.int .i64 (cT s n j : Nat)) := fun j hj => below_cell b3 (hcells2 j hj)
    have bb3 := bb2.trans (b3.mono bb2.size)
    clear hcells2 bb2 b3 hsp e1
    go_wp2_with fail
    refine (turn_any 1 fta ftb _).mono ?_
    rintro e w3 ⟨ra, rb, rfl, fra, frb, rfl⟩
    have hat : turnN (1 % 4 : Int).toNat ((spM (s + 1)).1, (spM (s + 1)).2) = shardM s := rfl
    rw [hat] at fra frb
    clear hat fta ftb
    have hmk := run_make_row' (P := Try.prog) 34 4 (.bool false) 1 Try.underlying34 boolInfo rfl .i64 .i64 n (by omega) (by omega) w3
    obtain ⟨W, hW⟩ : ∃ W, w3.alloc (.cells (madeCells #[.bool false] n) 4) = W := ⟨_, rfl⟩
    have hgl : g < w3.heap.size := World.block_lt_of_cell? _ _ (hcells3 0 (by omega))
    have hS : Cop w g w3.heap.size s n c 0 W := by
      rw [← hW]
      exact ⟨bb3.alloc bb3.size _, fun j hj => by rw [alloc_keeps _ _ _ _ hgl]; exact hcells3 j hj, World.rowIs_made w3 (.bool false) n 4⟩
    rw [hW] at hmk
    have hib := bb3.size
    have hne : g ≠ w3.heap.size := by omega
    clear hcells3 bb3 hgl hW
    have hcz : (c : Int) ≤ (n : Int) := by omega
    have hc7z : (c : Int) ≤ 7 := by omega
    have hc1z : (1 : Int) ≤ (c : Int) := by omega
    have hccap : (c : Int) ≤ (cap : Int) := by omega
    have HO : Hid (c % 2 = 1) := by
      obtain ⟨_, _, _, _, _, _, _, _⟩ := HG.out
      show c % 2 = 1
      omega
    go_wp2_with fail
    go_loopg [10, 11, 12] c (fun q s10 s11 s12 wr => ∃ i : Nat, i ≤ c ∧ q = c - i ∧ s10 = .int .i64 i ∧ Cop w g w3.heap.size s n c i wr)
    case atStart => exact ⟨0, Nat.zero_le _, rfl, rfl, hS⟩
    case round =>
      obtain ⟨i, hi, rfl, rfl, hC⟩ := hrel
      clear hS hmk
      by_cases hlt : i < c
      · have hz : (i : Int) < (c : Int) := by omega
        have hLn := cop_lt s hs8 n (by omega) i (by omega)
        have hnot : inB s n i (cT s n i) = false := inB_not (fun j hj => cop_ne s hs8 n (by omega) i (by omega) j hj)
        have hl := hC.list i hlt
        have hin := hC.row.cell hLn
        rw [hnot] at hin
        have hfz := hC.row.frozen (cT s n i)
        have hC2 := hC.mark hne hib
        rcases Nat.eq_zero_or_pos i with h0 | h0
        · subst h0
          have hLz : ((cT s n 0 : Nat) : Int) < (n : Int) := by omega
          obtain ⟨L, hL⟩ : ∃ L, cT s n 0 = L := ⟨_, rfl⟩
          rw [hL] at hl hin hfz hLz hC2
          clear hnot hLn hC
          obtain ⟨W2, hW2⟩ : ∃ W2, wr.setCell ⟨w3.heap.size, L, none⟩ (.bool true) = W2 := ⟨_, rfl⟩
          rw [hW2] at hC2
          go_wp2_with fail
          go_roundg (c - 1)
          case measure => omega
          case rel => exact ⟨1, by omega, rfl, rfl, hC2⟩
        · obtain ⟨p, rfl⟩ : ∃ p, i = p + 1 := ⟨i - 1, by omega⟩
          have hpc : p < c := by omega
          have hl' := hC2.list p hpc
          have hl2 := hC2.list (p + 1) hlt
          have hPn := cop_lt s hs8 n (by omega) p (by omega)
          obtain ⟨u1, u2⟩ := cop_up s hs8 n (by omega) p (by omega) (by omega)
          obtain ⟨L, hL⟩ : ∃ L, cT s n (p + 1) = L := ⟨_, rfl⟩
          obtain ⟨M, hM⟩ : ∃ M, cT s n p = M := ⟨_, rfl⟩
          have hapL := fun xa xb W (h1 : Fl xa (spM L).1) (h2 : Fl xb (spM L).2) => apart_cop hs8 fra frb (show L < 9 by omega) h1 h2 W
          have hapM := fun xa xb W (h1 : Fl xa (spM M).1) (h2 : Fl xb (spM M).2) => apart_cop hs8 fra frb (show M < 9 by omega) h1 h2 W
          have hLz : (L : Int) < (n : Int) := by omega
          have hMz : (M : Int) < (n : Int) := by omega
          rw [hL] at hl hin hfz hC2 hl2 hl' u1 u2
          rw [hM] at hl' u1 u2
          have HLM : Hid (L < 9 ∧ M < 9) := ⟨by omega, by omega⟩
          clear hnot hLn hC hPn
          have hpz : (p : Int) + 1 < (c : Int) := by omega
          have hwr : IntKind.i64.wrap ((p : Int) + 1 - 1) = (p : Int) := by rw [IntKind.wrap_i64]; omega
          have hpz2 : (p : Int) < (c : Int) := by omega
          have hwr2 : IntKind.i64.wrap (((p + 1 : Nat) : Int) - 1) = (p : Int) := by rw [IntKind.wrap_i64]; omega
          have hwr3 : ((p : Int) + 1 - 1) = (p : Int) := by omega
          have hpz0 : (0 : Int) ≤ (p : Int) := by omega
          have hpz3 : ((p + 1 : Nat) : Int) < (c : Int) := by omega
          obtain ⟨W2, hW2⟩ : ∃ W2, wr.setCell ⟨w3.heap.size, L, none⟩ (.bool true) = W2 := ⟨_, rfl⟩
          rw [hW2] at hC2 hl' hl2
          have HP : Hid (∀ W', RowKit.Below W2.heap.size W2 W' → W'.cell? ⟨g, p, none⟩ = some (.int .i64 (M : Nat)) ∧ W'.cell? ⟨g, p + 1, none⟩ = some (.int .i64 (L : Nat))) := fun W' hb => ⟨below_cell hb hl', below_cell hb hl2⟩
          go_wp2_with fail
          refine (spiral_in M (by have := HLM.out; omega) _).mono ?_
          rintro e W3 ⟨xa, xb, rfl, fxa, fxb, b3⟩
          go_wp2_with fail
          refine (hapM _ _ _ fxa fxb).mono ?_
          rintro e W3 ⟨rfl, rfl⟩
          obtain ⟨m1, m2⟩ := HP.out _ b3
          have hC3 := hC2.on b3
          clear fxa fxb
          go_wp2_with fail
          refine (spiral_in L (by have := HLM.out; omega) _).mono ?_
          rintro e W4 ⟨xa, xb, rfl, fxa, fxb, b4⟩
          go_wp2_with fail
          refine (hapL _ _ _ fxa fxb).mono ?_
          rintro e W4 ⟨rfl, rfl⟩
          have n1 := below_cell b4 m1
          have n2 := below_cell b4 m2
          have hC4 := hC3.on b4
          clear fxa fxb hapL hapM m1 m2 hl' hl2 hl hin hfz hC3 hC2 b3 b4 HP
          generalize dT s M = dm at *
          generalize dT s L = dl at *
          have ngt : ¬ dl < dm := by omega
          have ngt2 : decide (dl < dm) = false := decide_eq_false ngt
          by_cases heq : dm = dl
          · have g1 : (dm == dl) = true := beq_iff_eq.2 heq
            have hML := u2 heq
            have hMLz : ¬ (L : Int) < (M : Int) := by omega
            have hMLn : ¬ L < M := by omega
            have hMLd : decide (L < M) = false := decide_eq_false hMLn
            have hMLe : decide ((L : Int) < (M : Int)) = false := decide_eq_false hMLz
            clear heq u1 u2
            go_wp2_with fail
            have hwr1 : IntKind.i64.wrap ((p : Int) + 1 - 1) = (p : Int) := by rw [IntKind.wrap_i64]; omega
            have hwr2 : IntKind.i64.wrap (((p + 1 : Nat) : Int) - 1) = (p : Int) := by rw [IntKind.wrap_i64]; omega
            have hwr4 : IntKind.i64.wrap (p : Int) = (p : Int) := by rw [IntKind.wrap_i64]; omega
            have hpy2 : (p : Int) < (c : Int) := by omega
            have hpy3 : (p : Int) + 1 < (c : Int) := by omega
            have hpy0 : (0 : Int) ≤ (p : Int) := by omega
            have hpy1 : (0 : Int) ≤ (p : Int) + 1 := by omega
            have r1 : ∀ w, (binOp .gtr 3 (.int .i64 dm) (.int .i64 dl)).run Try.prog w = .ok (.bool false) w := fun w => by go_simp
            have r2 : ∀ w, (binOp .eql 3 (.int .i64 dm) (.int .i64 dl)).run Try.prog w = .ok (.bool true) w := fun w => by go_simp
            go_region_held3 (fun W => W.cell? ⟨g, p, none⟩ = some (.int .i64 (M : Nat)) ∧ W.cell? ⟨g, p + 1, none⟩ = some (.int .i64 (L : Nat)))
              (exact ⟨n1, n2⟩)
              (fail)
            all_goals
              go_wp2_with fail
              go_roundg (c - (p + 1 + 1))
              case measure => omega
              case rel => exact ⟨p + 1 + 1, by omega, rfl, by go_num, hC4.drewN 1⟩
          · have g1 : (dm == dl) = false := beq_eq_false_iff_ne.2 heq
            have g2 : decide (dm = dl) = false := decide_eq_false heq
            clear u1 u2
            go_wp2_with fail
            have hwr1 : IntKind.i64.wrap ((p : Int) + 1 - 1) = (p : Int) := by rw [IntKind.wrap_i64]; omega
            have hwr2 : IntKind.i64.wrap (((p + 1 : Nat) : Int) - 1) = (p : Int) := by rw [IntKind.wrap_i64]; omega
            have hwr4 : IntKind.i64.wrap (p : Int) = (p : Int) := by rw [IntKind.wrap_i64]; omega
            have hpy2 : (p : Int) < (c : Int) := by omega
            have hpy3 : (p : Int) + 1 < (c : Int) := by omega
            have hpy0 : (0 : Int) ≤ (p : Int) := by omega
            have hpy1 : (0 : Int) ≤ (p : Int) + 1 := by omega
            have r1 : ∀ w, (binOp .gtr 3 (.int .i64 dm) (.int .i64 dl)).run Try.prog w = .ok (.bool false) w := fun w => by go_simp
            have r2 : ∀ w, (binOp .eql 3 (.int .i64 dm) (.int .i64 dl)).run Try.prog w = .ok (.bool false) w := fun w => by go_simp
            go_quiet (fail)
            go_wp2_with fail
            go_roundg (c - (p + 1 + 1))
            case measure => omega
            case rel => exact ⟨p + 1 + 1, by omega, rfl, by go_num, hC4.drewN _⟩
      · have hz : ¬ (i : Int) < (c : Int) := by omega
        obtain rfl : i = c := by omega
        obtain ⟨e, he⟩ : ∃ e : Nat, (i : Int) - 1 = (e : Int) := ⟨i - 1, by omega⟩
        have hen : e < i := by omega
        have hei : e + 1 = i := by omega
        have hezz : (0 : Int) ≤ (e : Int) := by omega
        have hez : (e : Int) < (i : Int) := by omega
        have hwre : IntKind.i64.wrap ((i : Int) - 1) = (e : Int) := by rw [he, IntKind.wrap_i64]; omega
        have hle := hC.list e hen
        have hEn := cop_lt s hs8 n (by omega) e (by omega)
        have hrest := cop_rest s hs8 n (by omega) e (by omega)
        rw [hei] at hrest
        obtain ⟨L, hL⟩ : ∃ L, cT s n e = L := ⟨_, rfl⟩
        rw [hL] at hle hEn hrest
        have hapL := fun xa xb W (h1 : Fl xa (spM L).1) (h2 : Fl xb (spM L).2) => apart_cop hs8 fra frb (show L < 9 by omega) h1 h2 W
        have HLL : Hid (L < 9) := hide (by omega)
        go_wp2_with fail
        refine (spiral_in L (by have := HLL.out; omega) _).mono ?_
        rintro e' W3 ⟨xa, xb, rfl, fxa, fxb, b3⟩
        go_wp2_with fail
        refine (hapL _ _ _ fxa fxb).mono ?_
        rintro e' W3 ⟨rfl, rfl⟩
        have hC3 := hC.on b3
        clear fxa fxb hapL hle hC b3 hEn hei he
        obtain ⟨far, hfar⟩ : ∃ far, dT s L = far := ⟨_, rfl⟩
        rw [hfar]
        rw [hfar] at hrest
        have hLL : Hid (cT s n e = L) := hL
        clear hfar hL
        have HR : Hid (∀ m, m < n → (∀ j, j < i → cT s n j ≠ m) → far ≤ dT s m ∧ (dT s m = far → L < m)) := hrest
        clear hrest
        have HCL : Hid (∀ W, Cop w g w3.heap.size s n i i W → W.cell? ⟨g, e, none⟩ = some (.int .i64 (L : Nat))) := hide (fun W hW => by rw [hW.list e hen, hLL.out])
        go_wp2_with fail
        go_loopg [14, 15] n (fun q s14 s15 wr => ∃ m : Nat, m ≤ n ∧ q = n - m ∧ s14 = .int .i64 m ∧ Cop w g w3.heap.size s n i i wr)
        case atStart => exact ⟨0, Nat.zero_le _, rfl, rfl, hC3⟩
        case round =>
          obtain ⟨m, hm, rfl, rfl, hC⟩ := hrel
          clear hC3
          by_cases hmn : m < n
          · have hmz : (m : Int) < (n : Int) := by omega
            have HM9 : Hid (m < 9) := hide (by omega)
            go_wp2_with fail
            refine (spiral_in m (by have := HM9.out; omega) _).mono ?_
            rintro e' W4 ⟨xa, xb, rfl, fxa, fxb, b4⟩
            go_wp2_with fail
            refine (apart_cop hs8 fra frb HM9.out fxa fxb _).mono ?_
            rintro e' W4 ⟨rfl, rfl⟩
            have hC4 := hC.on b4
            have hin := hC4.row.cell hmn
            have hle := HCL.out _ hC4
            clear fxa fxb hC b4
            cases hb : inB s n i m with
            | true =>
              rw [hb] at hin
              clear hb
              go_wp2_with fail
              go_roundg (n - (m + 1))
              case measure => omega
              case rel => exact ⟨m + 1, by omega, rfl, by go_num, hC4⟩
            | false =>
              obtain ⟨v1, v2⟩ := HR.out m hmn (of_inB hb)
              rw [hb] at hin
              clear hb
              generalize dT s m = dm at *
              have hnl : ¬ dm < far := by omega
              by_cases heq : dm = far
              · have hLm := v2 heq
                have hLm' : ¬ (m : Int) < (L : Int) := by omega
                have hLm2 : ¬ m < L := by omega
                have g1 : (dm == far) = true := beq_iff_eq.2 heq
                have r1 : ∀ w, (binOp .lss 3 (.int .i64 dm) (.int .i64 far)).run Try.prog w = .ok (.bool false) w := fun w => by go_simp
                have r2 : ∀ w, (binOp .eql 3 (.int .i64 dm) (.int .i64 far)).run Try.prog w = .ok (.bool true) w := fun w => by go_simp
                have r3 : ∀ w, (binOp .lss 3 (.int .i64 (m : Int)) (.int .i64 (L : Int))).run Try.prog w = .ok (.bool false) w := fun w => by go_simp
                clear v1 v2 heq
                go_wp2_with fail
                go_roundg (n - (m + 1))
                case measure => omega
                case rel => exact ⟨m + 1, by omega, rfl, by go_num, hC4⟩
              · have g1 : (dm == far) = false := beq_eq_false_iff_ne.2 heq
                have r1 : ∀ w, (binOp .lss 3 (.int .i64 dm) (.int .i64 far)).run Try.prog w = .ok (.bool false) w := fun w => by go_simp
                have r2 : ∀ w, (binOp .eql 3 (.int .i64 dm) (.int .i64 far)).run Try.prog w = .ok (.bool false) w := fun w => by go_simp
                clear v1 v2
                go_wp2_with fail
                go_roundg (n - (m + 1))
                case measure => omega
                case rel => exact ⟨m + 1, by omega, rfl, by go_num, hC4⟩
          · have hmz : ¬ (m : Int) < (n : Int) := by omega
            by_cases h3 : i < 3
            · have h3z : (i : Int) < 3 := by omega
              go_wp2_with fail
              go_ret
              exact ⟨rfl, hC.below⟩
            · have h3z : ¬ (i : Int) < 3 := by omega
              obtain ⟨f, hf⟩ : ∃ f : Nat, (i : Int) - 2 = (f : Int) := ⟨i - 2, by omega⟩
              have hwrf : IntKind.i64.wrap ((i : Int) - 2) = (f : Int) := by rw [hf, IntKind.wrap_i64]; omega
              have hgf : goodM s n f := by
                obtain ⟨_, _, _, _, _, _, _, _⟩ := HG.out
                refine ⟨by omega, by omega, by omega, by omega, by omega, by omega, by omega, by omega⟩
              have hff : f ≤ n ∧ f < i ∧ f ≤ 7 ∧ f ≤ cap := ⟨by omega, by omega, by omega, by omega⟩
              have hfc : (f : Int) ≤ (cap : Int) := by omega
              have hf0 : (0 : Int) ≤ (f : Int) := by omega
              have HF : Hid (f ≤ n ∧ f < i ∧ f ≤ 7 ∧ f ≤ cap) := hff
              clear hff hf
              go_wp2_with fail
              refine (copies_any s n f hgf _).mono ?_
              rintro e' w5 ⟨v, B', rfl, _, hO, _, b5⟩
              obtain ⟨a, c', rfl, hI⟩ := IntsAt.of_own (f := fun j => (copN s n j : Nat)) hO
              have hC5 := hC.on b5
              have hI2 : IntsAt w5 (some ⟨g, 0, none⟩) f (fun j => (copN s n j : Nat)) := fun j hj => by
                refine ⟨g, 0, rfl, ?_⟩
                have := HF.out
                rw [Nat.zero_add, hC5.list j (by omega)]
                show _ = some (Value.int .i64 ((copN s n j : Nat) : Int))
                rw [cop_tab hs8 (by omega) hnn (by omega)]
              clear hO hC b5 hgf
              go_wp2_with fail
              refine (num_any 0 _).mono ?_
              rintro e' w5 ⟨rfl, rfl⟩
              go_wp2_with fail
              refine (eqInts_same a (some ⟨g, 0, none⟩) f c' cap _ _ (by have := HF.out; omega) hI hI2).mono ?_
              rintro e' w6 ⟨rfl, q, rfl⟩
              go_wp2_with fail
              go_ret
              exact ⟨rfl, (hC5.drewN q).below⟩
end Go.Proofs.Ytfjfoomlpfbmkaa
