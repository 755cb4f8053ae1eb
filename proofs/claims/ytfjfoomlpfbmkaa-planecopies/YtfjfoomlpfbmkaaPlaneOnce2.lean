/- Stage 3's laws: PlaneOnce. -/
import Derived.Test.YtfjfoomlpfbmkaaPlaneOnce1
namespace Go.Proofs.Ytfjfoomlpfbmkaa
open Go.RowKit Go.Shelf Go.Sort
set_option maxRecDepth 100000
set_option maxRecDepth 100000

/-- Two points in memory, and what was there. -/
structure Two (w : World) (pb qb : Nat) (px py qx qy : Int) (W : World) : Prop where
  below : RowKit.Below w.heap.size w W
  c0 : W.cell? ⟨pb, 0, none⟩ = some (.int .i64 px)
  c1 : W.cell? ⟨pb, 1, none⟩ = some (.int .i64 py)
  d0 : W.cell? ⟨qb, 0, none⟩ = some (.int .i64 qx)
  d1 : W.cell? ⟨qb, 1, none⟩ = some (.int .i64 qy)

theorem below_cell {W W' : World} {b i : Nat} {v : Value} (h : RowKit.Below W.heap.size W W') (hc : W.cell? ⟨b, i, none⟩ = some v) : W'.cell? ⟨b, i, none⟩ = some v := by
  rw [World.cell?_of_block (a := ⟨b, i, none⟩) (h.block _ (World.block_lt_of_cell? _ _ hc))]; exact hc

theorem Two.on {w : World} {pb qb : Nat} {px py qx qy : Int} {W W' : World} (h : Two w pb qb px py qx qy W) (hb : RowKit.Below W.heap.size W W') : Two w pb qb px py qx qy W' :=
  ⟨h.below.trans (hb.mono h.below.size), below_cell hb h.c0, below_cell hb h.c1, below_cell hb h.d0, below_cell hb h.d1⟩
theorem Two.drew {w : World} {pb qb : Nat} {px py qx qy : Int} {W : World} (h : Two w pb qb px py qx qy W) : Two w pb qb px py qx qy W.drew :=
  ⟨h.below.drew, h.c0, h.c1, h.d0, h.d1⟩

theorem toInt_conv {b : Nat} {x : Int} (h : Fl b x) (w : World) : (convert 42 3 (.float .f64 b)).run Try.prog w = .ok (.int .i64 x) w := by
  refine run_convert_float_int w 42 3 .f64 .i64 b _ (by kernel_rfl) (by kernel_rfl) ?_
  unfold floatToIntVal
  show (match (Ieee.double.read b).toInt .zero with | some n => if IntKind.i64.min ≤ n ∧ n ≤ IntKind.i64.max then some n else none | none => none) = _
  rw [fl_toInt h]
  have m1 : IntKind.i64.min = -9223372036854775808 := by decide
  have m2 : IntKind.i64.max = 9223372036854775807 := by decide
  have := fl_lt h
  simp only [m1, m2]
  rw [if_pos]
  omega

theorem num_bound (x y : Int) (hx : x.natAbs ≤ 1000) (hy : y.natAbs ≤ 1000) : numM x y ≤ 4004000 := by
  obtain ⟨r, hr⟩ : ∃ r, ringM x y = r := ⟨_, rfl⟩
  rw [numM_at hr]
  have h : r = max (max (max x (-x)) y) (-y) := hr.symm
  have h0 : 0 ≤ r := by omega
  have h1 : r ≤ 1000 := by omega
  have hsq : r * r ≤ 1000 * 1000 := Int.mul_le_mul h1 h1 h0 (by decide)
  have e : 4 * r * r = 4 * (r * r) := by rw [Int.mul_assoc]
  unfold numR
  rw [e]
  split
  · omega
  · split
    · omega
    · split <;> omega

theorem spZ_nat (k : Nat) (hk : k ≤ 1099511627776) : spZ (k : Int) = spM k := by
  unfold spZ
  rw [if_neg (by omega), Int.toNat_natCast]

set_option maxHeartbeats 4000000 in
theorem once_any (X Y K : Int) (w : World) :
    Calls Try.prog 4 #[.agg #[.int .i64 X, .int .i64 Y], .int .i64 K] w fun e w' => e = .returned (.bool true) ∧ RowKit.Below w.heap.size w w' := by
  obtain ⟨px, hpx⟩ : ∃ px, X.tmod 1001 = px := ⟨_, rfl⟩
  obtain ⟨py, hpy⟩ : ∃ py, Y.tmod 1001 = py := ⟨_, rfl⟩
  have bx : px.natAbs ≤ 1000 := by rw [← hpx, Int.natAbs_tmod]; have := Nat.mod_lt X.natAbs (show 0 < (1001 : Int).natAbs by decide); have e : (1001 : Int).natAbs = 1001 := rfl; omega
  have by' : py.natAbs ≤ 1000 := by rw [← hpy, Int.natAbs_tmod]; have := Nat.mod_lt Y.natAbs (show 0 < (1001 : Int).natAbs by decide); have e : (1001 : Int).natAbs = 1001 := rfl; omega
  obtain ⟨hn0, hsn⟩ := sp_num px py
  have hnb := num_bound px py bx by'
  have hnum := fun w => number_any px py (by omega) (by omega) w
  obtain ⟨n, hn⟩ : ∃ n : Nat, numM px py = n := ⟨(numM px py).toNat, by omega⟩
  rw [hn] at hsn hnb hnum
  rw [Int.toNat_natCast] at hsn
  obtain ⟨k, hk⟩ : ∃ k : Nat, k = (K.tmod 4000000).natAbs := ⟨_, rfl⟩
  have hkb : k < 4000000 := by rw [hk, Int.natAbs_tmod]; exact Nat.mod_lt _ (by decide)
  obtain ⟨km, hkm⟩ : ∃ km, K.tmod 4000000 = km := ⟨_, rfl⟩
  rw [hkm] at hk
  clear hn hn0
  have hsign : (km < 0 ∧ -km = (k : Int)) ∨ km = (k : Int) := by omega
  clear hk
  obtain ⟨q1, q2⟩ := sp_near k (by omega)
  obtain ⟨r1, r2⟩ := sp_near (k + 1) (by omega)
  have bb : RowKit.Below w.heap.size w ((w.alloc (.cells #[.int .i64 X, .int .i64 Y] 39)).alloc (.cells #[.int .i64 px, .int .i64 py] 40)) :=
    ((RowKit.Below.refl _ _).alloc (Nat.le_refl _) _).alloc (by simp) _
  have p0 : ((w.alloc (.cells #[.int .i64 X, .int .i64 Y] 39)).alloc (.cells #[.int .i64 px, .int .i64 py] 40)).cell? ⟨w.heap.size + 1, 0, none⟩ = some (.int .i64 px) :=
    World.cell?_alloc_at (w := w.alloc _) _ _ _ 0 (by simp)
  have p1 : ((w.alloc (.cells #[.int .i64 X, .int .i64 Y] 39)).alloc (.cells #[.int .i64 px, .int .i64 py] 40)).cell? ⟨w.heap.size + 1, 1, none⟩ = some (.int .i64 py) :=
    World.cell?_alloc_at (w := w.alloc _) _ _ _ 1 (by simp)
  rcases hsign with ⟨hneg, hkk⟩ | hkk
  · go_enter Try.func4, Try.ntmps4
    go_wp2_with fail
    refine (hnum _).mono ?_
    rintro e w1 ⟨rfl, b1⟩
    have g0 := below_cell b1 p0
    have g1 := below_cell b1 p1
    have bb1 := bb.trans (b1.mono bb.size)
    clear p0 p1 bb b1
    go_wp2_with fail
    refine (spiral_in k (by omega) _).mono ?_
    rintro e w2 ⟨za, zb, rfl, fa, fb, b2⟩
    have g0' := below_cell b2 g0
    have g1' := below_cell b2 g1
    have bb2 := bb1.trans (b2.mono bb1.size)
    have t1 := fun w => toInt_conv fa w
    have t2 := fun w => toInt_conv fb w
    have his : Hid (∀ W, Two w (w.heap.size + 1) w2.heap.size px py (spM k).1 (spM k).2 W → ∀ a b x y, Fl a x → Fl b y → Calls Try.prog 15 #[.complex .f64 a b, .agg #[.int .i64 x, .int .i64 y]] W fun e w' => e = .returned (.bool true) ∧ Two w (w.heap.size + 1) w2.heap.size px py (spM k).1 (spM k).2 w') := fun W h a b x y h1 h2 => (is_true h1 h2 W).mono fun _ _ ⟨e, hb⟩ => ⟨e, h.on hb⟩
    have hsp : Hid (∀ W, Two w (w.heap.size + 1) w2.heap.size px py (spM k).1 (spM k).2 W → ∀ m : Int, Calls Try.prog 11 #[.int .i64 m] W fun e w' => ∃ a b, e = .returned (.complex .f64 a b) ∧ Fl a (spZ m).1 ∧ Fl b (spZ m).2 ∧ Two w (w.heap.size + 1) w2.heap.size px py (spM k).1 (spM k).2 w') := fun W h m => (spiral_any m W).mono fun _ _ ⟨a, b, e, h1, h2, hb⟩ => ⟨a, b, e, h1, h2, h.on hb⟩
    have hnm : Hid (∀ W, Two w (w.heap.size + 1) w2.heap.size px py (spM k).1 (spM k).2 W → Calls Try.prog 14 #[.agg #[.int .i64 (spM k).1, .int .i64 (spM k).2]] W fun e w' => e = .returned (.int .i64 k) ∧ Two w (w.heap.size + 1) w2.heap.size px py (spM k).1 (spM k).2 w') := fun W h => (number_any _ _ (by omega) (by omega) W).mono fun _ _ ⟨e, hb⟩ => ⟨by rw [e, num_sp], h.on hb⟩
    have hap : Hid (∀ W, Two w (w.heap.size + 1) w2.heap.size px py (spM k).1 (spM k).2 W → ∀ c d, Fl c (spZ ((k : Int) + 1)).1 → Fl d (spZ ((k : Int) + 1)).2 → Calls Try.prog 12 #[.complex .f64 za zb, .complex .f64 c d] W fun e w' => e = .returned (.int .i64 1) ∧ w' = W) := fun W h c d h1 h2 => by
      have e1 : spZ ((k : Int) + 1) = spM (k + 1) := spZ_nat (k + 1) (by omega)
      rw [e1] at h1 h2
      have := apart_any fa fb h1 h2 (by omega) (by omega) W
      rwa [show apM ((spM k).1, (spM k).2) ((spM (k + 1)).1, (spM (k + 1)).2) = 1 from sp_next k] at this
    have hwk : Hid (∀ W, Two w (w.heap.size + 1) w2.heap.size px py (spM k).1 (spM k).2 W → Calls Try.prog 9 #[] W fun e w' => e = .returned (.bool true) ∧ Two w (w.heap.size + 1) w2.heap.size px py (spM k).1 (spM k).2 w') := fun W h => (wakes_any W).mono fun _ _ ⟨e, hb⟩ => ⟨e, h.on hb⟩
    have hS : Two w (w.heap.size + 1) w2.heap.size px py (spM k).1 (spM k).2 (w2.alloc (.cells #[.int .i64 (spM k).1, .int .i64 (spM k).2] 40)) :=
      ⟨bb2.alloc bb2.size _, by rw [alloc_keeps _ _ _ _ (World.block_lt_of_cell? _ _ g0')]; exact g0', by rw [alloc_keeps _ _ _ _ (World.block_lt_of_cell? _ _ g1')]; exact g1', World.cell?_alloc_at (w := w2) _ _ _ 0 rfl, World.cell?_alloc_at (w := w2) _ _ _ 1 rfl⟩
    have FA : Hid (Fl za (spM k).1 ∧ Fl zb (spM k).2) := ⟨fa, fb⟩
    have HN : Hid (∀ a b, Fl a (spZ (n : Int)).1 → Fl b (spZ (n : Int)).2 → Fl a px ∧ Fl b py) := fun a b h1 h2 => by
      rw [spZ_nat n (by omega), hsn] at h1 h2
      exact ⟨h1, h2⟩
    clear fa fb g0 g1 g0' g1' bb1 bb2 b2 hsn q1 q2 r1 r2
    generalize (spM k).1 = zx at *
    generalize (spM k).2 = zy at *
    go_upto_region 8 with fail
    have e1 := hS.c0
    have e2 := hS.c1
    have e3 := hS.d0
    have e4 := hS.d1
    generalize w2.alloc (.cells #[.int .i64 zx, .int .i64 zy] 40) = W3 at *
    have hwr : IntKind.i64.wrap ((k : Int) + 1) = (k : Int) + 1 := by rw [IntKind.wrap_i64]; omega
    go_region_held3 (fun W => Two w (w.heap.size + 1) w2.heap.size px py zx zy W ∧ W.cell? ⟨w.heap.size + 1, 0, none⟩ = some (.int .i64 px) ∧ W.cell? ⟨w.heap.size + 1, 1, none⟩ = some (.int .i64 py) ∧ W.cell? ⟨w2.heap.size, 0, none⟩ = some (.int .i64 zx) ∧ W.cell? ⟨w2.heap.size, 1, none⟩ = some (.int .i64 zy))
      (first | exact ⟨hS, hS.c0, hS.c1, hS.d0, hS.d1⟩ | exact ⟨hS.drew, hS.c0, hS.c1, hS.d0, hS.d1⟩)
      (first
        | (go_at_call 11; refine (hsp.out _ (by first | exact hS | exact hS.drew) _).mono ?_; rintro e w' ⟨a1, b1, rfl, f1, f2, hS⟩)
        | (go_at_call 15; refine (his.out _ (by first | exact hS | exact hS.drew) _ _ _ _ (by first | exact (HN.out _ _ f1 f2).1 | exact FA.out.1) (by first | exact (HN.out _ _ f1 f2).2 | exact FA.out.2)).mono ?_; rintro e w' ⟨rfl, hS⟩)
        | (go_at_call 14; refine (hnm.out _ (by first | exact hS | exact hS.drew)).mono ?_; rintro e w' ⟨rfl, hS⟩)
        | (go_at_call 12; refine (hap.out _ (by first | exact hS | exact hS.drew) _ _ f1 f2).mono ?_; rintro e w' ⟨rfl, rfl⟩)
        | (go_at_call 9; refine (hwk.out _ (by first | exact hS | exact hS.drew)).mono ?_; rintro e w' ⟨rfl, hS⟩))
    all_goals
      go_wp2_with fail
      go_ret
      exact ⟨rfl, hS.below⟩
  · subst hkk
    have hnn : ¬ (k : Int) < 0 := by omega
    go_enter Try.func4, Try.ntmps4
    go_wp2_with fail
    refine (hnum _).mono ?_
    rintro e w1 ⟨rfl, b1⟩
    have g0 := below_cell b1 p0
    have g1 := below_cell b1 p1
    have bb1 := bb.trans (b1.mono bb.size)
    clear p0 p1 bb b1
    go_wp2_with fail
    refine (spiral_in k (by omega) _).mono ?_
    rintro e w2 ⟨za, zb, rfl, fa, fb, b2⟩
    have g0' := below_cell b2 g0
    have g1' := below_cell b2 g1
    have bb2 := bb1.trans (b2.mono bb1.size)
    have t1 := fun w => toInt_conv fa w
    have t2 := fun w => toInt_conv fb w
    have his : Hid (∀ W, Two w (w.heap.size + 1) w2.heap.size px py (spM k).1 (spM k).2 W → ∀ a b x y, Fl a x → Fl b y → Calls Try.prog 15 #[.complex .f64 a b, .agg #[.int .i64 x, .int .i64 y]] W fun e w' => e = .returned (.bool true) ∧ Two w (w.heap.size + 1) w2.heap.size px py (spM k).1 (spM k).2 w') := fun W h a b x y h1 h2 => (is_true h1 h2 W).mono fun _ _ ⟨e, hb⟩ => ⟨e, h.on hb⟩
    have hsp : Hid (∀ W, Two w (w.heap.size + 1) w2.heap.size px py (spM k).1 (spM k).2 W → ∀ m : Int, Calls Try.prog 11 #[.int .i64 m] W fun e w' => ∃ a b, e = .returned (.complex .f64 a b) ∧ Fl a (spZ m).1 ∧ Fl b (spZ m).2 ∧ Two w (w.heap.size + 1) w2.heap.size px py (spM k).1 (spM k).2 w') := fun W h m => (spiral_any m W).mono fun _ _ ⟨a, b, e, h1, h2, hb⟩ => ⟨a, b, e, h1, h2, h.on hb⟩
    have hnm : Hid (∀ W, Two w (w.heap.size + 1) w2.heap.size px py (spM k).1 (spM k).2 W → Calls Try.prog 14 #[.agg #[.int .i64 (spM k).1, .int .i64 (spM k).2]] W fun e w' => e = .returned (.int .i64 k) ∧ Two w (w.heap.size + 1) w2.heap.size px py (spM k).1 (spM k).2 w') := fun W h => (number_any _ _ (by omega) (by omega) W).mono fun _ _ ⟨e, hb⟩ => ⟨by rw [e, num_sp], h.on hb⟩
    have hap : Hid (∀ W, Two w (w.heap.size + 1) w2.heap.size px py (spM k).1 (spM k).2 W → ∀ c d, Fl c (spZ ((k : Int) + 1)).1 → Fl d (spZ ((k : Int) + 1)).2 → Calls Try.prog 12 #[.complex .f64 za zb, .complex .f64 c d] W fun e w' => e = .returned (.int .i64 1) ∧ w' = W) := fun W h c d h1 h2 => by
      have e1 : spZ ((k : Int) + 1) = spM (k + 1) := spZ_nat (k + 1) (by omega)
      rw [e1] at h1 h2
      have := apart_any fa fb h1 h2 (by omega) (by omega) W
      rwa [show apM ((spM k).1, (spM k).2) ((spM (k + 1)).1, (spM (k + 1)).2) = 1 from sp_next k] at this
    have hwk : Hid (∀ W, Two w (w.heap.size + 1) w2.heap.size px py (spM k).1 (spM k).2 W → Calls Try.prog 9 #[] W fun e w' => e = .returned (.bool true) ∧ Two w (w.heap.size + 1) w2.heap.size px py (spM k).1 (spM k).2 w') := fun W h => (wakes_any W).mono fun _ _ ⟨e, hb⟩ => ⟨e, h.on hb⟩
    have hS : Two w (w.heap.size + 1) w2.heap.size px py (spM k).1 (spM k).2 (w2.alloc (.cells #[.int .i64 (spM k).1, .int .i64 (spM k).2] 40)) :=
      ⟨bb2.alloc bb2.size _, by rw [alloc_keeps _ _ _ _ (World.block_lt_of_cell? _ _ g0')]; exact g0', by rw [alloc_keeps _ _ _ _ (World.block_lt_of_cell? _ _ g1')]; exact g1', World.cell?_alloc_at (w := w2) _ _ _ 0 rfl, World.cell?_alloc_at (w := w2) _ _ _ 1 rfl⟩
    have FA : Hid (Fl za (spM k).1 ∧ Fl zb (spM k).2) := ⟨fa, fb⟩
    have HN : Hid (∀ a b, Fl a (spZ (n : Int)).1 → Fl b (spZ (n : Int)).2 → Fl a px ∧ Fl b py) := fun a b h1 h2 => by
      rw [spZ_nat n (by omega), hsn] at h1 h2
      exact ⟨h1, h2⟩
    clear fa fb g0 g1 g0' g1' bb1 bb2 b2 hsn q1 q2 r1 r2
    generalize (spM k).1 = zx at *
    generalize (spM k).2 = zy at *
    go_upto_region 8 with fail
    have e1 := hS.c0
    have e2 := hS.c1
    have e3 := hS.d0
    have e4 := hS.d1
    generalize w2.alloc (.cells #[.int .i64 zx, .int .i64 zy] 40) = W3 at *
    have hwr : IntKind.i64.wrap ((k : Int) + 1) = (k : Int) + 1 := by rw [IntKind.wrap_i64]; omega
    go_region_held3 (fun W => Two w (w.heap.size + 1) w2.heap.size px py zx zy W ∧ W.cell? ⟨w.heap.size + 1, 0, none⟩ = some (.int .i64 px) ∧ W.cell? ⟨w.heap.size + 1, 1, none⟩ = some (.int .i64 py) ∧ W.cell? ⟨w2.heap.size, 0, none⟩ = some (.int .i64 zx) ∧ W.cell? ⟨w2.heap.size, 1, none⟩ = some (.int .i64 zy))
      (first | exact ⟨hS, hS.c0, hS.c1, hS.d0, hS.d1⟩ | exact ⟨hS.drew, hS.c0, hS.c1, hS.d0, hS.d1⟩)
      (first
        | (go_at_call 11; refine (hsp.out _ (by first | exact hS | exact hS.drew) _).mono ?_; rintro e w' ⟨a1, b1, rfl, f1, f2, hS⟩)
        | (go_at_call 15; refine (his.out _ (by first | exact hS | exact hS.drew) _ _ _ _ (by first | exact (HN.out _ _ f1 f2).1 | exact FA.out.1) (by first | exact (HN.out _ _ f1 f2).2 | exact FA.out.2)).mono ?_; rintro e w' ⟨rfl, hS⟩)
        | (go_at_call 14; refine (hnm.out _ (by first | exact hS | exact hS.drew)).mono ?_; rintro e w' ⟨rfl, hS⟩)
        | (go_at_call 12; refine (hap.out _ (by first | exact hS | exact hS.drew) _ _ f1 f2).mono ?_; rintro e w' ⟨rfl, rfl⟩)
        | (go_at_call 9; refine (hwk.out _ (by first | exact hS | exact hS.drew)).mono ?_; rintro e w' ⟨rfl, hS⟩))
    all_goals
      go_wp2_with fail
      go_ret
      exact ⟨rfl, hS.below⟩
end Go.Proofs.Ytfjfoomlpfbmkaa
