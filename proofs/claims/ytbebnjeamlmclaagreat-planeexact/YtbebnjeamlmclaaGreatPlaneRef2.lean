/- The document's own answers for package plane: Spiral, Turn. -/
import Derived.Test.YtbebnjeamlmclaaGreatPlaneRef
import Derived.Laws.Rows
namespace Go.Proofs.YtbebnjeamlmclaaGreat
open Go.RowKit Go.Shelf Go.Sort
set_option maxRecDepth 100000
set_option maxRecDepth 100000

theorem pointInfo : (Tryz.prog.info? 80).map (·.size) = some 2 := by kernel_rfl

set_option maxHeartbeats 1000000 in
theorem refSpiral_zero (k : Int) (hk : k < 1 ∨ k > 1099511627776) (w : World) :
    Calls Tryz.prog 23 #[.int .i64 k] w fun e w' => e = .returned (.agg #[.int .i64 0, .int .i64 0]) ∧ ∃ os, w' = grow w os := by
  by_cases h1 : k < 1
  · go_enter Tryz.func23, Tryz.ntmps23
    go_wp2
    refine bodyPost_ret_by (v := .agg #[.int .i64 0, .int .i64 0]) (results_cell_row rfl _ _ w.heap.size 80 #[.int .i64 0, .int .i64 0] (0, 0) _ rfl (heap_alloc_new w _) Tryz.underlying80 rfl pointInfo) rfl ⟨rfl, _, alloc_eq_grow _ _⟩
  · have h2 : k > 1099511627776 := by omega
    go_enter Tryz.func23, Tryz.ntmps23
    go_wp2
    refine bodyPost_ret_by (v := .agg #[.int .i64 0, .int .i64 0]) (results_cell_row rfl _ _ w.heap.size 80 #[.int .i64 0, .int .i64 0] (0, 0) _ rfl (heap_alloc_new w _) Tryz.underlying80 rfl pointInfo) rfl ⟨rfl, _, alloc_eq_grow _ _⟩

set_option maxHeartbeats 4000000 in
theorem refSpiral_in (k : Nat) (hk1 : 1 ≤ k) (hk : k ≤ 1099511627776) (w : World) :
    Calls Tryz.prog 23 #[.int .i64 k] w fun e w' => e = .returned (.agg #[.int .i64 (spM k).1, .int .i64 (spM k).2]) ∧ ∃ os, w' = grow w os := by
  have hz1 : ¬ (k : Int) < 1 := by omega
  have hz2 : ¬ (k : Int) > 1099511627776 := by omega
  go_enter Tryz.func23, Tryz.ntmps23
  go_wp2_with fail
  refine (ring_any k hk _).mono ?_
  rintro e w1 ⟨r, rfl, hr, hlo, hall, rfl⟩
  obtain ⟨h, hh⟩ : ∃ h, r = h + 1 := ⟨r - 1, by
    rcases Nat.eq_zero_or_pos r with e | e
    · subst e; simp at hlo; omega
    · omega⟩
  have hsq : (2 * h + 1) * (2 * h + 1) ≤ k := hall h (by omega)
  have e1 : (2 * h + 1) * (2 * h + 1) = 4 * (h * h) + 4 * h + 1 := by grind
  have e2 : (2 * r + 1) * (2 * r + 1) = 4 * (h * h) + 12 * h + 9 := by rw [hh]; grind
  obtain ⟨m, hm⟩ : ∃ m, k = 4 * (h * h) + 4 * h + 1 + m := ⟨k - (4 * (h * h) + 4 * h + 1), by omega⟩
  have hm8 : m < 8 * h + 8 := by omega
  have hR := ref_sp h k m hm hm8
  obtain ⟨u, hu⟩ : ∃ u : Nat, u = 2 * h + 1 := ⟨_, rfl⟩
  obtain ⟨sq, hsq'⟩ : ∃ sq : Nat, sq = (2 * h + 1) * (2 * h + 1) := ⟨_, rfl⟩
  have hub : u ≤ 2097152 := by omega
  have f1 : 2 * (r : Int) - 1 = (u : Int) := by omega
  have f2 : (u : Int) * (u : Int) = (sq : Int) := by rw [hsq', hu]; simp
  have hsqk : sq ≤ k := by omega
  have f3 : IntKind.i64.wrap ((u : Int) * (u : Int)) = (sq : Int) := by rw [f2, IntKind.wrap_i64]; omega
  have f4 : (k : Int) - (sq : Int) = (m : Int) := by omega
  obtain ⟨q, hq⟩ : ∃ q : Nat, q = m / (2 * h + 2) := ⟨_, rfl⟩
  have f5 : (m : Int).tdiv (2 * (r : Int)) = (q : Int) := by
    rw [Int.tdiv_eq_ediv_of_nonneg (by omega), hq]
    have : (2 * (r : Int)) = ((2 * h + 2 : Nat) : Int) := by omega
    rw [this]; rfl
  have f6 : (m : Int) / (2 * (r : Int)) = (q : Int) := by rw [← f5, Int.tdiv_eq_ediv_of_nonneg (by omega)]
  have hq3 : q ≤ 3 := by rw [hq]; exact Nat.lt_succ_iff.1 (Nat.div_lt_of_lt_mul (by omega))
  rw [← hq] at hR
  have hrr : ((h : Int) + 1) = (r : Int) := by omega
  rw [hrr] at hR
  have hmb : (m : Int) ≤ 9000000 := by omega
  have hrb : (r : Int) ≤ 1048576 := by omega
  have hr1 : (1 : Int) ≤ (r : Int) := by omega
  have hnz : ¬ 2 * (r : Int) = 0 := by omega
  have HR : Hid (refM (r : Int) m (q : Int) = spM k) := hR
  clear hR hm8 hm e1 e2 hsq hu hsq' hq hrr hh hlo hall f2
  rcases (show q = 0 ∨ q = 1 ∨ q = 2 ∨ q = 3 by omega) with rfl | rfl | rfl | rfl
  all_goals
    have H2 := HR
    clear HR
    go_wp2
    refine bodyPost_ret_by (results_cell_row rfl _ _ w.heap.size 80 _ (0, 0) _ rfl (heap_alloc_new w _) Tryz.underlying80 rfl pointInfo) rfl ⟨?_, _, alloc_eq_grow _ _⟩
    rw [← H2.out]
    rfl

theorem refSpiral_any (k : Int) (w : World) :
    Calls Tryz.prog 23 #[.int .i64 k] w fun e w' => e = .returned (.agg #[.int .i64 (spZ k).1, .int .i64 (spZ k).2]) ∧ ∃ os, w' = grow w os := by
  by_cases h : k < 1 ∨ k > 1099511627776
  · have e : spZ k = (0, 0) := by
      unfold spZ
      by_cases h' : k < 0 ∨ k > 1099511627776
      · rw [if_pos h']
      · rw [if_neg h', show k.toNat = 0 by omega]; decide
    rw [e]
    exact refSpiral_zero k h w
  · have e : spZ k = spM k.toNat := by unfold spZ; rw [if_neg (by omega)]
    rw [e]
    have := refSpiral_in k.toNat (by omega) (by omega) w
    rwa [show ((k.toNat : Nat) : Int) = k by omega] at this

set_option maxHeartbeats 4000000 in
theorem refTurn_any (x y q : Int) (hx : x.natAbs ≤ 2 ^ 30) (hy : y.natAbs ≤ 2 ^ 30) (w : World) :
    Calls Tryz.prog 25 #[.agg #[.int .i64 x, .int .i64 y], .int .i64 q] w fun e w' => e = .returned (.agg #[.int .i64 (turnN (q % 4).toNat (x, y)).1, .int .i64 (turnN (q % 4).toNat (x, y)).2]) ∧ RowKit.Below w.heap.size w w' := by
  obtain ⟨n0, hn0⟩ : ∃ n0, q.tmod 4 = n0 := ⟨_, rfl⟩
  have hb0 : n0.natAbs < 4 := by rw [← hn0, Int.natAbs_tmod]; exact Nat.mod_lt _ (by decide)
  have hmod : (n0 % 4).toNat = (q % 4).toNat := by have := Int.tmod_def q 4; omega
  rw [← hmod]
  clear hmod
  have bb : RowKit.Below w.heap.size w ((w.alloc (.cells #[.int .i64 x, .int .i64 y] 80)).alloc (.cells #[.int .i64 0, .int .i64 0] 80)) := ((RowKit.Below.refl _ _).alloc (Nat.le_refl _) _).alloc (by simp) _
  have e1 : (w.alloc (.cells #[.int .i64 x, .int .i64 y] 80)).heap.size = w.heap.size + 1 := by simp
  have hp : ((w.alloc (.cells #[.int .i64 x, .int .i64 y] 80)).alloc (.cells #[.int .i64 0, .int .i64 0] 80)).rowIs w.heap.size 80 2 (fun i => if i = 0 then .int .i64 x else .int .i64 y) :=
    (World.rowIs_alloc w #[.int .i64 x, .int .i64 y] 80 _ (fun i hi => by
      have : i = 0 ∨ i = 1 := by simp at hi; omega
      rcases this with rfl | rfl <;> rfl)).alloc _
  have hr := World.rowIs_alloc (w.alloc (.cells #[.int .i64 x, .int .i64 y] 80)) #[.int .i64 0, .int .i64 0] 80 (fun _ => .int .i64 0) (fun i hi => by
      have : i = 0 ∨ i = 1 := by simp at hi; omega
      rcases this with rfl | rfl <;> rfl)
  rw [e1] at hr
  clear e1
  go_enter Tryz.func25, Tryz.ntmps25
  go_wp2
  go_loopg [5] 4 (fun c s5 wr => ∃ (n u v : Int), s5 = .int .i64 n ∧ n.natAbs < 4 ∧ (n % 4).toNat ≤ c ∧ u.natAbs ≤ 2 ^ 30 ∧ v.natAbs ≤ 2 ^ 30 ∧ Hid (turnN (n % 4).toNat (u, v) = turnN (n0 % 4).toNat (x, y)) ∧ RowKit.Below w.heap.size w wr ∧
    wr.rowIs w.heap.size 80 2 (fun i => if i = 0 then .int .i64 u else .int .i64 v) ∧ wr.rowIs (w.heap.size + 1) 80 2 (fun _ => .int .i64 0))
  case atStart => exact ⟨n0, x, y, rfl, hb0, by omega, hx, hy, hide rfl, bb, hp, hr⟩
  case round =>
    obtain ⟨n, u, v, rfl, hb, hc, hu, hv, HT, hB, hP, hR⟩ := hrel
    clear bb hp hr
    have p0 := hP.cell (i := 0) (by omega)
    have p1 := hP.cell (i := 1) (by omega)
    simp only [if_true, if_false, Nat.one_ne_zero] at p0 p1
    have z0 := hP.frozen 0
    have z1 := hP.frozen 1
    by_cases h0 : n = 0
    · have hne : (n != 0) = false := by rw [h0]; rfl
      have q0 := hR.cell (i := 0) (by omega)
      have q1 := hR.cell (i := 1) (by omega)
      have y0 := hR.frozen 0
      have y1 := hR.frozen 1
      have hR2 := (hR.set 0 (.int .i64 u)).set 1 (.int .i64 v)
      have hB2 : RowKit.Below w.heap.size w ((wr.setCell ⟨w.heap.size + 1, 0, none⟩ (.int .i64 u)).setCell ⟨w.heap.size + 1, 1, none⟩ (.int .i64 v)) := (hB.setCell (by simp) _).setCell (by simp) _
      obtain ⟨W2, hW2⟩ : ∃ W2, (wr.setCell ⟨w.heap.size + 1, 0, none⟩ (.int .i64 u)).setCell ⟨w.heap.size + 1, 1, none⟩ (.int .i64 v) = W2 := ⟨_, rfl⟩
      rw [hW2] at hR2 hB2
      have hheap : W2.heap[w.heap.size + 1]? = some (.cells #[.int .i64 u, .int .i64 v] 80 (0, 0)) := by
        obtain ⟨cs, hb', hn', hc'⟩ := hR2
        obtain ⟨a, b, rfl⟩ : ∃ a b, cs = #[a, b] := by
          obtain ⟨l⟩ := cs
          match l, hn' with
          | [a, b], _ => exact ⟨a, b, rfl⟩
        have k0 := hc' 0 (by omega)
        have k1 := hc' 1 (by omega)
        simp at k0 k1
        rw [hb', k0, k1]
      have HH : Hid (W2.heap[w.heap.size + 1]? = some (.cells #[.int .i64 u, .int .i64 v] 80 (0, 0))) := hheap
      have hans := HT.out
      rw [h0] at hans
      have HA : Hid ((u, v) = turnN (n0 % 4).toNat (x, y)) := hans
      clear hR hP hR2 hheap hans HT h0
      go_wp2
      refine bodyPost_ret_by (results_cell_row rfl _ _ (w.heap.size + 1) 80 #[.int .i64 u, .int .i64 v] (0, 0) _ rfl HH.out Tryz.underlying80 rfl pointInfo) rfl ⟨?_, hB2⟩
      rw [← HA.out]
    · have hne : (n != 0) = true := by simp [h0]
      obtain ⟨n1, hn1⟩ : ∃ n1, (n + 3).tmod 4 = n1 := ⟨_, rfl⟩
      have hb1 : n1.natAbs < 4 := by rw [← hn1, Int.natAbs_tmod]; exact Nat.mod_lt _ (by decide)
      have hm1 : (n1 % 4).toNat + 1 = (n % 4).toNat := by have := Int.tmod_def (n + 3) 4; omega
      have hP2 := (hP.set 0 (.int .i64 (-v))).set 1 (.int .i64 u)
      have hR2 : ((wr.setCell ⟨w.heap.size, 0, none⟩ (.int .i64 (-v))).setCell ⟨w.heap.size, 1, none⟩ (.int .i64 u)).rowIs (w.heap.size + 1) 80 2 (fun _ => .int .i64 0) := (hR.setOther (by simp) _).setOther (by simp) _
      have hB2 : RowKit.Below w.heap.size w ((wr.setCell ⟨w.heap.size, 0, none⟩ (.int .i64 (-v))).setCell ⟨w.heap.size, 1, none⟩ (.int .i64 u)) := (hB.setCell (by simp) _).setCell (by simp) _
      obtain ⟨W2, hW2⟩ : ∃ W2, (wr.setCell ⟨w.heap.size, 0, none⟩ (.int .i64 (-v))).setCell ⟨w.heap.size, 1, none⟩ (.int .i64 u) = W2 := ⟨_, rfl⟩
      rw [hW2] at hP2 hR2 hB2
      have hP3 : W2.rowIs w.heap.size 80 2 (fun i => if i = 0 then .int .i64 (-v) else .int .i64 u) := hP2.congr (fun i hi => by
        rcases (show i = 0 ∨ i = 1 by omega) with rfl | rfl <;> simp)
      have hT2 := HT.out
      rw [← hm1] at hT2
      have HT2 : Hid (turnN (n1 % 4).toNat (-v, u) = turnN (n0 % 4).toNat (x, y)) := hT2
      have hmz : n1.natAbs < 4 := hb1
      clear hR hP hP2 hT2 HT h0
      go_wp2
      go_roundg ((n1 % 4).toNat)
      case measure => omega
      case rel => exact ⟨n1, -v, u, rfl, hmz, Nat.le_refl _, by omega, hu, HT2, hB2, hP3, hR2⟩
end Go.Proofs.YtbebnjeamlmclaaGreat
