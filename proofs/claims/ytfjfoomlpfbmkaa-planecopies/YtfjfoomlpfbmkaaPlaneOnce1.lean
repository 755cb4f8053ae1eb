/- Stage 3's laws: is, number. -/
import Derived.Test.YtfjfoomlpfbmkaaPlaneLaw1
namespace Go.Proofs.Ytfjfoomlpfbmkaa
open Go.RowKit Go.Shelf Go.Sort
set_option maxRecDepth 100000
set_option maxRecDepth 100000

theorem is_true {a b : Nat} {x y : Int} (ha : Fl a x) (hb : Fl b y) (w : World) :
    Calls Try.prog 15 #[.complex .f64 a b, .agg #[.int .i64 x, .int .i64 y]] w fun e w' => e = .returned (.bool true) ∧ RowKit.Below w.heap.size w w' := by
  have o1 := ord_eq ha (fl_conv x (fl_lt ha))
  have o2 := ord_eq hb (fl_conv y (fl_lt hb))
  clear ha hb
  go_enter Try.func15, Try.ntmps15
  go_wp2
  go_ret
  exact ⟨rfl, (RowKit.Below.refl _ _).alloc (Nat.le_refl _) _⟩

theorem max_four (P : Program) (ts : Array TypeId) (t : TypeId) (a b c d : Int) (w : World) : (Builtin.max_ ts t #[.int .i64 a, .int .i64 b, .int .i64 c, .int .i64 d]).run P w = .ok (.int .i64 (max (max (max a b) c) d)) w := by
  have h : ∀ u v : Int, (if v > u then v else u) = max u v := fun u v => by omega
  simp [Builtin.max_, Builtin.max2, h]

theorem number_any (x y : Int) (hx : x.natAbs ≤ 2097152) (hy : y.natAbs ≤ 2097152) (w : World) :
    Calls Try.prog 14 #[.agg #[.int .i64 x, .int .i64 y]] w fun e w' => e = .returned (.int .i64 (numM x y)) ∧ RowKit.Below w.heap.size w w' := by
  have hbel := fun o => (RowKit.Below.refl w.heap.size w).alloc (Nat.le_refl _) o
  have hr : ringM x y = max (max (max x (-x)) y) (-y) := rfl
  rw [numM_at rfl]
  obtain ⟨r, hrr⟩ : ∃ r, ringM x y = r := ⟨_, rfl⟩
  rw [hrr]
  rw [hrr] at hr
  have hmax : ∀ w, (Builtin.max_ #[3, 3, 3, 3] 3 #[.int .i64 x, .int .i64 (-x), .int .i64 y, .int .i64 (-y)]).run Try.prog w = .ok (.int .i64 r) w := fun w => by rw [max_four, ← hr]
  have hr0 : 0 ≤ r := by omega
  have hr1 : r ≤ 2097152 := by omega
  have hsq : r * r ≤ 2097152 * 2097152 := Int.mul_le_mul hr1 hr1 hr0 (by decide)
  have hsq0 : 0 ≤ r * r := Int.mul_nonneg hr0 hr0
  obtain ⟨c, hcc⟩ : ∃ c, 4 * r * r = c := ⟨_, rfl⟩
  have hc4 : c = 4 * (r * r) := by rw [← hcc, Int.mul_assoc]
  have hc1 : c ≤ 17592186044416 := by omega
  have hc0 : 0 ≤ c := by omega
  have e1 : IntKind.i64.wrap (4 * r) = 4 * r := by rw [IntKind.wrap_i64]; omega
  have e2 : IntKind.i64.wrap (4 * r * r) = c := by rw [hcc, IntKind.wrap_i64]; omega
  have HX : Hid (x ≤ r ∧ -x ≤ r ∧ y ≤ r ∧ -y ≤ r) := by show _ ∧ _ ∧ _ ∧ _; omega
  unfold numR
  rw [hcc]
  have hxr1 : x ≤ r := by omega
  have hxr2 : -r ≤ x := by omega
  have hyr1 : y ≤ r := by omega
  have hyr2 : -r ≤ y := by omega
  clear hc4 hsq hsq0 hr hrr
  by_cases c1 : x = r
  · have d1 : (x == r) = true := beq_iff_eq.2 c1
    by_cases c2 : y > -r
    · rw [if_pos ⟨c1, c2⟩]
      clear c1
      go_enter Try.func14, Try.ntmps14
      go_wp2
      go_ret
      exact ⟨rfl, hbel _⟩
    · rw [if_neg (fun h => c2 h.2)]
      by_cases c3 : y = r
      · have d3 : (y == r) = true := beq_iff_eq.2 c3
        rw [if_pos c3]
        clear c1 c3
        go_enter Try.func14, Try.ntmps14
        go_wp2
        go_ret
        exact ⟨rfl, hbel _⟩
      · have d3 : (y == r) = false := beq_eq_false_iff_ne.2 c3
        rw [if_neg c3]
        by_cases c4 : x = -r
        · have d4 : (x == -r) = true := beq_iff_eq.2 c4
          rw [if_pos c4]
          clear c1 c3 c4
          go_enter Try.func14, Try.ntmps14
          go_wp2
          go_ret
          exact ⟨rfl, hbel _⟩
        · have d4 : (x == -r) = false := beq_eq_false_iff_ne.2 c4
          rw [if_neg c4]
          clear c1 c3 c4
          go_enter Try.func14, Try.ntmps14
          go_wp2
          go_ret
          exact ⟨rfl, hbel _⟩
  · have d1 : (x == r) = false := beq_eq_false_iff_ne.2 c1
    rw [if_neg (fun h => c1 h.1)]
    by_cases c3 : y = r
    · have d3 : (y == r) = true := beq_iff_eq.2 c3
      rw [if_pos c3]
      clear c1 c3
      go_enter Try.func14, Try.ntmps14
      go_wp2
      go_ret
      exact ⟨rfl, hbel _⟩
    · have d3 : (y == r) = false := beq_eq_false_iff_ne.2 c3
      rw [if_neg c3]
      by_cases c4 : x = -r
      · have d4 : (x == -r) = true := beq_iff_eq.2 c4
        rw [if_pos c4]
        clear c1 c3 c4
        go_enter Try.func14, Try.ntmps14
        go_wp2
        go_ret
        exact ⟨rfl, hbel _⟩
      · have d4 : (x == -r) = false := beq_eq_false_iff_ne.2 c4
        rw [if_neg c4]
        clear c1 c3 c4
        go_enter Try.func14, Try.ntmps14
        go_wp2
        go_ret
        exact ⟨rfl, hbel _⟩
end Go.Proofs.Ytfjfoomlpfbmkaa
