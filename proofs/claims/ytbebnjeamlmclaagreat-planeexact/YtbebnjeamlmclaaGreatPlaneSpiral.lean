/- Package plane: Spiral. -/
import Derived.Test.YtbebnjeamlmclaaGreatPlaneShelf
namespace Go.Proofs.YtbebnjeamlmclaaGreat
open Go.RowKit Go.Shelf Go.Sort
set_option maxRecDepth 100000
set_option maxRecDepth 100000

theorem below_grow (B : Nat) (w : World) (n : Nat) (os : Array Obj) (hB : B ≤ w.heap.size) : Below B w (grow (w.drewN n) os) :=
  ⟨rfl, rfl, rfl, by rw [size_grow]; exact Nat.le_add_right _ _, fun k hk => by rw [heap_grow_old _ _ (by show k < w.heap.size; omega)]; rfl⟩

theorem steps_any (p : Nat) (hp : p ≤ 1048577) (w : World) : Calls Tryz.prog 48 #[.int .i64 p] w fun e w' => e = .returned (.int .i64 ((p * (p + 1) : Nat) : Int)) ∧ w' = w := by
  have hb : p * (p + 1) ≤ 1048577 * 1048578 := Nat.mul_le_mul hp (by omega)
  have h1 : IntKind.i64.wrap ((p : Int) * ((p : Int) + 1)) = ((p * (p + 1) : Nat) : Int) := by
    have e : (p : Int) * ((p : Int) + 1) = ((p * (p + 1) : Nat) : Int) := by simp
    rw [e, IntKind.wrap_i64]; omega
  generalize ((p * (p + 1) : Nat) : Int) = r at *
  clear hb
  go_enter Tryz.func48, Tryz.ntmps48
  go_wp2
  go_ret
  exact ⟨rfl, rfl⟩

theorem within_any (k n blk : Nat) (hn : n < 1048576) (W : World) (hc : W.cell? ⟨blk, 0, none⟩ = some (.int .i64 k)) :
    Calls Tryz.prog 76 #[.int .i64 n, .pointer (some ⟨blk, 0, none⟩)] W fun e w' => e = .returned (.bool (decide (k < (n + 1) * (n + 2)))) ∧ ∃ q, w' = W.drewN q := by
  have hs := fun w => steps_any (n + 1) (by omega) w
  have e1 : ((n + 1 : Nat) : Int) = (n : Int) + 1 := by omega
  rw [e1] at hs
  have e2 : (n + 1) * (n + 1 + 1) = (n + 1) * (n + 2) := rfl
  rw [e2] at hs
  generalize hr : (n + 1) * (n + 2) = r at *
  clear hr e1 e2
  go_enter Tryz.func76, Tryz.ntmps76
  go_wp2_with fail
  go_quiet (exact Calls.quiet_of_same (hs _))
  go_wp2
  go_ret
  exact ⟨rfl, nq, rfl⟩

theorem count_below (m : Nat) : ∀ n, m ≤ n → (List.range n).countP (fun i => decide (i < m)) = m
  | 0, h => by simp; omega
  | n + 1, h => by
    rw [List.range_succ, List.countP_append]
    by_cases e : m = n + 1
    · subst e
      have : (List.range n).countP (fun i => decide (i < n + 1)) = n := by
        have : (List.range n).countP (fun i => decide (i < n + 1)) = (List.range n).length := by
          rw [List.countP_eq_length]
          intro a ha
          have := List.mem_range.1 ha
          exact decide_eq_true (by omega)
        rw [this, List.length_range]
      rw [this]; simp
    · rw [count_below m n (by omega)]
      have : ¬ n < m := by omega
      simp [this]

theorem pairs_lt (k : Nat) (hk : k ≤ 1099511627776) : pairsM k ≤ 1048575 := by
  obtain ⟨h, _⟩ := pairsM_spec k
  by_cases c : pairsM k ≤ 1048575
  · exact c
  · have := pairs_mono (p := 1048576) (q := pairsM k) (by omega)
    omega

theorem pairs_iff (k i : Nat) : k < (i + 1) * (i + 2) ↔ ¬ i < pairsM k := by
  obtain ⟨h1, h2⟩ := pairsM_spec k
  constructor
  · intro h c
    have := pairs_mono (p := i + 1) (q := pairsM k) c
    have e : (i + 1) * (i + 1 + 1) = (i + 1) * (i + 2) := rfl
    omega
  · intro h
    have := pairs_mono (p := pairsM k + 1) (q := i + 1) (by omega)
    have e : (i + 1) * (i + 1 + 1) = (i + 1) * (i + 2) := rfl
    have e' : (pairsM k + 1) * (pairsM k + 1 + 1) = (pairsM k + 1) * (pairsM k + 2) := rfl
    omega

theorem pairs_any (k : Nat) (hk : k ≤ 1099511627776) (w : World) : Calls Tryz.prog 47 #[.int .i64 k] w fun e w' => e = .returned (.int .i64 (pairsM k)) ∧ Below w.heap.size w w' := by
  obtain ⟨wb, hwb⟩ : ∃ wb, wb = w.alloc (.cells #[.int .i64 k] 3) := ⟨_, rfl⟩
  have hcell : wb.cell? ⟨w.heap.size, 0, none⟩ = some (.int .i64 k) := by
    rw [hwb]; exact World.cell?_alloc_at (w := w) #[.int .i64 k] 3 _ 0 rfl
  have hsize : w.heap.size < wb.heap.size := by rw [hwb]; simp
  have hbel : Below w.heap.size w wb := by rw [hwb]; exact (Below.refl _ _).alloc (Nat.le_refl _) _
  have eg : ∀ args w, (callFunc 76 args).run Tryz.prog w = .ok (.enter 76 args) w := enters_of Tryz.func76 (by kernel_rfl) rfl
  have hp := pairs_lt k hk
  have hcon := Any.sort_Search searchL 76 #[.pointer (some ⟨w.heap.size, 0, none⟩)] 1048576 (fun i => decide (k < (i + 1) * (i + 2))) wb eg (by decide)
    (fun m os i hi => (within_any k i w.heap.size hi (grow (wb.drewN m) os) (by rw [cell?_grow _ _ _ hsize]; exact hcell)).mono fun _ _ ⟨he, q, hq⟩ => ⟨he, q, #[], by rw [hq, grow_empty]⟩)
    (fun a b hab _ h => by
      have h1 := (pairs_iff k a).1 (of_decide_eq_true h)
      exact decide_eq_true ((pairs_iff k b).2 (by omega)))
  have ec : (List.range 1048576).countP (fun i => !decide (k < (i + 1) * (i + 2))) = pairsM k := by
    have e : (fun i => !decide (k < (i + 1) * (i + 2))) = (fun i => decide (i < pairsM k)) := by
      funext i
      by_cases c : i < pairsM k
      · have : ¬ k < (i + 1) * (i + 2) := fun h => (pairs_iff k i).1 h c
        rw [decide_eq_true c, decide_eq_false this]; rfl
      · rw [decide_eq_false c, decide_eq_true ((pairs_iff k i).2 c)]; rfl
    rw [e, count_below _ _ (by omega)]
  rw [ec] at hcon
  generalize pairsM k = r at *
  change Calls Tryz.prog 75 #[.int .i64 (1048576 : Int), _] wb _ at hcon
  clear eg ec hcell hsize
  rw [hwb] at hcon
  go_enter Tryz.func47, Tryz.ntmps47
  go_wp2_with fail
  refine hcon.mono ?_
  rintro e w' ⟨rfl, q, os, rfl⟩
  go_wp2
  go_ret
  refine ⟨rfl, ?_⟩
  rw [← hwb]
  exact hbel.trans (below_grow _ _ _ _ hbel.size)

/-- The step of a leg. -/
def dirM (n : Nat) : Int × Int := if n % 4 = 0 then (1, 0) else if n % 4 = 1 then (0, 1) else if n % 4 = 2 then (-1, 0) else (0, -1)

theorem direction_any (n : Nat) (w : World) : Calls Tryz.prog 77 #[.int .i64 n] w fun e w' => ∃ a b, e = .returned (.complex .f64 a b) ∧ Fl a (dirM n).1 ∧ Fl b (dirM n).2 ∧ Below w.heap.size w w' := by
  have hm : n % 4 = 0 ∨ n % 4 = 1 ∨ n % 4 = 2 ∨ n % 4 = 3 := by omega
  have hst : ∀ (a : Addr) (x y : Nat) (m : Mode) (w : World), (store a (.complex .f64 x y) m).run Tryz.prog w = stored Tryz.prog w a (.complex .f64 x y) m := fun a x y m w => run_store _ w a _ m rfl
  rcases hm with h | h | h | h
  · have ht : (n : Int).tmod 4 = 0 := by rw [Int.tmod_eq_emod_of_nonneg (by omega)]; omega
    have hd : dirM n = (1, 0) := by unfold dirM; rw [if_pos h]
    rw [hd]; clear hd
    go_enter Tryz.func77, Tryz.ntmps77
    go_wp2
    go_ret
    exact ⟨_, _, rfl, fl_one, fl_zero, by (repeat first | exact (Below.refl _ _).alloc (Nat.le_refl _) _ | refine Below.setCell ?_ (Nat.le_refl _) _)⟩
  · have ht : (n : Int).tmod 4 = 1 := by rw [Int.tmod_eq_emod_of_nonneg (by omega)]; omega
    have hd : dirM n = (0, 1) := by unfold dirM; rw [if_neg (by omega), if_pos h]
    rw [hd]; clear hd
    go_enter Tryz.func77, Tryz.ntmps77
    go_wp2
    go_ret
    exact ⟨_, _, rfl, fl_zero, fl_one, by (repeat first | exact (Below.refl _ _).alloc (Nat.le_refl _) _ | refine Below.setCell ?_ (Nat.le_refl _) _)⟩
  · have ht : (n : Int).tmod 4 = 2 := by rw [Int.tmod_eq_emod_of_nonneg (by omega)]; omega
    have hd : dirM n = (-1, 0) := by unfold dirM; rw [if_neg (by omega), if_neg (by omega), if_pos h]
    rw [hd]; clear hd
    go_enter Tryz.func77, Tryz.ntmps77
    go_wp2
    go_ret
    exact ⟨_, _, rfl, fl_negone, fl_zero, by (repeat first | exact (Below.refl _ _).alloc (Nat.le_refl _) _ | refine Below.setCell ?_ (Nat.le_refl _) _)⟩
  · have ht : (n : Int).tmod 4 = 3 := by rw [Int.tmod_eq_emod_of_nonneg (by omega)]; omega
    have hd : dirM n = (0, -1) := by unfold dirM; rw [if_neg (by omega), if_neg (by omega), if_neg (by omega)]
    rw [hd]; clear hd
    go_enter Tryz.func77, Tryz.ntmps77
    go_wp2
    go_ret
    exact ⟨_, _, rfl, fl_zero, fl_negone, by (repeat first | exact (Below.refl _ _).alloc (Nat.le_refl _) _ | refine Below.setCell ?_ (Nat.le_refl _) _)⟩

end Go.Proofs.YtbebnjeamlmclaaGreat
