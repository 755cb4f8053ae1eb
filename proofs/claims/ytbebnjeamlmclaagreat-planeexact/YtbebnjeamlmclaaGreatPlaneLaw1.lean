/- Stage 3's laws: two lists of numbers that are the same; wakes. -/
import Derived.Test.YtbebnjeamlmclaaGreatPlaneCopies2
namespace Go.Proofs.YtbebnjeamlmclaaGreat
open Go.RowKit Go.Shelf Go.Sort
set_option maxRecDepth 100000
set_option maxRecDepth 100000

/-- The copies' numbers, reckoned. -/
def copC (s n j : Nat) : Nat := ((outN (ltOf fun x y : Fin (n - 1 + 1) => nearM (apD s) x y) (n - 1) 1 (Array.ofFn fun i : Fin (n - 1 + 1) => i))[j]!).val
theorem copN_eq (s n j : Nat) : copN s n j = copC s n j := by
  unfold copN nearN nearA copC
  rw [Sort.insertionSort, outer_eq _ _ (n - 1) 1 _ (by rw [Array.size_ofFn]; omega)]

def IntsAt (w : World) (a : Option Addr) (k : Nat) (f : Nat → Int) : Prop := ∀ j, j < k → ∃ b o, a = some ⟨b, o, none⟩ ∧ w.cell? ⟨b, o + j, none⟩ = some (.int .i64 (f j))

theorem IntsAt.of_own {w : World} {B : Nat} {v : Value} {k : Nat} {f : Nat → Int} (h : w.ownsRow B 3 1 v k ((List.range k).map fun j => .int .i64 (f j))) : ∃ a c, v = .slice a k c ∧ IntsAt w a k f := by
  rcases h.2 with ⟨rfl, rfl⟩ | ⟨g, cap, cur, rfl, _⟩
  · exact ⟨none, 0, rfl, fun j hj => absurd hj (Nat.not_lt_zero _)⟩
  · refine ⟨_, cap, rfl, fun j hj => ⟨g, 0, rfl, ?_⟩⟩
    rw [Nat.zero_add, h.cellAt j (by omega)]
    simp [hj]

theorem IntsAt.drewN {w : World} {a : Option Addr} {k : Nat} {f : Nat → Int} (h : IntsAt w a k f) (n : Nat) : IntsAt (w.drewN n) a k f := h

theorem eqInts_same (a a' : Option Addr) (k c c' : Nat) (f : Nat → Int) (w : World) (hkz : (k : Int) ≤ 281474976710656) (h : IntsAt w a k f) (h' : IntsAt w a' k f) :
    Calls Tryz.prog 30 #[.slice a k c, .slice a' k c'] w fun e w' => e = .returned (.bool true) ∧ ∃ q, w' = w.drewN q := by
  rcases Nat.eq_zero_or_pos k with rfl | hp
  · clear h h'
    go_enter Tryz.func30, Tryz.ntmps30
    go_wp2
    go_loopg [5] 0 (fun q s5 wr => q = 0 ∧ s5 = .int .i64 0 ∧ wr = w)
    case atStart => exact ⟨rfl, rfl, rfl⟩
    case round =>
      obtain ⟨rfl, rfl, rfl⟩ := hrel
      go_wp2
      go_ret
      exact ⟨rfl, 0, rfl⟩
  · obtain ⟨b, o, rfl, _⟩ := h 0 hp
    obtain ⟨b', o', rfl, _⟩ := h' 0 hp
    have hc : Hid (∀ j, j < k → w.cell? ⟨b, o + j, none⟩ = some (.int .i64 (f j))) := fun j hj => by obtain ⟨_, _, e, hh⟩ := h j hj; cases e; exact hh
    have hc' : Hid (∀ j, j < k → w.cell? ⟨b', o' + j, none⟩ = some (.int .i64 (f j))) := fun j hj => by obtain ⟨_, _, e, hh⟩ := h' j hj; cases e; exact hh
    clear h h'
    have hk0 : (0 : Int) < (k : Int) := by omega
    go_enter Tryz.func30, Tryz.ntmps30
    go_wp2
    go_loopg [5] k (fun q s5 wr => ∃ i m : Nat, i ≤ k ∧ q = k - i ∧ s5 = .int .i64 i ∧ wr = w.drewN m)
    case atStart => exact ⟨0, 0, Nat.zero_le _, rfl, rfl, rfl⟩
    case round =>
      obtain ⟨i, m, hi, rfl, rfl, rfl⟩ := hrel
      by_cases hlt : i < k
      · have hz : (i : Int) < (k : Int) := by omega
        have k1 : (w.drewN m).cell? ⟨b, o + i, none⟩ = some (.int .i64 (f i)) := hc.out i hlt
        have k2 : (w.drewN m).cell? ⟨b', o' + i, none⟩ = some (.int .i64 (f i)) := hc'.out i hlt
        have HD : Hid (∀ n, (w.drewN m).drewN n = w.drewN (m + n)) := fun n => World.drewN_drewN _ _ _
        generalize w.drewN m = wd at *
        generalize f i = v at *
        go_wp2_with fail
        go_quiet (fail)
        go_wp2
        go_roundg (k - (i + 1))
        case measure => omega
        case rel => exact ⟨i + 1, _, by omega, rfl, by go_num, HD.out _⟩
      · have hz : ¬ (i : Int) < (k : Int) := by omega
        go_wp2
        go_ret
        exact ⟨rfl, m, rfl⟩

theorem num_any (e : Int) (w : World) : Calls Tryz.prog 29 #[.int .i64 e] w fun r w' => r = .returned (.int .i64 e) ∧ w' = w := by
  go_enter Tryz.func29, Tryz.ntmps29
  go_wp2
  go_ret
  exact ⟨rfl, rfl⟩

theorem ord_eq {a c : Nat} {x : Int} (h : Fl a x) (h' : Fl c x) : FloatKind.f64.format.order a c = some .eq := by
  rw [f64_format, fl_order h h', Int.compare_eq_eq.mpr rfl]
theorem ord_ne {a c : Nat} {x y : Int} (h : Fl a x) (h' : Fl c y) (hn : x ≠ y) : (FloatKind.f64.format.order a c == some .eq) = false := by
  rw [f64_format, fl_order h h']
  rcases Int.lt_trichotomy x y with l | l | l
  · rw [Int.compare_eq_lt.mpr l]; rfl
  · exact absurd l hn
  · rw [Int.compare_eq_gt.mpr l]; rfl

theorem fl_two : Fl 4611686018427387904 2 := ⟨false, 2 ^ 52, 51, rfl, by decide, by decide, by decide⟩
theorem fl_negtwo : Fl 13835058055282163712 (-2) := ⟨true, 2 ^ 52, 51, rfl, by decide, by decide, by decide⟩
theorem fl_four : Fl 4616189618054758400 4 := ⟨false, 2 ^ 52, 50, rfl, by decide, by decide, by decide⟩

theorem wake_cop : copN 0 5 0 = 3 ∧ copN 0 5 1 = 0 ∧ copN 0 5 2 = 2 := by
  rw [copN_eq, copN_eq, copN_eq]
  decide +kernel

theorem wakes_any (w : World) : Calls Tryz.prog 9 #[] w fun e w' => e = .returned (.bool true) ∧ RowKit.Below w.heap.size w w' := by
  have hcop := copies_any 0 5 3 ⟨by decide, by decide, by decide, by decide, by decide, by decide, by decide, by decide⟩ w
  have hap := fun w => apart_any fl_one fl_two fl_four fl_negtwo (by decide) (by decide) w
  have e25 : apM (1, 2) (4, -2) = 25 := by decide
  rw [e25] at hap
  obtain ⟨k0, k1, k2⟩ := wake_cop
  go_enter Tryz.func9, Tryz.ntmps9
  go_wp2_with fail
  refine hcop.mono ?_
  rintro e w1 ⟨v, B, rfl, hB, hO, hv, b1⟩
  obtain ⟨a, c, rfl, hI⟩ := IntsAt.of_own (f := fun j => (copN 0 5 j : Nat)) hO
  clear hO hv hcop e25
  go_wp2_with fail
  refine (num_any 0 _).mono ?_
  rintro e w1 ⟨rfl, rfl⟩
  go_wp2_with fail
  have hI2 : IntsAt (w1.alloc (.cells #[.int .i64 3, .int .i64 0, .int .i64 2] 3)) a 3 (fun j => (copN 0 5 j : Nat)) := fun j hj => by
    obtain ⟨b, o, e, hh⟩ := hI j hj
    exact ⟨b, o, e, by rw [alloc_keeps _ _ _ _ (World.block_lt_of_cell? _ _ hh)]; exact hh⟩
  have hI3 : IntsAt (w1.alloc (.cells #[.int .i64 3, .int .i64 0, .int .i64 2] 3)) (some ⟨w1.heap.size, 0, none⟩) 3 (fun j => (copN 0 5 j : Nat)) := fun j hj => by
    refine ⟨_, _, rfl, ?_⟩
    rw [Nat.zero_add, World.cell?_alloc_at (w := w1) _ _ _ j rfl]
    rcases (show j = 0 ∨ j = 1 ∨ j = 2 by omega) with rfl | rfl | rfl
    · show _ = some (Value.int .i64 ((copN 0 5 0 : Nat) : Int)); rw [k0]; rfl
    · show _ = some (Value.int .i64 ((copN 0 5 1 : Nat) : Int)); rw [k1]; rfl
    · show _ = some (Value.int .i64 ((copN 0 5 2 : Nat) : Int)); rw [k2]; rfl
  refine (eqInts_same a _ 3 c 3 _ _ (by decide) hI2 hI3).mono ?_
  rintro e w2 ⟨rfl, q, rfl⟩
  have b2 := b1.alloc b1.size (.cells #[.int .i64 3, .int .i64 0, .int .i64 2] 3)
  have b3 : RowKit.Below w.heap.size w ((w1.alloc (.cells #[.int .i64 3, .int .i64 0, .int .i64 2] 3)).drewN q) := ⟨b2.os, b2.tape, b2.output, b2.size, b2.block⟩
  clear hI hI2 hI3 b2 b1 hB k0 k1 k2
  generalize (w1.alloc (.cells #[.int .i64 3, .int .i64 0, .int .i64 2] 3)).drewN q = w3 at *
  go_wp2_with fail
  refine (spiral_in 2 (by decide) w3).mono ?_
  rintro e w4 ⟨x, y, rfl, fx, fy, b4⟩
  have e2 : spM 2 = (1, 1) := by decide +kernel
  rw [e2] at fx fy
  have o1 := ord_eq fx fl_one
  have o2 := ord_eq fy fl_one
  clear fx fy e2
  go_wp2_with fail
  refine (turn_any 1 fl_two fl_one _).mono ?_
  rintro e w4 ⟨x', y', rfl, fx, fy, rfl⟩
  have e3 : turnN (1 % 4 : Int).toNat (2, 1) = (-1, 2) := by decide
  rw [e3] at fx fy
  have o3 := ord_eq fx fl_negone
  have o4 := ord_eq fy fl_two
  clear fx fy e3
  go_wp2_with fail
  refine (hap _).mono ?_
  rintro e w4 ⟨rfl, rfl⟩
  go_wp2
  go_ret
  exact ⟨rfl, b3.trans (b4.mono b3.size)⟩
end Go.Proofs.YtbebnjeamlmclaaGreat
