/- Own texts, joined: SE1, PlaneLaw1, PlaneIs, PlanePoint, PlaneRef, PlaneRef2, PlaneTabG, PlaneRef3B. -/
import Derived.Test.YtdhhjdacidhmjaaGreatM4
import Derived.Laws.ResultCell
import Derived.Laws.Rows
import Derived.Test.YtdhhjdacidhmjaaGreatM1

/- Package settle, the document's: its pace, at a place within a row. -/
namespace Go.Proofs.YtdhhjdacidhmjaaGreat
open Go.RowKit
set_option maxRecDepth 100000
set_option maxRecDepth 100000
theorem wi {z : Int} (h : -9223372036854775808 ≤ z ∧ z < 9223372036854775808) : IntKind.i64.wrap z = z := by rw [IntKind.wrap_i64]; omega

/-- Behind t ticks: how many were times, at which tick the next one is, the gap behind it. -/
def tmS (m : Nat) : Nat → Nat × Nat × Nat
  | 0 => (0, 1, 1)
  | t + 1 => if t + 1 < (tmS m t).2.1 then tmS m t else ((tmS m t).1 + 1, (tmS m t).2.1 + (tmS m t).2.2, min (2 * (tmS m t).2.2) m)
theorem tm_succ (m t : Nat) : tmS m (t + 1) = if t + 1 < (tmS m t).2.1 then tmS m t else ((tmS m t).1 + 1, (tmS m t).2.1 + (tmS m t).2.2, min (2 * (tmS m t).2.2) m) := rfl
structure TmOk (m t : Nat) (s : Nat × Nat × Nat) : Prop where
  lt : t < s.2.1
  le : s.2.1 ≤ t + m
  g1 : 1 ≤ s.2.2
  gm : s.2.2 ≤ m
  k : s.1 ≤ t
theorem tm_ok {m : Nat} (hm : 1 ≤ m) : ∀ t, TmOk m t (tmS m t)
  | 0 => ⟨Nat.zero_lt_one, by show 1 ≤ 0 + m; omega, Nat.le_refl _, hm, Nat.le_refl _⟩
  | t + 1 => by
    have h := tm_ok hm t
    obtain ⟨h1, h2, h3, h4, h5⟩ := h
    rw [tm_succ]
    split
    · exact ⟨by omega, by omega, h3, h4, by omega⟩
    · exact ⟨by show _ < _ + _; omega, by show _ + _ ≤ _; omega, by show 1 ≤ min _ _; omega, by show min _ _ ≤ _; omega, by show _ + 1 ≤ _; omega⟩
theorem tm_stay {m t : Nat} : ∀ d, t + d < (tmS m t).2.1 → tmS m (t + d) = tmS m t
  | 0, _ => rfl
  | d + 1, h => by
    have ih := tm_stay (m := m) (t := t) d (by omega)
    show tmS m (t + d + 1) = _
    rw [tm_succ, ih, if_pos (show t + d + 1 < (tmS m t).2.1 by omega)]
/-- At the tick that is a time. -/
theorem tm_at {m t : Nat} {k a g : Nat} (h : tmS m t = (k, a, g)) (hta : t < a) : tmS m a = (k + 1, a + g, min (2 * g) m) := by
  obtain ⟨d, rfl⟩ : ∃ d, a = t + d + 1 := ⟨a - t - 1, by omega⟩
  have hs := tm_stay (m := m) (t := t) d (by rw [h]; show _ < t + d + 1; omega)
  rw [tm_succ, hs, h, if_neg (by show ¬ _ < t + d + 1; omega)]
theorem tm_end {m t n : Nat} {k a g : Nat} (h : tmS m t = (k, a, g)) (h1 : t ≤ n) (h2 : n < a) : tmS m n = (k, a, g) := by
  obtain ⟨d, rfl⟩ : ∃ d, n = t + d := ⟨n - t, by omega⟩
  rw [tm_stay d (by rw [h]; exact h2), h]

set_option maxHeartbeats 1000000 in
theorem times_any (m n : Nat) (hm1 : 1 ≤ m) (hm : m ≤ 64) (hn : n ≤ 100000) (w : World) :
    Calls Tryz.prog 76 #[.int .i64 (m : Nat), .int .i64 (n : Nat)] w fun e w' => e = .returned (.tuple #[.int .i64 ((tmS m n).1 : Nat), .int .i64 ((tmS m n).2.1 : Nat)]) ∧ w = w' := by
  go_enter Tryz.func76, Tryz.ntmps76
  go_wp2_with fail
  go_loopg [6, 7, 8] (n + 1 - 1) (fun q s6 s7 s8 wx => ∃ t k a g : Nat, s6 = .int .i64 (g : Nat) ∧ s7 = .int .i64 (a : Nat) ∧ s8 = .int .i64 (k : Nat) ∧ q = n + 1 - a ∧ t ≤ n ∧ tmS m t = (k, a, g) ∧ TmOk m t (k, a, g) ∧ w = wx)
  case atStart => exact ⟨0, 0, 1, 1, rfl, rfl, rfl, rfl, Nat.zero_le _, rfl, tm_ok hm1 0, rfl⟩
  case round =>
    obtain ⟨t, k, a, g, rfl, rfl, rfl, rfl, htn, hts, hok, rfl⟩ := hrel
    obtain ⟨h1, h2, h3, h4, h5⟩ := hok
    simp only at h1 h2 h3 h4 h5
    by_cases hlt : a ≤ n
    · have z1 : (a : Int) ≤ (n : Int) := by omega
      have hat := tm_at hts h1
      have hok2 := tm_ok hm1 a
      rw [hat] at hok2
      obtain ⟨k1, hk1, hk2⟩ : ∃ x : Nat, (k : Int) + 1 = (x : Int) ∧ x = k + 1 := ⟨k + 1, by omega, rfl⟩
      obtain ⟨a1, ha1, ha2⟩ : ∃ x : Nat, (a : Int) + (g : Int) = (x : Int) ∧ x = a + g := ⟨a + g, by omega, rfl⟩
      obtain ⟨g1, hg1, hg2⟩ : ∃ x : Nat, 2 * (g : Int) = (x : Int) ∧ x = 2 * g := ⟨2 * g, by omega, rfl⟩
      have wk : IntKind.i64.wrap (k1 : Int) = (k1 : Int) := wi (by omega)
      have wa : IntKind.i64.wrap (a1 : Int) = (a1 : Int) := wi (by omega)
      have wg : IntKind.i64.wrap (g1 : Int) = (g1 : Int) := wi (by omega)
      rw [← hk2, ← ha2, ← hg2] at hat hok2
      have hme : n + 1 - a1 < n + 1 - a := by omega
      by_cases hc : m < g1
      · have e1 : min g1 m = m := Nat.min_eq_right (by omega)
        rw [e1] at hat hok2
        have HH : Hid (a ≤ n ∧ tmS m a = (k1, a1, m) ∧ TmOk m a (k1, a1, m)) := ⟨hlt, hat, hok2⟩
        have z2 : (g1 : Int) > (m : Int) := by omega
        clear hat hok2 hts h1 h2 h3 h4 h5 hk2 ha2 hg2 e1 hc
        go_wp2_with fail
        go_roundg (n + 1 - a1)
        case measure => go_light; exact hme
        case rel => go_light; exact ⟨a, k1, a1, m, rfl, rfl, rfl, rfl, HH.out.1, HH.out.2.1, HH.out.2.2, rfl⟩
      · have e1 : min g1 m = g1 := Nat.min_eq_left (by omega)
        rw [e1] at hat hok2
        have HH : Hid (a ≤ n ∧ tmS m a = (k1, a1, g1) ∧ TmOk m a (k1, a1, g1)) := ⟨hlt, hat, hok2⟩
        have z2 : ¬ (g1 : Int) > (m : Int) := by omega
        clear hat hok2 hts h1 h2 h3 h4 h5 hk2 ha2 hg2 e1 hc
        go_wp2_with fail
        go_roundg (n + 1 - a1)
        case measure => go_light; exact hme
        case rel => go_light; exact ⟨a, k1, a1, g1, rfl, rfl, rfl, rfl, HH.out.1, HH.out.2.1, HH.out.2.2, rfl⟩
    · have z1 : ¬ (a : Int) ≤ (n : Int) := by omega
      have HE : Hid (tmS m n = (k, a, g)) := tm_end hts htn (by omega)
      clear hts h1 h2 h3 h4 h5
      go_wp2_with fail
      go_ret2
      exact ⟨by rw [HE.out]; rfl, rfl⟩
theorem tick_math {m t : Nat} (hm : 1 ≤ m) : decide ((if t = 0 then 0 else (tmS m t).2.1 - t) ≤ 1) = decide (¬ t + 1 < (tmS m t).2.1) ∧ tkL (if t = 0 then 0 else (tmS m t).2.1 - t) (tmS m t).2.2 = (if t + 1 = 0 then 0 else (tmS m (t + 1)).2.1 - (t + 1)) ∧ tkG (if t = 0 then 0 else (tmS m t).2.1 - t) (tmS m t).2.2 m = (tmS m (t + 1)).2.2 := by
  have h := tm_ok hm t
  obtain ⟨h1, h2, h3, h4, h5⟩ := h
  rw [tm_succ, if_neg (show ¬ t + 1 = 0 by omega)]
  by_cases h0 : t = 0
  · subst h0
    refine ⟨rfl, ?_, ?_⟩
    · show tkL 0 1 = _
      rfl
    · show tkG 0 1 m = _
      rfl
  · rw [if_neg h0]
    unfold tkL tkG
    by_cases hc : t + 1 < (tmS m t).2.1
    · rw [if_pos hc, if_pos (by omega), if_pos (by omega)]
      refine ⟨?_, by omega, rfl⟩
      rw [decide_eq_decide]; omega
    · rw [if_neg hc, if_neg (by omega), if_neg (by omega)]
      refine ⟨?_, ?_, rfl⟩
      · rw [decide_eq_decide]; omega
      · show _ = (tmS m t).2.1 + (tmS m t).2.2 - (t + 1)
        omega
/-- A pace of the document's at a place of a row. -/
structure RpAt (w : World) (b o m t : Nat) : Prop where
  c0 : w.cell? ⟨b, o, none⟩ = some (.int .i64 (m : Nat))
  c1 : w.cell? ⟨b, o + 1, none⟩ = some (.int .i64 (t : Nat))
  fr : w.frozen? ⟨b, o + 1, none⟩ = false
  h1 : 1 ≤ m
  hm : m ≤ 64
theorem rreset_at {w : World} {b o m t : Nat} (h : RpAt w b o m t) : Calls Tryz.prog 44 #[.pointer (some ⟨b, o, none⟩)] w fun e w' => e = .returned (.tuple #[]) ∧ w' = w.setCell ⟨b, o + 1, none⟩ (.int .i64 0) := by
  have c1 := h.c1
  have f1 := h.fr
  clear h
  obtain ⟨W, HW⟩ : ∃ W, Hid (w.setCell ⟨b, o + 1, none⟩ (.int .i64 0) = W) := ⟨_, rfl⟩
  rw [HW.out]
  go_enter Tryz.func44, Tryz.ntmps44
  go_wp2
  rw [HW.out]
  go_end0
  exact ⟨rfl, rfl⟩
theorem rtick_at {w : World} {b o m t : Nat} (h : RpAt w b o m t) (ht : t < 5000) : Calls Tryz.prog 49 #[.pointer (some ⟨b, o, none⟩)] w fun e w' => e = .returned (.bool (decide (¬ t + 1 < (tmS m t).2.1))) ∧ ∃ q p, w' = ((w.drewN q).setCell ⟨b, o + 1, none⟩ (.int .i64 ((t + 1 : Nat) : Int))).drewN p := by
  have c0 := h.c0
  have c1 := h.c1
  have f1 := h.fr
  have hs := tm_succ m t
  have HT : Hid (∀ W, Calls Tryz.prog 76 #[.int .i64 (m : Nat), .int .i64 (t : Nat)] W fun e w' => e = .returned (.tuple #[.int .i64 ((tmS m t).1 : Nat), .int .i64 ((tmS m t).2.1 : Nat)]) ∧ w' = W) := fun W => (times_any m t h.h1 h.hm (by omega) W).mono fun e w' ⟨h1, h2⟩ => ⟨h1, h2.symm⟩
  have HT2 : Hid (∀ W, Calls Tryz.prog 76 #[.int .i64 (m : Nat), .int .i64 ((t + 1 : Nat) : Int)] W fun e w' => e = .returned (.tuple #[.int .i64 ((tmS m (t + 1)).1 : Nat), .int .i64 ((tmS m (t + 1)).2.1 : Nat)]) ∧ w' = W) := fun W => (times_any m (t + 1) h.h1 h.hm (by omega) W).mono fun e w' ⟨h1, h2⟩ => ⟨h1, h2.symm⟩
  have hcmp : decide ((tmS m (t + 1)).1 > (tmS m t).1) = decide (¬ t + 1 < (tmS m t).2.1) := by
    rw [hs]
    split <;> simp_all
  rw [← hcmp]
  obtain ⟨t1, ht1, ht2⟩ : ∃ x : Nat, (t : Int) + 1 = (x : Int) ∧ x = t + 1 := ⟨t + 1, by omega, rfl⟩
  have wt : IntKind.i64.wrap (t1 : Int) = (t1 : Int) := wi (by omega)
  rw [← ht2] at HT2 ⊢
  have hr1 : ∀ q, ((w.drewN q).setCell ⟨b, o + 1, none⟩ (.int .i64 (t1 : Nat))).cell? ⟨b, o, none⟩ = some (.int .i64 (m : Nat)) := fun q => by
    rw [World.cell?_setCell_other _ _ _ _ (by simp)]
    exact c0
  have hr2 : ∀ q, ((w.drewN q).setCell ⟨b, o + 1, none⟩ (.int .i64 (t1 : Nat))).cell? ⟨b, o + 1, none⟩ = some (.int .i64 (t1 : Nat)) := fun q => World.cell?_setCell_same (w.drewN q) _ _ c1
  generalize (tmS m t).2.1 = A at *
  generalize (tmS m t).1 = K at *
  generalize (tmS m t1).2.1 = A1 at *
  generalize (tmS m t1).1 = K1 at *
  have hz : decide ((K1 : Int) > (K : Int)) = decide (K1 > K) := by simp
  clear h hs hcmp ht2
  go_enter Tryz.func49, Tryz.ntmps49
  go_upto_region 1 with fail
  go_quiet (exact Calls.quiet_of_same (HT.out _))
  go_upto_region 3 with fail
  go_quiet (exact Calls.quiet_of_same (HT2.out _))
  by_cases hkk : K1 > K
  · have z1 : (K1 : Int) > (K : Int) := by omega
    have E1 : Hid (decide (K1 > K) = true) := by show _ = _; simp [hkk]
    clear hz hkk
    go_wp2_with fail
    go_ret
    exact ⟨by rw [E1.out]; rfl, _, _, rfl⟩
  · have z1 : ¬ (K1 : Int) > (K : Int) := by omega
    have E1 : Hid (decide (K1 > K) = false) := by show _ = _; simp; omega
    clear hz hkk
    go_wp2_with fail
    go_ret
    exact ⟨by rw [E1.out]; rfl, _, _, rfl⟩
end Go.Proofs.YtdhhjdacidhmjaaGreat

/- Stage 3's laws: two lists of numbers that are the same; wakes. -/
namespace Go.Proofs.YtdhhjdacidhmjaaGreat
open Go.RowKit Go.Shelf Go.Sort
set_option maxRecDepth 100000
set_option maxRecDepth 100000

/-- The copies' numbers, reckoned. -/
def copC (s n j : Nat) : Nat := ((outN (ltOf fun x y : Fin (n - 1 + 1) => nearM (apD s) x y) (n - 1) 1 (Array.ofFn fun i : Fin (n - 1 + 1) => i))[j]!).val
theorem copN_eq (s n j : Nat) : copN s n j = copC s n j := by
  unfold copN nearN nearA copC
  rw [Sort.insertionSort, outer_eq _ _ (n - 1) 1 _ (by rw [Array.size_ofFn]; omega)]

def IntsAt (w : World) (a : Option Addr) (k : Nat) (f : Nat → Int) : Prop := ∀ j, j < k → ∃ b o, a = some ⟨b, o, none⟩ ∧ w.cell? ⟨b, o + j, none⟩ = some (.int .i64 (f j))

theorem IntsAt.of_own {w : World} {B : Nat} {v : Value} {k : Nat} {f : Nat → Int} (h : w.ownsRow B 3 1 v k ((List.range k).map fun j => .int .i64 (f j))) : ∃ a c, v = .slice a k c ∧ IntsAt w a k f := by
  rcases h.2 with ⟨rfl, rfl⟩ | ⟨g, cap, cur, rfl, _⟩
  · exact ⟨none, 0, rfl, fun j hj => absurd hj (Nat.not_lt_zero _)⟩
  · refine ⟨_, cap, rfl, fun j hj => ⟨g, 0, rfl, ?_⟩⟩
    rw [Nat.zero_add, h.cellAt j (by omega)]
    simp [hj]

theorem IntsAt.drewN {w : World} {a : Option Addr} {k : Nat} {f : Nat → Int} (h : IntsAt w a k f) (n : Nat) : IntsAt (w.drewN n) a k f := h

theorem ord_eq {a c : Nat} {x : Int} (h : Fl a x) (h' : Fl c x) : FloatKind.f64.format.order a c = some .eq := by
  rw [f64_format, fl_order h h', Int.compare_eq_eq.mpr rfl]
theorem ord_ne {a c : Nat} {x y : Int} (h : Fl a x) (h' : Fl c y) (hn : x ≠ y) : (FloatKind.f64.format.order a c == some .eq) = false := by
  rw [f64_format, fl_order h h']
  rcases Int.lt_trichotomy x y with l | l | l
  · rw [Int.compare_eq_lt.mpr l]; rfl
  · exact absurd l hn
  · rw [Int.compare_eq_gt.mpr l]; rfl

theorem fl_two : Fl 4611686018427387904 2 := ⟨false, 2 ^ 52, 51, rfl, by decide, by decide, by decide⟩
theorem fl_negtwo : Fl 13835058055282163712 (-2) := ⟨true, 2 ^ 52, 51, rfl, by decide, by decide, by decide⟩
theorem fl_four : Fl 4616189618054758400 4 := ⟨false, 2 ^ 52, 50, rfl, by decide, by decide, by decide⟩

theorem wake_cop : copN 0 5 0 = 3 ∧ copN 0 5 1 = 0 ∧ copN 0 5 2 = 2 := by
  rw [copN_eq, copN_eq, copN_eq]
  decide +kernel

end Go.Proofs.YtdhhjdacidhmjaaGreat

/- Stage 3's laws: is. -/
namespace Go.Proofs.YtdhhjdacidhmjaaGreat
open Go.RowKit Go.Shelf Go.Sort
set_option maxRecDepth 100000
set_option maxRecDepth 100000

end Go.Proofs.YtdhhjdacidhmjaaGreat

/- Stage 3's laws: turning, mathematics; a spot's point. -/
namespace Go.Proofs.YtdhhjdacidhmjaaGreat
open Go.RowKit Go.Shelf Go.Sort
set_option maxRecDepth 100000
set_option maxRecDepth 100000

theorem below_cell {W W' : World} {b i : Nat} {v : Value} (h : RowKit.Below W.heap.size W W') (hc : W.cell? ⟨b, i, none⟩ = some v) : W'.cell? ⟨b, i, none⟩ = some v := by
  rw [World.cell?_of_block (a := ⟨b, i, none⟩) (h.block _ (World.block_lt_of_cell? _ _ hc))]; exact hc

theorem spZ_nat (k : Nat) (hk : k ≤ 1099511627776) : spZ (k : Int) = spM k := by
  unfold spZ
  rw [if_neg (by omega), Int.toNat_natCast]

theorem turnN_add (p : Int × Int) : ∀ (n : Nat) (m : Nat), turnN m (turnN n p) = turnN (n + m) p := by
  intro n
  induction n generalizing p with
  | zero => intro m; rw [Nat.zero_add]; rfl
  | succ n ih => intro m; rw [show n + 1 + m = (n + m) + 1 by omega]; exact ih _ m

theorem turnN_four (n : Nat) (p : Int × Int) : turnN (n + 4) p = turnN n p := by
  show turnN n _ = _
  congr 1
  refine Prod.ext ?_ ?_ <;> simp

theorem turnN_mod (n : Nat) : ∀ p, turnN n p = turnN (n % 4) p := by
  induction n using Nat.strongRecOn with
  | ind n ih =>
    intro p
    by_cases h : n < 4
    · rw [Nat.mod_eq_of_lt h]
    · have := ih (n - 4) (by omega) p
      rw [show n = (n - 4) + 4 by omega, turnN_four, this]
      congr 1
      omega

theorem turnN_both (A B : Int) (p : Int × Int) : turnN (B % 4).toNat (turnN (A % 4).toNat p) = turnN ((A.tmod 4 + B.tmod 4) % 4).toNat p := by
  rw [turnN_add, turnN_mod]
  congr 1
  have h1 := Int.tmod_def A 4
  have h2 := Int.tmod_def B 4
  omega

theorem apM_turn (n : Nat) : ∀ p q, apM (turnN n p) (turnN n q) = apM p q := by
  induction n with
  | zero => intro p q; rfl
  | succ n ih =>
    intro p q
    show apM (turnN n _) (turnN n _) = _
    rw [ih]
    unfold apM
    grind

theorem turnN_bound (B : Nat) (n : Nat) : ∀ p : Int × Int, p.1.natAbs ≤ B → p.2.natAbs ≤ B → (turnN n p).1.natAbs ≤ B ∧ (turnN n p).2.natAbs ≤ B := by
  induction n with
  | zero => intro p h1 h2; exact ⟨h1, h2⟩
  | succ n ih => intro p h1 h2; exact ih (-p.2, p.1) (by simpa using h2) h1

theorem apM_comm (p q : Int × Int) : apM p q = apM q p := by unfold apM; grind
theorem sq_nonneg' (x : Int) : 0 ≤ x * x := by
  rcases Int.le_total 0 x with h | h
  · exact Int.mul_nonneg h h
  · have := Int.mul_nonneg (a := -x) (b := -x) (by omega) (by omega)
    rwa [Int.neg_mul_neg] at this
theorem sq_pos (x : Int) (h : x ≠ 0) : 0 < x * x := by
  rcases Int.lt_or_lt_of_ne h with h | h
  · exact Int.mul_pos_of_neg_of_neg h h
  · exact Int.mul_pos h h
theorem apM_nonneg (p q : Int × Int) : 0 ≤ apM p q := by
  unfold apM
  have := sq_nonneg' (p.1 - q.1)
  have := sq_nonneg' (p.2 - q.2)
  omega
theorem apM_zero (p q : Int × Int) : apM p q = 0 ↔ (p.1 = q.1 ∧ p.2 = q.2) := by
  constructor
  · intro h
    unfold apM at h
    have h1 := sq_nonneg' (p.1 - q.1)
    have h2 := sq_nonneg' (p.2 - q.2)
    by_cases e1 : p.1 - q.1 = 0
    · by_cases e2 : p.2 - q.2 = 0
      · exact ⟨by omega, by omega⟩
      · have := sq_pos _ e2; omega
    · have := sq_pos _ e1; omega
  · intro ⟨h1, h2⟩
    unfold apM
    rw [h1, h2]; simp

def nearZ (n : Int) : Int := n.tmod 33554433
theorem nearZ_bound (n : Int) : (nearZ n).natAbs ≤ 33554432 := by
  unfold nearZ
  rw [Int.natAbs_tmod]
  have := Nat.mod_lt n.natAbs (show 0 < (33554433 : Int).natAbs by decide)
  have e : (33554433 : Int).natAbs = 33554433 := rfl
  omega

theorem set2_keeps (W : World) (b i c : Nat) (u v : Value) (h : b ≠ c) : ((W.setCell ⟨c, 0, none⟩ u).setCell ⟨c, 1, none⟩ v).cell? ⟨b, i, none⟩ = W.cell? ⟨b, i, none⟩ := by
  rw [World.cell?_of_block (w := W.setCell ⟨c, 0, none⟩ u) (a := ⟨b, i, none⟩) (Below.heap_setCell _ _ _ _ h), World.cell?_of_block (w := W) (a := ⟨b, i, none⟩) (Below.heap_setCell _ _ _ _ h)]

end Go.Proofs.YtdhhjdacidhmjaaGreat

/- The document's own answers for package plane: mathematics, and the walks of ring and Apart. -/
namespace Go.Proofs.YtdhhjdacidhmjaaGreat
open Go.RowKit Go.Shelf Go.Sort
set_option maxRecDepth 100000
set_option maxRecDepth 100000

/-- The point of step k, by its ring r and how far along the ring. -/
def refM (r m : Int) (q : Int) : Int × Int :=
  if q = 0 then (r, 1 - r + m) else if q = 1 then (3 * r - 1 - m, r) else if q = 2 then (-r, 5 * r - 1 - m) else (m + 1 - 7 * r, -r)

theorem ref_sp (h k m : Nat) (hk : k = 4 * (h * h) + 4 * h + 1 + m) (hm : m < 8 * h + 8) : refM ((h : Int) + 1) m ((m / (2 * h + 2) : Nat) : Int) = spM k := by
  have e2 : (h + 1) * (h + 1) = h * h + 2 * h + 1 := by grind
  by_cases c0 : m < 2 * h + 2
  · have q0 : m / (2 * h + 2) = 0 := Nat.div_eq_of_lt c0
    rw [q0]
    by_cases c : m ≤ 2 * h
    · rw [sp_even (h := h) (2 * h + 1 + m) (by omega) (by omega)]
      unfold refM
      rw [if_pos (by decide)]
      split <;> refine Prod.ext ?_ ?_ <;> simp <;> omega
    · rw [sp_odd (h := h) 0 (by omega) (by omega), if_pos (by omega)]
      unfold refM
      rw [if_pos (by decide)]
      refine Prod.ext ?_ ?_ <;> simp <;> omega
  · by_cases c1 : m < 4 * h + 4
    · have q1 : m / (2 * h + 2) = 1 := by rw [Nat.div_eq_iff (by omega)]; omega
      rw [q1, sp_odd (h := h) (m - 2 * h - 1) (by omega) (by omega), if_pos (by omega)]
      unfold refM
      rw [if_neg (by decide), if_pos (by decide)]
      refine Prod.ext ?_ ?_ <;> simp <;> omega
    · by_cases c2 : m < 6 * h + 6
      · have q2 : m / (2 * h + 2) = 2 := by rw [Nat.div_eq_iff (by omega)]; omega
        rw [q2]
        by_cases c : m ≤ 6 * h + 4
        · rw [sp_odd (h := h) (m - 2 * h - 1) (by omega) (by omega), if_neg (by omega)]
          unfold refM
          rw [if_neg (by decide), if_neg (by decide), if_pos (by decide)]
          refine Prod.ext ?_ ?_ <;> simp <;> omega
        · rw [sp_even (h := h + 1) 0 (by omega) (by omega), if_pos (by omega)]
          unfold refM
          rw [if_neg (by decide), if_neg (by decide), if_pos (by decide)]
          refine Prod.ext ?_ ?_ <;> simp <;> omega
      · have q3 : m / (2 * h + 2) = 3 := by rw [Nat.div_eq_iff (by omega)]; omega
        rw [q3, sp_even (h := h + 1) (m - 6 * h - 5) (by omega) (by omega), if_pos (by omega)]
        unfold refM
        rw [if_neg (by decide), if_neg (by decide), if_neg (by decide)]
        refine Prod.ext ?_ ?_ <;> simp <;> omega

theorem sq_mono {a b : Nat} (h : a ≤ b) : (2 * a + 1) * (2 * a + 1) ≤ (2 * b + 1) * (2 * b + 1) := Nat.mul_le_mul (by omega) (by omega)

/-- The ring of a step. -/
theorem ring_any (k : Nat) (hk : k ≤ 1099511627776) (w : World) :
    Calls Tryz.prog 98 #[.int .i64 k] w fun e w' => ∃ r : Nat, e = .returned (.int .i64 r) ∧ r ≤ 1048576 ∧ k < (2 * r + 1) * (2 * r + 1) ∧ (∀ j, j < r → (2 * j + 1) * (2 * j + 1) ≤ k) ∧ w' = w := by
  go_enter Tryz.func98, Tryz.ntmps98
  go_wp2
  go_loopg [3, 4, 5] 1048576 (fun q s3 s4 s5 wr => ∃ lo hi : Nat, s3 = .int .i64 lo ∧ s4 = .int .i64 hi ∧ lo ≤ hi ∧ hi ≤ 1048576 ∧ hi - lo ≤ q ∧ Hid ((∀ j, j < lo → (2 * j + 1) * (2 * j + 1) ≤ k) ∧ k < (2 * hi + 1) * (2 * hi + 1)) ∧ wr = w)
  case atStart => exact ⟨0, 1048576, rfl, rfl, by omega, by omega, by omega, ⟨fun j hj => absurd hj (Nat.not_lt_zero _), by omega⟩, rfl⟩
  case round =>
    obtain ⟨lo, hi, rfl, rfl, h1, h2, h3, HI, rfl⟩ := hrel
    by_cases hlt : lo < hi
    · have hz : (lo : Int) < (hi : Int) := by omega
      obtain ⟨m, hm⟩ : ∃ m : Nat, m = (lo + hi) / 2 := ⟨_, rfl⟩
      have d1 : ((lo : Int) + (hi : Int)).tdiv 2 = (m : Int) := by rw [Int.tdiv_eq_ediv_of_nonneg (by omega)]; omega
      have d2 : ((lo : Int) + (hi : Int)) / 2 = (m : Int) := by omega
      have hml : lo ≤ m := by omega
      have hmh : m < hi := by omega
      have HM : Hid (lo ≤ m ∧ m < hi) := ⟨hml, hmh⟩
      have hmb : (m : Int) ≤ 1048576 := by omega
      have hsqb : (2 * m + 1) * (2 * m + 1) ≤ 2097153 * 2097153 := Nat.mul_le_mul (by omega) (by omega)
      obtain ⟨sq, hsq⟩ : ∃ sq : Nat, (2 * m + 1) * (2 * m + 1) = sq := ⟨_, rfl⟩
      have e1 : (2 * (m : Int) + 1) * (2 * (m : Int) + 1) = (sq : Int) := by rw [← hsq]; simp
      have e2 : IntKind.i64.wrap ((2 * (m : Int) + 1) * (2 * (m : Int) + 1)) = (sq : Int) := by rw [e1, IntKind.wrap_i64]; omega
      have HS : Hid ((2 * m + 1) * (2 * m + 1) = sq) := hsq
      clear hsq hsqb hm e1
      by_cases hgt : k < sq
      · have hgz : (sq : Int) > (k : Int) := by omega
        have hgd : decide (k < sq) = true := decide_eq_true hgt
        go_wp2
        go_roundg (m - lo)
        case measure => have := HM.out; omega
        case rel => exact ⟨lo, m, rfl, rfl, by omega, by omega, by omega, ⟨HI.out.1, by rw [HS.out]; exact hgt⟩, rfl⟩
      · have hgz : ¬ (sq : Int) > (k : Int) := by omega
        have hgd : decide (k < sq) = false := decide_eq_false hgt
        go_wp2
        go_roundg (hi - (m + 1))
        case measure => have := HM.out; omega
        case rel => exact ⟨m + 1, hi, by go_num, rfl, by omega, by omega, by omega, ⟨fun j hj => by have := HS.out; have := sq_mono (a := j) (b := m) (by omega); omega, HI.out.2⟩, rfl⟩
    · have hz : ¬ (lo : Int) < (hi : Int) := by omega
      obtain rfl : lo = hi := by omega
      go_wp2
      go_ret
      exact ⟨lo, rfl, h2, HI.out.2, HI.out.1, rfl⟩

theorem refApart_any (x y u v : Int) (hx : (x - u).natAbs ≤ 2 ^ 26) (hy : (y - v).natAbs ≤ 2 ^ 26) (w : World) :
    Calls Tryz.prog 79 #[.agg #[.int .i64 x, .int .i64 y], .agg #[.int .i64 u, .int .i64 v]] w fun e w' => e = .returned (.int .i64 (apM (x, y) (u, v))) ∧ ∃ os, w' = grow w os := by
  have hxx : ((x - u) * (x - u)).natAbs ≤ 2 ^ 52 := by rw [Int.natAbs_mul]; exact Nat.le_trans (Nat.mul_le_mul hx hx) (by decide)
  have hyy : ((y - v) * (y - v)).natAbs ≤ 2 ^ 52 := by rw [Int.natAbs_mul]; exact Nat.le_trans (Nat.mul_le_mul hy hy) (by decide)
  have d1 : IntKind.i64.wrap (x - u) = x - u := by rw [IntKind.wrap_i64]; omega
  have d2 : IntKind.i64.wrap (y - v) = y - v := by rw [IntKind.wrap_i64]; omega
  have d3 : IntKind.i64.wrap ((x - u) * (x - u)) = (x - u) * (x - u) := by rw [IntKind.wrap_i64]; omega
  have d4 : IntKind.i64.wrap ((y - v) * (y - v)) = (y - v) * (y - v) := by rw [IntKind.wrap_i64]; omega
  have d5 : IntKind.i64.wrap ((x - u) * (x - u) + (y - v) * (y - v)) = (x - u) * (x - u) + (y - v) * (y - v) := by rw [IntKind.wrap_i64]; omega
  unfold apM
  simp only
  clear hxx hyy hx hy
  go_enter Tryz.func79, Tryz.ntmps79
  go_wp2
  go_ret
  exact ⟨rfl, _, by rw [alloc_eq_grow, alloc_eq_grow, grow_grow]⟩
end Go.Proofs.YtdhhjdacidhmjaaGreat

/- The document's own answers for package plane: Spiral, Turn. -/
namespace Go.Proofs.YtdhhjdacidhmjaaGreat
open Go.RowKit Go.Shelf Go.Sort
set_option maxRecDepth 100000
set_option maxRecDepth 100000

theorem pointInfo : (Tryz.prog.info? 148).map (·.size) = some 2 := by kernel_rfl

set_option maxHeartbeats 1000000 in
theorem refSpiral_zero (k : Int) (hk : k < 1 ∨ k > 1099511627776) (w : World) :
    Calls Tryz.prog 78 #[.int .i64 k] w fun e w' => e = .returned (.agg #[.int .i64 0, .int .i64 0]) ∧ ∃ os, w' = grow w os := by
  by_cases h1 : k < 1
  · go_enter Tryz.func78, Tryz.ntmps78
    go_wp2
    refine bodyPost_ret_by (v := .agg #[.int .i64 0, .int .i64 0]) (results_cell_row rfl _ _ w.heap.size 148 #[.int .i64 0, .int .i64 0] (0, 0) _ rfl (heap_alloc_new w _) Tryz.underlying148 rfl pointInfo) rfl ⟨rfl, _, alloc_eq_grow _ _⟩
  · have h2 : k > 1099511627776 := by omega
    go_enter Tryz.func78, Tryz.ntmps78
    go_wp2
    refine bodyPost_ret_by (v := .agg #[.int .i64 0, .int .i64 0]) (results_cell_row rfl _ _ w.heap.size 148 #[.int .i64 0, .int .i64 0] (0, 0) _ rfl (heap_alloc_new w _) Tryz.underlying148 rfl pointInfo) rfl ⟨rfl, _, alloc_eq_grow _ _⟩

set_option maxHeartbeats 4000000 in
theorem refSpiral_in (k : Nat) (hk1 : 1 ≤ k) (hk : k ≤ 1099511627776) (w : World) :
    Calls Tryz.prog 78 #[.int .i64 k] w fun e w' => e = .returned (.agg #[.int .i64 (spM k).1, .int .i64 (spM k).2]) ∧ ∃ os, w' = grow w os := by
  have hz1 : ¬ (k : Int) < 1 := by omega
  have hz2 : ¬ (k : Int) > 1099511627776 := by omega
  go_enter Tryz.func78, Tryz.ntmps78
  go_wp2_with fail
  refine (ring_any k hk _).mono ?_
  rintro e w1 ⟨r, rfl, hr, hlo, hall, rfl⟩
  obtain ⟨h, hh⟩ : ∃ h, r = h + 1 := ⟨r - 1, by
    rcases Nat.eq_zero_or_pos r with e | e
    · subst e; simp at hlo; omega
    · omega⟩
  have hsq : (2 * h + 1) * (2 * h + 1) ≤ k := hall h (by omega)
  have e1 : (2 * h + 1) * (2 * h + 1) = 4 * (h * h) + 4 * h + 1 := by grind
  have e2 : (2 * r + 1) * (2 * r + 1) = 4 * (h * h) + 12 * h + 9 := by rw [hh]; grind
  obtain ⟨m, hm⟩ : ∃ m, k = 4 * (h * h) + 4 * h + 1 + m := ⟨k - (4 * (h * h) + 4 * h + 1), by omega⟩
  have hm8 : m < 8 * h + 8 := by omega
  have hR := ref_sp h k m hm hm8
  obtain ⟨u, hu⟩ : ∃ u : Nat, u = 2 * h + 1 := ⟨_, rfl⟩
  obtain ⟨sq, hsq'⟩ : ∃ sq : Nat, sq = (2 * h + 1) * (2 * h + 1) := ⟨_, rfl⟩
  have hub : u ≤ 2097152 := by omega
  have f1 : 2 * (r : Int) - 1 = (u : Int) := by omega
  have f2 : (u : Int) * (u : Int) = (sq : Int) := by rw [hsq', hu]; simp
  have hsqk : sq ≤ k := by omega
  have f3 : IntKind.i64.wrap ((u : Int) * (u : Int)) = (sq : Int) := by rw [f2, IntKind.wrap_i64]; omega
  have f4 : (k : Int) - (sq : Int) = (m : Int) := by omega
  obtain ⟨q, hq⟩ : ∃ q : Nat, q = m / (2 * h + 2) := ⟨_, rfl⟩
  have f5 : (m : Int).tdiv (2 * (r : Int)) = (q : Int) := by
    rw [Int.tdiv_eq_ediv_of_nonneg (by omega), hq]
    have : (2 * (r : Int)) = ((2 * h + 2 : Nat) : Int) := by omega
    rw [this]; rfl
  have f6 : (m : Int) / (2 * (r : Int)) = (q : Int) := by rw [← f5, Int.tdiv_eq_ediv_of_nonneg (by omega)]
  have hq3 : q ≤ 3 := by rw [hq]; exact Nat.lt_succ_iff.1 (Nat.div_lt_of_lt_mul (by omega))
  rw [← hq] at hR
  have hrr : ((h : Int) + 1) = (r : Int) := by omega
  rw [hrr] at hR
  have hmb : (m : Int) ≤ 9000000 := by omega
  have hrb : (r : Int) ≤ 1048576 := by omega
  have hr1 : (1 : Int) ≤ (r : Int) := by omega
  have hnz : ¬ 2 * (r : Int) = 0 := by omega
  have HR : Hid (refM (r : Int) m (q : Int) = spM k) := hR
  clear hR hm8 hm e1 e2 hsq hu hsq' hq hrr hh hlo hall f2
  rcases (show q = 0 ∨ q = 1 ∨ q = 2 ∨ q = 3 by omega) with rfl | rfl | rfl | rfl
  all_goals
    have H2 := HR
    clear HR
    go_wp2
    refine bodyPost_ret_by (results_cell_row rfl _ _ w.heap.size 148 _ (0, 0) _ rfl (heap_alloc_new w _) Tryz.underlying148 rfl pointInfo) rfl ⟨?_, _, alloc_eq_grow _ _⟩
    rw [← H2.out]
    rfl

theorem refSpiral_any (k : Int) (w : World) :
    Calls Tryz.prog 78 #[.int .i64 k] w fun e w' => e = .returned (.agg #[.int .i64 (spZ k).1, .int .i64 (spZ k).2]) ∧ ∃ os, w' = grow w os := by
  by_cases h : k < 1 ∨ k > 1099511627776
  · have e : spZ k = (0, 0) := by
      unfold spZ
      by_cases h' : k < 0 ∨ k > 1099511627776
      · rw [if_pos h']
      · rw [if_neg h', show k.toNat = 0 by omega]; decide
    rw [e]
    exact refSpiral_zero k h w
  · have e : spZ k = spM k.toNat := by unfold spZ; rw [if_neg (by omega)]
    rw [e]
    have := refSpiral_in k.toNat (by omega) (by omega) w
    rwa [show ((k.toNat : Nat) : Int) = k by omega] at this

set_option maxHeartbeats 4000000 in
theorem refTurn_any (x y q : Int) (hx : x.natAbs ≤ 2 ^ 30) (hy : y.natAbs ≤ 2 ^ 30) (w : World) :
    Calls Tryz.prog 77 #[.agg #[.int .i64 x, .int .i64 y], .int .i64 q] w fun e w' => e = .returned (.agg #[.int .i64 (turnN (q % 4).toNat (x, y)).1, .int .i64 (turnN (q % 4).toNat (x, y)).2]) ∧ RowKit.Below w.heap.size w w' := by
  obtain ⟨n0, hn0⟩ : ∃ n0, q.tmod 4 = n0 := ⟨_, rfl⟩
  have hb0 : n0.natAbs < 4 := by rw [← hn0, Int.natAbs_tmod]; exact Nat.mod_lt _ (by decide)
  have hmod : (n0 % 4).toNat = (q % 4).toNat := by have := Int.tmod_def q 4; omega
  rw [← hmod]
  clear hmod
  have bb : RowKit.Below w.heap.size w ((w.alloc (.cells #[.int .i64 x, .int .i64 y] 148)).alloc (.cells #[.int .i64 0, .int .i64 0] 148)) := ((RowKit.Below.refl _ _).alloc (Nat.le_refl _) _).alloc (by simp) _
  have e1 : (w.alloc (.cells #[.int .i64 x, .int .i64 y] 148)).heap.size = w.heap.size + 1 := by simp
  have hp : ((w.alloc (.cells #[.int .i64 x, .int .i64 y] 148)).alloc (.cells #[.int .i64 0, .int .i64 0] 148)).rowIs w.heap.size 148 2 (fun i => if i = 0 then .int .i64 x else .int .i64 y) :=
    (World.rowIs_alloc w #[.int .i64 x, .int .i64 y] 148 _ (fun i hi => by
      have : i = 0 ∨ i = 1 := by simp at hi; omega
      rcases this with rfl | rfl <;> rfl)).alloc _
  have hr := World.rowIs_alloc (w.alloc (.cells #[.int .i64 x, .int .i64 y] 148)) #[.int .i64 0, .int .i64 0] 148 (fun _ => .int .i64 0) (fun i hi => by
      have : i = 0 ∨ i = 1 := by simp at hi; omega
      rcases this with rfl | rfl <;> rfl)
  rw [e1] at hr
  clear e1
  go_enter Tryz.func77, Tryz.ntmps77
  go_wp2
  go_loopg [5] 4 (fun c s5 wr => ∃ (n u v : Int), s5 = .int .i64 n ∧ n.natAbs < 4 ∧ (n % 4).toNat ≤ c ∧ u.natAbs ≤ 2 ^ 30 ∧ v.natAbs ≤ 2 ^ 30 ∧ Hid (turnN (n % 4).toNat (u, v) = turnN (n0 % 4).toNat (x, y)) ∧ RowKit.Below w.heap.size w wr ∧
    wr.rowIs w.heap.size 148 2 (fun i => if i = 0 then .int .i64 u else .int .i64 v) ∧ wr.rowIs (w.heap.size + 1) 148 2 (fun _ => .int .i64 0))
  case atStart => exact ⟨n0, x, y, rfl, hb0, by omega, hx, hy, hideP rfl, bb, hp, hr⟩
  case round =>
    obtain ⟨n, u, v, rfl, hb, hc, hu, hv, HT, hB, hP, hR⟩ := hrel
    clear bb hp hr
    have p0 := hP.cell (i := 0) (by omega)
    have p1 := hP.cell (i := 1) (by omega)
    simp only [if_true, if_false, Nat.one_ne_zero] at p0 p1
    have z0 := hP.frozen 0
    have z1 := hP.frozen 1
    by_cases h0 : n = 0
    · have hne : (n != 0) = false := by rw [h0]; rfl
      have q0 := hR.cell (i := 0) (by omega)
      have q1 := hR.cell (i := 1) (by omega)
      have y0 := hR.frozen 0
      have y1 := hR.frozen 1
      have hR2 := (hR.set 0 (.int .i64 u)).set 1 (.int .i64 v)
      have hB2 : RowKit.Below w.heap.size w ((wr.setCell ⟨w.heap.size + 1, 0, none⟩ (.int .i64 u)).setCell ⟨w.heap.size + 1, 1, none⟩ (.int .i64 v)) := (hB.setCell (by simp) _).setCell (by simp) _
      obtain ⟨W2, hW2⟩ : ∃ W2, (wr.setCell ⟨w.heap.size + 1, 0, none⟩ (.int .i64 u)).setCell ⟨w.heap.size + 1, 1, none⟩ (.int .i64 v) = W2 := ⟨_, rfl⟩
      rw [hW2] at hR2 hB2
      have hheap : W2.heap[w.heap.size + 1]? = some (.cells #[.int .i64 u, .int .i64 v] 148 (0, 0)) := by
        obtain ⟨cs, hb', hn', hc'⟩ := hR2
        obtain ⟨a, b, rfl⟩ : ∃ a b, cs = #[a, b] := by
          obtain ⟨l⟩ := cs
          match l, hn' with
          | [a, b], _ => exact ⟨a, b, rfl⟩
        have k0 := hc' 0 (by omega)
        have k1 := hc' 1 (by omega)
        simp at k0 k1
        rw [hb', k0, k1]
      have HH : Hid (W2.heap[w.heap.size + 1]? = some (.cells #[.int .i64 u, .int .i64 v] 148 (0, 0))) := hheap
      have hans := HT.out
      rw [h0] at hans
      have HA : Hid ((u, v) = turnN (n0 % 4).toNat (x, y)) := hans
      clear hR hP hR2 hheap hans HT h0
      go_wp2
      refine bodyPost_ret_by (results_cell_row rfl _ _ (w.heap.size + 1) 148 #[.int .i64 u, .int .i64 v] (0, 0) _ rfl HH.out Tryz.underlying148 rfl pointInfo) rfl ⟨?_, hB2⟩
      rw [← HA.out]
    · have hne : (n != 0) = true := by simp [h0]
      obtain ⟨n1, hn1⟩ : ∃ n1, (n + 3).tmod 4 = n1 := ⟨_, rfl⟩
      have hb1 : n1.natAbs < 4 := by rw [← hn1, Int.natAbs_tmod]; exact Nat.mod_lt _ (by decide)
      have hm1 : (n1 % 4).toNat + 1 = (n % 4).toNat := by have := Int.tmod_def (n + 3) 4; omega
      have hP2 := (hP.set 0 (.int .i64 (-v))).set 1 (.int .i64 u)
      have hR2 : ((wr.setCell ⟨w.heap.size, 0, none⟩ (.int .i64 (-v))).setCell ⟨w.heap.size, 1, none⟩ (.int .i64 u)).rowIs (w.heap.size + 1) 148 2 (fun _ => .int .i64 0) := (hR.setOther (by simp) _).setOther (by simp) _
      have hB2 : RowKit.Below w.heap.size w ((wr.setCell ⟨w.heap.size, 0, none⟩ (.int .i64 (-v))).setCell ⟨w.heap.size, 1, none⟩ (.int .i64 u)) := (hB.setCell (by simp) _).setCell (by simp) _
      obtain ⟨W2, hW2⟩ : ∃ W2, (wr.setCell ⟨w.heap.size, 0, none⟩ (.int .i64 (-v))).setCell ⟨w.heap.size, 1, none⟩ (.int .i64 u) = W2 := ⟨_, rfl⟩
      rw [hW2] at hP2 hR2 hB2
      have hP3 : W2.rowIs w.heap.size 148 2 (fun i => if i = 0 then .int .i64 (-v) else .int .i64 u) := hP2.congr (fun i hi => by
        rcases (show i = 0 ∨ i = 1 by omega) with rfl | rfl <;> simp)
      have hT2 := HT.out
      rw [← hm1] at hT2
      have HT2 : Hid (turnN (n1 % 4).toNat (-v, u) = turnN (n0 % 4).toNat (x, y)) := hT2
      have hmz : n1.natAbs < 4 := hb1
      clear hR hP hP2 hT2 HT h0
      go_wp2
      go_roundg ((n1 % 4).toNat)
      case measure => omega
      case rel => exact ⟨n1, -v, u, rfl, hmz, Nat.le_refl _, by omega, hu, HT2, hB2, hP3, hR2⟩
end Go.Proofs.YtdhhjdacidhmjaaGreat

/- The copies of each shard in each cluster, and the squares: a table, checked by reckoning. -/
namespace Go.Proofs.YtdhhjdacidhmjaaGreat
open Go.RowKit Go.Shelf Go.Sort
set_option maxRecDepth 100000
set_option maxRecDepth 100000

def copTab : List (List (List Nat)) := [[[0], [0, 1], [0, 2, 1], [3, 0, 2, 1], [3, 0, 2, 4, 1], [3, 0, 2, 4, 1, 5], [3, 0, 2, 4, 1, 5, 6], [3, 0, 2, 4, 1, 5, 7, 6], [3, 0, 2, 4, 1, 5, 7, 6, 8]], [[0], [0, 1], [0, 2, 1], [3, 0, 2, 1], [4, 3, 0, 2, 1], [4, 3, 5, 0, 2, 1], [4, 3, 5, 0, 2, 6, 1], [4, 3, 5, 0, 2, 6, 1, 7], [4, 3, 5, 0, 2, 6, 1, 7, 8]], [[0], [0, 1], [0, 1, 2], [0, 3, 1, 2], [0, 4, 3, 1, 2], [5, 0, 4, 3, 1, 2], [5, 0, 4, 6, 3, 1, 2], [5, 0, 4, 6, 3, 7, 1, 2], [5, 0, 4, 6, 3, 7, 1, 2, 8]], [[0], [0, 1], [0, 1, 2], [0, 1, 3, 2], [0, 4, 1, 3, 2], [5, 0, 4, 1, 3, 2], [6, 5, 0, 4, 1, 3, 2], [6, 5, 7, 0, 4, 1, 3, 2], [6, 5, 7, 0, 4, 8, 1, 3, 2]], [[0], [0, 1], [0, 1, 2], [0, 1, 3, 2], [0, 1, 3, 2, 4], [0, 1, 5, 3, 2, 4], [0, 6, 1, 5, 3, 2, 4], [7, 0, 6, 1, 5, 3, 2, 4], [7, 0, 6, 8, 1, 5, 3, 2, 4]], [[0], [1, 0], [1, 0, 2], [1, 0, 2, 3], [1, 0, 2, 3, 4], [1, 0, 2, 3, 5, 4], [1, 0, 2, 6, 3, 5, 4], [1, 7, 0, 2, 6, 3, 5, 4], [8, 1, 7, 0, 2, 6, 3, 5, 4]], [[0], [1, 0], [1, 0, 2], [1, 0, 2, 3], [1, 0, 2, 3, 4], [1, 0, 2, 3, 5, 4], [1, 0, 2, 3, 5, 4, 6], [1, 0, 2, 3, 7, 5, 4, 6], [1, 0, 2, 8, 3, 7, 5, 4, 6]], [[0], [1, 0], [2, 1, 0], [2, 1, 3, 0], [2, 1, 3, 0, 4], [2, 1, 3, 0, 4, 5], [2, 1, 3, 0, 4, 5, 6], [2, 1, 3, 0, 4, 5, 7, 6], [2, 1, 3, 0, 4, 8, 5, 7, 6]]]
def apTab : List (List Int) := [[1, 2, 1, 0, 1, 2, 5, 4, 5], [2, 5, 4, 1, 0, 1, 4, 5, 8], [1, 4, 5, 2, 1, 0, 1, 2, 5], [2, 5, 8, 5, 4, 1, 0, 1, 4], [1, 2, 5, 4, 5, 2, 1, 0, 1], [2, 1, 4, 5, 8, 5, 4, 1, 0], [1, 0, 1, 2, 5, 4, 5, 2, 1], [2, 1, 0, 1, 4, 5, 8, 5, 4]]
def cT (s n j : Nat) : Nat := ((copTab.getD s []).getD (n - 1) []).getD j 0
def dT (s j : Nat) : Int := (apTab.getD s []).getD j 0

theorem cT_eq : ∀ s, s < 8 → ∀ n, n < 10 → 1 ≤ n → ∀ j, j < n → copC s n j = cT s n j := by decide +kernel
theorem dT_eq : ∀ s, s < 8 → ∀ j, j < 9 → apD s j = dT s j := by decide +kernel
theorem cop_tab {s n j : Nat} (hs : s < 8) (h1 : 1 ≤ n) (h9 : n ≤ 9) (hj : j < n) : copN s n j = cT s n j := by
  rw [copN_eq]; exact cT_eq s hs n (by omega) h1 j hj
theorem cop_lt : ∀ s, s < 8 → ∀ n, n < 10 → ∀ j, j < n → cT s n j < n := by decide +kernel
theorem cop_ne : ∀ s, s < 8 → ∀ n, n < 10 → ∀ j, j < n → ∀ i, i < j → cT s n i ≠ cT s n j := by decide +kernel
set_option synthInstance.maxSize 2000 in
set_option synthInstance.maxHeartbeats 800000 in
theorem cop_up : ∀ s, s < 8 → ∀ n, n < 10 → ∀ i, i < n → i + 1 < n → dT s (cT s n i) ≤ dT s (cT s n (i + 1)) ∧ (dT s (cT s n i) = dT s (cT s n (i + 1)) → cT s n i < cT s n (i + 1)) := by decide +kernel
set_option synthInstance.maxSize 2000 in
set_option synthInstance.maxHeartbeats 800000 in
theorem cop_rest : ∀ s, s < 8 → ∀ n, n < 10 → ∀ c, c < n → ∀ m, m < n → (∀ i, i < c + 1 → cT s n i ≠ m) → dT s (cT s n c) ≤ dT s m ∧ (dT s m = dT s (cT s n c) → cT s n c < m) := by decide +kernel
end Go.Proofs.YtdhhjdacidhmjaaGreat

/- The document's own answers for package plane: Copies. -/
namespace Go.Proofs.YtdhhjdacidhmjaaGreat
open Go.RowKit Go.Shelf Go.Sort
set_option maxRecDepth 100000
set_option maxRecDepth 100000

theorem boolInfo : (Tryz.prog.info? 4).map (fun i => (i.zero, i.size, i.bytes)) = some (some (.bool false), 1, 1) := by kernel_rfl

/-- Is a node among the first so many? -/
def inB (s n i m : Nat) : Bool := (List.range i).any fun j => cT s n j == m
theorem inB_succ (s n i m : Nat) : inB s n (i + 1) m = (inB s n i m || cT s n i == m) := by unfold inB; rw [List.range_succ, List.any_append]; simp

/-- The nearest of the first k nodes that are left; none: -1. -/
def selM (s n j : Nat) : Nat → Int
  | 0 => -1
  | k + 1 => if inB s n j k = false ∧ (selM s n j k < 0 ∨ dT s k < dT s (selM s n j k).toNat) then (k : Int) else selM s n j k
theorem sel_end : ∀ s, s < 8 → ∀ n, n < 10 → ∀ j, j < n → selM s n j n = (cT s n j : Int) := by decide +kernel
theorem sel_le (s n j : Nat) : ∀ k, -1 ≤ selM s n j k ∧ selM s n j k < k
  | 0 => by simp [selM]
  | k + 1 => by
    have := sel_le s n j k
    unfold selM
    split <;> omega

structure RC (w : World) (ab ub s n j : Nat) (lv : Value) (W : World) : Prop where
  pt : ∃ cur, W.heap[ab]? = some (.cells cur 148 (0, 0))
  below : RowKit.Below w.heap.size w W
  a0 : W.cell? ⟨ab, 0, none⟩ = some (.int .i64 (shardM s).1)
  a1 : W.cell? ⟨ab, 1, none⟩ = some (.int .i64 (shardM s).2)
  row : W.rowIs ub 4 n (fun m => .bool (inB s n j m))
  own : W.ownsRow w.heap.size 3 1 lv j ((List.range j).map fun i => .int .i64 (cT s n i : Nat))
theorem RC.on {w : World} {ab ub s n j : Nat} {lv : Value} {W W' : World} (h : RC w ab ub s n j lv W) (hb : RowKit.Below W.heap.size W W') : RC w ab ub s n j lv W' :=
  ⟨by obtain ⟨cur, hc⟩ := h.pt; exact ⟨cur, (hb.block _ (Array.getElem?_eq_some_iff.1 hc).1).trans hc⟩, h.below.trans (hb.mono h.below.size), below_cell hb h.a0, below_cell hb h.a1, h.row.of_block (hb.block _ h.row.lt), fown_block h.own (fun b e => hb.block b (h.own.lt b e).2)⟩

theorem refCopies_bad (s n c : Int) (hb : ¬ goodM s n c) (w : World) : Calls Tryz.prog 50 #[.int .i64 s, .int .i64 n, .int .i64 c] w fun e w' => e = .returned (.tuple #[.slice none 0 0, .int .i64 30]) ∧ w' = w := by
  by_cases h1 : n < 1
  · go_enter Tryz.func50, Tryz.ntmps50
    go_wp2
    go_ret2
    exact ⟨rfl, rfl⟩
  by_cases h2 : n > 9
  · go_enter Tryz.func50, Tryz.ntmps50
    go_wp2
    go_ret2
    exact ⟨rfl, rfl⟩
  by_cases h3 : c < 1
  · go_enter Tryz.func50, Tryz.ntmps50
    go_wp2
    go_ret2
    exact ⟨rfl, rfl⟩
  by_cases h4 : c > 7
  · go_enter Tryz.func50, Tryz.ntmps50
    go_wp2
    go_ret2
    exact ⟨rfl, rfl⟩
  have ht : c.tmod 2 = c % 2 := Int.tmod_eq_emod_of_nonneg (by omega)
  by_cases h5 : c % 2 = 0
  · have ht0 : (c.tmod 2 == 0) = true := by rw [ht, h5]; rfl
    have ht1 : (c % 2 == 0) = true := by rw [h5]; rfl
    clear ht h5
    go_enter Tryz.func50, Tryz.ntmps50
    go_wp2
    go_ret2
    exact ⟨rfl, rfl⟩
  have ht0 : (c.tmod 2 == 0) = false := by rw [ht]; exact beq_eq_false_iff_ne.2 h5
  have ht1 : (c % 2 == 0) = false := beq_eq_false_iff_ne.2 h5
  clear ht
  by_cases h6 : c > n
  · clear h5
    go_enter Tryz.func50, Tryz.ntmps50
    go_wp2
    go_ret2
    exact ⟨rfl, rfl⟩
  by_cases h7 : s < 0
  · clear h5
    go_enter Tryz.func50, Tryz.ntmps50
    go_wp2
    go_ret2
    exact ⟨rfl, rfl⟩
  have h8 : s ≥ 8 := by
    by_cases h8 : s < 8
    · exact absurd ⟨by omega, by omega, by omega, by omega, by omega, by omega, by omega, by omega⟩ hb
    · omega
  clear h5 hb
  go_enter Tryz.func50, Tryz.ntmps50
  go_wp2
  go_ret2
  exact ⟨rfl, rfl⟩

theorem wpList_app {P : Program} {w w' : World} {ops : Array Oper} {rest : List Oper} {o : Oper} {a : Act} {Q : Exit → Act → World → Prop} (hgd : o.guard = none) (s x : Operand) (t : TypeId)
    (ho : o.op = .call { callee := .builtin .append, args := #[s, x], argTypes := #[t, t] }) (v u v' : Value) (hs : a.eval s = v) (hx : a.eval x = u)
    (hrun : (Builtin.append_ #[t, t] o.type #[v, u]).run P w = .ok v' w') (h : wpList P ops Q rest (a.put o.dst v') w') : wpList P ops Q (o :: rest) a w := by
  refine wpList_plain hgd fun K hK => ?_
  unfold Oper.wp
  simp [execOp, ho, resolve, invoke, builtin, hs, hx, hrun, Result.andThen]
  exact hK _ _ h

set_option maxHeartbeats 8000000 in
theorem refCopies_any (s n c : Nat) (hg : goodM s n c) (w : World) : Calls Tryz.prog 50 #[.int .i64 s, .int .i64 n, .int .i64 c] w fun e w' =>
    ∃ v, e = .returned (.tuple #[v, .int .i64 0]) ∧ w'.ownsRow w.heap.size 3 1 v c ((List.range c).map fun j => .int .i64 (cT s n j : Nat)) ∧ RowKit.Below w.heap.size w w' := by
  obtain ⟨g1, g2, g3, g4, g5, g6, g7, g8⟩ := hg
  have k1 : ¬ (n : Int) < 1 := by omega
  have k2 : ¬ (n : Int) > 9 := by omega
  have k3 : ¬ (c : Int) < 1 := by omega
  have k4 : ¬ (c : Int) > 7 := by omega
  have k5 : ((c : Int).tmod 2 == 0) = false := by rw [Int.tmod_eq_emod_of_nonneg (by omega)]; exact beq_eq_false_iff_ne.2 (by omega)
  have k5' : ((c : Int) % 2 == 0) = false := beq_eq_false_iff_ne.2 (by omega)
  have k6 : ¬ (c : Int) > (n : Int) := by omega
  have k7 : ¬ (s : Int) < 0 := by omega
  have k8 : ¬ (s : Int) ≥ 8 := by omega
  have hs8 : s < 8 := by omega
  have hn9 : n ≤ 9 := by omega
  have hcn : c ≤ n := by omega
  have hn1 : 1 ≤ n := by omega
  clear g1 g2 g3 g4 g5 g6 g7 g8
  have mixed : Tryz.prog.follows .mixedOrders = true := by kernel_rfl
  obtain ⟨r1, r2⟩ := sp_near (s + 1) (by omega)
  have hsp := fun w => refSpiral_in (s + 1) (by omega) (by omega) w
  have e1 : ((s + 1 : Nat) : Int) = (s : Int) + 1 := by omega
  rw [e1] at hsp
  go_enter Tryz.func50, Tryz.ntmps50
  go_wp2_with fail
  refine (hsp _).mono ?_
  rintro e w1 ⟨rfl, os1, hw1⟩
  have b1 : RowKit.Below w.heap.size w w1 := hw1 ▸ below_grow _ w 0 os1 (Nat.le_refl _)
  clear hw1
  go_wp2_with fail
  refine (refTurn_any _ _ 1 (by omega) (by omega) _).mono ?_
  rintro e w2 ⟨rfl, b2⟩
  have hat : turnN (1 % 4 : Int).toNat ((spM (s + 1)).1, (spM (s + 1)).2) = shardM s := rfl
  rw [hat]
  have b12 := b1.trans (b2.mono b1.size)
  clear hsp b1 b2 hat e1
  obtain ⟨W2, hW2⟩ : ∃ W2, w2.alloc (.cells #[.int .i64 (shardM s).1, .int .i64 (shardM s).2] 148) = W2 := ⟨_, rfl⟩
  have hmk := run_make_row' (P := Tryz.prog) 151 4 (.bool false) 1 Tryz.underlying151 boolInfo rfl .i64 .i64 n (by omega) (by omega) W2
  obtain ⟨W3, hW3⟩ : ∃ W3, W2.alloc (.cells (madeCells #[.bool false] n) 4) = W3 := ⟨_, rfl⟩
  have a0 : W2.cell? ⟨w2.heap.size, 0, none⟩ = some (.int .i64 (shardM s).1) := by rw [← hW2]; exact World.cell?_alloc_at (w := w2) _ _ _ 0 rfl
  have a1 : W2.cell? ⟨w2.heap.size, 1, none⟩ = some (.int .i64 (shardM s).2) := by rw [← hW2]; exact World.cell?_alloc_at (w := w2) _ _ _ 1 rfl
  have bW2 : RowKit.Below w.heap.size w W2 := by rw [← hW2]; exact b12.alloc b12.size _
  have hpt0 : W2.heap[w2.heap.size]? = some (.cells #[.int .i64 (shardM s).1, .int .i64 (shardM s).2] 148 (0, 0)) := by rw [← hW2]; exact heap_alloc_new w2 _
  have hS : RC w w2.heap.size W2.heap.size s n 0 (.slice none 0 0) W3 := by
    rw [← hW3]
    exact ⟨⟨_, (Below.heap_alloc _ _ _ (World.block_lt_of_cell? _ _ a0)).trans hpt0⟩, bW2.alloc bW2.size _, by rw [alloc_keeps _ _ _ _ (World.block_lt_of_cell? _ _ a0)]; exact a0, by rw [alloc_keeps _ _ _ _ (World.block_lt_of_cell? _ _ a1)]; exact a1, World.rowIs_made W2 (.bool false) n 4, World.ownsRow_nil _ _ _ _⟩
  rw [hW3] at hmk
  have hub : w.heap.size ≤ W2.heap.size := bW2.size
  clear a0 a1 bW2 b12 hW3
  have hab : w2.heap.size ≠ W2.heap.size := by rw [← hW2]; simp
  have hcz : (c : Int) ≤ 7 := by omega
  have hnz : (n : Int) ≤ 9 := by omega
  go_wp2_with fail
  go_loopg [10, 11, 12] c (fun q s10 s11 s12 wr => ∃ (j : Nat) (lv : Value), lv = s10 ∧ j ≤ c ∧ q = c - j ∧ RC w w2.heap.size W2.heap.size s n j lv wr)
  case atStart => exact ⟨0, _, rfl, Nat.zero_le _, rfl, hS⟩
  case round =>
    obtain ⟨j, lv, rfl, hj, rfl, hC⟩ := hrel
    clear hS hmk
    obtain ⟨la, lc, rfl, hlc, _⟩ := fown_slice hC.own
    by_cases hlt : j < c
    · have hjz : (j : Int) < (c : Int) := by omega
      have HE := sel_end s hs8 n (by omega) j (by omega)
      have HE' : Hid (selM s n j n = (cT s n j : Int)) := HE
      have hLn := cop_lt s hs8 n (by omega) j (by omega)
      have HLn : Hid (cT s n j < n) := hLn
      clear HE hLn
      go_wp2_with fail
      go_loopg [11, 12] n (fun q s11 s12 wx => ∃ k : Nat, k ≤ n ∧ q = n - k ∧ s11 = .int .i64 (selM s n j k) ∧ s12 = .int .i64 k ∧ RC w w2.heap.size W2.heap.size s n j (.slice la j lc) wx)
      case atStart => exact ⟨0, Nat.zero_le _, rfl, rfl, rfl, hC⟩
      case round =>
        obtain ⟨k, hk, rfl, rfl, rfl, hK⟩ := hrel
        clear hC
        by_cases hkn : k < n
        · have hkz : (k : Int) < (n : Int) := by omega
          have hin := hK.row.cell hkn
          obtain ⟨sl1, sl2⟩ := sel_le s n j k
          have hsel : selM s n j (k + 1) = if inB s n j k = false ∧ (selM s n j k < 0 ∨ dT s k < dT s (selM s n j k).toNat) then (k : Int) else selM s n j k := rfl
          obtain ⟨b0, hb0⟩ : ∃ b0, selM s n j k = b0 := ⟨_, rfl⟩
          rw [hb0] at hsel sl1 sl2
          rw [hb0]
          have gi : ∀ q os, (grow (wr.drewN q) os).cell? ⟨W2.heap.size, k, none⟩ = _ := fun q os => cell_grown (World.block_lt_of_cell? _ _ hin) hin q os
          have ga0 : ∀ q os, (grow (wr.drewN q) os).cell? ⟨w2.heap.size, 0, none⟩ = _ := fun q os => cell_grown (World.block_lt_of_cell? _ _ hK.a0) hK.a0 q os
          have ga1 : ∀ q os, (grow (wr.drewN q) os).cell? ⟨w2.heap.size, 1, none⟩ = _ := fun q os => cell_grown (World.block_lt_of_cell? _ _ hK.a1) hK.a1 q os
          have HK : Hid (∀ q os, RC w w2.heap.size W2.heap.size s n j (.slice la j lc) (grow (wr.drewN q) os)) := fun q os => hK.on (below_grow _ wr q os (Nat.le_refl _))
          have HS : Hid (selM s n j (k + 1) = if inB s n j k = false ∧ (b0 < 0 ∨ dT s k < dT s b0.toNat) then (k : Int) else b0) := hsel
          clear hsel hK hin
          cases hb : inB s n j k with
          | true =>
            rw [hb] at gi HS
            have hs1 : selM s n j (k + 1) = b0 := by rw [HS.out, if_neg (by simp)]
            have HS1 : Hid (selM s n j (k + 1) = b0) := hs1
            clear hs1 HS hb
            go_wp2_with fail
            refine wp_region_quiet_grown mixed (by kernel_rfl) ?_
            repeat (go_big_quiet_step (fail))
            refine wpQuiet_nil ?_
            intro _ hw'
            obtain ⟨⟨nq, osq⟩, hw''⟩ := hw'
            subst hw''
            have hN := HK.out nq osq
            show Exit.then _ _ Exit.normal _ (grow (wr.drewN nq) osq)
            go_wp2_with fail
            go_roundg (n - (k + 1))
            case measure => omega
            case rel => exact ⟨k + 1, by omega, rfl, by rw [HS1.out], by go_num, hN⟩
          | false =>
            rw [hb] at gi HS
            by_cases hneg : b0 < 0
            · have hs1 : selM s n j (k + 1) = (k : Int) := by rw [HS.out, if_pos ⟨rfl, .inl hneg⟩]
              have HS1 : Hid (selM s n j (k + 1) = (k : Int)) := hs1
              clear hs1 HS hb
              go_wp2_with fail
              have t1 : ∀ w, (binOp .lss 3 (.int .i64 b0) (.int .i64 0)).run Tryz.prog w = .ok (.bool true) w := fun w => by go_simp
              refine wp_region_quiet_grown mixed (by kernel_rfl) ?_
              repeat (go_big_quiet_step (fail))
              refine wpQuiet_nil ?_
              intro _ hw'
              obtain ⟨⟨nq, osq⟩, hw''⟩ := hw'
              subst hw''
              have hN := HK.out nq osq
              show Exit.then _ _ Exit.normal _ (grow (wr.drewN nq) osq)
              go_wp2_with fail
              go_roundg (n - (k + 1))
              case measure => omega
              case rel => exact ⟨k + 1, by omega, rfl, by rw [HS1.out], by go_num, hN⟩
            · obtain ⟨b, rfl⟩ : ∃ b : Nat, b0 = b := ⟨b0.toNat, by omega⟩
              have hb9 : b < 9 := by omega
              have hk9 : k < 9 := by omega
              obtain ⟨z1, z2⟩ := sp_near k (by omega)
              obtain ⟨z3, z4⟩ := sp_near b (by omega)
              have hsh : (shardM s).1.natAbs ≤ 2097151 ∧ (shardM s).2.natAbs ≤ 2097151 := by
                show (-(spM (s + 1)).2).natAbs ≤ _ ∧ (spM (s + 1)).1.natAbs ≤ _
                omega
              have c1 : ∀ W, Calls Tryz.prog 78 #[.int .i64 (k : Int)] W fun e w' => e = .returned (.agg #[.int .i64 (spM k).1, .int .i64 (spM k).2]) ∧ ∃ q os, w' = grow (W.drewN q) os := fun W => (refSpiral_any k W).mono fun _ _ ⟨he, os, hw⟩ => ⟨by rw [he, spZ_nat k (by omega)], 0, os, hw⟩
              have c2 : ∀ W, Calls Tryz.prog 78 #[.int .i64 (b : Int)] W fun e w' => e = .returned (.agg #[.int .i64 (spM b).1, .int .i64 (spM b).2]) ∧ ∃ q os, w' = grow (W.drewN q) os := fun W => (refSpiral_any b W).mono fun _ _ ⟨he, os, hw⟩ => ⟨by rw [he, spZ_nat b (by omega)], 0, os, hw⟩
              have c3 : ∀ W, Calls Tryz.prog 79 #[.agg #[.int .i64 (spM k).1, .int .i64 (spM k).2], .agg #[.int .i64 (shardM s).1, .int .i64 (shardM s).2]] W fun e w' => e = .returned (.int .i64 (dT s k)) ∧ ∃ q os, w' = grow (W.drewN q) os := fun W => (refApart_any _ _ _ _ (by omega) (by omega) W).mono fun _ _ ⟨he, os, hw⟩ => ⟨by rw [he, ← dT_eq s hs8 k hk9]; rfl, 0, os, hw⟩
              have c4 : ∀ W, Calls Tryz.prog 79 #[.agg #[.int .i64 (spM b).1, .int .i64 (spM b).2], .agg #[.int .i64 (shardM s).1, .int .i64 (shardM s).2]] W fun e w' => e = .returned (.int .i64 (dT s b)) ∧ ∃ q os, w' = grow (W.drewN q) os := fun W => (refApart_any _ _ _ _ (by omega) (by omega) W).mono fun _ _ ⟨he, os, hw⟩ => ⟨by rw [he, ← dT_eq s hs8 b hb9]; rfl, 0, os, hw⟩
              have HS2 : Hid (selM s n j (k + 1) = if dT s k < dT s b then (k : Int) else (b : Int)) := by
                show _ = _
                rw [HS.out]
                simp only [hneg, false_or, Int.toNat_natCast, true_and]
              clear z1 z2 z3 z4 hsh HS hb
              by_cases hd : dT s k < dT s b
              · have hs1 : selM s n j (k + 1) = (k : Int) := by rw [HS2.out, if_pos hd]
                have HS1 : Hid (selM s n j (k + 1) = (k : Int)) := hs1
                clear hs1 HS2
                generalize dT s k = dk at *
                generalize dT s b = db at *
                go_wp2_with fail
                have y1 : decide ((b : Int) < 0) = false := decide_eq_false (by omega)
                have y2 : ¬ (b : Int) < 0 := by omega
                have t1 : ∀ w, (binOp .lss 3 (.int .i64 (b : Int)) (.int .i64 0)).run Tryz.prog w = .ok (.bool false) w := fun w => by go_simp
                have y3 : decide (dk < db) = true := decide_eq_true hd
                have t2 : ∀ w, (binOp .lss 3 (.int .i64 dk) (.int .i64 db)).run Tryz.prog w = .ok (.bool true) w := fun w => by go_simp
                refine wp_region_quiet_grown mixed (by kernel_rfl) ?_
                repeat (go_big_quiet_step (first | with_reducible exact Calls.grown_of (c1 _) | with_reducible exact Calls.grown_of (c2 _) | with_reducible exact Calls.grown_of (c3 _) | with_reducible exact Calls.grown_of (c4 _)))
                refine wpQuiet_nil ?_
                intro _ hw'
                obtain ⟨⟨nq, osq⟩, hw''⟩ := hw'
                subst hw''
                have hN := HK.out nq osq
                show Exit.then _ _ Exit.normal _ (grow (wr.drewN nq) osq)
                go_wp2_with fail
                go_roundg (n - (k + 1))
                case measure => omega
                case rel => exact ⟨k + 1, by omega, rfl, by rw [HS1.out], by go_num, hN⟩
              · have hs1 : selM s n j (k + 1) = (b : Int) := by rw [HS2.out, if_neg hd]
                have HS1 : Hid (selM s n j (k + 1) = (b : Int)) := hs1
                clear hs1 HS2
                generalize dT s k = dk at *
                generalize dT s b = db at *
                go_wp2_with fail
                have hd1 : ¬ dk < db := by omega
                have y1 : decide ((b : Int) < 0) = false := decide_eq_false (by omega)
                have y2 : ¬ (b : Int) < 0 := by omega
                have t1 : ∀ w, (binOp .lss 3 (.int .i64 (b : Int)) (.int .i64 0)).run Tryz.prog w = .ok (.bool false) w := fun w => by go_simp
                have y3 : decide (dk < db) = false := decide_eq_false hd1
                have t2 : ∀ w, (binOp .lss 3 (.int .i64 dk) (.int .i64 db)).run Tryz.prog w = .ok (.bool false) w := fun w => by go_simp
                refine wp_region_quiet_grown mixed (by kernel_rfl) ?_
                repeat (go_big_quiet_step (first | with_reducible exact Calls.grown_of (c1 _) | with_reducible exact Calls.grown_of (c2 _) | with_reducible exact Calls.grown_of (c3 _) | with_reducible exact Calls.grown_of (c4 _)))
                refine wpQuiet_nil ?_
                intro _ hw'
                obtain ⟨⟨nq, osq⟩, hw''⟩ := hw'
                subst hw''
                have hN := HK.out nq osq
                show Exit.then _ _ Exit.normal _ (grow (wr.drewN nq) osq)
                go_wp2_with fail
                go_roundg (n - (k + 1))
                case measure => omega
                case rel => exact ⟨k + 1, by omega, rfl, by rw [HS1.out], by go_num, hN⟩
        · have hkz : ¬ (k : Int) < (n : Int) := by omega
          obtain rfl : k = n := by omega
          rw [HE'.out]
          obtain ⟨L, hL⟩ : ∃ L, cT s k j = L := ⟨_, rfl⟩
          have hLk := HLn.out
          rw [hL] at hLk ⊢
          have hLz : (L : Int) < (k : Int) := by omega
          have hc0 := hK.row.cell hLk
          have hf0 := hK.row.frozen L
          have hne : ∀ b, (Value.slice la j lc).ownBlock = some b → b ≠ W2.heap.size := fun b hb e => by
            obtain ⟨cur, h1, _⟩ := hK.row
            rcases hK.own.2 with ⟨e0, _⟩ | ⟨q, cap, cur', e0, _, hq, _⟩
            · rw [e0] at hb; cases hb
            · rw [e0] at hb
              obtain rfl : q = b := by simpa [Value.ownBlock] using hb
              rw [← e, hq] at h1
              simp only [Option.some.injEq, Obj.cells.injEq] at h1
              exact absurd h1.2.1 (by decide)
          have hnp : ∀ b, (∃ cur, wr.heap[b]? = some (.cells cur 148 (0, 0))) → (Value.slice la j lc).ownBlock ≠ some b := fun b hb' hb => by
            obtain ⟨cur, h1⟩ := hb'
            rcases hK.own.2 with ⟨e0, _⟩ | ⟨q, cap, cur', e0, _, hq, _⟩
            · rw [e0] at hb; cases hb
            · rw [e0] at hb
              obtain rfl : q = b := by simpa [Value.ownBlock] using hb
              rw [hq] at h1
              simp only [Option.some.injEq, Obj.cells.injEq] at h1
              exact absurd h1.2.1 (by decide)
          have HPT : Hid (∃ cur, wr.heap[w2.heap.size]? = some (.cells cur 148 (0, 0))) := hK.pt
          obtain ⟨W5, hW5⟩ : ∃ W5, wr.setCell ⟨W2.heap.size, L, none⟩ (.bool true) = W5 := ⟨_, rfl⟩
          have hrow5 : W5.rowIs W2.heap.size 4 k (fun m => .bool (inB s k (j + 1) m)) := by
            rw [← hW5]
            refine (hK.row.set L (.bool true)).congr (fun m _ => ?_)
            rw [inB_succ, hL]
            by_cases e : m = L
            · rw [if_pos e, e]; simp
            · rw [if_neg e]
              have : (L == m) = false := beq_eq_false_iff_ne.2 (fun h => e h.symm)
              rw [this, Bool.or_false]
          have hown5 : W5.ownsRow w.heap.size 3 1 (.slice la j lc) j ((List.range j).map fun i => .int .i64 (cT s k i : Nat)) := by
            rw [← hW5]; exact fown_block hK.own (fun b hb => Below.heap_setCell _ _ _ _ (hne b hb))
          have hbel5 : RowKit.Below w.heap.size w W5 := by rw [← hW5]; exact hK.below.setCell hub _
          have ha05 : W5.cell? ⟨w2.heap.size, 0, none⟩ = some (.int .i64 (shardM s).1) := by
            rw [← hW5, World.cell?_of_block (w := wr) (a := ⟨w2.heap.size, 0, none⟩) (Below.heap_setCell _ _ _ _ hab)]; exact hK.a0
          have ha15 : W5.cell? ⟨w2.heap.size, 1, none⟩ = some (.int .i64 (shardM s).2) := by
            rw [← hW5, World.cell?_of_block (w := wr) (a := ⟨w2.heap.size, 1, none⟩) (Below.heap_setCell _ _ _ _ hab)]; exact hK.a1
          obtain ⟨v', W6, hrun, hown6, hg6, _⟩ := fapp_one (P := Tryz.prog) (y := .int .i64 (L : Int)) (t := 30) (ty := 30) Tryz.underlying30 intInfo rfl hown5 rfl (by omega) (by omega) hbel5.size
          have nn : ∀ b, (none : Option Nat) ≠ some b := fun _ e => by cases e
          have hC6 : RC w w2.heap.size W2.heap.size s k (j + 1) v' W6 := by
            refine ⟨by obtain ⟨cur, hc⟩ := HPT.out; exact ⟨cur, by rw [hg6.block _ (World.block_lt_of_cell? _ _ ha05) (hnp _ HPT.out) (nn _), ← hW5, Below.heap_setCell _ _ _ _ hab]; exact hc⟩, hbel5.trans (hg6.below w.heap.size hbel5.size (fun b e => (hown5.lt b e).1) (fun b e => absurd e (nn b))), ?_, ?_, ?_, ?_⟩
            · exact (World.cell?_of_block (w := W5) (a := ⟨w2.heap.size, 0, none⟩) (hg6.block _ (World.block_lt_of_cell? _ _ ha05) (hnp _ HPT.out) (nn _))).trans ha05
            · exact (World.cell?_of_block (w := W5) (a := ⟨w2.heap.size, 1, none⟩) (hg6.block _ (World.block_lt_of_cell? _ _ ha15) (hnp _ HPT.out) (nn _))).trans ha15
            · exact hrow5.of_block (hg6.block _ hrow5.lt (fun e => hne _ e rfl) (nn _))
            · rw [List.range_succ, List.map_append, List.map_cons, List.map_nil, hL]
              exact hown6
          have HR : Hid ((Builtin.append_ #[30, 30] 30 #[.slice la j lc, .slice (some ⟨W5.heap.size, 0, none⟩) 1 1]).run Tryz.prog (W5.alloc (.cells #[.int .i64 (L : Int)] 3)) = .ok v' W6) := hrun
          clear hrow5 hown5 hbel5 ha05 ha15 hown6 hg6 hrun hK hne nn
          go_wp2_with (at_builtin; refine wpList_app rfl _ _ 30 rfl _ _ _ (by rfl) (by rfl) HR.out ?_)
          go_roundg (c - (j + 1))
          case measure => omega
          case rel => exact ⟨j + 1, v', rfl, by omega, rfl, hC6⟩
    · have hjz : ¬ (j : Int) < (c : Int) := by omega
      obtain rfl : j = c := by omega
      go_wp2
      go_ret2
      exact ⟨_, rfl, hC.own, hC.below⟩
end Go.Proofs.YtdhhjdacidhmjaaGreat
