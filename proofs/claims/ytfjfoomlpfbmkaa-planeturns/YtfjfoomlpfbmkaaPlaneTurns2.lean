/- Stage 3's laws: PlaneTurns. -/
import Derived.Test.YtfjfoomlpfbmkaaPlaneTurns1
namespace Go.Proofs.Ytfjfoomlpfbmkaa
open Go.RowKit Go.Shelf Go.Sort
set_option maxRecDepth 100000
set_option maxRecDepth 100000

/-- What the law keeps in memory, and what was there. -/
structure Six (w : World) (bb pb qb : Nat) (A B px py qx qy : Int) (W : World) : Prop where
  below : RowKit.Below w.heap.size w W
  a : W.cell? ⟨bb, 4, none⟩ = some (.int .i64 A)
  b : W.cell? ⟨bb, 5, none⟩ = some (.int .i64 B)
  p0 : W.cell? ⟨pb, 0, none⟩ = some (.int .i64 px)
  p1 : W.cell? ⟨pb, 1, none⟩ = some (.int .i64 py)
  q0 : W.cell? ⟨qb, 0, none⟩ = some (.int .i64 qx)
  q1 : W.cell? ⟨qb, 1, none⟩ = some (.int .i64 qy)

theorem Six.on {w : World} {bb pb qb : Nat} {A B px py qx qy : Int} {W W' : World} (h : Six w bb pb qb A B px py qx qy W) (hb : RowKit.Below W.heap.size W W') : Six w bb pb qb A B px py qx qy W' :=
  ⟨h.below.trans (hb.mono h.below.size), below_cell hb h.a, below_cell hb h.b, below_cell hb h.p0, below_cell hb h.p1, below_cell hb h.q0, below_cell hb h.q1⟩
theorem Six.drew {w : World} {bb pb qb : Nat} {A B px py qx qy : Int} {W : World} (h : Six w bb pb qb A B px py qx qy W) : Six w bb pb qb A B px py qx qy W.drew :=
  ⟨h.below.drew, h.a, h.b, h.p0, h.p1, h.q0, h.q1⟩

set_option maxHeartbeats 4000000 in
theorem turns_any (PX PY QX QY A B : Int) (w : World) :
    Calls Try.prog 5 #[.agg #[.int .i64 PX, .int .i64 PY, .int .i64 QX, .int .i64 QY, .int .i64 A, .int .i64 B]] w fun e w' => e = .returned (.bool true) ∧ RowKit.Below w.heap.size w w' := by
  have hp := fun w => point_any PX PY w
  have hq := fun w => point_any QX QY w
  have bpx := nearZ_bound PX
  have bpy := nearZ_bound PY
  have bqx := nearZ_bound QX
  have bqy := nearZ_bound QY
  generalize nearZ PX = px at *
  generalize nearZ PY = py at *
  generalize nearZ QX = qx at *
  generalize nearZ QY = qy at *
  obtain ⟨W1, hW1⟩ : ∃ W1, w.alloc (.cells #[.int .i64 PX, .int .i64 PY, .int .i64 QX, .int .i64 QY, .int .i64 A, .int .i64 B] 46) = W1 := ⟨_, rfl⟩
  have k0 : W1.cell? ⟨w.heap.size, 0, none⟩ = some (.int .i64 PX) := by rw [← hW1]; exact World.cell?_alloc_at (w := w) _ _ _ 0 rfl
  have k1 : W1.cell? ⟨w.heap.size, 1, none⟩ = some (.int .i64 PY) := by rw [← hW1]; exact World.cell?_alloc_at (w := w) _ _ _ 1 rfl
  have k2 : W1.cell? ⟨w.heap.size, 2, none⟩ = some (.int .i64 QX) := by rw [← hW1]; exact World.cell?_alloc_at (w := w) _ _ _ 2 rfl
  have k3 : W1.cell? ⟨w.heap.size, 3, none⟩ = some (.int .i64 QY) := by rw [← hW1]; exact World.cell?_alloc_at (w := w) _ _ _ 3 rfl
  have k4 : W1.cell? ⟨w.heap.size, 4, none⟩ = some (.int .i64 A) := by rw [← hW1]; exact World.cell?_alloc_at (w := w) _ _ _ 4 rfl
  have k5 : W1.cell? ⟨w.heap.size, 5, none⟩ = some (.int .i64 B) := by rw [← hW1]; exact World.cell?_alloc_at (w := w) _ _ _ 5 rfl
  have b1 : RowKit.Below w.heap.size w W1 := by rw [← hW1]; exact (RowKit.Below.refl _ _).alloc (Nat.le_refl _) _
  go_enter Try.func5, Try.ntmps5
  go_wp2_with fail
  refine (hp _).mono ?_
  rintro e w1 ⟨za, zb, rfl, fza, fzb, c1⟩
  have b2 := b1.trans (c1.mono b1.size)
  have m2 := below_cell c1 k2
  have m3 := below_cell c1 k3
  have m4 := below_cell c1 k4
  have m5 := below_cell c1 k5
  clear k0 k1 k2 k3 k4 k5 hW1 c1
  obtain ⟨W2, hW2⟩ : ∃ W2, w1.alloc (.cells #[.int .i64 px, .int .i64 py] 40) = W2 := ⟨_, rfl⟩
  have al := fun b i v (h : w1.cell? ⟨b, i, none⟩ = some v) => (show W2.cell? ⟨b, i, none⟩ = some v by rw [← hW2, alloc_keeps _ _ _ _ (World.block_lt_of_cell? _ _ h)]; exact h)
  have n2 := al _ _ _ m2
  have n3 := al _ _ _ m3
  have n4 := al _ _ _ m4
  have n5 := al _ _ _ m5
  have p0 : W2.cell? ⟨w1.heap.size, 0, none⟩ = some (.int .i64 px) := by rw [← hW2]; exact World.cell?_alloc_at (w := w1) _ _ _ 0 rfl
  have p1 : W2.cell? ⟨w1.heap.size, 1, none⟩ = some (.int .i64 py) := by rw [← hW2]; exact World.cell?_alloc_at (w := w1) _ _ _ 1 rfl
  have b3 : RowKit.Below w.heap.size w W2 := by rw [← hW2]; exact b2.alloc b2.size _
  clear m2 m3 m4 m5 al b2
  go_wp2_with fail
  refine (hq _).mono ?_
  rintro e w2 ⟨ya, yb, rfl, fya, fyb, c2⟩
  have b4 := b3.trans (c2.mono b3.size)
  have r4 := below_cell c2 n4
  have r5 := below_cell c2 n5
  have r0 := below_cell c2 p0
  have r1 := below_cell c2 p1
  clear n2 n3 n4 n5 p0 p1 hW2 c2 b3
  obtain ⟨W3, hW3⟩ : ∃ W3, w2.alloc (.cells #[.int .i64 qx, .int .i64 qy] 40) = W3 := ⟨_, rfl⟩
  have al := fun b i v (h : w2.cell? ⟨b, i, none⟩ = some v) => (show W3.cell? ⟨b, i, none⟩ = some v by rw [← hW3, alloc_keeps _ _ _ _ (World.block_lt_of_cell? _ _ h)]; exact h)
  have hS : Six w w.heap.size w1.heap.size w2.heap.size A B px py qx qy W3 :=
    ⟨by rw [← hW3]; exact b4.alloc b4.size _, al _ _ _ r4, al _ _ _ r5, al _ _ _ r0, al _ _ _ r1, by rw [← hW3]; exact World.cell?_alloc_at (w := w2) _ _ _ 0 rfl, by rw [← hW3]; exact World.cell?_alloc_at (w := w2) _ _ _ 1 rfl⟩
  clear r0 r1 r4 r5 al b4 b1 hp hq
  have hap1 := fun w => apart_any fza fzb fya fyb (by omega) (by omega) w
  have hap2 := fun w => apart_any fya fyb fza fzb (by omega) (by omega) w
  rw [apM_comm] at hap2
  have hnn := apM_nonneg (px, py) (qx, qy)
  have hz := apM_zero (px, py) (qx, qy)
  obtain ⟨d, hd⟩ : ∃ d, apM (px, py) (qx, qy) = d := ⟨_, rfl⟩
  rw [hd] at hap1 hap2 hnn hz
  have hz' : (d == 0) = (px == qx && py == qy) := by
    by_cases e : d = 0
    · obtain ⟨e1, e2⟩ := hz.1 e
      have e1 : px = qx := e1
      have e2 : py = qy := e2
      rw [e, e1, e2]; simp
    · have : ¬ (px = qx ∧ py = qy) := fun h => e (hz.2 h)
      have e1 : (d == 0) = false := beq_eq_false_iff_ne.2 e
      rw [e1]
      by_cases h1 : px = qx
      · have h2 : ¬ py = qy := fun h2 => this ⟨h1, h2⟩
        simp [h1, h2]
      · simp [h1]
  have HD : Hid (apM (px, py) (qx, qy) = d) := hd
  have heq : ∀ w, (binOp .eql 40 (.agg #[.int .i64 px, .int .i64 py]) (.agg #[.int .i64 qx, .int .i64 qy])).run Try.prog w = .ok (.bool (d == 0)) w := fun w => by
    rw [hz']
    clear hz' hz hd hap1 hap2 hnn HD hS hW3 fza fzb fya fyb bpx bpy bqx bqy
    by_cases h1 : px = qx
    · have g1 : (px == qx) = true := beq_iff_eq.2 h1
      rw [g1]
      by_cases h2 : py = qy
      · have g2 : (py == qy) = true := beq_iff_eq.2 h2
        go_simp
      · have g2 : (py == qy) = false := beq_eq_false_iff_ne.2 h2
        go_simp
    · have g1 : (px == qx) = false := beq_eq_false_iff_ne.2 h1
      rw [g1]
      go_simp
  clear hd hz hz'
  have e0 := hS.p0
  have e1 := hS.p1
  have e2 := hS.q0
  have e3 := hS.q1
  go_wp2_with fail
  refine (hap1 _).mono ?_
  rintro e W3 ⟨rfl, rfl⟩
  go_wp2_with fail
  refine (hap2 _).mono ?_
  rintro e W3 ⟨rfl, rfl⟩
  have e4 := hS.a
  have e5 := hS.b
  go_wp2_with fail
  go_region_held3 (fun W => Six w w.heap.size w1.heap.size w2.heap.size A B px py qx qy W ∧ W.cell? ⟨w.heap.size, 4, none⟩ = some (.int .i64 A) ∧ W.cell? ⟨w.heap.size, 5, none⟩ = some (.int .i64 B))
    (first | exact ⟨hS, hS.a, hS.b⟩ | exact ⟨hS.drew, hS.a, hS.b⟩)
    (first | (go_at_call 10; first | (refine (turn_any _ ft1 ft2 _).mono ?_; rintro e w' ⟨ra, rb, rfl, fra, frb, rfl⟩) | (refine (turn_any _ fza fzb _).mono ?_; rintro e w' ⟨ta, tb, rfl, ft1, ft2, rfl⟩)))
  have hboth := turnN_both A B (px, py)
  obtain ⟨a4, hA4⟩ : ∃ a4, A.tmod 4 = a4 := ⟨_, rfl⟩
  obtain ⟨b4, hB4⟩ : ∃ b4, B.tmod 4 = b4 := ⟨_, rfl⟩
  have ba : a4.natAbs < 4 := by rw [← hA4, Int.natAbs_tmod]; exact Nat.mod_lt _ (by decide)
  have bb : b4.natAbs < 4 := by rw [← hB4, Int.natAbs_tmod]; exact Nat.mod_lt _ (by decide)
  rw [hA4, hB4] at hboth
  obtain ⟨s4, hs4⟩ : ∃ s4, a4 + b4 = s4 := ⟨_, rfl⟩
  have hwr : IntKind.i64.wrap (a4 + b4) = s4 := by rw [hs4, IntKind.wrap_i64]; omega
  rw [hs4] at hboth
  have c1 : ∀ W, Calls Try.prog 10 #[.complex .f64 za zb, .int .i64 s4] W fun e w' => ∃ u1 u2, e = .returned (.complex .f64 u1 u2) ∧ FloatKind.f64.format.order ra u1 = some .eq ∧ FloatKind.f64.format.order rb u2 = some .eq ∧ w' = W := fun W =>
    (turn_any s4 fza fzb W).mono fun _ _ ⟨u1, u2, e, g1, g2, h⟩ => by
      rw [← hboth] at g1 g2
      exact ⟨u1, u2, e, ord_eq fra g1, ord_eq frb g2, h⟩
  have c2 : ∀ W, Calls Try.prog 10 #[.complex .f64 za zb, .int .i64 A] W fun e w' => ∃ u1 u2, e = .returned (.complex .f64 u1 u2) ∧ Fl u1 (turnN (A % 4).toNat (px, py)).1 ∧ Fl u2 (turnN (A % 4).toNat (px, py)).2 ∧ w' = W := fun W => turn_any A fza fzb W
  have c3 : ∀ W, Calls Try.prog 10 #[.complex .f64 ya yb, .int .i64 A] W fun e w' => ∃ u1 u2, e = .returned (.complex .f64 u1 u2) ∧ Fl u1 (turnN (A % 4).toNat (qx, qy)).1 ∧ Fl u2 (turnN (A % 4).toNat (qx, qy)).2 ∧ w' = W := fun W => turn_any A fya fyb W
  obtain ⟨tb1, tb2⟩ := turnN_bound 33554432 (A % 4).toNat (px, py) bpx bpy
  obtain ⟨tb3, tb4⟩ := turnN_bound 33554432 (A % 4).toNat (qx, qy) bqx bqy
  have c4 : ∀ (u1 u2 v1 v2 : Nat) (W : World), Fl u1 (turnN (A % 4).toNat (px, py)).1 → Fl u2 (turnN (A % 4).toNat (px, py)).2 → Fl v1 (turnN (A % 4).toNat (qx, qy)).1 → Fl v2 (turnN (A % 4).toNat (qx, qy)).2 →
      Calls Try.prog 12 #[.complex .f64 u1 u2, .complex .f64 v1 v2] W fun e w' => e = .returned (.int .i64 d) ∧ w' = W := fun u1 u2 v1 v2 W g1 g2 g3 g4 => by
    have := apart_any g1 g2 g3 g4 (by omega) (by omega) W
    rwa [show apM ((turnN (A % 4).toNat (px, py)).1, (turnN (A % 4).toNat (px, py)).2) ((turnN (A % 4).toNat (qx, qy)).1, (turnN (A % 4).toNat (qx, qy)).2) = d from (apM_turn _ _ _).trans HD.out] at this
  clear hboth hs4 ft1 ft2 fra frb tb1 tb2 tb3 tb4 ba bb
  have hS := hS.drew
  have e4 := hS.a
  have e5 := hS.b
  have e0 := hS.p0
  have e1 := hS.p1
  generalize W3.drew = W4 at *
  go_wp2_with fail
  go_region_held3 (fun W => Six w w.heap.size w1.heap.size w2.heap.size A B px py qx qy W ∧ W.cell? ⟨w.heap.size, 4, none⟩ = some (.int .i64 A) ∧ W.cell? ⟨w.heap.size, 5, none⟩ = some (.int .i64 B))
    (first | exact ⟨hS, hS.a, hS.b⟩ | exact ⟨hS.drew, hS.a, hS.b⟩)
    (first
      | (go_at_call 10; first | (with_reducible refine (c1 _).mono ?_; rintro e w' ⟨u1, u2, rfl, o1, o2, rfl⟩) | (with_reducible refine (c2 _).mono ?_; rintro e w' ⟨v1, v2, rfl, g1, g2, rfl⟩) | (with_reducible refine (c3 _).mono ?_; rintro e w' ⟨v3, v4, rfl, g3, g4, rfl⟩))
      | (go_at_call 12; refine (c4 _ _ _ _ _ g1 g2 g3 g4).mono ?_; rintro e w' ⟨rfl, rfl⟩))
  have hS := hS.drew
  have e0 := hS.p0
  have e1 := hS.p1
  have hB5 := hS.below
  clear hS c1 c2 c3 c4 g1 g2 g3 g4 o1 o2 heq hap1 hap2 HD e4 e5 hA4 hB4 hwr
  generalize W4.drew = W5 at *
  go_wp2_with fail
  refine (turn_any 1 fza fzb _).mono ?_
  rintro e W5 ⟨la, lb, rfl, fla, flb, rfl⟩
  have hl : turnN (1 % 4 : Int).toNat (px, py) = (-py, px) := rfl
  rw [hl] at fla flb
  go_wp2_with fail
  refine (turn_any 2 fza fzb _).mono ?_
  rintro e W5 ⟨ha, hb, rfl, fha, fhb, rfl⟩
  have hh : turnN (2 % 4 : Int).toNat (px, py) = (-px, -py) := rfl
  rw [hh] at fha fhb
  go_wp2_with fail
  refine (turn_any 4 fza fzb _).mono ?_
  rintro e W5 ⟨u1, u2, rfl, g1, g2, rfl⟩
  have o1 := ord_eq g1 fza
  have o2 := ord_eq g2 fzb
  clear g1 g2
  go_wp2_with fail
  refine (turn_any (-1) fla flb _).mono ?_
  rintro e W5 ⟨u3, u4, rfl, g1, g2, rfl⟩
  have h3 : turnN (-1 % 4 : Int).toNat (-py, px) = (px, py) := by show (_, _) = _; simp
  rw [h3] at g1 g2
  have o3 := ord_eq g1 fza
  have o4 := ord_eq g2 fzb
  clear g1 g2
  go_wp2_with fail
  refine (turn_any 1 fla flb _).mono ?_
  rintro e W5 ⟨u5, u6, rfl, g1, g2, rfl⟩
  have h5 : turnN (1 % 4 : Int).toNat (-py, px) = (-px, -py) := rfl
  rw [h5] at g1 g2
  have o5 := ord_eq g1 fha
  have o6 := ord_eq g2 fhb
  clear g1 g2
  go_wp2_with fail
  refine (turn_any 2 fha fhb _).mono ?_
  rintro e W5 ⟨u7, u8, rfl, g1, g2, rfl⟩
  have h7 : turnN (2 % 4 : Int).toNat (-px, -py) = (px, py) := by show (_, _) = _; simp
  rw [h7] at g1 g2
  have o7 := ord_eq g1 fza
  have o8 := ord_eq g2 fzb
  clear g1 g2
  go_wp2_with fail
  refine (is_true fla flb _).mono ?_
  rintro e W6 ⟨rfl, b6⟩
  have hB6 := hB5.trans (b6.mono hB5.size)
  clear e0 e1
  go_wp2_with fail
  refine (wakes_any _).mono ?_
  rintro e W7 ⟨rfl, b7⟩
  go_wp2
  go_ret
  exact ⟨rfl, hB6.trans (b7.mono hB6.size)⟩
end Go.Proofs.Ytfjfoomlpfbmkaa
