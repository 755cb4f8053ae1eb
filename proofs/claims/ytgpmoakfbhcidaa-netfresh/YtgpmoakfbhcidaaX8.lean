/- The stage: fresh, told. -/
import Derived.Test.YtgpmoakfbhcidaaX7
namespace Go.Proofs.Ytgpmoakfbhcidaa
open Go.RowKit
set_option maxRecDepth 100000
set_option maxRecDepth 100000
section
variable {w w' : World} {B sb bk : Nat} {mark : Bool} {P : Nat → Option PM} {nv vv : Nat → Value} {F : Nat → Nat → Prop}
/-- What fresh leaves at its place. -/
def newP (r : Int) : Option PM := if 1 ≤ r ∧ r ≤ 8192 then some ⟨r.toNat, [], 0⟩ else none
/-- Two new pointers at the place k. -/
theorem StIs.put {w2 : World} (h : StIs w B sb bk mark P nv vv F) {k : Nat} (hk : k < 2) {m : Option PM} {x y : Value} {F' : Nat → Prop} (hb : Below w.heap.size w w2) (hp : PairIs w2 B m x y F') (hF : ∀ q, F' q → w.heap.size ≤ q) :
    (w2.cell? ⟨sb, k, none⟩).isSome = true ∧ w2.frozen? ⟨sb, k, none⟩ = false ∧ ((w2.setCell ⟨sb, k, none⟩ x).cell? ⟨sb, 2 + k, none⟩).isSome = true ∧ (w2.setCell ⟨sb, k, none⟩ x).frozen? ⟨sb, 2 + k, none⟩ = false ∧
    StIs ((w2.setCell ⟨sb, k, none⟩ x).setCell ⟨sb, 2 + k, none⟩ y) B sb bk mark (upd P k m) (upd nv k x) (upd vv k y) (upd F k F') ∧ Mv (SFt sb F) (SFt sb (upd F k F')) w ((w2.setCell ⟨sb, k, none⟩ x).setCell ⟨sb, 2 + k, none⟩ y) := by
  have h2 := h.on hb
  have hr1 := h2.row.set k x
  have hr2 := hr1.set (2 + k) y
  have hset : ∀ b, b ≠ sb → ((w2.setCell ⟨sb, k, none⟩ x).setCell ⟨sb, 2 + k, none⟩ y).heap[b]? = w2.heap[b]? := fun b hb => (Below.heap_setCell _ _ _ _ hb).trans (Below.heap_setCell _ _ _ _ hb)
  have hsl := h.row.lt
  refine ⟨by rw [h2.row.cell (i := k) (by omega)]; rfl, h2.row.frozen k, by rw [hr1.cell (i := 2 + k) (by omega)]; rfl, hr1.frozen (2 + k), ⟨?_, fun j hj => ?_, fun i j q hi hj hij hq => ?_, h.lb⟩, hb.os, hb.tape, hb.output, ?_, fun q hq hn => ?_, fun q hq => ?_⟩
  · refine hr2.congr (fun i hi => ?_)
    unfold stCell upd
    by_cases e1 : i = k
    · subst e1
      rw [if_neg (by omega), if_pos rfl, if_pos hk, if_pos rfl]
    · by_cases e2 : i = 2 + k
      · subst e2
        rw [if_pos rfl, if_neg (by omega), if_pos (by omega), if_pos (by omega)]
      · rw [if_neg e2, if_neg e1]
        by_cases e3 : i < 2
        · rw [if_pos e3, if_pos e3, if_neg e1]
        · rw [if_neg e3, if_neg e3]
          by_cases e4 : i < 4
          · rw [if_pos e4, if_pos e4, if_neg (by omega)]
          · rw [if_neg e4, if_neg e4]
  · by_cases e : j = k
    · subst e
      rw [upd_at, upd_at, upd_at, upd_at]
      exact hp.later (fun q hq => hset q (fun e => by have := hF q hq; omega))
    · rw [upd_ne _ _ _ e, upd_ne _ _ _ e, upd_ne _ _ _ e, upd_ne _ _ _ e]
      exact (h2.pair j hj).later (fun q hq => hset q (fun e2 => h2.ns hj (e2 ▸ hq)))
  · by_cases e : i = k
    · subst e
      rw [upd_at] at hq
      rw [upd_ne _ _ _ (fun e => hij e.symm)]
      intro hj2
      have := ((h.pair j hj).ge q hj2).2
      have := hF q hq
      omega
    · rw [upd_ne _ _ _ e] at hq
      by_cases e2 : j = k
      · subst e2
        rw [upd_at]
        intro hj2
        have := ((h.pair i hi).ge q hq).2
        have := hF q hj2
        omega
      · rw [upd_ne _ _ _ e2]
        exact h.dis i j q hi hj hij hq
  · have := hb.size
    simp [World.setCell]; omega
  · exact (hset q (fun e => hn (.inl e))).trans (hb.block q hq)
  · rcases hq with e | ⟨j, hj, e⟩
    · exact .inl (.inl e)
    · by_cases e2 : j = k
      · subst e2
        rw [upd_at] at e
        exact .inr (hF q e)
      · rw [upd_ne _ _ _ e2] at e
        exact .inl (.inr ⟨j, hj, e⟩)
set_option maxHeartbeats 1600000 in
theorem fresh_any (h : StIs w B sb bk mark P nv vv F) (hB : B ≤ w.heap.size) (k : Nat) (hk : k < 2) (r : Int) :
    Calls Try.prog 6 #[.pointer (some ⟨sb, 0, none⟩), .int .i64 (k : Nat), .int .i64 r] w fun e w' => e = .returned (.bool true) ∧ ∃ nv' vv' F', StIs w' B sb bk mark (upd P k (newP r)) nv' vv' F' ∧ Mv (SFt sb F) (SFt sb F') w w' := by
  have hz : (k : Int) < 2 := by omega
  have HNUM : Hid (∀ (n : Int) (W : World), Calls Try.prog 19 #[.int .i64 n] W fun e w' => e = .returned (.int .i64 n) ∧ w' = W) := fun n W => num_any n W
  by_cases hr : 1 ≤ r ∧ r ≤ 8192
  · obtain ⟨n, rfl⟩ : ∃ n : Nat, r = (n : Int) := ⟨r.toNat, by omega⟩
    have e : newP (n : Int) = some ⟨n, [], 0⟩ := by unfold newP; rw [if_pos hr, Int.toNat_natCast]
    rw [e]
    have hnew := new_any n (by omega) (by omega) w
    have HP : Hid (∀ w1, NetIs w1 w.heap.size w.heap.size (.slice none 0 0) n [] 0 → Below w.heap.size w w1 → w1.heap.size = w.heap.size + 1 → Calls Try.prog 23 #[.int .i64 (n : Nat)] w1 fun e w2 => e = .returned (.tuple #[.pointer (some ⟨w1.heap.size, 0, none⟩), .int .i64 0]) ∧
        ∃ c1 c2, w2.cell? ⟨sb, k, none⟩ = some c1 ∧ w2.frozen? ⟨sb, k, none⟩ = false ∧ (w2.setCell ⟨sb, k, none⟩ (.pointer (some ⟨w.heap.size, 0, none⟩))).cell? ⟨sb, 2 + k, none⟩ = some c2 ∧ (w2.setCell ⟨sb, k, none⟩ (.pointer (some ⟨w.heap.size, 0, none⟩))).frozen? ⟨sb, 2 + k, none⟩ = false ∧
        Hid (∃ nv' vv' F', StIs ((w2.setCell ⟨sb, k, none⟩ (.pointer (some ⟨w.heap.size, 0, none⟩))).setCell ⟨sb, 2 + k, none⟩ (.pointer (some ⟨w1.heap.size, 0, none⟩))) B sb bk mark (upd P k (some ⟨n, [], 0⟩)) nv' vv' F' ∧ Mv (SFt sb F) (SFt sb F') w ((w2.setCell ⟨sb, k, none⟩ (.pointer (some ⟨w.heap.size, 0, none⟩))).setCell ⟨sb, 2 + k, none⟩ (.pointer (some ⟨w1.heap.size, 0, none⟩))))) := by
      intro w1 hN hb1 hz1
      refine (rnew_any n (by omega) (by omega) w1).mono fun e w2 ⟨he, hR, hb2, hz2⟩ => ⟨he, ?_⟩
      have hN2 := hN.on hb2
      obtain ⟨q1, q2, q3, q4, q5, q6⟩ := h.put (w2 := w2) hk (m := some ⟨n, [], 0⟩) (x := .pointer (some ⟨w.heap.size, 0, none⟩)) (y := .pointer (some ⟨w1.heap.size, 0, none⟩)) (F' := fun q => NFt w.heap.size (.slice none 0 0) q ∨ RFt w1.heap.size (.slice none 0 0) [] q) (hb1.trans (hb2.mono (by omega)))
        ⟨w.heap.size, .slice none 0 0, w1.heap.size, .slice none 0 0, [], rfl, rfl, ⟨hN2.row, ⟨rfl, .inl ⟨rfl, rfl⟩⟩, hB, hN2.le, hN2.rm⟩, ⟨hR.row, ⟨rfl, .inl ⟨rfl, rfl⟩⟩, (fun x hx => by cases hx), by omega, hR.le, hR.rm⟩, rfl, fun q => Iff.rfl⟩ (fun q hq => by
          rcases hq with e | e
          · exact (hN2.ge q e).1
          · have := (hR.ge q e).1; omega)
      obtain ⟨c1, hc1⟩ := Option.isSome_iff_exists.1 q1
      obtain ⟨c2, hc2⟩ := Option.isSome_iff_exists.1 q3
      exact ⟨c1, c2, hc1, q2, hc2, q4, _, _, _, q5, q6⟩
    clear h hr e hB
    go_enter Try.func6, Try.ntmps6
    go_wp2_with fail
    refine hnew.mono ?_
    rintro e w1 ⟨rfl, hN, hb1, hz1⟩
    have hrn := HP.out w1 hN hb1 hz1
    clear HP hnew hN hb1 hz1
    go_wp2_with fail
    refine hrn.mono ?_
    rintro e w2 ⟨rfl, c1, c2, k1, f1, k2, f2, HE⟩
    clear hrn
    go_wp2_with fail
    refine (HNUM.out _ _).mono ?_
    rintro e w3 ⟨rfl, e3⟩
    rw [← e3] at HE
    clear k1 k2 f1 f2 e3
    go_wp2_with fail
    go_ret
    exact ⟨rfl, HE.out⟩
  · have e : newP r = none := by unfold newP; rw [if_neg hr]
    rw [e]
    have hnew := new_not r (by omega) w
    have hrn := rnew_not r (by omega) w
    obtain ⟨q1, q2, q3, q4, q5, q6⟩ := h.put (w2 := w) hk (m := none) (x := .pointer none) (y := .pointer none) (F' := fun _ => False) (Below.refl _ _) ⟨rfl, rfl, fun _ hf => hf⟩ (fun q hq => hq.elim)
    obtain ⟨c1, k1⟩ := Option.isSome_iff_exists.1 q1
    obtain ⟨c2, k2⟩ := Option.isSome_iff_exists.1 q3
    have HE : Hid (∃ nv' vv' F', StIs ((w.setCell ⟨sb, k, none⟩ (.pointer none)).setCell ⟨sb, 2 + k, none⟩ (.pointer none)) B sb bk mark (upd P k none) nv' vv' F' ∧ Mv (SFt sb F) (SFt sb F') w ((w.setCell ⟨sb, k, none⟩ (.pointer none)).setCell ⟨sb, 2 + k, none⟩ (.pointer none))) := ⟨_, _, _, q5, q6⟩
    clear h hr e hB q1 q3 q5 q6
    go_enter Try.func6, Try.ntmps6
    go_wp2_with fail
    refine hnew.mono ?_
    rintro e w1 ⟨rfl, e1⟩
    subst e1
    clear hnew
    go_wp2_with fail
    refine hrn.mono ?_
    rintro e w2 ⟨rfl, e2⟩
    subst e2
    clear hrn
    go_wp2_with fail
    refine (HNUM.out _ _).mono ?_
    rintro e w3 ⟨rfl, e3⟩
    rw [← e3] at HE
    clear k1 k2 q2 q4 e3
    go_wp2_with fail
    go_ret
    exact ⟨rfl, HE.out⟩

set_option maxHeartbeats 1600000 in
/-- told, where nothing is marked. -/
theorem told_any (h : StIs w B sb bk false P nv vv F) (x : Int) (ok : Bool) (a b : Option Addr) (n c d : Nat) (y : Nat → Nat) (ha : Byt w a n y) (hb : Byt w b n y) (hmax : n ≤ 281474976710656) :
    Calls Try.prog 28 #[.pointer (some ⟨sb, 0, none⟩), .agg #[.int .i64 x, .slice a n c], .bool ok, .agg #[.int .i64 x, .slice b n d], .bool ok] w fun e w' => e = .returned (.bool true) ∧ Below w.heap.size w w' := by
  obtain ⟨W, HW⟩ : ∃ W, Hid ((w.alloc (.cells #[.int .i64 x, .slice a n c] 70)).alloc (.cells #[.int .i64 x, .slice b n d] 70) = W) := ⟨_, rfl⟩
  have h1 := row2_alloc w (.int .i64 x) (.slice a n c) 70
  have hz1 : (w.alloc (.cells #[.int .i64 x, .slice a n c] 70)).heap.size = w.heap.size + 1 := by simp
  have h2 := row2_alloc (w.alloc (.cells #[.int .i64 x, .slice a n c] 70)) (.int .i64 x) (.slice b n d) 70
  rw [HW.out, hz1] at h2
  have h1' : W.rowIs w.heap.size 70 2 (fun i => if i = 0 then .int .i64 x else .slice a n c) := h1.of_block (by rw [← HW.out]; exact Below.heap_alloc _ _ _ (by omega))
  have hB : Below w.heap.size w W := by rw [← HW.out]; exact ((Below.refl _ _).alloc (Nat.le_refl _) _).alloc (by simp) _
  have p0 : W.cell? ⟨w.heap.size, 0, none⟩ = some (.int .i64 x) := h1'.cell (i := 0) (by decide)
  have p1 : W.cell? ⟨w.heap.size, 1, none⟩ = some (.slice a n c) := h1'.cell (i := 1) (by decide)
  have q0 : W.cell? ⟨w.heap.size + 1, 0, none⟩ = some (.int .i64 x) := h2.cell (i := 0) (by decide)
  have q1 : W.cell? ⟨w.heap.size + 1, 1, none⟩ = some (.slice b n d) := h2.cell (i := 1) (by decide)
  have HS : Hid (Calls Try.prog 21 #[.agg #[.int .i64 x, .slice a n c], .agg #[.int .i64 x, .slice b n d]] W fun e w' => e = .returned (.bool true) ∧ w'.cell? ⟨sb, 5, none⟩ = some (.bool false) ∧ Below w.heap.size w w') :=
    (same_any x a b n c d y W (ha.on hB) (hb.on hB) hmax).mono fun e w' ⟨he, hb'⟩ => by
      have hb2 := hB.trans (hb'.mono hB.size)
      exact ⟨he, (h.on hb2).row.cell (i := 5) (by decide), hb2⟩
  have hoo : (ok == ok) = true := by simp
  clear h h1 h2 h1' hB ha hb hz1
  go_enter Try.func28, Try.ntmps28
  go_upto_region 1 with fail
  rw [HW.out]
  go_wp2_with fail
  refine HS.out.mono ?_
  rintro e w1 ⟨rfl, c5, hb1⟩
  go_wp2_with fail
  go_ret
  exact ⟨rfl, hb1⟩
end
end Go.Proofs.Ytgpmoakfbhcidaa
