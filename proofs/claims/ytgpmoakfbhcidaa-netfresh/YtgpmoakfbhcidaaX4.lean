/- The document's own net: Take, Double. -/
import Derived.Test.YtgpmoakfbhcidaaX3
namespace Go.Proofs.Ytgpmoakfbhcidaa
open Go.RowKit
set_option maxRecDepth 100000
set_option maxRecDepth 100000
section
variable {w w' : World} {B rb : Nat} {fv : Value} {room lost : Nat} {xs : List (Ms × Value)}
/-- A row of bytes elsewhere is as it was. -/
theorem row8_mv {F F' : Nat → Prop} {w w' : World} {g n : Nat} {f : Nat → Value} (h : w.rowIs g 5 n f) (hM : Mv F F' w w') (hn : ¬ F g) : w'.rowIs g 5 n f := h.of_block (hM.block g h.lt hn)
set_option maxHeartbeats 3200000 in
theorem rtake_some (h : RefIs w B rb fv xs room lost) (hB : B ≤ w.heap.size) (i : Nat) (x : Int) (s : ByteArray) (v : Value) (hm : xs[i]? = some (⟨x, s⟩, v)) :
    Calls Try.prog 29 #[.pointer (some ⟨rb, 0, none⟩), .int .i64 (i : Nat)] w fun e w' => ∃ g, e = .returned (.tuple #[.agg #[.int .i64 x, .slice (some ⟨g, 0, none⟩) s.size s.size], .bool true]) ∧ w.heap.size ≤ g ∧ w'.rowIs g 5 s.size (fun j => .int .u8 (bx s j : Nat)) ∧ ∃ fv', RefIs w' B rb fv' (xs.eraseIdx i) room lost ∧ Mv (RFt rb fv xs) (RFt rb fv' (xs.eraseIdx i)) w w' := by
  have hi := (List.getElem?_eq_some_iff.1 hm).1
  obtain ⟨W0, HW0⟩ : ∃ W, Hid (w.alloc flZ = W) := ⟨_, rfl⟩
  have hz0 : W0.heap.size = w.heap.size + 1 := by rw [← HW0.out]; simp
  have hb0 : Below w.heap.size w W0 := by rw [← HW0.out]; exact (Below.refl _ _).alloc (Nat.le_refl _) _
  have hr0 := flZ_row w
  rw [HW0.out] at hr0
  have h0 : RefIs W0 B rb fv xs room lost := h.on hb0
  have hlk := rlook_some h0 i x s v hm
  have HP : Hid (∀ (w1 W2 : World) (g : Nat), w1.rowIs g 5 s.size (fun j => .int .u8 (bx s j : Nat)) → W0.heap.size ≤ g → Below W0.heap.size W0 w1 → w1.alloc (.cells #[.int .i64 x, .slice (some ⟨g, 0, none⟩) s.size s.size] 70) = W2 →
      Hid (Calls Try.prog 31 #[.pointer (some ⟨rb, 0, none⟩), .int .i64 (i : Nat)] W2 fun e w5 => e = .returned (.bool true) ∧
        w5.cell? ⟨w.heap.size, 0, none⟩ = some (.int .i64 0) ∧ w5.cell? ⟨w.heap.size, 1, none⟩ = some (.slice none 0 0) ∧ w5.frozen? ⟨w.heap.size, 0, none⟩ = false ∧ w5.frozen? ⟨w.heap.size, 1, none⟩ = false ∧ w5.cell? ⟨w1.heap.size, 0, none⟩ = some (.int .i64 x) ∧ w5.cell? ⟨w1.heap.size, 1, none⟩ = some (.slice (some ⟨g, 0, none⟩) s.size s.size) ∧
        ∃ W6, Hid ((w5.setCell ⟨w.heap.size, 0, none⟩ (.int .i64 x)).setCell ⟨w.heap.size, 1, none⟩ (.slice (some ⟨g, 0, none⟩) s.size s.size) = W6) ∧ W6.cell? ⟨w.heap.size, 0, none⟩ = some (.int .i64 x) ∧ W6.cell? ⟨w.heap.size, 1, none⟩ = some (.slice (some ⟨g, 0, none⟩) s.size s.size) ∧
          Hid (w.heap.size ≤ g ∧ W6.rowIs g 5 s.size (fun j => .int .u8 (bx s j : Nat)) ∧ ∃ fv', RefIs W6 B rb fv' (xs.eraseIdx i) room lost ∧ Mv (RFt rb fv xs) (RFt rb fv' (xs.eraseIdx i)) w W6))) := by
    intro w1 W2 g hF hg hb1 hW2
    have hz1 := hb1.size
    have hbw : Below w.heap.size w w1 := hb0.trans (hb1.mono hb0.size)
    have hb2 : Below w1.heap.size w1 W2 := by rw [← hW2]; exact (Below.refl _ _).alloc (Nat.le_refl _) _
    have hrF := row2_alloc w1 (.int .i64 x) (.slice (some ⟨g, 0, none⟩) s.size s.size) 70
    rw [hW2] at hrF
    have hr2 : W2.rowIs w.heap.size 70 2 (fun i => (#[Value.int .i64 0, .slice none 0 0])[i]!) := (hr0.of_block (hb1.block _ (by omega))).of_block (hb2.block _ (by omega))
    have hF2 := hF.of_block (hb2.block g hF.lt)
    have h2 : RefIs W2 B rb fv xs room lost := (h0.on hb1).on hb2
    have hb02 : Below w.heap.size w W2 := hbw.trans (hb2.mono (by omega))
    have hz2 : W2.heap.size = w1.heap.size + 1 := by rw [← hW2]; simp
    refine (rdrop_some h2 (by omega) i hi).mono fun e w5 ⟨he, fv', hN5, hM⟩ => ?_
    have hk : ∀ k, w.heap.size ≤ k → k < W2.heap.size → w5.heap[k]? = W2.heap[k]? := fun k hk hk2 => hM.block k hk2 (fun hf => by have := (h.ge k hf).2; omega)
    have hr5 := hr2.of_block (hk _ (Nat.le_refl _) (by omega))
    have hrF5 := hrF.of_block (hk _ (by omega) (by omega))
    have hF5 := hF2.of_block (hk g (by omega) hF2.lt)
    refine ⟨he, hr5.cell (i := 0) (by decide), hr5.cell (i := 1) (by decide), hr5.frozen 0, hr5.frozen 1, hrF5.cell (i := 0) (by decide), hrF5.cell (i := 1) (by decide), _, rfl, ?_, ?_, ?_⟩
    · have := ((hr5.set 0 (.int .i64 x)).set 1 (.slice (some ⟨g, 0, none⟩) s.size s.size)).cell (i := 0) (by decide)
      exact this
    · have := ((hr5.set 0 (.int .i64 x)).set 1 (.slice (some ⟨g, 0, none⟩) s.size s.size)).cell (i := 1) (by decide)
      exact this
    · have hbk : ∀ k, k ≠ w.heap.size → ((w5.setCell ⟨w.heap.size, 0, none⟩ (.int .i64 x)).setCell ⟨w.heap.size, 1, none⟩ (.slice (some ⟨g, 0, none⟩) s.size s.size)).heap[k]? = w5.heap[k]? := fun k hk => (Below.heap_setCell _ _ _ _ hk).trans (Below.heap_setCell _ _ _ _ hk)
      refine ⟨by omega, hF5.of_block (hbk g (by omega)), fv', hN5.later (fun k hf => hbk k (fun e => ?_)), ?_, ?_, ?_, ?_, fun k hk hn => ?_, fun k hf => ?_⟩
      · rcases hM.foot k hf with q | q
        · have := (h.ge k q).2; omega
        · have : W2.heap.size ≤ k := q
          omega
      · exact hM.os.trans hb02.os
      · exact hM.tape.trans hb02.tape
      · exact hM.output.trans hb02.output
      · have : W2.heap.size ≤ w5.heap.size := hM.size
        have := hb02.size
        simp [World.setCell]; omega
      · exact (hbk k (by omega)).trans ((hM.block k (by have := hb02.size; omega) hn).trans (hb02.block k hk))
      · rcases hM.foot k hf with q | q
        · exact .inl q
        · exact .inr (by have := hb02.size; omega)
  obtain ⟨S, HS⟩ : ∃ S, Hid (s.size = S) := ⟨_, rfl⟩
  rw [HS.out] at hlk HP ⊢
  clear h h0 hb0 hr0 hi hm hz0
  unfold flZ at HW0
  go_enter Try.func29, Try.ntmps29
  go_upto_region 1 with fail
  rw [HW0.out]
  go_wp2_with fail
  refine hlk.mono ?_
  rintro e w1 ⟨g, rfl, hg, hF, hb1⟩
  obtain ⟨W2, HW2⟩ : ∃ W, Hid (w1.alloc (.cells #[.int .i64 x, .slice (some ⟨g, 0, none⟩) S S] 70) = W) := ⟨_, rfl⟩
  have HD := HP.out w1 W2 g hF hg hb1 HW2.out
  clear HP hlk hF hb1 hg
  go_upto_region 2 with fail
  rw [HW2.out]
  go_wp2_with fail
  refine HD.out.mono ?_
  rintro e w5 ⟨rfl, x0, x1, z0, z1, y0, y1, W6, HW6, r0, r1, HE⟩
  go_wp2
  rw [HW6.out]
  refine bodyPost_ret_by (v := .tuple #[.agg #[.int .i64 x, .slice (some ⟨g, 0, none⟩) S S], .bool true]) ?_ rfl ⟨g, rfl, HE.out⟩
  rw [results_cell_tmp rfl]
  go_simp
set_option maxHeartbeats 1600000 in
theorem rtake_none (h : RefIs w B rb fv xs room lost) (i : Int) (hi : ¬ (0 ≤ i ∧ i < xs.length)) :
    Calls Try.prog 29 #[.pointer (some ⟨rb, 0, none⟩), .int .i64 i] w fun e w' => e = .returned (.tuple #[.agg #[.int .i64 0, .slice none 0 0], .bool false]) ∧ Below w.heap.size w w' := by
  obtain ⟨W0, HW0⟩ : ∃ W, Hid (w.alloc flZ = W) := ⟨_, rfl⟩
  have hz0 : W0.heap.size = w.heap.size + 1 := by rw [← HW0.out]; simp
  have hb0 : Below w.heap.size w W0 := by rw [← HW0.out]; exact (Below.refl _ _).alloc (Nat.le_refl _) _
  have hr0 := flZ_row w
  rw [HW0.out] at hr0
  have h0 : RefIs W0 B rb fv xs room lost := h.on hb0
  have hlk := rlook_none h0 i hi
  have HP : Hid (∀ (w1 W2 : World), Below W0.heap.size W0 w1 → w1.alloc (.cells #[.int .i64 0, .slice none 0 0] 70) = W2 →
      Hid (Calls Try.prog 31 #[.pointer (some ⟨rb, 0, none⟩), .int .i64 i] W2 fun e w5 => e = .returned (.bool false) ∧ w5 = W2) ∧ W2.cell? ⟨w1.heap.size, 0, none⟩ = some (.int .i64 0) ∧ W2.cell? ⟨w1.heap.size, 1, none⟩ = some (.slice none 0 0) ∧ Below w.heap.size w W2 ∧ W2.rowIs w.heap.size 70 2 (fun i => (#[Value.int .i64 0, .slice none 0 0])[i]!)) := by
    intro w1 W2 hb1 hW2
    have hz1 := hb1.size
    have hbw : Below w.heap.size w w1 := hb0.trans (hb1.mono hb0.size)
    have hb2 : Below w1.heap.size w1 W2 := by rw [← hW2]; exact (Below.refl _ _).alloc (Nat.le_refl _) _
    have hrF := row2_alloc w1 (.int .i64 0) (.slice none 0 0) 70
    rw [hW2] at hrF
    exact ⟨rdrop_none ((h0.on hb1).on hb2) i hi, hrF.cell (i := 0) (by decide), hrF.cell (i := 1) (by decide), hbw.trans (hb2.mono (by omega)), (hr0.of_block (hb1.block _ (by omega))).of_block (hb2.block _ (by omega))⟩
  clear h h0 hb0 hr0 hi hz0
  unfold flZ at HW0
  go_enter Try.func29, Try.ntmps29
  go_upto_region 1 with fail
  rw [HW0.out]
  go_wp2_with fail
  refine hlk.mono ?_
  rintro e w1 ⟨rfl, hb1⟩
  obtain ⟨W2, HW2⟩ : ∃ W, Hid (w1.alloc (.cells #[.int .i64 0, .slice none 0 0] 70) = W) := ⟨_, rfl⟩
  obtain ⟨HD, v0, v1, hb2, hr2⟩ := HP.out w1 W2 hb1 HW2.out
  have q0 : (W2.cell? ⟨w.heap.size, 0, none⟩) = some (.int .i64 0) := hr2.cell (i := 0) (by decide)
  have q1 : (W2.cell? ⟨w.heap.size, 1, none⟩) = some (.slice none 0 0) := hr2.cell (i := 1) (by decide)
  have z0 := hr2.frozen 0
  have z1 := hr2.frozen 1
  clear HP hlk hb1
  go_upto_region 2 with fail
  rw [HW2.out]
  go_wp2_with fail
  refine HD.out.mono ?_
  rintro e w5 ⟨rfl, e5⟩
  subst e5
  have hr3 := (hr2.set 0 (.int .i64 0)).set 1 (.slice none 0 0)
  obtain ⟨W3, HW3⟩ : ∃ W, Hid ((w5.setCell ⟨w.heap.size, 0, none⟩ (.int .i64 0)).setCell ⟨w.heap.size, 1, none⟩ (.slice none 0 0) = W) := ⟨_, rfl⟩
  rw [HW3.out] at hr3
  have r0 : W3.cell? ⟨w.heap.size, 0, none⟩ = some (.int .i64 0) := hr3.cell (i := 0) (by decide)
  have r1 : W3.cell? ⟨w.heap.size, 1, none⟩ = some (.slice none 0 0) := hr3.cell (i := 1) (by decide)
  have HB3 : Hid (Below w.heap.size w W3) := by
    rw [← HW3.out]
    exact (hb2.setCell (by simp) _).setCell (by simp) _
  clear hr3 hb2 hr2 HD
  go_wp2
  rw [HW3.out]
  refine bodyPost_ret_by (v := .tuple #[.agg #[.int .i64 0, .slice none 0 0], .bool false]) ?_ rfl ⟨rfl, HB3.out⟩
  rw [results_cell_tmp rfl]
  go_simp
end
end Go.Proofs.Ytgpmoakfbhcidaa
