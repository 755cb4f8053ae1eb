/- Package net: Take. -/
import Derived.Test.YtgpmoakfbhcidaaN4
namespace Go.Proofs.Ytgpmoakfbhcidaa
open Go.RowKit
set_option maxRecDepth 100000
set_option maxRecDepth 100000
section
variable {w w' : World} {B nb : Nat} {mv : Value} {room lost : Nat} {ms : List Ms}
theorem row2_alloc (w : World) (x y : Value) (t : TypeId) : (w.alloc (.cells #[x, y] t)).rowIs w.heap.size t 2 (fun i => if i = 0 then x else y) :=
  World.rowIs_alloc w _ _ _ (fun i hi => by
    match i, hi with
    | 0, _ => rfl
    | 1, _ => rfl)
theorem set2_far (w : World) (b o o' : Nat) (v v' : Value) (b' k : Nat) (h : b' ≠ b) : ((w.setCell ⟨b, o, none⟩ v).setCell ⟨b, o', none⟩ v').cell? ⟨b', k, none⟩ = w.cell? ⟨b', k, none⟩ :=
  World.cell?_of_block (a := ⟨b', k, none⟩) ((Below.heap_setCell _ _ _ _ h).trans (Below.heap_setCell _ _ _ _ h))
set_option maxHeartbeats 3200000 in
theorem take_some (h : NetIs w B nb mv room ms lost) (i : Nat) (x : Int) (s : ByteArray) (hm : ms[i]? = some ⟨x, s⟩) :
    Calls Try.prog 20 #[.pointer (some ⟨nb, 0, none⟩), .int .i64 (i : Nat)] w fun e w' => ∃ g c, e = .returned (.tuple #[.agg #[.int .i64 x, .slice (some ⟨g, 0, none⟩) s.size c], .bool true]) ∧ FlB w' g c s ∧ w.heap.size ≤ g ∧ ∃ mv', NetIs w' B nb mv' room (ms.eraseIdx i) lost ∧ Mv (NFt nb mv) (NFt nb mv') w w' := by
  have hi := (List.getElem?_eq_some_iff.1 hm).1
  obtain ⟨W0, HW0⟩ : ∃ W, Hid (w.alloc flZ = W) := ⟨_, rfl⟩
  have hz0 : W0.heap.size = w.heap.size + 1 := by rw [← HW0.out]; simp
  have hb0 : Below w.heap.size w W0 := by rw [← HW0.out]; exact (Below.refl _ _).alloc (Nat.le_refl _) _
  have hr0 := flZ_row w
  rw [HW0.out] at hr0
  have h0 : NetIs W0 B nb mv room ms lost := h.on hb0
  have hlk := look_some h0 i x s hm
  have HP : Hid (∀ (w1 W2 : World) (g c : Nat), FlB w1 g c s → W0.heap.size ≤ g → Below W0.heap.size W0 w1 → w1.alloc (.cells #[.int .i64 x, .slice (some ⟨g, 0, none⟩) s.size c] 70) = W2 →
      W2.cell? ⟨w1.heap.size, 0, none⟩ = some (.int .i64 x) ∧ W2.cell? ⟨w1.heap.size, 1, none⟩ = some (.slice (some ⟨g, 0, none⟩) s.size c) ∧ w1.heap.size ≠ w.heap.size ∧
      Hid (Calls Try.prog 30 #[.pointer (some ⟨nb, 0, none⟩), .int .i64 (i : Nat)] W2.drew fun e w5 => e = .returned (.bool true) ∧
        w5.cell? ⟨w.heap.size, 0, none⟩ = some (.int .i64 0) ∧ w5.cell? ⟨w.heap.size, 1, none⟩ = some (.slice none 0 0) ∧ w5.frozen? ⟨w.heap.size, 0, none⟩ = false ∧ w5.frozen? ⟨w.heap.size, 1, none⟩ = false ∧ w5.cell? ⟨w1.heap.size, 0, none⟩ = some (.int .i64 x) ∧ w5.cell? ⟨w1.heap.size, 1, none⟩ = some (.slice (some ⟨g, 0, none⟩) s.size c) ∧
        ∃ W6, Hid ((w5.setCell ⟨w.heap.size, 0, none⟩ (.int .i64 x)).setCell ⟨w.heap.size, 1, none⟩ (.slice (some ⟨g, 0, none⟩) s.size c) = W6) ∧ W6.cell? ⟨w.heap.size, 0, none⟩ = some (.int .i64 x) ∧ W6.cell? ⟨w.heap.size, 1, none⟩ = some (.slice (some ⟨g, 0, none⟩) s.size c) ∧
          Hid (FlB W6 g c s ∧ w.heap.size ≤ g ∧ ∃ mv', NetIs W6 B nb mv' room (ms.eraseIdx i) lost ∧ Mv (NFt nb mv) (NFt nb mv') w W6))) := by
    intro w1 W2 g c hF hg hb1 hW2
    have hz1 := hb1.size
    have hbw : Below w.heap.size w w1 := hb0.trans (hb1.mono hb0.size)
    have hb2 : Below w1.heap.size w1 W2 := by rw [← hW2]; exact (Below.refl _ _).alloc (Nat.le_refl _) _
    have hrF := row2_alloc w1 (.int .i64 x) (.slice (some ⟨g, 0, none⟩) s.size c) 70
    rw [hW2] at hrF
    have hr2 : W2.rowIs w.heap.size 70 2 (fun i => (#[Value.int .i64 0, .slice none 0 0])[i]!) := (hr0.of_block (hb1.block _ (by omega))).of_block (hb2.block _ (by omega))
    have hF2 : FlB W2 g c s := hF.on (hb2.block g hF.lt)
    have h2 : NetIs W2.drew B nb mv room ms lost := ((h0.on hb1).on hb2).later (fun _ _ => rfl)
    have hb02 : Below w.heap.size w W2 := hbw.trans (hb2.mono (by omega))
    have hz2 : W2.heap.size = w1.heap.size + 1 := by rw [← hW2]; simp
    refine ⟨hrF.cell (i := 0) (by decide), hrF.cell (i := 1) (by decide), by omega, (drop_some h2 i hi).mono fun e w5 ⟨he, mv', hN5, hM⟩ => ?_⟩
    have hk : ∀ k, w.heap.size ≤ k → k < W2.heap.size → w5.heap[k]? = W2.heap[k]? := fun k hk hk2 => hM.block k hk2 (fun hf => by have := (h.ge k hf).2; omega)
    have hr5 := hr2.of_block (hk _ (Nat.le_refl _) (by omega))
    have hrF5 := hrF.of_block (hk _ (by omega) (by omega))
    have hF5 := hF2.on (hk g (by omega) hF2.lt)
    refine ⟨he, hr5.cell (i := 0) (by decide), hr5.cell (i := 1) (by decide), hr5.frozen 0, hr5.frozen 1, hrF5.cell (i := 0) (by decide), hrF5.cell (i := 1) (by decide), _, rfl, ?_, ?_, ?_⟩
    · have := ((hr5.set 0 (.int .i64 x)).set 1 (.slice (some ⟨g, 0, none⟩) s.size c)).cell (i := 0) (by decide)
      exact this
    · have := ((hr5.set 0 (.int .i64 x)).set 1 (.slice (some ⟨g, 0, none⟩) s.size c)).cell (i := 1) (by decide)
      exact this
    · have hbk : ∀ k, k ≠ w.heap.size → ((w5.setCell ⟨w.heap.size, 0, none⟩ (.int .i64 x)).setCell ⟨w.heap.size, 1, none⟩ (.slice (some ⟨g, 0, none⟩) s.size c)).heap[k]? = w5.heap[k]? := fun k hk => (Below.heap_setCell _ _ _ _ hk).trans (Below.heap_setCell _ _ _ _ hk)
      refine ⟨hF5.on (hbk g (by omega)), by omega, mv', hN5.later (fun k hf => hbk k (fun e => ?_)), ?_, ?_, ?_, ?_, fun k hk hn => ?_, fun k hf => ?_⟩
      · rcases hM.foot k hf with q | q
        · have := (h.ge k q).2; omega
        · have : W2.heap.size ≤ k := q
          omega
      · exact hM.os.trans hb02.os
      · exact hM.tape.trans hb02.tape
      · exact hM.output.trans hb02.output
      · have : W2.heap.size ≤ w5.heap.size := hM.size
        have := hb02.size
        simp [World.setCell]; omega
      · exact (hbk k (by omega)).trans ((hM.block k (by have := hb02.size; show k < W2.heap.size; omega) hn).trans (hb02.block k hk))
      · rcases hM.foot k hf with q | q
        · exact .inl q
        · exact .inr (by have : W2.heap.size ≤ k := q; have := hb02.size; omega)
  clear h h0 hb0 hr0 hi hm hz0
  unfold flZ at HW0
  go_enter Try.func20, Try.ntmps20
  go_upto_region 1 with fail
  rw [HW0.out]
  go_wp2_with fail
  refine hlk.mono ?_
  rintro e w1 ⟨g, c, rfl, hF, hg, hb1⟩
  obtain ⟨W2, HW2⟩ : ∃ W, Hid (w1.alloc (.cells #[.int .i64 x, .slice (some ⟨g, 0, none⟩) s.size c] 70) = W) := ⟨_, rfl⟩
  obtain ⟨v0, v1, hne, HD⟩ := HP.out w1 W2 g c hF hg hb1 HW2.out
  clear HP hlk hF hb1
  go_upto_region 2 with fail
  rw [HW2.out]
  go_region_held3 (fun W => W.cell? ⟨w1.heap.size, 0, none⟩ = some (.int .i64 x) ∧ W.cell? ⟨w1.heap.size, 1, none⟩ = some (.slice (some ⟨g, 0, none⟩) s.size c))
    (first | exact ⟨v0, v1⟩ | exact ⟨y0, y1⟩ | exact ⟨(set2_far _ _ _ _ _ _ _ _ hne).trans y0, (set2_far _ _ _ _ _ _ _ _ hne).trans y1⟩)
    (first
      | (go_at_call 30; with_reducible refine HD.out.mono ?_; rintro e w5 ⟨rfl, x0, x1, z0, z1, y0, y1, W6, HW6, r0, r1, HE⟩))
  all_goals
    go_wp2
    rw [HW6.out]
    refine bodyPost_ret_by (v := .tuple #[.agg #[.int .i64 x, .slice (some ⟨g, 0, none⟩) s.size c], .bool true]) ?_ rfl ⟨g, c, rfl, HE.out⟩
    rw [results_cell_tmp rfl]
    go_simp
set_option maxHeartbeats 1600000 in
theorem take_none (h : NetIs w B nb mv room ms lost) (i : Int) (hi : ¬ (0 ≤ i ∧ i < ms.length)) :
    Calls Try.prog 20 #[.pointer (some ⟨nb, 0, none⟩), .int .i64 i] w fun e w' => e = .returned (.tuple #[.agg #[.int .i64 0, .slice none 0 0], .bool false]) ∧ Below w.heap.size w w' := by
  obtain ⟨W0, HW0⟩ : ∃ W, Hid (w.alloc flZ = W) := ⟨_, rfl⟩
  have hz0 : W0.heap.size = w.heap.size + 1 := by rw [← HW0.out]; simp
  have hb0 : Below w.heap.size w W0 := by rw [← HW0.out]; exact (Below.refl _ _).alloc (Nat.le_refl _) _
  have hr0 := flZ_row w
  rw [HW0.out] at hr0
  have h0 : NetIs W0 B nb mv room ms lost := h.on hb0
  have hlk := look_none h0 i hi
  have HP : Hid (∀ (w1 W2 : World), Below W0.heap.size W0 w1 → w1.alloc (.cells #[.int .i64 0, .slice none 0 0] 70) = W2 →
      W2.cell? ⟨w1.heap.size, 0, none⟩ = some (.int .i64 0) ∧ W2.cell? ⟨w1.heap.size, 1, none⟩ = some (.slice none 0 0) ∧ w1.heap.size ≠ w.heap.size ∧ Below w.heap.size w W2 ∧ W2.rowIs w.heap.size 70 2 (fun i => (#[Value.int .i64 0, .slice none 0 0])[i]!)) := by
    intro w1 W2 hb1 hW2
    have hz1 := hb1.size
    have hbw : Below w.heap.size w w1 := hb0.trans (hb1.mono hb0.size)
    have hb2 : Below w1.heap.size w1 W2 := by rw [← hW2]; exact (Below.refl _ _).alloc (Nat.le_refl _) _
    have hrF := row2_alloc w1 (.int .i64 0) (.slice none 0 0) 70
    rw [hW2] at hrF
    exact ⟨hrF.cell (i := 0) (by decide), hrF.cell (i := 1) (by decide), by omega, hbw.trans (hb2.mono (by omega)), (hr0.of_block (hb1.block _ (by omega))).of_block (hb2.block _ (by omega))⟩
  clear h h0 hb0 hr0 hi hz0
  unfold flZ at HW0
  go_enter Try.func20, Try.ntmps20
  go_upto_region 1 with fail
  rw [HW0.out]
  go_wp2_with fail
  refine hlk.mono ?_
  rintro e w1 ⟨rfl, hb1⟩
  obtain ⟨W2, HW2⟩ : ∃ W, Hid (w1.alloc (.cells #[.int .i64 0, .slice none 0 0] 70) = W) := ⟨_, rfl⟩
  obtain ⟨v0, v1, hne, hb2, hr2⟩ := HP.out w1 W2 hb1 HW2.out
  have q0 : (W2.cell? ⟨w.heap.size, 0, none⟩) = some (.int .i64 0) := hr2.cell (i := 0) (by decide)
  have q1 : (W2.cell? ⟨w.heap.size, 1, none⟩) = some (.slice none 0 0) := hr2.cell (i := 1) (by decide)
  have z0 := hr2.frozen 0
  have z1 := hr2.frozen 1
  clear HP hlk hb1
  go_upto_region 2 with fail
  rw [HW2.out]
  go_big_region
  all_goals
    go_wp2
    have hr3 := (hr2.set 0 (.int .i64 0)).set 1 (.slice none 0 0)
    have r0 : ((W2.setCell ⟨w.heap.size, 0, none⟩ (.int .i64 0)).setCell ⟨w.heap.size, 1, none⟩ (.slice none 0 0)).drew.cell? ⟨w.heap.size, 0, none⟩ = some (.int .i64 0) := hr3.cell (i := 0) (by decide)
    have r1 : ((W2.setCell ⟨w.heap.size, 0, none⟩ (.int .i64 0)).setCell ⟨w.heap.size, 1, none⟩ (.slice none 0 0)).drew.cell? ⟨w.heap.size, 1, none⟩ = some (.slice none 0 0) := hr3.cell (i := 1) (by decide)
    have hb3 : Below w.heap.size w ((W2.setCell ⟨w.heap.size, 0, none⟩ (.int .i64 0)).setCell ⟨w.heap.size, 1, none⟩ (.slice none 0 0)).drew := ((hb2.setCell (by simp) _).setCell (by simp) _).drew
    clear hr3 hb2 hr2
    generalize ((W2.setCell ⟨w.heap.size, 0, none⟩ (.int .i64 0)).setCell ⟨w.heap.size, 1, none⟩ (.slice none 0 0)).drew = W3 at *
    refine bodyPost_ret_by (v := .tuple #[.agg #[.int .i64 0, .slice none 0 0], .bool false]) ?_ rfl ⟨rfl, hb3⟩
    rw [results_cell_tmp rfl]
    go_simp
end
end Go.Proofs.Ytgpmoakfbhcidaa
