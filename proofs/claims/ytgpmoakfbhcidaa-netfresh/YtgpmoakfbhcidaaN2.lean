/- Package net: a message told in memory of its own; Look. -/
import Derived.Test.YtgpmoakfbhcidaaN1
namespace Go.Proofs.Ytgpmoakfbhcidaa
open Go.RowKit
set_option maxRecDepth 100000
set_option maxRecDepth 100000

/-- The bytes of a string. -/
def bx (s : ByteArray) (j : Nat) : Nat := (s.data.toList.getD j 0).toNat
theorem bx_lt (s : ByteArray) (j : Nat) : bx s j < 256 := (s.data.toList.getD j 0).toNat_lt
/-- Block g is what []byte(s) made: the bytes, then zeros, c in all. -/
structure FlB (w : World) (g c : Nat) (s : ByteArray) : Prop where
  blk : ∃ cs, w.heap[g]? = some (.cells cs 5 (c, c + 1)) ∧ cs.size = c ∧ (∀ j, j < s.size → cs[j]? = some (.int .u8 (bx s j : Nat))) ∧ ∀ j, j < c → ∃ q : Nat, cs[j]? = some (.int .u8 (q : Nat))
  le : s.size ≤ c
theorem FlB.on {w w' : World} {g c : Nat} {s : ByteArray} (h : FlB w g c s) (e : w'.heap[g]? = w.heap[g]?) : FlB w' g c s := by
  obtain ⟨cs, h1, h2⟩ := h.blk
  exact ⟨⟨cs, e.trans h1, h2⟩, h.le⟩
theorem FlB.lt {w : World} {g c : Nat} {s : ByteArray} (h : FlB w g c s) : g < w.heap.size := by
  obtain ⟨cs, h1, h2⟩ := h.blk
  exact (Array.getElem?_eq_some_iff.1 h1).1
theorem FlB.cell {w : World} {g c : Nat} {s : ByteArray} (h : FlB w g c s) (j : Nat) (hj : j < s.size) : w.cell? ⟨g, j, none⟩ = some (.int .u8 (bx s j : Nat)) := by
  obtain ⟨cs, h1, h2, h3, _⟩ := h.blk
  simp [World.cell?, h1, h3 j hj]
theorem FlB.byt {w : World} {g c : Nat} {s : ByteArray} (h : FlB w g c s) : Byt w (some ⟨g, 0, none⟩) s.size (bx s) := fun j hj => ⟨g, 0, rfl, by rw [Nat.zero_add]; exact h.cell j hj⟩
theorem flb_new (w : World) (s : ByteArray) : FlB (Lib.bytesWorld w 5 s) w.heap.size (grownCap w s.size 0 5) s := by
  have hc := grownCap_ge w s.size 0 5
  have hds : s.data.size = s.size := rfl
  have hsz : (Lib.bytesCells w 5 s).size = grownCap w s.size 0 5 := by
    unfold Lib.bytesCells
    rw [Array.size_append, Array.size_map, Array.size_replicate]
    omega
  refine ⟨⟨Lib.bytesCells w 5 s, ?_, hsz, fun j hj => ?_, fun j hj => ?_⟩, hc⟩
  · rw [Lib.bytesWorld_at_new, hsz]
  · unfold Lib.bytesCells bx
    rw [Array.getElem?_append_left (by rw [Array.size_map]; omega), Array.getElem?_map, Array.getElem?_eq_getElem (by omega)]
    simp only [List.getD, Array.getElem?_toList, Option.map_some]
    rw [Array.getElem?_eq_getElem (by omega)]
    rfl
  · unfold Lib.bytesCells
    by_cases h : j < s.data.size
    · rw [Array.getElem?_append_left (by rw [Array.size_map]; omega), Array.getElem?_map, Array.getElem?_eq_getElem h]
      exact ⟨s.data[j].toNat, rfl⟩
    · rw [Array.getElem?_append_right (by rw [Array.size_map]; omega), Array.getElem?_replicate, Array.size_map, if_pos (by omega)]
      exact ⟨0, rfl⟩
theorem below_bytes (w : World) (s : ByteArray) : Below w.heap.size w (Lib.bytesWorld w 5 s) :=
  ⟨rfl, rfl, rfl, by rw [Lib.bytesWorld_size]; omega, fun k hk => Lib.bytesWorld_at_old w _ s k hk⟩
theorem row2_heap {w : World} {b : Nat} {t : TypeId} {f : Nat → Value} (h : w.rowIs b t 2 f) : w.heap[b]? = some (.cells #[f 0, f 1] t (0, 0)) := by
  obtain ⟨c, h1, h2, h3⟩ := h
  have : c = #[f 0, f 1] := by
    rcases c with ⟨l⟩
    have h2 : l.length = 2 := h2
    match l, h2 with
    | [a, b], _ =>
      have e0 := h3 0 (by decide)
      have e1 := h3 1 (by decide)
      simp at e0 e1
      rw [e0, e1]
  rw [h1, this]
theorem infoFL : (Try.prog.info? 70).map (·.size) = some 2 := by kernel_rfl
/-- A Flight of nothing. -/
def flZ : Obj := .cells #[.int .i64 0, .slice none 0 0] 70
theorem flZ_row (w : World) : (w.alloc flZ).rowIs w.heap.size 70 2 (fun i => (#[Value.int .i64 0, .slice none 0 0])[i]!) :=
  World.rowIs_alloc w _ _ _ (fun i hi => by rw [getElem!_pos _ i hi, Array.getElem?_eq_getElem hi])

set_option maxHeartbeats 1600000 in
theorem flight_any (x : Int) (s : ByteArray) (w : World) :
    Calls Try.prog 44 #[.agg #[.int .i64 x, .string s]] w fun e w' => ∃ g c, e = .returned (.agg #[.int .i64 x, .slice (some ⟨g, 0, none⟩) s.size c]) ∧ FlB w' g c s ∧ w.heap.size ≤ g ∧ Below w.heap.size w w' := by
  obtain ⟨W1, HW1⟩ : ∃ W, Hid ((w.alloc (.cells #[.int .i64 x, .string s] 93)).alloc flZ = W) := ⟨_, rfl⟩
  have hz1 : W1.heap.size = w.heap.size + 2 := by rw [← HW1.out]; simp
  have e1 : (w.alloc (.cells #[.int .i64 x, .string s] 93)).heap.size = w.heap.size + 1 := by simp
  have hb1 : Below w.heap.size w W1 := by rw [← HW1.out]; exact ((Below.refl _ _).alloc (Nat.le_refl _) _).alloc (by simp) _
  have b0 : W1.cell? ⟨w.heap.size, 0, none⟩ = some (.int .i64 x) := by
    rw [← HW1.out, World.cell?_alloc_some _ _ _ (by rw [World.cell?_alloc_at (w := w) _ _ _ 0 rfl]; rfl)]; exact World.cell?_alloc_at (w := w) _ _ _ 0 rfl
  have b1 : W1.cell? ⟨w.heap.size, 1, none⟩ = some (.string s) := by
    rw [← HW1.out, World.cell?_alloc_some _ _ _ (by rw [World.cell?_alloc_at (w := w) _ _ _ 1 rfl]; rfl)]; exact World.cell?_alloc_at (w := w) _ _ _ 1 rfl
  have hr1 := flZ_row (w.alloc (.cells #[.int .i64 x, .string s] 93))
  rw [HW1.out, e1] at hr1
  have hcv := Lib.run_convert_string_bytes (P := Try.prog) W1 9 53 5 s Try.underlying9 Try.underlying53 Try.underlying5
  have hF := flb_new W1 s
  have hb2 := below_bytes W1 s
  rw [hz1] at hcv hF
  generalize grownCap W1 s.size 0 5 = C at *
  generalize Lib.bytesWorld W1 5 s = W2 at *
  have hr2 := hr1.of_block (hb2.block (w.heap.size + 1) (by omega))
  have q0 := hr2.cell (i := 0) (by decide)
  have q1 := hr2.cell (i := 1) (by decide)
  have z0 := hr2.frozen 0
  have z1 := hr2.frozen 1
  have q0' : (W2.cell? ⟨w.heap.size + 1, 0, none⟩) = some (.int .i64 0) := q0
  have q1' : (W2.cell? ⟨w.heap.size + 1, 1, none⟩) = some (.slice none 0 0) := q1
  obtain ⟨W3, HW3⟩ : ∃ W, Hid ((W2.setCell ⟨w.heap.size + 1, 0, none⟩ (.int .i64 x)).setCell ⟨w.heap.size + 1, 1, none⟩ (.slice (some ⟨w.heap.size + 2, 0, none⟩) s.size C) = W) := ⟨_, rfl⟩
  have hr3 := row2_heap ((hr2.set 0 (.int .i64 x)).set 1 (.slice (some ⟨w.heap.size + 2, 0, none⟩) s.size C))
  rw [HW3.out] at hr3
  have hr3 : W3.heap[w.heap.size + 1]? = some (.cells #[.int .i64 x, .slice (some ⟨w.heap.size + 2, 0, none⟩) s.size C] 70 (0, 0)) := hr3
  have hbk : ∀ k, k ≠ w.heap.size + 1 → W3.heap[k]? = W2.heap[k]? := fun k hk => by rw [← HW3.out]; exact (Below.heap_setCell _ _ _ _ hk).trans (Below.heap_setCell _ _ _ _ hk)
  have hb3 : Below w.heap.size w W3 := by
    have := hb1.trans (hb2.mono hb1.size)
    rw [← HW3.out]
    exact (this.setCell (by simp) _).setCell (by simp) _
  have HF : Hid (FlB W3 (w.heap.size + 2) C s ∧ w.heap.size ≤ w.heap.size + 2 ∧ Below w.heap.size w W3) := ⟨hF.on (hbk _ (by omega)), by omega, hb3⟩
  have HR3 : Hid (W3.heap[w.heap.size + 1]? = some (.cells #[.int .i64 x, .slice (some ⟨w.heap.size + 2, 0, none⟩) s.size C] 70 (0, 0))) := hr3
  clear hF hb2 hb1 hr1 hr2 hr3 hbk hb3 q0 q1
  unfold flZ at HW1
  go_enter Try.func44, Try.ntmps44
  go_upto_region 1 with fail
  rw [HW1.out]
  go_wp2
  rw [HW3.out]
  refine bodyPost_ret_by (results_cell_row rfl _ _ (w.heap.size + 1) 70 _ (0, 0) _ rfl HR3.out Try.underlying70 rfl infoFL) rfl ⟨_, _, rfl, HF.out⟩

section
variable {w w' : World} {B nb : Nat} {mv : Value} {room lost : Nat} {ms : List Ms}
set_option maxHeartbeats 1600000 in
theorem look_some (h : NetIs w B nb mv room ms lost) (i : Nat) (x : Int) (s : ByteArray) (hm : ms[i]? = some ⟨x, s⟩) :
    Calls Try.prog 15 #[.pointer (some ⟨nb, 0, none⟩), .int .i64 (i : Nat)] w fun e w' => ∃ g c, e = .returned (.tuple #[.agg #[.int .i64 x, .slice (some ⟨g, 0, none⟩) s.size c], .bool true]) ∧ FlB w' g c s ∧ w.heap.size ≤ g ∧ Below w.heap.size w w' := by
  have hi := (List.getElem?_eq_some_iff.1 hm).1
  have hrm := h.rm
  have hle := h.le
  obtain ⟨W0, HW0⟩ : ∃ W, Hid (w.alloc flZ = W) := ⟨_, rfl⟩
  have hz0 : W0.heap.size = w.heap.size + 1 := by rw [← HW0.out]; simp
  have hb0 : Below w.heap.size w W0 := by rw [← HW0.out]; exact (Below.refl _ _).alloc (Nat.le_refl _) _
  have hr0 := flZ_row w
  rw [HW0.out] at hr0
  have h0 : NetIs W0 B nb mv room ms lost := h.on hb0
  have hh := has_any h0 (i : Int)
  have et : decide ((0 : Int) ≤ (i : Int) ∧ (i : Int) < (ms.length : Int)) = true := by simp; omega
  rw [et] at hh
  obtain ⟨g, c, rfl, hc, p0, p1⟩ := h0.msg hm
  have c1 := h0.c1
  have hf := flight_any x s W0
  have hzi : (i : Int) < (ms.length : Int) := by omega
  generalize ms.length = n at *
  have HF : Hid (∀ w2, Below W0.heap.size W0 w2 → Below w.heap.size w w2 ∧ w2.rowIs w.heap.size 70 2 (fun i => (#[Value.int .i64 0, .slice none 0 0])[i]!)) := fun w2 hb => ⟨hb0.trans (hb.mono hb0.size), hr0.of_block (hb.block _ (by omega))⟩
  clear h h0 hb0 hr0 hm et hi hrm
  unfold flZ at HW0
  go_enter Try.func15, Try.ntmps15
  go_upto_region 1 with fail
  rw [HW0.out]
  go_wp2_with fail
  refine hh.mono ?_
  rintro e w1 ⟨rfl, e1⟩
  subst e1
  go_wp2_with fail
  refine hf.mono ?_
  rintro e w2 ⟨g2, c2, rfl, hfl, hg2, hb2⟩
  obtain ⟨hbw, hr2⟩ := HF.out w2 hb2
  have q0 : (w2.cell? ⟨w.heap.size, 0, none⟩) = some (.int .i64 0) := hr2.cell (i := 0) (by decide)
  have q1 : (w2.cell? ⟨w.heap.size, 1, none⟩) = some (.slice none 0 0) := hr2.cell (i := 1) (by decide)
  have z0 := hr2.frozen 0
  have z1 := hr2.frozen 1
  obtain ⟨W3, HW3⟩ : ∃ W, Hid ((w2.setCell ⟨w.heap.size, 0, none⟩ (.int .i64 x)).setCell ⟨w.heap.size, 1, none⟩ (.slice (some ⟨g2, 0, none⟩) s.size c2) = W) := ⟨_, rfl⟩
  have hr3 := (hr2.set 0 (.int .i64 x)).set 1 (.slice (some ⟨g2, 0, none⟩) s.size c2)
  rw [HW3.out] at hr3
  have r0 : W3.cell? ⟨w.heap.size, 0, none⟩ = some (.int .i64 x) := hr3.cell (i := 0) (by decide)
  have r1 : W3.cell? ⟨w.heap.size, 1, none⟩ = some (.slice (some ⟨g2, 0, none⟩) s.size c2) := hr3.cell (i := 1) (by decide)
  have hF3 : FlB W3 g2 c2 s := hfl.on (by rw [← HW3.out]; exact (Below.heap_setCell _ _ _ _ (by show g2 ≠ w.heap.size; omega)).trans (Below.heap_setCell _ _ _ _ (by show g2 ≠ w.heap.size; omega)))
  have hb3 : Below w.heap.size w W3 := by
    rw [← HW3.out]
    exact (hbw.setCell (by simp) _).setCell (by simp) _
  have HE : Hid (FlB W3 g2 c2 s ∧ w.heap.size ≤ g2 ∧ Below w.heap.size w W3) := ⟨hF3, by omega, hb3⟩
  clear hf hh hfl hb2 hbw hr2 hr3 hF3 hb3 HF
  go_wp2
  rw [HW3.out]
  refine bodyPost_ret_by (v := .tuple #[.agg #[.int .i64 x, .slice (some ⟨g2, 0, none⟩) s.size c2], .bool true]) ?_ rfl ⟨g2, c2, rfl, HE.out⟩
  rw [results_cell_tmp rfl]
  go_simp
set_option maxHeartbeats 1600000 in
theorem look_none (h : NetIs w B nb mv room ms lost) (i : Int) (hi : ¬ (0 ≤ i ∧ i < ms.length)) :
    Calls Try.prog 15 #[.pointer (some ⟨nb, 0, none⟩), .int .i64 i] w fun e w' => e = .returned (.tuple #[.agg #[.int .i64 0, .slice none 0 0], .bool false]) ∧ Below w.heap.size w w' := by
  obtain ⟨W0, HW0⟩ : ∃ W, Hid (w.alloc flZ = W) := ⟨_, rfl⟩
  have hb0 : Below w.heap.size w W0 := by rw [← HW0.out]; exact (Below.refl _ _).alloc (Nat.le_refl _) _
  have hr0 := flZ_row w
  rw [HW0.out] at hr0
  have h0 : NetIs W0 B nb mv room ms lost := h.on hb0
  have hh := has_any h0 i
  have et : decide ((0 : Int) ≤ (i : Int) ∧ (i : Int) < (ms.length : Int)) = false := by simp; omega
  rw [et] at hh
  have q0 : (W0.cell? ⟨w.heap.size, 0, none⟩) = some (.int .i64 0) := hr0.cell (i := 0) (by decide)
  have q1 : (W0.cell? ⟨w.heap.size, 1, none⟩) = some (.slice none 0 0) := hr0.cell (i := 1) (by decide)
  have z0 := hr0.frozen 0
  have z1 := hr0.frozen 1
  obtain ⟨W3, HW3⟩ : ∃ W, Hid ((W0.setCell ⟨w.heap.size, 0, none⟩ (.int .i64 0)).setCell ⟨w.heap.size, 1, none⟩ (.slice none 0 0) = W) := ⟨_, rfl⟩
  have hr3 := (hr0.set 0 (.int .i64 0)).set 1 (.slice none 0 0)
  rw [HW3.out] at hr3
  have r0 : W3.cell? ⟨w.heap.size, 0, none⟩ = some (.int .i64 0) := hr3.cell (i := 0) (by decide)
  have r1 : W3.cell? ⟨w.heap.size, 1, none⟩ = some (.slice none 0 0) := hr3.cell (i := 1) (by decide)
  have hb3 : Below w.heap.size w W3 := by
    rw [← HW3.out]
    exact (hb0.setCell (by simp) _).setCell (by simp) _
  have HE : Hid (Below w.heap.size w W3) := hb3
  clear h h0 hb0 hr0 et hi hr3 hb3
  unfold flZ at HW0
  go_enter Try.func15, Try.ntmps15
  go_upto_region 1 with fail
  rw [HW0.out]
  go_wp2_with fail
  refine hh.mono ?_
  rintro e w1 ⟨rfl, e1⟩
  subst e1
  go_wp2
  rw [HW3.out]
  refine bodyPost_ret_by (v := .tuple #[.agg #[.int .i64 0, .slice none 0 0], .bool false]) ?_ rfl ⟨rfl, HE.out⟩
  rw [results_cell_tmp rfl]
  go_simp
end
end Go.Proofs.Ytgpmoakfbhcidaa
