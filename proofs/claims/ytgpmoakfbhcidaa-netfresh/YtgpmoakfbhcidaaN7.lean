/- tallylaw6: same, lives. -/
import Derived.Test.YtgpmoakfbhcidaaN6
namespace Go.Proofs.Ytgpmoakfbhcidaa
open Go.RowKit
set_option maxRecDepth 100000
set_option maxRecDepth 100000

set_option maxHeartbeats 800000 in
theorem same_any (x : Int) (a b : Option Addr) (n c d : Nat) (y : Nat → Nat) (w : World) (ha : Byt w a n y) (hb : Byt w b n y) (hmax : n ≤ 281474976710656) :
    Calls Try.prog 21 #[.agg #[.int .i64 x, .slice a n c], .agg #[.int .i64 x, .slice b n d]] w fun e w' => e = .returned (.bool true) ∧ Below w.heap.size w w' := by
  obtain ⟨W, HW⟩ : ∃ W, Hid ((w.alloc (.cells #[.int .i64 x, .slice a n c] 70)).alloc (.cells #[.int .i64 x, .slice b n d] 70) = W) := ⟨_, rfl⟩
  have h1 := row2_alloc w (.int .i64 x) (.slice a n c) 70
  have hz1 : (w.alloc (.cells #[.int .i64 x, .slice a n c] 70)).heap.size = w.heap.size + 1 := by simp
  have h2 := row2_alloc (w.alloc (.cells #[.int .i64 x, .slice a n c] 70)) (.int .i64 x) (.slice b n d) 70
  rw [HW.out, hz1] at h2
  have h1' : W.rowIs w.heap.size 70 2 (fun i => if i = 0 then .int .i64 x else .slice a n c) := h1.of_block (by rw [← HW.out]; exact Below.heap_alloc _ _ _ (by omega))
  have hB : Below w.heap.size w W := by rw [← HW.out]; exact ((Below.refl _ _).alloc (Nat.le_refl _) _).alloc (by simp) _
  have p0 : W.cell? ⟨w.heap.size, 0, none⟩ = some (.int .i64 x) := h1'.cell (i := 0) (by decide)
  have p1 : W.cell? ⟨w.heap.size, 1, none⟩ = some (.slice a n c) := h1'.cell (i := 1) (by decide)
  have q0 : W.cell? ⟨w.heap.size + 1, 0, none⟩ = some (.int .i64 x) := h2.cell (i := 0) (by decide)
  have q1 : W.cell? ⟨w.heap.size + 1, 1, none⟩ = some (.slice b n d) := h2.cell (i := 1) (by decide)
  have he := eq_same a b n c d y W (ha.on hB) (hb.on hB) hmax
  have HB : Hid (Below w.heap.size w W) := hB
  have hxx : (x == x) = true := by simp
  clear h1 h2 h1' hB ha hb hz1
  go_enter Try.func21, Try.ntmps21
  go_upto_region 1 with fail
  rw [HW.out]
  go_wp2_with fail
  refine he.mono ?_
  rintro e w1 ⟨rfl, m, rfl⟩
  go_wp2_with fail
  go_ret
  exact ⟨rfl, below_dN HB.out m⟩

/-- The bytes of []byte("x"). -/
theorem byt_x (w : World) : Byt (w.alloc (.cells #[.int .u8 120] 5 (1, 2))) (some ⟨w.heap.size, 0, none⟩) 1 (fun _ => 120) := fun j hj => ⟨w.heap.size, 0, rfl, by
  obtain rfl : j = 0 := by omega
  exact World.cell?_alloc_mark w _ _ _ 0⟩

set_option maxHeartbeats 1600000 in
theorem lives_any (w : World) : Calls Try.prog 10 #[] w fun e w' => e = .returned (.bool true) ∧ Below w.heap.size w w' := by
  have hnew := new_any 1 (by decide) (by decide) w
  have hnum : Hid (∀ W, Calls Try.prog 19 #[.int .i64 0] W fun e w' => e = .returned (.int .i64 0) ∧ w' = W) := fun W => num_any 0 W
  obtain ⟨S, HS⟩ : ∃ S, Hid (S = strOf 1 (fun _ => 120)) := ⟨_, rfl⟩
  have HS1 : Hid (S.size = 1) := by rw [HS.out]; exact strOf_size _ _
  have HSB : Hid (∀ (W : World) (g c : Nat), FlB W g c S → Byt W (some ⟨g, 0, none⟩) 1 (fun _ => 120)) := fun W g c h j hj => by
    have := h.byt j (by rw [HS1.out]; exact hj)
    rw [HS.out, bx_strOf (fun _ _ => by decide) hj] at this
    exact this
  have kc := fun (w : World) (C : Array Value) (n c : Nat) => Lib.run_convert_bytes_const (P := Try.prog) w 53 5 C n c Try.underlying53 Try.underlying5
  go_enter Try.func10, Try.ntmps10
  go_wp2_with fail
  refine hnew.mono ?_
  rintro e w1 ⟨rfl, hN1, hb1, hz1⟩
  have hx1 := byt_x w1
  have hbx : Below w1.heap.size w1 (w1.alloc (.cells #[.int .u8 120] 5 (1, 2))) := (Below.refl _ _).alloc (Nat.le_refl _) _
  have HBX : Hid (Below w.heap.size w (w1.alloc (.cells #[.int .u8 120] 5 (1, 2)))) := hb1.trans (hbx.mono (by omega))
  have hs1 := send_some (hN1.on hbx) (by simp; omega) (by decide) 3 (some ⟨w1.heap.size, 0, none⟩) 1 1 (fun _ => 120) hx1 (fun h => by cases h)
  rw [← HS.out] at hs1
  have HS3 : Hid (Calls Try.prog 12 #[.pointer (some ⟨w.heap.size, 0, none⟩), .int .i64 3, .slice (some ⟨w1.heap.size, 0, none⟩) 1 1] (w1.alloc (.cells #[.int .u8 120] 5 (1, 2))) fun e w' => e = .returned (.bool true) ∧ (∃ mv, NetIs w' w.heap.size w.heap.size mv 1 [⟨3, S⟩] 0) ∧ Below w.heap.size w w') := hs1.mono fun e w' ⟨he, mv, h1, h2⟩ => ⟨he, ⟨mv, h1⟩, h2.below HBX.out HBX.out.size (fun k hf => (hN1.ge k hf).1)⟩
  have kc1 := kc w1 #[.int .u8 120] 1 1
  clear hnew hs1 hN1 hb1 hbx HBX hx1 hz1
  go_wp2_with fail
  refine (hnum.out _).mono ?_
  rintro e w2 ⟨rfl, e2⟩
  subst e2
  go_wp2_with fail
  refine HS3.out.mono ?_
  rintro e w3 ⟨rfl, ⟨mv3, hN3⟩, hb3⟩
  have h4 := send_full hN3 (by simp) (by decide) 4 (.slice none 0 0)
  have HS4 : Hid (Calls Try.prog 12 #[.pointer (some ⟨w.heap.size, 0, none⟩), .int .i64 4, .slice none 0 0] w3 fun e w' => e = .returned (.bool false) ∧ (∃ mv, NetIs w' w.heap.size w.heap.size mv 1 [⟨3, S⟩] 1) ∧ Below w.heap.size w w') := h4.mono fun e w' ⟨he, h1, h2⟩ => ⟨he, ⟨_, h1⟩, h2.below hb3 hb3.size (fun k hf => (hN3.ge k hf).1)⟩
  clear h4 hN3 hb3 HS3 kc1
  go_wp2_with fail
  refine HS4.out.mono ?_
  rintro e w4 ⟨rfl, ⟨mv4, hN4⟩, hb4⟩
  have h5 := lost_any hN4
  have HT : Hid (Calls Try.prog 20 #[.pointer (some ⟨w.heap.size, 0, none⟩), .int .i64 0] w4 fun e w' => ∃ g c, e = .returned (.tuple #[.agg #[.int .i64 3, .slice (some ⟨g, 0, none⟩) 1 c], .bool true]) ∧ Byt w' (some ⟨g, 0, none⟩) 1 (fun _ => 120) ∧ (∃ mv, NetIs w' w.heap.size w.heap.size mv 1 [] 1) ∧ Below w.heap.size w w') := by
    have := take_some hN4 0 3 S rfl
    rw [HS1.out] at this
    exact this.mono fun e w' ⟨g, c, he, hF, _, mv', h1, h2⟩ => ⟨g, c, he, HSB.out w' g c hF, ⟨mv', h1⟩, h2.below hb4 hb4.size (fun k hf => (hN4.ge k hf).1)⟩
  clear hN4 hb4 HS4
  go_wp2_with fail
  refine h5.mono ?_
  rintro e w5 ⟨rfl, e5⟩
  subst e5
  go_wp2_with fail
  refine HT.out.mono ?_
  rintro e w6 ⟨g, c, rfl, hB6, ⟨mv6, hN6⟩, hb6⟩
  obtain ⟨W7, HW7⟩ : ∃ W, Hid (w6.alloc (.cells #[.int .i64 3, .slice (some ⟨g, 0, none⟩) 1 c] 70) = W) := ⟨_, rfl⟩
  have hb7 : Below w6.heap.size w6 W7 := by rw [← HW7.out]; exact (Below.refl _ _).alloc (Nat.le_refl _) _
  have hr7 := row2_alloc w6 (.int .i64 3) (.slice (some ⟨g, 0, none⟩) 1 c) 70
  rw [HW7.out] at hr7
  have v0 : W7.cell? ⟨w6.heap.size, 0, none⟩ = some (.int .i64 3) := hr7.cell (i := 0) (by decide)
  have v1 : W7.cell? ⟨w6.heap.size, 1, none⟩ = some (.slice (some ⟨g, 0, none⟩) 1 c) := hr7.cell (i := 1) (by decide)
  have hx7 := byt_x W7
  have hbx : Below W7.heap.size W7 (W7.alloc (.cells #[.int .u8 120] 5 (1, 2))) := (Below.refl _ _).alloc (Nat.le_refl _) _
  have h6x : Below w6.heap.size w6 (W7.alloc (.cells #[.int .u8 120] 5 (1, 2))) := hb7.trans (hbx.mono hb7.size)
  have HSM : Hid (Calls Try.prog 21 #[.agg #[.int .i64 3, .slice (some ⟨g, 0, none⟩) 1 c], .agg #[.int .i64 3, .slice (some ⟨W7.heap.size, 0, none⟩) 1 1]] (W7.alloc (.cells #[.int .u8 120] 5 (1, 2))) fun e w' => e = .returned (.bool true) ∧ Below w.heap.size w w' ∧ Hid (Calls Try.prog 34 #[.pointer (some ⟨w.heap.size, 0, none⟩)] w' fun e w'' => e = .returned (.int .i64 0) ∧ w'' = w')) :=
    (same_any 3 _ _ 1 c 1 (fun _ => 120) _ (hB6.on h6x) hx7 (by decide)).mono fun e w' ⟨he, h1⟩ => by
      have hb' := h6x.trans (h1.mono h6x.size)
      exact ⟨he, hb6.trans (hb'.mono hb6.size), len_any (hN6.on hb')⟩
  have kc7 := kc W7 #[.int .u8 120] 1 1
  clear HT h5 hB6 hN6 hb6 hb7 hr7 hx7 hbx h6x kc
  go_upto_region 5 with fail
  rw [HW7.out]
  go_wp2_with fail
  refine HSM.out.mono ?_
  rintro e w8 ⟨rfl, hb8, HL⟩
  go_wp2_with fail
  refine HL.out.mono ?_
  rintro e w9 ⟨rfl, e9⟩
  subst e9
  go_wp2_with fail
  go_ret
  exact ⟨rfl, hb8⟩
end Go.Proofs.Ytgpmoakfbhcidaa
