/- Own texts, joined: N6, N7, X1, X2, X3, X4, X5, X6. -/
import Derived.Test.YtdfhdneimoimmaaM1
import Derived.Lib.SlBytesConst
import Derived.BigQuiet

/- NetKeeps: messages with numbers of their own; into, num, which, tag, lives. -/
namespace Go.Proofs.Ytdfhdneimoimmaa
open Go.RowKit
set_option maxRecDepth 100000
set_option maxRecDepth 100000

theorem strOf_size (n : Nat) (x : Nat → Nat) : (strOf n x).size = n := by rw [strOf, strOfNums_size]; simp
theorem bx_strOf {n : Nat} {x : Nat → Nat} (h : ∀ j, j < n → x j < 256) {j : Nat} (hj : j < n) : bx (strOf n x) j = x j := by
  unfold bx strOf
  rw [strOfNums_data]
  simp [List.getD, hj]
  have := h j hj
  omega
theorem since_below {B : Nat} {w w' : World} (h : w.Since B w') : Below B w w' := ⟨h.os, h.tape, h.output, h.size, h.block⟩
theorem below_since {B : Nat} {w w' : World} (h : Below B w w') : w.Since B w' := ⟨h.os, h.tape, h.output, h.size, h.block⟩
theorem below_dN {B : Nat} {w w' : World} (h : Below B w w') (m : Nat) : Below B w (w'.drewN m) := ⟨h.os, h.tape, h.output, h.size, h.block⟩
theorem Byt.on {w w' : World} {a : Option Addr} {n : Nat} {x : Nat → Nat} (h : Byt w a n x) (hb : Below w.heap.size w w') : Byt w' a n x := h.since (below_since hb)
theorem cel_on {w w' : World} (hb : Below w.heap.size w w') {a : Addr} {v : Value} (h : w.cell? a = some v) : w'.cell? a = some v := by
  rw [World.cell?_of_block (w := w) (hb.block _ (World.block_lt_of_cell? _ _ h))]; exact h

set_option maxHeartbeats 800000 in
theorem cmp_same (a b : Option Addr) (n c d : Nat) (x : Nat → Nat) (w : World) (ha : Byt w a n x) (hb : Byt w b n x) (hmax : n ≤ 281474976710656) :
    Calls Try.prog 57 #[.slice a n c, .slice b n d] w fun e w' => e = .returned (.int .i64 0) ∧ ∃ m, w' = w.drewN m := by
  go_enter Try.func57, Try.ntmps57
  go_wp2_with fail
  go_loopg [5] n (fun q s5 wx => ∃ (i m : Nat), i ≤ n ∧ q = n - i ∧ s5 = .int .i64 i ∧ wx = w.drewN m)
  case atStart => exact ⟨0, 0, Nat.zero_le _, rfl, rfl, rfl⟩
  case round =>
    obtain ⟨i, m, hi, rfl, rfl, rfl⟩ := hrel
    by_cases hlt : i < n
    · obtain ⟨b1, o1, rfl, hc1⟩ := ha i hlt
      obtain ⟨b2, o2, rfl, hc2⟩ := hb i hlt
      have hc1' : (w.drewN m).cell? ⟨b1, o1 + i, none⟩ = some (.int .u8 (x i : Nat)) := hc1
      have hc2' : (w.drewN m).cell? ⟨b2, o2 + i, none⟩ = some (.int .u8 (x i : Nat)) := hc2
      have hz : (i : Int) < (n : Int) := by omega
      have HD : Hid (∀ n, (w.drewN m).drewN n = w.drewN (m + n)) := fun n => World.drewN_drewN _ _ _
      generalize w.drewN m = wd at *
      clear hc1 hc2 ha hb
      go_wp2_with fail
      go_quiet (fail)
      go_wp2_with fail
      go_quiet (fail)
      go_wp2_with fail
      go_roundg (n - (i + 1))
      case measure => go_light; omega
      case rel => go_light; exact ⟨i + 1, _, by omega, rfl, by simp, (unhide HD) _⟩
    · obtain rfl : i = n := by omega
      clear ha hb
      go_wp2_with fail
      go_ret
      exact ⟨rfl, m, rfl⟩
theorem eq_same (a b : Option Addr) (n c d : Nat) (x : Nat → Nat) (w : World) (ha : Byt w a n x) (hb : Byt w b n x) (hmax : n ≤ 281474976710656) :
    Calls Try.prog 37 #[.slice a n c, .slice b n d] w fun e w' => e = .returned (.bool true) ∧ ∃ m, w' = w.drewN m := by
  have hc := cmp_same a b n c d x w ha hb hmax
  go_enter Try.func37, Try.ntmps37
  go_wp2_with fail
  refine hc.mono ?_
  rintro e w1 ⟨rfl, m, rfl⟩
  go_wp2_with fail
  go_ret
  exact ⟨rfl, m, rfl⟩

theorem num_any (n : Int) (w : World) : Calls Try.prog 8 #[.int .i64 n] w fun e w' => e = .returned (.int .i64 n) ∧ w' = w := by
  go_enter Try.func8, Try.ntmps8
  go_wp2
  go_ret
  exact ⟨rfl, rfl⟩
/-- into: a number from 0 to m - 1. -/
theorem into_any (K : Int) (m : Nat) (hm : 0 < m) (hm2 : m ≤ 1000000) (w : World) : Calls Try.prog 6 #[.int .i64 K, .int .i64 (m : Nat)] w fun e w' => w' = w ∧ ∃ k : Nat, k < m ∧ e = .returned (.int .i64 (k : Nat)) := by
  have h1 := Int.tmod_lt_of_pos K (show (0 : Int) < (m : Int) by omega)
  have h2 := Int.lt_tmod_of_pos K (show (0 : Int) < (m : Int) by omega)
  have h0 : ¬ (m : Int) = 0 := by omega
  have h0' : ((m : Int) == 0) = false := by simp; omega
  have hmw : IntKind.i64.wrap (K.tmod m) = K.tmod m := by rw [IntKind.wrap_i64]; omega
  by_cases hn : K.tmod m < 0
  · obtain ⟨k, hk, hk2⟩ : ∃ k : Nat, K.tmod m + (m : Int) = (k : Int) ∧ k < m := ⟨(K.tmod m + m).toNat, by omega, by omega⟩
    have hw : IntKind.i64.wrap (k : Int) = (k : Int) := by rw [IntKind.wrap_i64]; omega
    go_enter Try.func6, Try.ntmps6
    go_wp2
    go_ret
    exact ⟨rfl, k, hk2, rfl⟩
  · obtain ⟨k, hk, hk2⟩ : ∃ k : Nat, K.tmod m = (k : Int) ∧ k < m := ⟨(K.tmod m).toNat, by omega, by omega⟩
    rw [hk] at hmw hn
    go_enter Try.func6, Try.ntmps6
    go_wp2
    go_ret
    exact ⟨rfl, k, hk2, rfl⟩

/-- The bytes of the message of number i. -/
def tagx (i : Nat) (j : Nat) : Nat := if j = 0 then i % 256 else i / 256
theorem tagx_lt {i : Nat} (hi : i < 300) (j : Nat) : tagx i j < 256 := by
  unfold tagx; split <;> omega
def tagM (i : Nat) : Ms := ⟨((i % 7 : Nat) : Int), strOf 2 (tagx i)⟩

theorem tag_any (i : Nat) (hi : i < 300) (w : World) :
    Calls Try.prog 11 #[.int .i64 (i : Nat)] w fun e w' => ∃ g, e = .returned (.slice (some ⟨g, 0, none⟩) 2 2) ∧ Byt w' (some ⟨g, 0, none⟩) 2 (tagx i) ∧ Below w.heap.size w w' := by
  have hw1 : IntKind.u8.wrap (i : Int) = ((i % 256 : Nat) : Int) := by rw [IntKind.wrap_u8']; omega
  have hsh : (i : Int) >>> 8 = ((i / 256 : Nat) : Int) := by rw [Int.shiftRight_eq_div_pow]; omega
  have hw2 : IntKind.u8.wrap ((i / 256 : Nat) : Int) = ((i / 256 : Nat) : Int) := by rw [IntKind.wrap_u8']; omega
  have hw3 : IntKind.i64.wrap ((i / 256 : Nat) : Int) = ((i / 256 : Nat) : Int) := by rw [IntKind.wrap_i64]; omega
  have HE : Hid (Byt (w.alloc (.cells #[.int .u8 ((i % 256 : Nat) : Int), .int .u8 ((i / 256 : Nat) : Int)] 5)) (some ⟨w.heap.size, 0, none⟩) 2 (tagx i) ∧ Below w.heap.size w (w.alloc (.cells #[.int .u8 ((i % 256 : Nat) : Int), .int .u8 ((i / 256 : Nat) : Int)] 5))) := by
    refine ⟨fun j hj => ⟨w.heap.size, 0, rfl, ?_⟩, (Below.refl _ _).alloc (Nat.le_refl _) _⟩
    match j, hj with
    | 0, _ => exact World.cell?_alloc_at (w := w) _ _ _ 0 rfl
    | 1, _ => exact World.cell?_alloc_at (w := w) _ _ _ 1 rfl
  have hd : (i : Int) / 256 = ((i / 256 : Nat) : Int) := by omega
  generalize i / 256 = p at *
  generalize i % 256 = q at *
  go_enter Try.func11, Try.ntmps11
  go_wp2
  go_ret
  exact ⟨_, rfl, HE.out⟩

/-- The two bytes of the message of number i lie at g. -/
def Tgd (w : World) (g i : Nat) : Prop := w.cell? ⟨g, 0, none⟩ = some (.int .u8 (tagx i 0 : Nat)) ∧ w.cell? ⟨g, 1, none⟩ = some (.int .u8 (tagx i 1 : Nat))
theorem Tgd.of {w : World} {g c i : Nat} (h : FlB w g c (strOf 2 (tagx i))) (hi : i < 300) : Tgd w g i := by
  have h0 := h.cell 0 (by rw [strOf_size]; decide)
  have h1 := h.cell 1 (by rw [strOf_size]; decide)
  rw [bx_strOf (fun j _ => tagx_lt hi j) (by decide)] at h0 h1
  exact ⟨h0, h1⟩
theorem Tgd.on {w w' : World} {g i : Nat} (h : Tgd w g i) (hb : Below w.heap.size w w') : Tgd w' g i := ⟨cel_on hb h.1, cel_on hb h.2⟩
set_option maxHeartbeats 800000 in
theorem which_any (g c i : Nat) (hi : i < 300) (w : World) (h : Tgd w g i) :
    Calls Try.prog 14 #[.agg #[.int .i64 (i % 7 : Nat), .slice (some ⟨g, 0, none⟩) 2 c]] w fun e w' => e = .returned (.int .i64 (i : Nat)) ∧ Below w.heap.size w w' := by
  have hb0 : Below w.heap.size w (w.alloc (.cells #[.int .i64 (i % 7 : Nat), .slice (some ⟨g, 0, none⟩) 2 c] 46)) := (Below.refl _ _).alloc (Nat.le_refl _) _
  have hT := h.on hb0
  have hr := row2_alloc w (.int .i64 (i % 7 : Nat)) (.slice (some ⟨g, 0, none⟩) 2 c) 46
  generalize hW : w.alloc (.cells #[.int .i64 (i % 7 : Nat), .slice (some ⟨g, 0, none⟩) 2 c] 46) = W at *
  have HW := hide hW
  have t0 : W.cell? ⟨g, 0, none⟩ = some (.int .u8 ((i % 256 : Nat) : Int)) := hT.1
  have t1 : W.cell? ⟨g, 1, none⟩ = some (.int .u8 ((i / 256 : Nat) : Int)) := hT.2
  have r1 : W.cell? ⟨w.heap.size, 1, none⟩ = some (.slice (some ⟨g, 0, none⟩) 2 c) := hr.cell (i := 1) (by decide)
  have w1 : IntKind.i64.wrap ((i % 256 : Nat) : Int) = ((i % 256 : Nat) : Int) := by rw [IntKind.wrap_i64]; omega
  have w2 : IntKind.i64.wrap ((i / 256 : Nat) : Int) = ((i / 256 : Nat) : Int) := by rw [IntKind.wrap_i64]; omega
  obtain ⟨p, hp, hp2⟩ : ∃ p : Nat, (256 : Int) * ((i / 256 : Nat) : Int) = (p : Int) ∧ p = 256 * (i / 256) := ⟨_, by omega, rfl⟩
  have w3 : IntKind.i64.wrap (p : Int) = (p : Int) := by rw [IntKind.wrap_i64]; omega
  have hs : ((i % 256 : Nat) : Int) + (p : Int) = (i : Int) := by omega
  have w4 : IntKind.i64.wrap (i : Int) = (i : Int) := by rw [IntKind.wrap_i64]; omega
  have HB : Hid (Below w.heap.size w W) := hb0
  clear hT hr hb0 h hW hp2
  generalize i / 256 = P at *
  generalize i % 256 = Q at *
  generalize i % 7 = R at *
  go_enter Try.func14, Try.ntmps14
  go_upto_region 1 with fail
  rw [HW.out]
  go_wp2_with fail
  go_quiet (fail)
  go_wp2_with fail
  go_ret
  exact ⟨rfl, below_dN HB.out _⟩
end Go.Proofs.Ytdfhdneimoimmaa

/- tallylaw6: same, lives. -/
namespace Go.Proofs.Ytdfhdneimoimmaa
open Go.RowKit
set_option maxRecDepth 100000
set_option maxRecDepth 100000

set_option maxHeartbeats 800000 in
theorem same_any (x : Int) (a b : Option Addr) (n c d : Nat) (y : Nat → Nat) (w : World) (ha : Byt w a n y) (hb : Byt w b n y) (hmax : n ≤ 281474976710656) :
    Calls Try.prog 21 #[.agg #[.int .i64 x, .slice a n c], .agg #[.int .i64 x, .slice b n d]] w fun e w' => e = .returned (.bool true) ∧ Below w.heap.size w w' := by
  obtain ⟨W, HW⟩ : ∃ W, Hid ((w.alloc (.cells #[.int .i64 x, .slice a n c] 46)).alloc (.cells #[.int .i64 x, .slice b n d] 46) = W) := ⟨_, rfl⟩
  have h1 := row2_alloc w (.int .i64 x) (.slice a n c) 46
  have hz1 : (w.alloc (.cells #[.int .i64 x, .slice a n c] 46)).heap.size = w.heap.size + 1 := by simp
  have h2 := row2_alloc (w.alloc (.cells #[.int .i64 x, .slice a n c] 46)) (.int .i64 x) (.slice b n d) 46
  rw [HW.out, hz1] at h2
  have h1' : W.rowIs w.heap.size 46 2 (fun i => if i = 0 then .int .i64 x else .slice a n c) := h1.of_block (by rw [← HW.out]; exact Below.heap_alloc _ _ _ (by omega))
  have hB : Below w.heap.size w W := by rw [← HW.out]; exact ((Below.refl _ _).alloc (Nat.le_refl _) _).alloc (by simp) _
  have p0 : W.cell? ⟨w.heap.size, 0, none⟩ = some (.int .i64 x) := h1'.cell (i := 0) (by decide)
  have p1 : W.cell? ⟨w.heap.size, 1, none⟩ = some (.slice a n c) := h1'.cell (i := 1) (by decide)
  have q0 : W.cell? ⟨w.heap.size + 1, 0, none⟩ = some (.int .i64 x) := h2.cell (i := 0) (by decide)
  have q1 : W.cell? ⟨w.heap.size + 1, 1, none⟩ = some (.slice b n d) := h2.cell (i := 1) (by decide)
  have he := eq_same a b n c d y W (ha.on hB) (hb.on hB) hmax
  have HB : Hid (Below w.heap.size w W) := hB
  have hxx : (x == x) = true := by simp
  clear h1 h2 h1' hB ha hb hz1
  go_enter Try.func21, Try.ntmps21
  go_upto_region 1 with fail
  rw [HW.out]
  go_wp2_with fail
  refine he.mono ?_
  rintro e w1 ⟨rfl, m, rfl⟩
  go_wp2_with fail
  go_ret
  exact ⟨rfl, below_dN HB.out m⟩

/-- The bytes of []byte("x"). -/
theorem byt_x (w : World) : Byt (w.alloc (.cells #[.int .u8 120] 5 (1, 2))) (some ⟨w.heap.size, 0, none⟩) 1 (fun _ => 120) := fun j hj => ⟨w.heap.size, 0, rfl, by
  obtain rfl : j = 0 := by omega
  exact World.cell?_alloc_mark w _ _ _ 0⟩

set_option maxHeartbeats 1600000 in
theorem lives_any (w : World) : Calls Try.prog 9 #[] w fun e w' => e = .returned (.bool true) ∧ Below w.heap.size w w' := by
  have hnew := new_any 1 (by decide) (by decide) w
  have hnum : Hid (∀ W, Calls Try.prog 8 #[.int .i64 0] W fun e w' => e = .returned (.int .i64 0) ∧ w' = W) := fun W => num_any 0 W
  obtain ⟨S, HS⟩ : ∃ S, Hid (S = strOf 1 (fun _ => 120)) := ⟨_, rfl⟩
  have HS1 : Hid (S.size = 1) := by rw [HS.out]; exact strOf_size _ _
  have HSB : Hid (∀ (W : World) (g c : Nat), FlB W g c S → Byt W (some ⟨g, 0, none⟩) 1 (fun _ => 120)) := fun W g c h j hj => by
    have := h.byt j (by rw [HS1.out]; exact hj)
    rw [HS.out, bx_strOf (fun _ _ => by decide) hj] at this
    exact this
  have kc := fun (w : World) (C : Array Value) (n c : Nat) => Lib.run_convert_bytes_const (P := Try.prog) w 37 5 C n c Try.underlying37 Try.underlying5
  go_enter Try.func9, Try.ntmps9
  go_wp2_with fail
  refine hnew.mono ?_
  rintro e w1 ⟨rfl, hN1, hb1, hz1⟩
  have hx1 := byt_x w1
  have hbx : Below w1.heap.size w1 (w1.alloc (.cells #[.int .u8 120] 5 (1, 2))) := (Below.refl _ _).alloc (Nat.le_refl _) _
  have HBX : Hid (Below w.heap.size w (w1.alloc (.cells #[.int .u8 120] 5 (1, 2)))) := hb1.trans (hbx.mono (by omega))
  have hs1 := send_some (hN1.on hbx) (by simp; omega) (by decide) 3 (some ⟨w1.heap.size, 0, none⟩) 1 1 (fun _ => 120) hx1 (fun h => by cases h)
  rw [← HS.out] at hs1
  have HS3 : Hid (Calls Try.prog 10 #[.pointer (some ⟨w.heap.size, 0, none⟩), .int .i64 3, .slice (some ⟨w1.heap.size, 0, none⟩) 1 1] (w1.alloc (.cells #[.int .u8 120] 5 (1, 2))) fun e w' => e = .returned (.bool true) ∧ (∃ mv, NetIs w' w.heap.size w.heap.size mv 1 [⟨3, S⟩] 0) ∧ Below w.heap.size w w') := hs1.mono fun e w' ⟨he, mv, h1, h2⟩ => ⟨he, ⟨mv, h1⟩, h2.below HBX.out HBX.out.size (fun k hf => (hN1.ge k hf).1)⟩
  have kc1 := kc w1 #[.int .u8 120] 1 1
  clear hnew hs1 hN1 hb1 hbx HBX hx1 hz1
  go_wp2_with fail
  refine (hnum.out _).mono ?_
  rintro e w2 ⟨rfl, e2⟩
  subst e2
  go_wp2_with fail
  refine HS3.out.mono ?_
  rintro e w3 ⟨rfl, ⟨mv3, hN3⟩, hb3⟩
  have h4 := send_full hN3 (by simp) (by decide) 4 (.slice none 0 0)
  have HS4 : Hid (Calls Try.prog 10 #[.pointer (some ⟨w.heap.size, 0, none⟩), .int .i64 4, .slice none 0 0] w3 fun e w' => e = .returned (.bool false) ∧ (∃ mv, NetIs w' w.heap.size w.heap.size mv 1 [⟨3, S⟩] 1) ∧ Below w.heap.size w w') := h4.mono fun e w' ⟨he, h1, h2⟩ => ⟨he, ⟨_, h1⟩, h2.below hb3 hb3.size (fun k hf => (hN3.ge k hf).1)⟩
  clear h4 hN3 hb3 HS3 kc1
  go_wp2_with fail
  refine HS4.out.mono ?_
  rintro e w4 ⟨rfl, ⟨mv4, hN4⟩, hb4⟩
  have h5 := lost_any hN4
  have HT : Hid (Calls Try.prog 13 #[.pointer (some ⟨w.heap.size, 0, none⟩), .int .i64 0] w4 fun e w' => ∃ g c, e = .returned (.tuple #[.agg #[.int .i64 3, .slice (some ⟨g, 0, none⟩) 1 c], .bool true]) ∧ Byt w' (some ⟨g, 0, none⟩) 1 (fun _ => 120) ∧ (∃ mv, NetIs w' w.heap.size w.heap.size mv 1 [] 1) ∧ Below w.heap.size w w') := by
    have := take_some hN4 0 3 S rfl
    rw [HS1.out] at this
    exact this.mono fun e w' ⟨g, c, he, hF, _, mv', h1, h2⟩ => ⟨g, c, he, HSB.out w' g c hF, ⟨mv', h1⟩, h2.below hb4 hb4.size (fun k hf => (hN4.ge k hf).1)⟩
  clear hN4 hb4 HS4
  go_wp2_with fail
  refine h5.mono ?_
  rintro e w5 ⟨rfl, e5⟩
  subst e5
  go_wp2_with fail
  refine HT.out.mono ?_
  rintro e w6 ⟨g, c, rfl, hB6, ⟨mv6, hN6⟩, hb6⟩
  obtain ⟨W7, HW7⟩ : ∃ W, Hid (w6.alloc (.cells #[.int .i64 3, .slice (some ⟨g, 0, none⟩) 1 c] 46) = W) := ⟨_, rfl⟩
  have hb7 : Below w6.heap.size w6 W7 := by rw [← HW7.out]; exact (Below.refl _ _).alloc (Nat.le_refl _) _
  have hr7 := row2_alloc w6 (.int .i64 3) (.slice (some ⟨g, 0, none⟩) 1 c) 46
  rw [HW7.out] at hr7
  have v0 : W7.cell? ⟨w6.heap.size, 0, none⟩ = some (.int .i64 3) := hr7.cell (i := 0) (by decide)
  have v1 : W7.cell? ⟨w6.heap.size, 1, none⟩ = some (.slice (some ⟨g, 0, none⟩) 1 c) := hr7.cell (i := 1) (by decide)
  have hx7 := byt_x W7
  have hbx : Below W7.heap.size W7 (W7.alloc (.cells #[.int .u8 120] 5 (1, 2))) := (Below.refl _ _).alloc (Nat.le_refl _) _
  have h6x : Below w6.heap.size w6 (W7.alloc (.cells #[.int .u8 120] 5 (1, 2))) := hb7.trans (hbx.mono hb7.size)
  have HSM : Hid (Calls Try.prog 21 #[.agg #[.int .i64 3, .slice (some ⟨g, 0, none⟩) 1 c], .agg #[.int .i64 3, .slice (some ⟨W7.heap.size, 0, none⟩) 1 1]] (W7.alloc (.cells #[.int .u8 120] 5 (1, 2))) fun e w' => e = .returned (.bool true) ∧ Below w.heap.size w w' ∧ Hid (Calls Try.prog 16 #[.pointer (some ⟨w.heap.size, 0, none⟩)] w' fun e w'' => e = .returned (.int .i64 0) ∧ w'' = w')) :=
    (same_any 3 _ _ 1 c 1 (fun _ => 120) _ (hB6.on h6x) hx7 (by decide)).mono fun e w' ⟨he, h1⟩ => by
      have hb' := h6x.trans (h1.mono h6x.size)
      exact ⟨he, hb6.trans (hb'.mono hb6.size), len_any (hN6.on hb')⟩
  have kc7 := kc W7 #[.int .u8 120] 1 1
  clear HT h5 hB6 hN6 hb6 hb7 hr7 hx7 hbx h6x kc
  go_upto_region 5 with fail
  rw [HW7.out]
  go_wp2_with fail
  refine HSM.out.mono ?_
  rintro e w8 ⟨rfl, hb8, HL⟩
  go_wp2_with fail
  refine HL.out.mono ?_
  rintro e w9 ⟨rfl, e9⟩
  subst e9
  go_wp2_with fail
  go_ret
  exact ⟨rfl, hb8⟩
end Go.Proofs.Ytdfhdneimoimmaa

/- The document's own net in memory: its row of messages, each with bytes of its own; New, Len, Lost, Send. -/
namespace Go.Proofs.Ytdfhdneimoimmaa
open Go.RowKit
set_option maxRecDepth 100000
set_option maxRecDepth 100000

/-- The cells of the document's row. -/
def flCells : List (Ms × Value) → List Value
  | [] => []
  | x :: xs => [.int .i64 x.1.dst, x.2] ++ flCells xs
theorem flCells_app : ∀ (l m : List (Ms × Value)), flCells (l ++ m) = flCells l ++ flCells m
  | [], m => rfl
  | d :: l, m => by simp only [List.cons_append, flCells, flCells_app l m, List.append_assoc]
theorem flCells_len : ∀ xs : List (Ms × Value), (flCells xs).length = xs.length * 2
  | [] => rfl
  | d :: xs => by simp only [flCells, List.length_append, flCells_len xs, List.length_cons]; show 2 + _ = _; omega
theorem flCells_at : ∀ (xs : List (Ms × Value)) (i : Nat) (m : Ms × Value), xs[i]? = some m → (flCells xs)[i * 2]? = some (.int .i64 m.1.dst) ∧ (flCells xs)[i * 2 + 1]? = some m.2
  | [], i, m, h => by simp at h
  | d :: xs, 0, m, h => by
    have : d = m := by simpa using h
    subst this
    exact ⟨rfl, rfl⟩
  | d :: xs, i + 1, m, h => by
    have := flCells_at xs i m (by simpa using h)
    rw [show (i + 1) * 2 = i * 2 + 2 by omega]
    exact this
/-- A copy of these bytes in memory of its own. -/
def CB (w : World) (B : Nat) (v : Value) (s : ByteArray) : Prop := ∃ g, v = .slice (some ⟨g, 0, none⟩) s.size s.size ∧ B ≤ g ∧ w.rowIs g 5 s.size (fun j => .int .u8 (bx s j : Nat)) ∧ s.size ≤ 140737488351232
theorem CB.on {w w' : World} {B : Nat} {v : Value} {s : ByteArray} (h : CB w B v s) (hb : ∀ k, v.ownBlock = some k → w'.heap[k]? = w.heap[k]?) : CB w' B v s := by
  obtain ⟨g, rfl, h1, h2, h3⟩ := h
  exact ⟨g, rfl, h1, h2.of_block (hb g rfl), h3⟩
theorem CB.lt {w : World} {B : Nat} {v : Value} {s : ByteArray} (h : CB w B v s) : ∀ k, v.ownBlock = some k → B ≤ k ∧ k < w.heap.size := fun k e => by
  obtain ⟨g, rfl, h1, h2, _⟩ := h
  have : g = k := by simpa [Value.ownBlock] using e
  subst this
  exact ⟨h1, h2.lt⟩
theorem CB.byt {w : World} {B : Nat} {v : Value} {s : ByteArray} (h : CB w B v s) : ∃ g, v = .slice (some ⟨g, 0, none⟩) s.size s.size ∧ Byt w (some ⟨g, 0, none⟩) s.size (bx s) := by
  obtain ⟨g, rfl, h1, h2, _⟩ := h
  exact ⟨g, rfl, Byt.of_row h2⟩
theorem rowIs_apart {w : World} {b b' t t' n n' : Nat} {f f' : Nat → Value} (h : w.rowIs b t n f) (h' : w.rowIs b' t' n' f') (ht : t ≠ t') : b ≠ b' := by
  rintro rfl
  obtain ⟨c, h1, _⟩ := h
  obtain ⟨c', h2, _⟩ := h'
  rw [h1] at h2
  simp only [Option.some.injEq, Obj.cells.injEq] at h2
  exact ht h2.2.1

/-- The cells of the document's Net: its row, its room, how many were lost. -/
def refCell (fv : Value) (room lost : Nat) (i : Nat) : Value := if i = 0 then fv else if i = 1 then .int .i64 (room : Nat) else .int .u64 (lost : Nat)
structure RefIs (w : World) (B rb : Nat) (fv : Value) (xs : List (Ms × Value)) (room lost : Nat) : Prop where
  row : w.rowIs rb 109 3 (refCell fv room lost)
  own : w.ownsRow B 46 2 fv xs.length (flCells xs)
  byt : ∀ x ∈ xs, CB w B x.2 x.1.s
  lb : B ≤ rb
  le : xs.length ≤ room
  rm : room ≤ 8192
/-- What of memory is the document's net's. -/
def RFt (rb : Nat) (fv : Value) (xs : List (Ms × Value)) (k : Nat) : Prop := k = rb ∨ fv.ownBlock = some k ∨ ∃ x ∈ xs, x.2.ownBlock = some k
section
variable {w w' : World} {B rb : Nat} {fv : Value} {room lost : Nat} {xs : List (Ms × Value)}
theorem RefIs.later (h : RefIs w B rb fv xs room lost) (hb : ∀ k, RFt rb fv xs k → w'.heap[k]? = w.heap[k]?) : RefIs w' B rb fv xs room lost :=
  ⟨h.row.of_block (hb _ (.inl rfl)), rows_keep h.own (fun k e => hb k (.inr (.inl e))), fun x hx => (h.byt x hx).on (fun k e => hb k (.inr (.inr ⟨x, hx, e⟩))), h.lb, h.le, h.rm⟩
theorem RefIs.ge (h : RefIs w B rb fv xs room lost) : ∀ k, RFt rb fv xs k → B ≤ k ∧ k < w.heap.size := fun k hf => by
  rcases hf with e | e | ⟨x, hx, e⟩
  · rw [e]; exact ⟨h.lb, h.row.lt⟩
  · exact rows_lt h.own k e
  · exact (h.byt x hx).lt k e
theorem RefIs.on (h : RefIs w B rb fv xs room lost) (hb : Below w.heap.size w w') : RefIs w' B rb fv xs room lost :=
  h.later (fun k hf => hb.block k (h.ge k hf).2)
theorem RefIs.nm (h : RefIs w B rb fv xs room lost) : fv.ownBlock ≠ some rb := rows_apart h.own h.row (by decide)
theorem RefIs.c0 (h : RefIs w B rb fv xs room lost) : w.cell? ⟨rb, 0, none⟩ = some fv := h.row.cell (i := 0) (by decide)
theorem RefIs.c1 (h : RefIs w B rb fv xs room lost) : w.cell? ⟨rb, 1, none⟩ = some (.int .i64 (room : Nat)) := h.row.cell (i := 1) (by decide)
theorem RefIs.c2 (h : RefIs w B rb fv xs room lost) : w.cell? ⟨rb, 2, none⟩ = some (.int .u64 (lost : Nat)) := h.row.cell (i := 2) (by decide)
theorem RefIs.sl (h : RefIs w B rb fv xs room lost) : ∃ a c, fv = .slice a xs.length c ∧ xs.length ≤ c ∧ c ≤ 9223372036854775807 := by
  rcases h.own.2 with ⟨e, h0⟩ | ⟨g, cap, cur, e, _, _, hc, hm, _⟩
  · exact ⟨none, 0, by rw [e, h0], by omega, by omega⟩
  · exact ⟨_, cap, e, hc, hm⟩
theorem RefIs.msg (h : RefIs w B rb fv xs room lost) {i : Nat} {m : Ms × Value} (hm : xs[i]? = some m) :
    ∃ g c, fv = .slice (some ⟨g, 0, none⟩) xs.length c ∧ xs.length ≤ c ∧ w.cell? ⟨g, i * 2, none⟩ = some (.int .i64 m.1.dst) ∧ w.cell? ⟨g, i * 2 + 1, none⟩ = some m.2 := by
  have hi := (List.getElem?_eq_some_iff.1 hm).1
  have q := flCells_at xs i m hm
  have ho := h.own
  rcases h.own.2 with ⟨e, h0⟩ | ⟨g, cc, cur, e, _, _, hcc, _⟩
  · omega
  · subst e
    exact ⟨g, cc, rfl, hcc, by rw [World.ownsRow.cellAt ho (i * 2) (by omega)]; exact q.1, by rw [World.ownsRow.cellAt ho (i * 2 + 1) (by omega)]; exact q.2⟩
theorem rlen_any (h : RefIs w B rb fv xs room lost) :
    Calls Try.prog 34 #[.pointer (some ⟨rb, 0, none⟩)] w fun e w' => e = .returned (.int .i64 (xs.length : Nat)) ∧ w' = w := by
  obtain ⟨a, c, e, hc, hm⟩ := h.sl
  have c0 := h.c0
  generalize xs.length = n at *
  subst e
  clear h
  go_enter Try.func34, Try.ntmps34
  go_wp2
  go_ret
  exact ⟨rfl, rfl⟩
theorem rlost_any (h : RefIs w B rb fv xs room lost) :
    Calls Try.prog 48 #[.pointer (some ⟨rb, 0, none⟩)] w fun e w' => e = .returned (.int .u64 (lost : Nat)) ∧ w' = w := by
  have c2 := h.c2
  clear h
  go_enter Try.func48, Try.ntmps48
  go_wp2
  go_ret
  exact ⟨rfl, rfl⟩
theorem rnew_any (n : Nat) (h1 : 1 ≤ n) (h2 : n ≤ 8192) (w : World) :
    Calls Try.prog 39 #[.int .i64 (n : Nat)] w fun e w' => e = .returned (.tuple #[.pointer (some ⟨w.heap.size, 0, none⟩), .int .i64 0]) ∧ RefIs w' w.heap.size w.heap.size (.slice none 0 0) [] n 0 ∧ Below w.heap.size w w' ∧ w'.heap.size = w.heap.size + 1 := by
  have H : Hid (RefIs (w.alloc (.cells #[.slice none 0 0, .int .i64 (n : Nat), .int .u64 0] 109)) w.heap.size w.heap.size (.slice none 0 0) [] n 0 ∧ Below w.heap.size w (w.alloc (.cells #[.slice none 0 0, .int .i64 (n : Nat), .int .u64 0] 109)) ∧ (w.alloc (.cells #[.slice none 0 0, .int .i64 (n : Nat), .int .u64 0] 109)).heap.size = w.heap.size + 1) := by
    refine ⟨⟨?_, ⟨rfl, .inl ⟨rfl, rfl⟩⟩, (fun x hx => by cases hx), Nat.le_refl _, Nat.zero_le _, h2⟩, (Below.refl _ _).alloc (Nat.le_refl _) _, by simp⟩
    refine World.rowIs_alloc w _ _ _ (fun i hi => ?_)
    match i, hi with
    | 0, _ => rfl
    | 1, _ => rfl
    | 2, _ => rfl
  have hz1 : ¬ (n : Int) < 1 := by omega
  have hz2 : ¬ (n : Int) > 8192 := by omega
  go_enter Try.func39, Try.ntmps39
  go_wp2
  go_ret2
  exact ⟨rfl, H.out⟩
theorem rnew_not (n : Int) (h : n < 1 ∨ 8192 < n) (w : World) :
    Calls Try.prog 39 #[.int .i64 n] w fun e w' => e = .returned (.tuple #[.pointer none, .int .i64 60]) ∧ w' = w := by
  by_cases hz1 : n < 1
  · go_enter Try.func39, Try.ntmps39
    go_wp2
    go_ret2
    exact ⟨rfl, rfl⟩
  · have hz2 : n > 8192 := by omega
    go_enter Try.func39, Try.ntmps39
    go_wp2
    go_ret2
    exact ⟨rfl, rfl⟩
end

theorem infoF2 : (Try.prog.info? 46).map (fun i => (i.zero, i.size, i.bytes)) = some (some (.agg #[.int .i64 0, .slice none 0 0]), 2, 32) := by kernel_rfl
theorem app_fl {w : World} {K n : Nat} {v : Value} {ys : List Value} (h : w.ownsRow K 46 2 v n ys) (x y : Value) (hx : x.oneCell' = true) (hy : y.oneCell' = true) (hn : n ≤ 1099511627776) (hK : K ≤ w.heap.size) :
    ∃ a c w', (Builtin.append_ #[107, 107] 107 #[v, .slice (some ⟨w.heap.size, 0, none⟩) 1 1]).run Try.prog (w.alloc (.cells #[x, y] 46)) = .ok (.slice a (n + 1) c) w' ∧ w'.ownsRow K 46 2 (.slice a (n + 1) c) (n + 1) (ys ++ [x, y]) ∧ w.grownBy w' v.ownBlock ∧ (∀ k, (Value.slice a (n + 1) c).ownBlock = some k → v.ownBlock = some k ∨ w.heap.size ≤ k) := by
  obtain ⟨i0, hi, hz0, hz1, hz2⟩ := info_parts infoF2
  have hnews : ∀ j u, [x, y][j]? = some u → (w.alloc (.cells #[x, y] 46)).cell? ((⟨w.heap.size, 0, none⟩ : Addr).add j) = some u := fun j u hj => by
    match j with
    | 0 => simp at hj; subst hj; simp [Addr.add]
    | 1 => simp at hj; subst hj; simp [Addr.add]
    | j + 2 => simp at hj
  have hml : maxLen = 9223372036854775807 := rfl
  obtain ⟨v', w', h1, h2, h3, _, h5⟩ := run_append_own_at (P := Try.prog) (w.alloc (.cells #[x, y] 46)) K 107 107 46 i0 _ 2 32 Try.underlying107 hi hz0 hz1 hz2 rfl (by decide) v n ys (h.alloc _) ⟨w.heap.size, 0, none⟩ 1 1 [x, y] rfl hnews (fun u hu => by
    simp only [List.mem_cons, List.not_mem_nil, or_false] at hu
    rcases hu with e | e
    · rw [e]; exact hx
    · rw [e]; exact hy) (by omega) (by omega) (by simp; omega)
  obtain ⟨a, c, ev⟩ : ∃ a c, v' = .slice a (n + 1) c := by
    rcases h2.2 with ⟨_, h0⟩ | ⟨g, cap, cur, e, _⟩
    · omega
    · exact ⟨_, cap, e⟩
  subst ev
  have hsz : (w.alloc (.cells #[x, y] 46)).heap.size = w.heap.size + 1 := by simp
  refine ⟨a, c, w', h1, h2, ⟨h3.os, h3.tape, h3.output, by have := h3.size; omega, fun b hb hne => (h3.block b (by omega) hne).trans (Below.heap_alloc _ _ _ hb)⟩, fun k e => ?_⟩
  rcases h5 with e5 | e5
  · exact .inl (e5 ▸ e)
  · rw [e5] at e
    exact .inr (by have := Option.some.inj e; omega)
end Go.Proofs.Ytdfhdneimoimmaa

/- The document's own net: Send, Twin, Look. -/
namespace Go.Proofs.Ytdfhdneimoimmaa
open Go.RowKit
set_option maxRecDepth 100000
set_option maxRecDepth 100000
section
variable {w w' : World} {B rb : Nat} {fv : Value} {room lost : Nat} {xs : List (Ms × Value)}
/-- The row is another one. -/
theorem RefIs.turn {w2 : World} {a : Option Addr} {n c : Nat} {xs' : List (Ms × Value)} (h : RefIs w B rb fv xs room lost) (hr : w2.rowIs rb 109 3 (refCell fv room lost)) (ho : w2.ownsRow B 46 2 (.slice a n c) xs'.length (flCells xs')) (hby : ∀ x ∈ xs', CB w2 B x.2 x.1.s) (hle : xs'.length ≤ room)
    (hos : w2.os = w.os) (hta : w2.tape = w.tape) (hou : w2.output = w.output) (hz : w.heap.size ≤ w2.heap.size) (hk : ∀ k, k < w.heap.size → k ≠ rb → fv.ownBlock ≠ some k → w2.heap[k]? = w.heap[k]?) (hn : ∀ k, (Value.slice a n c).ownBlock = some k → fv.ownBlock = some k ∨ w.heap.size ≤ k) (hx : ∀ x ∈ xs', x ∈ xs ∨ ∀ k, x.2.ownBlock = some k → w.heap.size ≤ k) :
    ∃ fv', RefIs (w2.setCell ⟨rb, 0, none⟩ (.slice a n c)) B rb fv' xs' room lost ∧ Mv (RFt rb fv xs) (RFt rb fv' xs') w (w2.setCell ⟨rb, 0, none⟩ (.slice a n c)) := by
  have hset : ∀ b, b ≠ rb → (w2.setCell ⟨rb, 0, none⟩ (.slice a n c)).heap[b]? = w2.heap[b]? := fun b hb => Below.heap_setCell _ _ _ _ hb
  refine ⟨.slice a n c, ⟨?_, rows_keep ho (fun k e => hset k (fun e2 => rows_apart ho hr (by decide) (e2 ▸ e))), fun x hx => (hby x hx).on (fun k e => hset k (fun e2 => ?_)), h.lb, hle, h.rm⟩, hos, hta, hou, ?_, fun k hk1 hnf => ?_, fun k hf => ?_⟩
  · refine (hr.set 0 _).congr (fun i hi => ?_)
    match i, hi with
    | 0, _ => rfl
    | 1, _ => rfl
    | 2, _ => rfl
  · obtain ⟨g, ev, _, h2, _⟩ := hby x hx
    have : g = k := by rw [ev] at e; simpa [Value.ownBlock] using e
    subst this
    exact rowIs_apart h2 hr (by decide) e2
  · simp [World.setCell]; omega
  · exact (hset k (fun e => hnf (.inl e))).trans (hk k hk1 (fun e => hnf (.inl e)) (fun e => hnf (.inr (.inl e))))
  · rcases hf with e | e | ⟨x, hx1, e⟩
    · exact .inl (.inl e)
    · rcases hn k e with q | q
      · exact .inl (.inr (.inl q))
      · exact .inr q
    · rcases hx x hx1 with q | q
      · exact .inl (.inr (.inr ⟨x, q, e⟩))
      · exact .inr (q k e)
theorem cb_new {w w' : World} {B : Nat} {s : ByteArray} (hr : w'.rowIs w.heap.size 5 s.size (fun j => .int .u8 (bx s j : Nat))) (hB : B ≤ w.heap.size) (hs : s.size ≤ 140737488351232) : CB w' B (.slice (some ⟨w.heap.size, 0, none⟩) s.size s.size) s := ⟨w.heap.size, rfl, hB, hr, hs⟩
/-- tallyref0.Copy of the bytes of a string. -/
theorem cpyS (a : Option Addr) (c : Nat) (s : ByteArray) (w : World) (hs : s.size ≤ 140737488351232) (hb : Byt w a s.size (bx s)) :
    Calls Try.prog 51 #[.slice a s.size c] w fun e w' => e = .returned (.slice (some ⟨w.heap.size, 0, none⟩) s.size s.size) ∧ Below w.heap.size w w' ∧ w'.heap.size = w.heap.size + 1 ∧ w'.rowIs w.heap.size 5 s.size (fun j => .int .u8 (bx s j : Nat)) :=
  (copy_any a s.size c (bx s) w (by omega) hb).mono fun e w' ⟨he, h1, h2, h3⟩ => ⟨he, since_below h1, h2, h3⟩

set_option maxHeartbeats 1600000 in
theorem rsend_some (h : RefIs w B rb fv xs room lost) (hB : B ≤ w.heap.size) (hl : xs.length < room) (x : Int) (a : Option Addr) (c : Nat) (s : ByteArray) (hs : s.size ≤ 140737488351232) (hb : Byt w a s.size (bx s)) :
    Calls Try.prog 33 #[.pointer (some ⟨rb, 0, none⟩), .int .i64 x, .slice a s.size c] w fun e w' => e = .returned (.bool true) ∧ ∃ fv' v, RefIs w' B rb fv' (xs ++ [(⟨x, s⟩, v)]) room lost ∧ Mv (RFt rb fv xs) (RFt rb fv' (xs ++ [(⟨x, s⟩, v)])) w w' := by
  obtain ⟨va, vc, ev, hvc, hvm⟩ := h.sl
  have hrm := h.rm
  have hz : ¬ (room : Int) ≤ (xs.length : Int) := by omega
  have c0 : ∀ q, (w.drewN q).cell? ⟨rb, 0, none⟩ = some fv := fun q => h.c0
  have c1 : ∀ q, (w.drewN q).cell? ⟨rb, 1, none⟩ = some (.int .i64 (room : Nat)) := fun q => h.c1
  -- behind the copy: the new row
  have HP : Hid (∀ (W w1 : World), w.heap.size = W.heap.size → Below w.heap.size w W → w1.heap.size = W.heap.size + 1 → Below W.heap.size W w1 → w1.rowIs W.heap.size 5 s.size (fun j => .int .u8 (bx s j : Nat)) →
      w1.cell? ⟨rb, 0, none⟩ = some fv ∧ (∀ o, (w1.alloc o).cell? ⟨rb, 0, none⟩ = some fv) ∧ ∃ a1 c1 w2, Hid ((Builtin.append_ #[107, 107] 107 #[fv, .slice (some ⟨w1.heap.size, 0, none⟩) 1 1]).run Try.prog (w1.alloc (.cells #[.int .i64 x, .slice (some ⟨W.heap.size, 0, none⟩) s.size s.size] 46)) = .ok (.slice a1 (xs.length + 1) c1) w2) ∧ w2.cell? ⟨rb, 0, none⟩ = some fv ∧ w2.frozen? ⟨rb, 0, none⟩ = false ∧
        Hid (∃ fv' v, RefIs (w2.setCell ⟨rb, 0, none⟩ (.slice a1 (xs.length + 1) c1)) B rb fv' (xs ++ [(⟨x, s⟩, v)]) room lost ∧ Mv (RFt rb fv xs) (RFt rb fv' (xs ++ [(⟨x, s⟩, v)])) w (w2.setCell ⟨rb, 0, none⟩ (.slice a1 (xs.length + 1) c1)))) := by
    intro W w1 hWz hbW hz1 hb1 hrow
    have hb01 : Below w.heap.size w w1 := hbW.trans (hb1.mono (by omega))
    have h1 := h.on hb01
    obtain ⟨a1, c1, w2, hrun, ho2, hg2, hn2⟩ := app_fl h1.own (.int .i64 x) (.slice (some ⟨W.heap.size, 0, none⟩) s.size s.size) rfl rfl (by omega) (by omega)
    have hk2 : ∀ k, k < w1.heap.size → fv.ownBlock ≠ some k → w2.heap[k]? = w1.heap[k]? := fun k hk hne => hg2.block k hk (fun e => hne e.symm)
    have hr2 : w2.rowIs rb 109 3 (refCell fv room lost) := h1.row.of_block (hk2 rb h1.row.lt h1.nm)
    refine ⟨h1.c0, fun o => (h1.on ((Below.refl _ _).alloc (Nat.le_refl _) o)).c0, a1, c1, w2, hrun, hr2.cell (i := 0) (by decide), hr2.frozen 0, ?_⟩
    have hcb : CB w2 B (.slice (some ⟨W.heap.size, 0, none⟩) s.size s.size) s := (cb_new hrow (by omega) hs).on (fun k e => hk2 k (by
      have : W.heap.size = k := by simpa [Value.ownBlock] using e
      omega) (fun e2 => by
      have : W.heap.size = k := by simpa [Value.ownBlock] using e
      have := (rows_lt h.own k e2).2
      omega))
    obtain ⟨fv', hR, hM⟩ := h.turn (w2 := w2) (xs' := xs ++ [(⟨x, s⟩, .slice (some ⟨W.heap.size, 0, none⟩) s.size s.size)]) hr2 (by rw [flCells_app, List.length_append]; exact ho2) (fun y hy => by
        rcases List.mem_append.1 hy with q | q
        · exact (h1.byt y q).on (fun k e => hk2 k ((h1.byt y q).lt k e).2 (fun e2 => by
            obtain ⟨g, ev, _, hrg, _⟩ := h1.byt y q
            have : g = k := by rw [ev] at e; simpa [Value.ownBlock] using e
            subst this
            exact rows_apart h1.own hrg (by decide) e2))
        · have : y = (⟨x, s⟩, .slice (some ⟨W.heap.size, 0, none⟩) s.size s.size) := by simpa using q
          rw [this]
          exact hcb) (by rw [List.length_append]; show xs.length + 1 ≤ room; omega) (hg2.os.trans hb01.os) (hg2.tape.trans hb01.tape) (hg2.output.trans hb01.output) (by have := hg2.size; have := hb01.size; omega) (fun k hk _ hne => (hk2 k (by have := hb01.size; omega) hne).trans (hb01.block k hk)) (fun k e => (hn2 k e).imp_right (fun q => by have := hb01.size; omega)) (fun y hy => by
        rcases List.mem_append.1 hy with q | q
        · exact .inl q
        · have : y = (⟨x, s⟩, .slice (some ⟨W.heap.size, 0, none⟩) s.size s.size) := by simpa using q
          rw [this]
          exact .inr (fun k e => by have : W.heap.size = k := by simpa [Value.ownBlock] using e
                                    omega))
    exact ⟨fv', _, hR, hM⟩
  have HCP : Hid (∀ q, Calls Try.prog 51 #[.slice a s.size c] (w.drewN q).drew fun e w1 => e = .returned (.slice (some ⟨w.heap.size, 0, none⟩) s.size s.size) ∧ w1.cell? ⟨rb, 0, none⟩ = some fv ∧ (∀ o, (w1.alloc o).cell? ⟨rb, 0, none⟩ = some fv) ∧ ∃ a1 c1 w2, Hid ((Builtin.append_ #[107, 107] 107 #[fv, .slice (some ⟨w1.heap.size, 0, none⟩) 1 1]).run Try.prog (w1.alloc (.cells #[.int .i64 x, .slice (some ⟨w.heap.size, 0, none⟩) s.size s.size] 46)) = .ok (.slice a1 (xs.length + 1) c1) w2) ∧ w2.cell? ⟨rb, 0, none⟩ = some fv ∧ w2.frozen? ⟨rb, 0, none⟩ = false ∧
        Hid (∃ fv' v, RefIs (w2.setCell ⟨rb, 0, none⟩ (.slice a1 (xs.length + 1) c1)) B rb fv' (xs ++ [(⟨x, s⟩, v)]) room lost ∧ Mv (RFt rb fv xs) (RFt rb fv' (xs ++ [(⟨x, s⟩, v)])) w (w2.setCell ⟨rb, 0, none⟩ (.slice a1 (xs.length + 1) c1)))) := fun q =>
    (cpyS a c s (w.drewN q).drew hs hb).mono fun e w1 ⟨he, h1, h2, h3⟩ => ⟨he, HP.out (w.drewN q).drew w1 rfl ⟨rfl, rfl, rfl, Nat.le_refl _, fun _ _ => rfl⟩ h2 h1 h3⟩
  subst ev
  generalize s.size = S at *
  obtain ⟨n1, Hn1⟩ : ∃ n1, Hid (xs.length + 1 = n1) := ⟨_, rfl⟩
  rw [Hn1.out] at HCP
  generalize xs.length = n at *
  clear h hb HP hs hl hrm hB
  go_enter Try.func33, Try.ntmps33
  have k0 := c0 0
  have k1 := c1 0
  have k0 : w.cell? ⟨rb, 0, none⟩ = some (.slice va n vc) := k0
  have k1 : w.cell? ⟨rb, 1, none⟩ = some (.int .i64 (room : Nat)) := k1
  go_upto_region 1 with fail
  go_quiet (fail)
  go_upto_region 4 with fail
  have hc := HCP.out nq
  have kd := c0 nq
  have kdd : (w.drewN nq).drew.cell? ⟨rb, 0, none⟩ = some (.slice va n vc) := c0 nq
  generalize w.drewN nq = wq at *
  have HC2 : Hid (Calls Try.prog 51 #[.slice a S c] wq.drew fun e w1 => e = .returned (.slice (some ⟨w.heap.size, 0, none⟩) S S) ∧ w1.cell? ⟨rb, 0, none⟩ = some (.slice va n vc) ∧ (∀ o, (w1.alloc o).cell? ⟨rb, 0, none⟩ = some (.slice va n vc)) ∧ ∃ a1 c1 w2, Hid ((Builtin.append_ #[107, 107] 107 #[.slice va n vc, .slice (some ⟨w1.heap.size, 0, none⟩) 1 1]).run Try.prog (w1.alloc (.cells #[.int .i64 x, .slice (some ⟨w.heap.size, 0, none⟩) S S] 46)) = .ok (.slice a1 n1 c1) w2) ∧ w2.cell? ⟨rb, 0, none⟩ = some (.slice va n vc) ∧ w2.frozen? ⟨rb, 0, none⟩ = false ∧
        Hid (∃ fv' v, RefIs (w2.setCell ⟨rb, 0, none⟩ (.slice a1 n1 c1)) B rb fv' (xs ++ [(⟨x, s⟩, v)]) room lost ∧ Mv (RFt rb (.slice va n vc) xs) (RFt rb fv' (xs ++ [(⟨x, s⟩, v)])) w (w2.setCell ⟨rb, 0, none⟩ (.slice a1 n1 c1)))) := hc
  clear HCP c0 c1 hc
  go_region_law (first
    | (go_simp; go_at_call 51; refine HC2.out.mono ?_; rintro e w1 ⟨rfl, kc, kca, a1, c1, w2, HR, k2, f2, HE⟩)
    | (refine step_apps2 rfl _ _ 107 rfl _ _ _ (by rfl) (by rfl) HR.out ?_))
  all_goals
    go_wp2_with fail
    go_ret
    exact ⟨rfl, HE.out⟩
theorem rsend_full (h : RefIs w B rb fv xs room lost) (hl : ¬ xs.length < room) (hlo : lost ≤ 1000000) (x : Int) (v : Value) :
    Calls Try.prog 33 #[.pointer (some ⟨rb, 0, none⟩), .int .i64 x, v] w fun e w' => e = .returned (.bool false) ∧ RefIs w' B rb fv xs room (lost + 1) ∧ Mv (RFt rb fv xs) (RFt rb fv xs) w w' := by
  obtain ⟨va, vc, ev, hvc, hvm⟩ := h.sl
  have hrm := h.rm
  have hz : (room : Int) ≤ (xs.length : Int) := by omega
  have k0 := h.c0
  have k1 := h.c1
  obtain ⟨l1, hl1, Hl1⟩ : ∃ l1 : Nat, (lost : Int) + 1 = (l1 : Int) ∧ Hid (lost + 1 = l1) := ⟨lost + 1, by omega, rfl⟩
  have hwl : IntKind.u64.wrap (l1 : Int) = (l1 : Int) := by rw [IntKind.wrap_u64]; omega
  have HE : Hid (∀ q, (w.drewN q).cell? ⟨rb, 2, none⟩ = some (.int .u64 (lost : Nat)) ∧ (w.drewN q).frozen? ⟨rb, 2, none⟩ = false ∧ Hid (RefIs ((w.drewN q).setCell ⟨rb, 2, none⟩ (.int .u64 (l1 : Nat))) B rb fv xs room (lost + 1) ∧ Mv (RFt rb fv xs) (RFt rb fv xs) w ((w.drewN q).setCell ⟨rb, 2, none⟩ (.int .u64 (l1 : Nat))))) := fun q => by
    have hset : ∀ b, b ≠ rb → ((w.drewN q).setCell ⟨rb, 2, none⟩ (.int .u64 (l1 : Nat))).heap[b]? = w.heap[b]? := fun b hb => Below.heap_setCell _ _ _ _ hb
    have hr : (w.drewN q).rowIs rb 109 3 (refCell fv room lost) := h.row
    refine ⟨h.c2, hr.frozen 2, ⟨?_, rows_keep h.own (fun k e => hset k (fun e2 => h.nm (e2 ▸ e))), fun y hy => (h.byt y hy).on (fun k e => hset k (fun e2 => ?_)), h.lb, h.le, h.rm⟩, rfl, rfl, rfl, ?_, fun k _ hn => hset k (fun e => hn (.inl e)), fun k hf => .inl hf⟩
    · refine (hr.set 2 _).congr (fun i hi => ?_)
      match i, hi with
      | 0, _ => rfl
      | 1, _ => rfl
      | 2, _ => show _ = Value.int .u64 ((lost + 1 : Nat) : Int); rw [Hl1.out]; rfl
    · obtain ⟨g, ev, _, h2, _⟩ := h.byt y hy
      have : g = k := by rw [ev] at e; simpa [Value.ownBlock] using e
      subst this
      exact rowIs_apart h2 h.row (by decide) e2
    · simp [World.setCell]
  subst ev
  generalize xs.length = n at *
  clear h hl hrm
  go_enter Try.func33, Try.ntmps33
  go_upto_region 1 with fail
  go_quiet (fail)
  obtain ⟨x1, x2, HF⟩ := HE.out nq
  generalize w.drewN nq = wq at *
  clear HE
  go_wp2_with fail
  go_ret
  exact ⟨rfl, HF.out⟩

set_option maxHeartbeats 1600000 in
theorem twin_any (x : Int) (a : Option Addr) (c : Nat) (s : ByteArray) (w : World) (hs : s.size ≤ 140737488351232) (hb : Byt w a s.size (bx s)) :
    Calls Try.prog 58 #[.agg #[.int .i64 x, .slice a s.size c]] w fun e w' => ∃ g, e = .returned (.agg #[.int .i64 x, .slice (some ⟨g, 0, none⟩) s.size s.size]) ∧ w.heap.size ≤ g ∧ w'.rowIs g 5 s.size (fun j => .int .u8 (bx s j : Nat)) ∧ Below w.heap.size w w' := by
  obtain ⟨W1, HW1⟩ : ∃ W, Hid ((w.alloc (.cells #[.int .i64 x, .slice a s.size c] 46)).alloc flZ = W) := ⟨_, rfl⟩
  have hz1 : W1.heap.size = w.heap.size + 2 := by rw [← HW1.out]; simp
  have e1 : (w.alloc (.cells #[.int .i64 x, .slice a s.size c] 46)).heap.size = w.heap.size + 1 := by simp
  have hb1 : Below w.heap.size w W1 := by rw [← HW1.out]; exact ((Below.refl _ _).alloc (Nat.le_refl _) _).alloc (by simp) _
  have hr0 := row2_alloc w (.int .i64 x) (.slice a s.size c) 46
  have hr0' : W1.rowIs w.heap.size 46 2 (fun i => if i = 0 then .int .i64 x else .slice a s.size c) := hr0.of_block (by rw [← HW1.out]; exact Below.heap_alloc _ _ _ (by omega))
  have hr1 := flZ_row (w.alloc (.cells #[.int .i64 x, .slice a s.size c] 46))
  rw [HW1.out, e1] at hr1
  have b0 : W1.cell? ⟨w.heap.size, 0, none⟩ = some (.int .i64 x) := hr0'.cell (i := 0) (by decide)
  have b1 : W1.cell? ⟨w.heap.size, 1, none⟩ = some (.slice a s.size c) := hr0'.cell (i := 1) (by decide)
  have HCP : Hid (Calls Try.prog 51 #[.slice a s.size c] W1.drew fun e w2 => e = .returned (.slice (some ⟨w.heap.size + 2, 0, none⟩) s.size s.size) ∧ w2.cell? ⟨w.heap.size, 0, none⟩ = some (.int .i64 x) ∧ w2.cell? ⟨w.heap.size, 1, none⟩ = some (.slice a s.size c) ∧ w2.cell? ⟨w.heap.size + 1, 0, none⟩ = some (.int .i64 0) ∧ w2.cell? ⟨w.heap.size + 1, 1, none⟩ = some (.slice none 0 0) ∧ w2.frozen? ⟨w.heap.size + 1, 0, none⟩ = false ∧ w2.frozen? ⟨w.heap.size + 1, 1, none⟩ = false ∧
      ∃ W3, Hid ((w2.setCell ⟨w.heap.size + 1, 0, none⟩ (.int .i64 x)).setCell ⟨w.heap.size + 1, 1, none⟩ (.slice (some ⟨w.heap.size + 2, 0, none⟩) s.size s.size) = W3) ∧ Hid (W3.heap[w.heap.size + 1]? = some (.cells #[.int .i64 x, .slice (some ⟨w.heap.size + 2, 0, none⟩) s.size s.size] 46 (0, 0)) ∧ w.heap.size ≤ w.heap.size + 2 ∧ W3.rowIs (w.heap.size + 2) 5 s.size (fun j => .int .u8 (bx s j : Nat)) ∧ Below w.heap.size w W3)) := by
    refine (cpyS a c s W1.drew hs ((hb.on hb1).drewN 1)).mono fun e w2 ⟨he, h1, h2, h3⟩ => ?_
    have hz : W1.drew.heap.size = w.heap.size + 2 := hz1
    rw [hz] at he h1 h2 h3
    have hr2 := hr0'.of_block (h1.block w.heap.size (by omega))
    have hr3 := hr1.of_block (h1.block (w.heap.size + 1) (by omega))
    have hset : ∀ k, k ≠ w.heap.size + 1 → ((w2.setCell ⟨w.heap.size + 1, 0, none⟩ (.int .i64 x)).setCell ⟨w.heap.size + 1, 1, none⟩ (.slice (some ⟨w.heap.size + 2, 0, none⟩) s.size s.size)).heap[k]? = w2.heap[k]? := fun k hk => (Below.heap_setCell _ _ _ _ hk).trans (Below.heap_setCell _ _ _ _ hk)
    have hbw : Below w.heap.size w w2 := by
      have q : Below w.heap.size W1 w2 := ⟨h1.os, h1.tape, h1.output, by omega, fun k hk => h1.block k (by omega)⟩
      exact hb1.trans q
    refine ⟨he, hr2.cell (i := 0) (by decide), hr2.cell (i := 1) (by decide), hr3.cell (i := 0) (by decide), hr3.cell (i := 1) (by decide), hr3.frozen 0, hr3.frozen 1, _, rfl, row2_heap ((hr3.set 0 (.int .i64 x)).set 1 (.slice (some ⟨w.heap.size + 2, 0, none⟩) s.size s.size)), by omega, h3.of_block (hset _ (by omega)), (hbw.setCell (by simp) _).setCell (by simp) _⟩
  have hne : w.heap.size ≠ w.heap.size + 1 := by omega
  generalize s.size = S at *
  clear hb hb1 hr0 hr0' hr1 hz1 e1 hs
  unfold flZ at HW1
  go_enter Try.func58, Try.ntmps58
  go_upto_region 1 with fail
  rw [HW1.out]
  go_region_held3 (fun W => W.cell? ⟨w.heap.size, 0, none⟩ = some (.int .i64 x) ∧ W.cell? ⟨w.heap.size, 1, none⟩ = some (.slice a S c))
    (first | exact ⟨b0, b1⟩ | exact ⟨y0, y1⟩ | exact ⟨(set2_far _ _ _ _ _ _ _ _ hne).trans y0, (set2_far _ _ _ _ _ _ _ _ hne).trans y1⟩)
    (first
      | (go_at_call 51; with_reducible refine HCP.out.mono ?_; rintro e w2 ⟨rfl, y0, y1, q0, q1, z0, z1, W3, HW3, HE⟩))
  all_goals
    go_wp2
    rw [HW3.out]
    refine bodyPost_ret_by (results_cell_row rfl _ _ (w.heap.size + 1) 46 _ (0, 0) _ rfl HE.out.1 Try.underlying46 rfl infoFL) rfl ⟨_, rfl, HE.out.2⟩
end
end Go.Proofs.Ytdfhdneimoimmaa

/- The document's own net: Look, Drop. -/
namespace Go.Proofs.Ytdfhdneimoimmaa
open Go.RowKit
set_option maxRecDepth 100000
set_option maxRecDepth 100000
section
variable {w w' : World} {B rb : Nat} {fv : Value} {room lost : Nat} {xs : List (Ms × Value)}
set_option maxHeartbeats 1600000 in
theorem rlook_some (h : RefIs w B rb fv xs room lost) (i : Nat) (x : Int) (s : ByteArray) (v : Value) (hm : xs[i]? = some (⟨x, s⟩, v)) :
    Calls Try.prog 43 #[.pointer (some ⟨rb, 0, none⟩), .int .i64 (i : Nat)] w fun e w' => ∃ g, e = .returned (.tuple #[.agg #[.int .i64 x, .slice (some ⟨g, 0, none⟩) s.size s.size], .bool true]) ∧ w.heap.size ≤ g ∧ w'.rowIs g 5 s.size (fun j => .int .u8 (bx s j : Nat)) ∧ Below w.heap.size w w' := by
  have hi := (List.getElem?_eq_some_iff.1 hm).1
  have hrm := h.rm
  have hle := h.le
  obtain ⟨W0, HW0⟩ : ∃ W, Hid (w.alloc flZ = W) := ⟨_, rfl⟩
  have hz0 : W0.heap.size = w.heap.size + 1 := by rw [← HW0.out]; simp
  have hb0 : Below w.heap.size w W0 := by rw [← HW0.out]; exact (Below.refl _ _).alloc (Nat.le_refl _) _
  have hr0 := flZ_row w
  rw [HW0.out] at hr0
  have h0 : RefIs W0 B rb fv xs room lost := h.on hb0
  obtain ⟨g, c, rfl, hc, p0, p1⟩ := h0.msg hm
  obtain ⟨vg, ev, hvb⟩ := (h0.byt _ (List.mem_of_getElem? hm)).byt
  have hss : s.size ≤ 140737488351232 := by obtain ⟨_, _, _, _, h4⟩ := h0.byt _ (List.mem_of_getElem? hm); exact h4
  have ev : v = .slice (some ⟨vg, 0, none⟩) s.size s.size := ev
  subst ev
  replace p0 : W0.cell? ⟨g, i * 2, none⟩ = some (.int .i64 x) := p0
  replace p1 : W0.cell? ⟨g, i * 2 + 1, none⟩ = some (.slice (some ⟨vg, 0, none⟩) s.size s.size) := p1
  have c0 := h0.c0
  have hf := twin_any x (some ⟨vg, 0, none⟩) s.size s W0 hss hvb
  have hzi : ¬ (i : Int) ≥ (xs.length : Int) := by omega
  have hzi2 : (i : Int) < (xs.length : Int) := by omega
  have hz00 : ¬ (i : Int) < 0 := by omega
  have HF : Hid (∀ w2, Below W0.heap.size W0 w2 → Below w.heap.size w w2 ∧ w2.rowIs w.heap.size 46 2 (fun i => (#[Value.int .i64 0, .slice none 0 0])[i]!)) := fun w2 hb => ⟨hb0.trans (hb.mono hb0.size), hr0.of_block (hb.block _ (by omega))⟩
  have HG : Hid (∀ g, W0.heap.size ≤ g → w.heap.size ≤ g ∧ g ≠ w.heap.size) := fun g hg => ⟨by omega, by omega⟩
  generalize xs.length = n at *
  obtain ⟨S, HS⟩ : ∃ S, Hid (s.size = S) := ⟨_, rfl⟩
  rw [HS.out] at hf p1 ⊢
  clear h h0 hb0 hr0 hm hi hrm hvb hss hz0
  unfold flZ at HW0
  go_enter Try.func43, Try.ntmps43
  go_upto_region 1 with fail
  rw [HW0.out]
  go_wp2_with fail
  refine hf.mono ?_
  rintro e w2 ⟨g2, rfl, hg2, hrw2, hb2⟩
  obtain ⟨hbw, hr2⟩ := HF.out w2 hb2
  have q0 : (w2.cell? ⟨w.heap.size, 0, none⟩) = some (.int .i64 0) := hr2.cell (i := 0) (by decide)
  have q1 : (w2.cell? ⟨w.heap.size, 1, none⟩) = some (.slice none 0 0) := hr2.cell (i := 1) (by decide)
  have z0 := hr2.frozen 0
  have z1 := hr2.frozen 1
  obtain ⟨W3, HW3⟩ : ∃ W, Hid ((w2.setCell ⟨w.heap.size, 0, none⟩ (.int .i64 x)).setCell ⟨w.heap.size, 1, none⟩ (.slice (some ⟨g2, 0, none⟩) S S) = W) := ⟨_, rfl⟩
  have hr3 := (hr2.set 0 (.int .i64 x)).set 1 (.slice (some ⟨g2, 0, none⟩) S S)
  rw [HW3.out] at hr3
  have r0 : W3.cell? ⟨w.heap.size, 0, none⟩ = some (.int .i64 x) := hr3.cell (i := 0) (by decide)
  have r1 : W3.cell? ⟨w.heap.size, 1, none⟩ = some (.slice (some ⟨g2, 0, none⟩) S S) := hr3.cell (i := 1) (by decide)
  have hgn := HG.out g2 hg2
  have hF3 : W3.rowIs g2 5 S (fun j => .int .u8 (bx s j : Nat)) := hrw2.of_block (by rw [← HW3.out]; exact (Below.heap_setCell _ _ _ _ hgn.2).trans (Below.heap_setCell _ _ _ _ hgn.2))
  have hb3 : Below w.heap.size w W3 := by
    rw [← HW3.out]
    exact (hbw.setCell (by simp) _).setCell (by simp) _
  have HE : Hid (w.heap.size ≤ g2 ∧ W3.rowIs g2 5 S (fun j => .int .u8 (bx s j : Nat)) ∧ Below w.heap.size w W3) := ⟨hgn.1, hF3, hb3⟩
  clear hf hb2 hbw hr2 hr3 hF3 hb3 HF hgn hrw2 HG
  go_wp2
  rw [HW3.out]
  refine bodyPost_ret_by (v := .tuple #[.agg #[.int .i64 x, .slice (some ⟨g2, 0, none⟩) S S], .bool true]) ?_ rfl ⟨g2, rfl, HE.out⟩
  rw [results_cell_tmp rfl]
  go_simp
set_option maxHeartbeats 1600000 in
theorem rlook_none (h : RefIs w B rb fv xs room lost) (i : Int) (hi : ¬ (0 ≤ i ∧ i < xs.length)) :
    Calls Try.prog 43 #[.pointer (some ⟨rb, 0, none⟩), .int .i64 i] w fun e w' => e = .returned (.tuple #[.agg #[.int .i64 0, .slice none 0 0], .bool false]) ∧ Below w.heap.size w w' := by
  obtain ⟨W0, HW0⟩ : ∃ W, Hid (w.alloc flZ = W) := ⟨_, rfl⟩
  have hb0 : Below w.heap.size w W0 := by rw [← HW0.out]; exact (Below.refl _ _).alloc (Nat.le_refl _) _
  have hr0 := flZ_row w
  rw [HW0.out] at hr0
  have h0 : RefIs W0 B rb fv xs room lost := h.on hb0
  obtain ⟨a, c, rfl, hc, hm⟩ := h0.sl
  have c0 := h0.c0
  have q0 : (W0.cell? ⟨w.heap.size, 0, none⟩) = some (.int .i64 0) := hr0.cell (i := 0) (by decide)
  have q1 : (W0.cell? ⟨w.heap.size, 1, none⟩) = some (.slice none 0 0) := hr0.cell (i := 1) (by decide)
  have z0 := hr0.frozen 0
  have z1 := hr0.frozen 1
  obtain ⟨W3, HW3⟩ : ∃ W, Hid ((W0.setCell ⟨w.heap.size, 0, none⟩ (.int .i64 0)).setCell ⟨w.heap.size, 1, none⟩ (.slice none 0 0) = W) := ⟨_, rfl⟩
  have hr3 := (hr0.set 0 (.int .i64 0)).set 1 (.slice none 0 0)
  rw [HW3.out] at hr3
  have r0 : W3.cell? ⟨w.heap.size, 0, none⟩ = some (.int .i64 0) := hr3.cell (i := 0) (by decide)
  have r1 : W3.cell? ⟨w.heap.size, 1, none⟩ = some (.slice none 0 0) := hr3.cell (i := 1) (by decide)
  have hb3 : Below w.heap.size w W3 := by
    rw [← HW3.out]
    exact (hb0.setCell (by simp) _).setCell (by simp) _
  have HE : Hid (Below w.heap.size w W3) := hb3
  clear h h0 hb0 hr0 hr3 hb3
  generalize xs.length = n at *
  unfold flZ at HW0
  by_cases hn : i < 0
  · go_enter Try.func43, Try.ntmps43
    go_upto_region 1 with fail
    rw [HW0.out]
    go_wp2
    rw [HW3.out]
    refine bodyPost_ret_by (v := .tuple #[.agg #[.int .i64 0, .slice none 0 0], .bool false]) ?_ rfl ⟨rfl, HE.out⟩
    rw [results_cell_tmp rfl]
    go_simp
  · have hge : i ≥ (n : Int) := by omega
    go_enter Try.func43, Try.ntmps43
    go_upto_region 1 with fail
    rw [HW0.out]
    go_wp2
    rw [HW3.out]
    refine bodyPost_ret_by (v := .tuple #[.agg #[.int .i64 0, .slice none 0 0], .bool false]) ?_ rfl ⟨rfl, HE.out⟩
    rw [results_cell_tmp rfl]
    go_simp
theorem rdrop_none (h : RefIs w B rb fv xs room lost) (i : Int) (hi : ¬ (0 ≤ i ∧ i < xs.length)) :
    Calls Try.prog 46 #[.pointer (some ⟨rb, 0, none⟩), .int .i64 i] w fun e w' => e = .returned (.bool false) ∧ w' = w := by
  obtain ⟨a, c, rfl, hc, hm⟩ := h.sl
  have c0 := h.c0
  clear h
  generalize xs.length = n at *
  by_cases hn : i < 0
  · go_enter Try.func46, Try.ntmps46
    go_wp2
    go_ret
    exact ⟨rfl, rfl⟩
  · have hge : i ≥ (n : Int) := by omega
    go_enter Try.func46, Try.ntmps46
    go_wp2
    go_ret
    exact ⟨rfl, rfl⟩
/-- What Drop has gathered behind k of the row. -/
def dropK (xs : List (Ms × Value)) (i k : Nat) : List (Ms × Value) := if k ≤ i then xs.take k else (xs.take k).eraseIdx i
theorem dropK_step (xs : List (Ms × Value)) (i k : Nat) (m : Ms × Value) (hm : xs[k]? = some m) (hne : k ≠ i) : dropK xs i (k + 1) = dropK xs i k ++ [m] := by
  have hk := (List.getElem?_eq_some_iff.1 hm).1
  have e : xs.take (k + 1) = xs.take k ++ [m] := by rw [List.take_add_one, hm]; rfl
  unfold dropK
  rw [e]
  have hl : (xs.take k).length = k := by rw [List.length_take]; omega
  by_cases h : k ≤ i
  · rw [if_pos (by omega), if_pos h]
  · rw [if_neg (by omega), if_neg h, List.eraseIdx_append_of_lt_length (by omega)]
theorem dropK_skip (xs : List (Ms × Value)) (i : Nat) (m : Ms × Value) (hm : xs[i]? = some m) : dropK xs i (i + 1) = dropK xs i i := by
  have hk := (List.getElem?_eq_some_iff.1 hm).1
  have e : xs.take (i + 1) = xs.take i ++ [m] := by rw [List.take_add_one, hm]; rfl
  unfold dropK
  have hl : (xs.take i).length = i := by rw [List.length_take]; omega
  rw [if_neg (by omega), if_pos (Nat.le_refl _), e, List.eraseIdx_append_of_length_le (by omega), hl, Nat.sub_self]
  simp
theorem dropK_end (xs : List (Ms × Value)) (i : Nat) (hi : i < xs.length) : dropK xs i xs.length = xs.eraseIdx i := by
  unfold dropK
  rw [if_neg (by omega), List.take_length]
theorem dropK_len (xs : List (Ms × Value)) (i k : Nat) : (dropK xs i k).length ≤ k := by
  unfold dropK
  split
  · rw [List.length_take]; omega
  · rw [List.length_eraseIdx]; split <;> (try rw [List.length_take]) <;> omega
set_option maxHeartbeats 3200000 in
theorem rdrop_some (h : RefIs w B rb fv xs room lost) (hB : B ≤ w.heap.size) (i : Nat) (hi : i < xs.length) :
    Calls Try.prog 46 #[.pointer (some ⟨rb, 0, none⟩), .int .i64 (i : Nat)] w fun e w' => e = .returned (.bool true) ∧ ∃ fv', RefIs w' B rb fv' (xs.eraseIdx i) room lost ∧ Mv (RFt rb fv xs) (RFt rb fv' (xs.eraseIdx i)) w w' := by
  obtain ⟨a, c, rfl, hc, hm⟩ := h.sl
  have hrm := h.rm
  have hle := h.le
  have c0 := h.c0
  have HH : Hid (RefIs w B rb (.slice a xs.length c) xs room lost) := h
  obtain ⟨n, Hn⟩ : ∃ n, Hid (xs.length = n) := ⟨_, rfl⟩
  have hi' : i < n := by rw [← Hn.out]; exact hi
  have hn8 : n ≤ 8192 := by rw [← Hn.out]; omega
  rw [Hn.out] at c0 HH hc ⊢
  have hz1 : ¬ (i : Int) < 0 := by omega
  have hz2 : ¬ (i : Int) ≥ (n : Int) := by omega
  have hz3 : (i : Int) < (n : Int) := by omega
  clear h hle
  go_enter Try.func46, Try.ntmps46
  go_wp2_with fail
  go_loopg [5, 6] n (fun q s5 s6 wx => ∃ (k m : Nat) (va : Option Addr) (vc : Nat), k ≤ n ∧ q = n - k ∧ s6 = .int .i64 (k : Nat) ∧ s5 = .slice va m vc ∧ (dropK xs i k).length = m ∧ Hid (wx.ownsRow w.heap.size 46 2 (.slice va m vc) m (flCells (dropK xs i k)) ∧ Below w.heap.size w wx))
  case atStart => exact ⟨0, 0, none, 0, Nat.zero_le _, rfl, rfl, rfl, by have := dropK_len xs i 0; omega, ⟨⟨by have := dropK_len xs i 0; rw [flCells_len]; omega, .inl ⟨rfl, rfl⟩⟩, Below.refl _ _⟩⟩
  case round =>
    obtain ⟨k, m, va, vc, hk, rfl, rfl, rfl, hm', HO⟩ := hrel
    have k0 : wr.cell? ⟨rb, 0, none⟩ = some (.slice a n c) := cel_on HO.out.2 c0
    by_cases hlt : k < n
    · have hzk : (k : Int) < (n : Int) := by omega
      have hwk : IntKind.i64.wrap ((k : Int) + 1) = (k : Int) + 1 := by rw [IntKind.wrap_i64]; omega
      obtain ⟨y, hy⟩ : ∃ y, xs[k]? = some y := ⟨_, List.getElem?_eq_getElem (by rw [Hn.out]; exact hlt)⟩
      by_cases hki : k = i
      · subst hki
        have hkk : ((k : Int) != (k : Int)) = false := by simp
        have HO2 : Hid (wr.ownsRow w.heap.size 46 2 (.slice va m vc) m (flCells (dropK xs k (k + 1))) ∧ Below w.heap.size w wr) := by rw [dropK_skip xs k y hy]; exact HO.out
        have hm2 : (dropK xs k (k + 1)).length = m := by rw [dropK_skip xs k y hy]; exact hm'
        clear HO hm' hy
        go_wp2_with fail
        go_roundg (n - (k + 1))
        case measure => go_light; omega
        case rel => go_light; exact ⟨k + 1, m, va, vc, by omega, rfl, by simp, rfl, hm2, HO2⟩
      · have hkk : ((k : Int) != (i : Int)) = true := by simp; omega
        have hR := HH.out.on HO.out.2
        obtain ⟨g, cc, ev, hcc, p0, p1⟩ := hR.msg hy
        obtain rfl : a = some ⟨g, 0, none⟩ := by injection ev
        clear ev hcc
        obtain ⟨vg, ev2, _⟩ := (hR.byt y (List.mem_of_getElem? hy)).byt
        obtain ⟨⟨yx, ys⟩, yv⟩ := y
        have ev2 : yv = .slice (some ⟨vg, 0, none⟩) ys.size ys.size := ev2
        subst ev2
        replace p0 : wr.cell? ⟨g, k * 2, none⟩ = some (.int .i64 yx) := p0
        replace p1 : wr.cell? ⟨g, k * 2 + 1, none⟩ = some (.slice (some ⟨vg, 0, none⟩) ys.size ys.size) := p1
        obtain ⟨a1, c1, w2, hrun, ho2, hg2, _⟩ := app_fl HO.out.1 (.int .i64 yx) (.slice (some ⟨vg, 0, none⟩) ys.size ys.size) rfl rfl (by have := dropK_len xs i k; omega) HO.out.2.size
        have eS := dropK_step xs i k _ hy hki
        have HO2 : Hid (w2.ownsRow w.heap.size 46 2 (.slice a1 (m + 1) c1) (m + 1) (flCells (dropK xs i (k + 1))) ∧ Below w.heap.size w w2) := by
          refine ⟨by rw [eS, flCells_app]; exact ho2, ?_⟩
          have hbw := HO.out.2
          have := hg2.size
          exact ⟨hg2.os.trans hbw.os, hg2.tape.trans hbw.tape, hg2.output.trans hbw.output, by have := hbw.size; omega, fun q hq => (hg2.block q (by have := hbw.size; omega) (fun e => by have := (rows_lt HO.out.1 q e.symm).1; omega)).trans (hbw.block q hq)⟩
        have hm2 : (dropK xs i (k + 1)).length = m + 1 := by rw [eS, List.length_append, hm']; rfl
        obtain ⟨m1, Hm1⟩ : ∃ m1, Hid (m + 1 = m1) := ⟨_, rfl⟩
        rw [Hm1.out] at hrun HO2 hm2
        have HR : Hid ((Builtin.append_ #[107, 107] 107 #[.slice va m vc, .slice (some ⟨wr.heap.size, 0, none⟩) 1 1]).run Try.prog (wr.alloc (.cells #[.int .i64 yx, .slice (some ⟨vg, 0, none⟩) ys.size ys.size] 46)) = .ok (.slice a1 m1 c1) w2) := hrun
        generalize ys.size = yn at *
        clear hrun HO hm' hy hR ho2 hg2 eS
        go_wp2_with (at_builtin; refine wpList_append_eq rfl _ _ 107 rfl _ _ _ (by rfl) (by rfl) HR.out ?_)
        go_roundg (n - (k + 1))
        case measure => go_light; omega
        case rel => go_light; exact ⟨k + 1, m1, a1, c1, by omega, rfl, by simp, rfl, hm2, HO2⟩
    · obtain rfl : k = n := by omega
      have hzk : ¬ (k : Int) < (k : Int) := by omega
      have eE : dropK xs i k = xs.eraseIdx i := by rw [← Hn.out]; exact dropK_end xs i hi
      rw [eE] at HO hm'
      have hR := HH.out.on HO.out.2
      have fz : wr.frozen? ⟨rb, 0, none⟩ = false := hR.row.frozen 0
      have HE : Hid (∃ fv', RefIs (wr.setCell ⟨rb, 0, none⟩ (.slice va m vc)) B rb fv' (xs.eraseIdx i) room lost ∧ Mv (RFt rb (.slice a k c) xs) (RFt rb fv' (xs.eraseIdx i)) w (wr.setCell ⟨rb, 0, none⟩ (.slice va m vc))) := by
        obtain ⟨ho, hb⟩ := HO.out
        refine HH.out.turn hR.row (by rw [hm']; exact ⟨ho.1, ho.2.imp_right (fun ⟨g, cap, cur, e, hk, hr⟩ => ⟨g, cap, cur, e, Nat.le_trans hB hk, hr⟩)⟩) (fun x hx => hR.byt x (List.mem_of_mem_eraseIdx hx)) (by have := HH.out.le; rw [List.length_eraseIdx]; split <;> omega) hb.os hb.tape hb.output hb.size (fun q hq _ _ => hb.block q hq) (fun q e => .inr (rows_lt ho q e).1) (fun x hx => .inl (List.mem_of_mem_eraseIdx hx))
      clear HO hR HH hm' eE
      go_wp2_with fail
      go_ret
      exact ⟨rfl, HE.out⟩
end
end Go.Proofs.Ytdfhdneimoimmaa

/- The document's own net: Take, Double. -/
namespace Go.Proofs.Ytdfhdneimoimmaa
open Go.RowKit
set_option maxRecDepth 100000
set_option maxRecDepth 100000
section
variable {w w' : World} {B rb : Nat} {fv : Value} {room lost : Nat} {xs : List (Ms × Value)}
/-- A row of bytes elsewhere is as it was. -/
theorem row8_mv {F F' : Nat → Prop} {w w' : World} {g n : Nat} {f : Nat → Value} (h : w.rowIs g 5 n f) (hM : Mv F F' w w') (hn : ¬ F g) : w'.rowIs g 5 n f := h.of_block (hM.block g h.lt hn)
set_option maxHeartbeats 3200000 in
theorem rtake_some (h : RefIs w B rb fv xs room lost) (hB : B ≤ w.heap.size) (i : Nat) (x : Int) (s : ByteArray) (v : Value) (hm : xs[i]? = some (⟨x, s⟩, v)) :
    Calls Try.prog 45 #[.pointer (some ⟨rb, 0, none⟩), .int .i64 (i : Nat)] w fun e w' => ∃ g, e = .returned (.tuple #[.agg #[.int .i64 x, .slice (some ⟨g, 0, none⟩) s.size s.size], .bool true]) ∧ w.heap.size ≤ g ∧ w'.rowIs g 5 s.size (fun j => .int .u8 (bx s j : Nat)) ∧ ∃ fv', RefIs w' B rb fv' (xs.eraseIdx i) room lost ∧ Mv (RFt rb fv xs) (RFt rb fv' (xs.eraseIdx i)) w w' := by
  have hi := (List.getElem?_eq_some_iff.1 hm).1
  obtain ⟨W0, HW0⟩ : ∃ W, Hid (w.alloc flZ = W) := ⟨_, rfl⟩
  have hz0 : W0.heap.size = w.heap.size + 1 := by rw [← HW0.out]; simp
  have hb0 : Below w.heap.size w W0 := by rw [← HW0.out]; exact (Below.refl _ _).alloc (Nat.le_refl _) _
  have hr0 := flZ_row w
  rw [HW0.out] at hr0
  have h0 : RefIs W0 B rb fv xs room lost := h.on hb0
  have hlk := rlook_some h0 i x s v hm
  have HP : Hid (∀ (w1 W2 : World) (g : Nat), w1.rowIs g 5 s.size (fun j => .int .u8 (bx s j : Nat)) → W0.heap.size ≤ g → Below W0.heap.size W0 w1 → w1.alloc (.cells #[.int .i64 x, .slice (some ⟨g, 0, none⟩) s.size s.size] 46) = W2 →
      Hid (Calls Try.prog 46 #[.pointer (some ⟨rb, 0, none⟩), .int .i64 (i : Nat)] W2 fun e w5 => e = .returned (.bool true) ∧
        w5.cell? ⟨w.heap.size, 0, none⟩ = some (.int .i64 0) ∧ w5.cell? ⟨w.heap.size, 1, none⟩ = some (.slice none 0 0) ∧ w5.frozen? ⟨w.heap.size, 0, none⟩ = false ∧ w5.frozen? ⟨w.heap.size, 1, none⟩ = false ∧ w5.cell? ⟨w1.heap.size, 0, none⟩ = some (.int .i64 x) ∧ w5.cell? ⟨w1.heap.size, 1, none⟩ = some (.slice (some ⟨g, 0, none⟩) s.size s.size) ∧
        ∃ W6, Hid ((w5.setCell ⟨w.heap.size, 0, none⟩ (.int .i64 x)).setCell ⟨w.heap.size, 1, none⟩ (.slice (some ⟨g, 0, none⟩) s.size s.size) = W6) ∧ W6.cell? ⟨w.heap.size, 0, none⟩ = some (.int .i64 x) ∧ W6.cell? ⟨w.heap.size, 1, none⟩ = some (.slice (some ⟨g, 0, none⟩) s.size s.size) ∧
          Hid (w.heap.size ≤ g ∧ W6.rowIs g 5 s.size (fun j => .int .u8 (bx s j : Nat)) ∧ ∃ fv', RefIs W6 B rb fv' (xs.eraseIdx i) room lost ∧ Mv (RFt rb fv xs) (RFt rb fv' (xs.eraseIdx i)) w W6))) := by
    intro w1 W2 g hF hg hb1 hW2
    have hz1 := hb1.size
    have hbw : Below w.heap.size w w1 := hb0.trans (hb1.mono hb0.size)
    have hb2 : Below w1.heap.size w1 W2 := by rw [← hW2]; exact (Below.refl _ _).alloc (Nat.le_refl _) _
    have hrF := row2_alloc w1 (.int .i64 x) (.slice (some ⟨g, 0, none⟩) s.size s.size) 46
    rw [hW2] at hrF
    have hr2 : W2.rowIs w.heap.size 46 2 (fun i => (#[Value.int .i64 0, .slice none 0 0])[i]!) := (hr0.of_block (hb1.block _ (by omega))).of_block (hb2.block _ (by omega))
    have hF2 := hF.of_block (hb2.block g hF.lt)
    have h2 : RefIs W2 B rb fv xs room lost := (h0.on hb1).on hb2
    have hb02 : Below w.heap.size w W2 := hbw.trans (hb2.mono (by omega))
    have hz2 : W2.heap.size = w1.heap.size + 1 := by rw [← hW2]; simp
    refine (rdrop_some h2 (by omega) i hi).mono fun e w5 ⟨he, fv', hN5, hM⟩ => ?_
    have hk : ∀ k, w.heap.size ≤ k → k < W2.heap.size → w5.heap[k]? = W2.heap[k]? := fun k hk hk2 => hM.block k hk2 (fun hf => by have := (h.ge k hf).2; omega)
    have hr5 := hr2.of_block (hk _ (Nat.le_refl _) (by omega))
    have hrF5 := hrF.of_block (hk _ (by omega) (by omega))
    have hF5 := hF2.of_block (hk g (by omega) hF2.lt)
    refine ⟨he, hr5.cell (i := 0) (by decide), hr5.cell (i := 1) (by decide), hr5.frozen 0, hr5.frozen 1, hrF5.cell (i := 0) (by decide), hrF5.cell (i := 1) (by decide), _, rfl, ?_, ?_, ?_⟩
    · have := ((hr5.set 0 (.int .i64 x)).set 1 (.slice (some ⟨g, 0, none⟩) s.size s.size)).cell (i := 0) (by decide)
      exact this
    · have := ((hr5.set 0 (.int .i64 x)).set 1 (.slice (some ⟨g, 0, none⟩) s.size s.size)).cell (i := 1) (by decide)
      exact this
    · have hbk : ∀ k, k ≠ w.heap.size → ((w5.setCell ⟨w.heap.size, 0, none⟩ (.int .i64 x)).setCell ⟨w.heap.size, 1, none⟩ (.slice (some ⟨g, 0, none⟩) s.size s.size)).heap[k]? = w5.heap[k]? := fun k hk => (Below.heap_setCell _ _ _ _ hk).trans (Below.heap_setCell _ _ _ _ hk)
      refine ⟨by omega, hF5.of_block (hbk g (by omega)), fv', hN5.later (fun k hf => hbk k (fun e => ?_)), ?_, ?_, ?_, ?_, fun k hk hn => ?_, fun k hf => ?_⟩
      · rcases hM.foot k hf with q | q
        · have := (h.ge k q).2; omega
        · have : W2.heap.size ≤ k := q
          omega
      · exact hM.os.trans hb02.os
      · exact hM.tape.trans hb02.tape
      · exact hM.output.trans hb02.output
      · have : W2.heap.size ≤ w5.heap.size := hM.size
        have := hb02.size
        simp [World.setCell]; omega
      · exact (hbk k (by omega)).trans ((hM.block k (by have := hb02.size; omega) hn).trans (hb02.block k hk))
      · rcases hM.foot k hf with q | q
        · exact .inl q
        · exact .inr (by have := hb02.size; omega)
  obtain ⟨S, HS⟩ : ∃ S, Hid (s.size = S) := ⟨_, rfl⟩
  rw [HS.out] at hlk HP ⊢
  clear h h0 hb0 hr0 hi hm hz0
  unfold flZ at HW0
  go_enter Try.func45, Try.ntmps45
  go_upto_region 1 with fail
  rw [HW0.out]
  go_wp2_with fail
  refine hlk.mono ?_
  rintro e w1 ⟨g, rfl, hg, hF, hb1⟩
  obtain ⟨W2, HW2⟩ : ∃ W, Hid (w1.alloc (.cells #[.int .i64 x, .slice (some ⟨g, 0, none⟩) S S] 46) = W) := ⟨_, rfl⟩
  have HD := HP.out w1 W2 g hF hg hb1 HW2.out
  clear HP hlk hF hb1 hg
  go_upto_region 2 with fail
  rw [HW2.out]
  go_wp2_with fail
  refine HD.out.mono ?_
  rintro e w5 ⟨rfl, x0, x1, z0, z1, y0, y1, W6, HW6, r0, r1, HE⟩
  go_wp2
  rw [HW6.out]
  refine bodyPost_ret_by (v := .tuple #[.agg #[.int .i64 x, .slice (some ⟨g, 0, none⟩) S S], .bool true]) ?_ rfl ⟨g, rfl, HE.out⟩
  rw [results_cell_tmp rfl]
  go_simp
set_option maxHeartbeats 1600000 in
theorem rtake_none (h : RefIs w B rb fv xs room lost) (i : Int) (hi : ¬ (0 ≤ i ∧ i < xs.length)) :
    Calls Try.prog 45 #[.pointer (some ⟨rb, 0, none⟩), .int .i64 i] w fun e w' => e = .returned (.tuple #[.agg #[.int .i64 0, .slice none 0 0], .bool false]) ∧ Below w.heap.size w w' := by
  obtain ⟨W0, HW0⟩ : ∃ W, Hid (w.alloc flZ = W) := ⟨_, rfl⟩
  have hz0 : W0.heap.size = w.heap.size + 1 := by rw [← HW0.out]; simp
  have hb0 : Below w.heap.size w W0 := by rw [← HW0.out]; exact (Below.refl _ _).alloc (Nat.le_refl _) _
  have hr0 := flZ_row w
  rw [HW0.out] at hr0
  have h0 : RefIs W0 B rb fv xs room lost := h.on hb0
  have hlk := rlook_none h0 i hi
  have HP : Hid (∀ (w1 W2 : World), Below W0.heap.size W0 w1 → w1.alloc (.cells #[.int .i64 0, .slice none 0 0] 46) = W2 →
      Hid (Calls Try.prog 46 #[.pointer (some ⟨rb, 0, none⟩), .int .i64 i] W2 fun e w5 => e = .returned (.bool false) ∧ w5 = W2) ∧ W2.cell? ⟨w1.heap.size, 0, none⟩ = some (.int .i64 0) ∧ W2.cell? ⟨w1.heap.size, 1, none⟩ = some (.slice none 0 0) ∧ Below w.heap.size w W2 ∧ W2.rowIs w.heap.size 46 2 (fun i => (#[Value.int .i64 0, .slice none 0 0])[i]!)) := by
    intro w1 W2 hb1 hW2
    have hz1 := hb1.size
    have hbw : Below w.heap.size w w1 := hb0.trans (hb1.mono hb0.size)
    have hb2 : Below w1.heap.size w1 W2 := by rw [← hW2]; exact (Below.refl _ _).alloc (Nat.le_refl _) _
    have hrF := row2_alloc w1 (.int .i64 0) (.slice none 0 0) 46
    rw [hW2] at hrF
    exact ⟨rdrop_none ((h0.on hb1).on hb2) i hi, hrF.cell (i := 0) (by decide), hrF.cell (i := 1) (by decide), hbw.trans (hb2.mono (by omega)), (hr0.of_block (hb1.block _ (by omega))).of_block (hb2.block _ (by omega))⟩
  clear h h0 hb0 hr0 hi hz0
  unfold flZ at HW0
  go_enter Try.func45, Try.ntmps45
  go_upto_region 1 with fail
  rw [HW0.out]
  go_wp2_with fail
  refine hlk.mono ?_
  rintro e w1 ⟨rfl, hb1⟩
  obtain ⟨W2, HW2⟩ : ∃ W, Hid (w1.alloc (.cells #[.int .i64 0, .slice none 0 0] 46) = W) := ⟨_, rfl⟩
  obtain ⟨HD, v0, v1, hb2, hr2⟩ := HP.out w1 W2 hb1 HW2.out
  have q0 : (W2.cell? ⟨w.heap.size, 0, none⟩) = some (.int .i64 0) := hr2.cell (i := 0) (by decide)
  have q1 : (W2.cell? ⟨w.heap.size, 1, none⟩) = some (.slice none 0 0) := hr2.cell (i := 1) (by decide)
  have z0 := hr2.frozen 0
  have z1 := hr2.frozen 1
  clear HP hlk hb1
  go_upto_region 2 with fail
  rw [HW2.out]
  go_wp2_with fail
  refine HD.out.mono ?_
  rintro e w5 ⟨rfl, e5⟩
  subst e5
  have hr3 := (hr2.set 0 (.int .i64 0)).set 1 (.slice none 0 0)
  obtain ⟨W3, HW3⟩ : ∃ W, Hid ((w5.setCell ⟨w.heap.size, 0, none⟩ (.int .i64 0)).setCell ⟨w.heap.size, 1, none⟩ (.slice none 0 0) = W) := ⟨_, rfl⟩
  rw [HW3.out] at hr3
  have r0 : W3.cell? ⟨w.heap.size, 0, none⟩ = some (.int .i64 0) := hr3.cell (i := 0) (by decide)
  have r1 : W3.cell? ⟨w.heap.size, 1, none⟩ = some (.slice none 0 0) := hr3.cell (i := 1) (by decide)
  have HB3 : Hid (Below w.heap.size w W3) := by
    rw [← HW3.out]
    exact (hb2.setCell (by simp) _).setCell (by simp) _
  clear hr3 hb2 hr2 HD
  go_wp2
  rw [HW3.out]
  refine bodyPost_ret_by (v := .tuple #[.agg #[.int .i64 0, .slice none 0 0], .bool false]) ?_ rfl ⟨rfl, HB3.out⟩
  rw [results_cell_tmp rfl]
  go_simp
end
end Go.Proofs.Ytdfhdneimoimmaa

/- The document's own net: Double. What was sent is written over. The empty Book. -/
namespace Go.Proofs.Ytdfhdneimoimmaa
open Go.RowKit
set_option maxRecDepth 100000
set_option maxRecDepth 100000
section
variable {w w' : World} {B rb : Nat} {fv : Value} {room lost : Nat} {xs : List (Ms × Value)}
set_option maxHeartbeats 3200000 in
theorem rdouble_some (h : RefIs w B rb fv xs room lost) (hB : B ≤ w.heap.size) (i : Nat) (x : Int) (s : ByteArray) (v : Value) (hm : xs[i]? = some (⟨x, s⟩, v)) (hl : xs.length < room) :
    Calls Try.prog 47 #[.pointer (some ⟨rb, 0, none⟩), .int .i64 (i : Nat)] w fun e w' => e = .returned (.bool true) ∧ ∃ fv' v, RefIs w' B rb fv' (xs ++ [(⟨x, s⟩, v)]) room lost ∧ Mv (RFt rb fv xs) (RFt rb fv' (xs ++ [(⟨x, s⟩, v)])) w w' := by
  have hi := (List.getElem?_eq_some_iff.1 hm).1
  obtain ⟨g, vc, ev, hvc, p0, p1⟩ := h.msg hm
  obtain ⟨vg, ev2, hvb⟩ := (h.byt _ (List.mem_of_getElem? hm)).byt
  have hss : s.size ≤ 140737488351232 := by obtain ⟨_, _, _, _, h4⟩ := h.byt _ (List.mem_of_getElem? hm); exact h4
  replace ev2 : v = .slice (some ⟨vg, 0, none⟩) s.size s.size := ev2
  subst ev2
  replace p0 : w.cell? ⟨g, i * 2, none⟩ = some (.int .i64 x) := p0
  replace p1 : w.cell? ⟨g, i * 2 + 1, none⟩ = some (.slice (some ⟨vg, 0, none⟩) s.size s.size) := p1
  have hrm := h.rm
  have hz1 : ¬ (i : Int) < 0 := by omega
  have hz2 : ¬ (i : Int) ≥ (xs.length : Int) := by omega
  have hz4 : (i : Int) < (xs.length : Int) := by omega
  have hz3 : ¬ (xs.length : Int) ≥ (room : Int) := by omega
  have HC : Hid (∀ q, (w.drewN q).cell? ⟨rb, 0, none⟩ = some fv ∧ (w.drewN q).drew.cell? ⟨rb, 0, none⟩ = some fv ∧ (w.drewN q).drew.cell? ⟨g, i * 2, none⟩ = some (.int .i64 x) ∧ (w.drewN q).drew.cell? ⟨g, i * 2 + 1, none⟩ = some (.slice (some ⟨vg, 0, none⟩) s.size s.size)) := fun q => ⟨h.c0, h.c0, p0, p1⟩
  have HP : Hid (∀ (W w1 : World) (gn : Nat), w.heap.size = W.heap.size → Below w.heap.size w W → W.heap.size ≤ gn → Below W.heap.size W w1 → w1.rowIs gn 5 s.size (fun j => .int .u8 (bx s j : Nat)) →
      w1.cell? ⟨rb, 0, none⟩ = some fv ∧ (∀ o, (w1.alloc o).cell? ⟨rb, 0, none⟩ = some fv) ∧ ∃ a1 c1 w2, Hid ((Builtin.append_ #[107, 107] 107 #[fv, .slice (some ⟨w1.heap.size, 0, none⟩) 1 1]).run Try.prog (w1.alloc (.cells #[.int .i64 x, .slice (some ⟨gn, 0, none⟩) s.size s.size] 46)) = .ok (.slice a1 (xs.length + 1) c1) w2) ∧ w2.cell? ⟨rb, 0, none⟩ = some fv ∧ w2.frozen? ⟨rb, 0, none⟩ = false ∧
        Hid (∃ fv' v, RefIs (w2.setCell ⟨rb, 0, none⟩ (.slice a1 (xs.length + 1) c1)) B rb fv' (xs ++ [(⟨x, s⟩, v)]) room lost ∧ Mv (RFt rb fv xs) (RFt rb fv' (xs ++ [(⟨x, s⟩, v)])) w (w2.setCell ⟨rb, 0, none⟩ (.slice a1 (xs.length + 1) c1)))) := by
    intro W w1 gn hWz hbW hgn hb1 hrow
    have hgl := hrow.lt
    have hb01 : Below w.heap.size w w1 := hbW.trans (hb1.mono (by omega))
    have h1 := h.on hb01
    obtain ⟨a1, c1, w2, hrun, ho2, hg2, hn2⟩ := app_fl h1.own (.int .i64 x) (.slice (some ⟨gn, 0, none⟩) s.size s.size) rfl rfl (by omega) (by have := hb1.size; omega)
    have hk2 : ∀ k, k < w1.heap.size → fv.ownBlock ≠ some k → w2.heap[k]? = w1.heap[k]? := fun k hk hne => hg2.block k hk (fun e => hne e.symm)
    have hr2 : w2.rowIs rb 109 3 (refCell fv room lost) := h1.row.of_block (hk2 rb h1.row.lt h1.nm)
    refine ⟨h1.c0, fun o => (h1.on ((Below.refl _ _).alloc (Nat.le_refl _) o)).c0, a1, c1, w2, hrun, hr2.cell (i := 0) (by decide), hr2.frozen 0, ?_⟩
    have hcb : CB w2 B (.slice (some ⟨gn, 0, none⟩) s.size s.size) s := ⟨gn, rfl, by omega, hrow.of_block (hk2 gn hgl (fun e2 => by
      have := (rows_lt h.own gn e2).2
      omega)), hss⟩
    obtain ⟨fv', hR, hM⟩ := h.turn (w2 := w2) (xs' := xs ++ [(⟨x, s⟩, .slice (some ⟨gn, 0, none⟩) s.size s.size)]) hr2 (by rw [flCells_app, List.length_append]; exact ho2) (fun y hy => by
        rcases List.mem_append.1 hy with q | q
        · exact (h1.byt y q).on (fun k e => hk2 k ((h1.byt y q).lt k e).2 (fun e2 => by
            obtain ⟨g, ev, _, hrg, _⟩ := h1.byt y q
            have : g = k := by rw [ev] at e; simpa [Value.ownBlock] using e
            subst this
            exact rows_apart h1.own hrg (by decide) e2))
        · have : y = (⟨x, s⟩, .slice (some ⟨gn, 0, none⟩) s.size s.size) := by simpa using q
          rw [this]
          exact hcb) (by rw [List.length_append]; show xs.length + 1 ≤ room; omega) (hg2.os.trans hb01.os) (hg2.tape.trans hb01.tape) (hg2.output.trans hb01.output) (by have := hg2.size; have := hb01.size; omega) (fun k hk _ hne => (hk2 k (by have := hb01.size; omega) hne).trans (hb01.block k hk)) (fun k e => (hn2 k e).imp_right (fun q => by have := hb01.size; omega)) (fun y hy => by
        rcases List.mem_append.1 hy with q | q
        · exact .inl q
        · have : y = (⟨x, s⟩, .slice (some ⟨gn, 0, none⟩) s.size s.size) := by simpa using q
          rw [this]
          refine .inr (fun k e => ?_)
          have : gn = k := by simpa [Value.ownBlock] using e
          omega)
    exact ⟨fv', _, hR, hM⟩
  have HCP : Hid (∀ q, Calls Try.prog 58 #[.agg #[.int .i64 x, .slice (some ⟨vg, 0, none⟩) s.size s.size]] (w.drewN q).drew fun e w1 => ∃ gn, e = .returned (.agg #[.int .i64 x, .slice (some ⟨gn, 0, none⟩) s.size s.size]) ∧ w1.cell? ⟨rb, 0, none⟩ = some fv ∧ (∀ o, (w1.alloc o).cell? ⟨rb, 0, none⟩ = some fv) ∧ ∃ a1 c1 w2, Hid ((Builtin.append_ #[107, 107] 107 #[fv, .slice (some ⟨w1.heap.size, 0, none⟩) 1 1]).run Try.prog (w1.alloc (.cells #[.int .i64 x, .slice (some ⟨gn, 0, none⟩) s.size s.size] 46)) = .ok (.slice a1 (xs.length + 1) c1) w2) ∧ w2.cell? ⟨rb, 0, none⟩ = some fv ∧ w2.frozen? ⟨rb, 0, none⟩ = false ∧
        Hid (∃ fv' v, RefIs (w2.setCell ⟨rb, 0, none⟩ (.slice a1 (xs.length + 1) c1)) B rb fv' (xs ++ [(⟨x, s⟩, v)]) room lost ∧ Mv (RFt rb fv xs) (RFt rb fv' (xs ++ [(⟨x, s⟩, v)])) w (w2.setCell ⟨rb, 0, none⟩ (.slice a1 (xs.length + 1) c1)))) := fun q =>
    (twin_any x (some ⟨vg, 0, none⟩) s.size s (w.drewN q).drew hss hvb).mono fun e w1 ⟨gn, he, h1, h2, h3⟩ => ⟨gn, he, HP.out (w.drewN q).drew w1 gn rfl ⟨rfl, rfl, rfl, Nat.le_refl _, fun _ _ => rfl⟩ h1 h3 h2⟩
  have k0 := h.c0
  have k1 := h.c1
  subst ev
  obtain ⟨S, HS⟩ : ∃ S, Hid (s.size = S) := ⟨_, rfl⟩
  rw [HS.out] at HCP HC
  obtain ⟨n1, Hn1⟩ : ∃ n1, Hid (xs.length + 1 = n1) := ⟨_, rfl⟩
  rw [Hn1.out] at HCP
  generalize xs.length = n at *
  clear h HP hss hl hrm hB hvb hm hi p0 p1
  go_enter Try.func47, Try.ntmps47
  go_upto_region 1 with fail
  go_quiet (fail)
  obtain ⟨kd, kdd, kp0, kp1⟩ := HC.out nq
  have hc := HCP.out nq
  clear HC HCP k0 k1
  generalize w.drewN nq = wq at *
  have HC2 : Hid (Calls Try.prog 58 #[.agg #[.int .i64 x, .slice (some ⟨vg, 0, none⟩) S S]] wq.drew fun e w1 => ∃ gn, e = .returned (.agg #[.int .i64 x, .slice (some ⟨gn, 0, none⟩) S S]) ∧ w1.cell? ⟨rb, 0, none⟩ = some (.slice (some ⟨g, 0, none⟩) n vc) ∧ (∀ o, (w1.alloc o).cell? ⟨rb, 0, none⟩ = some (.slice (some ⟨g, 0, none⟩) n vc)) ∧ ∃ a1 c1 w2, Hid ((Builtin.append_ #[107, 107] 107 #[.slice (some ⟨g, 0, none⟩) n vc, .slice (some ⟨w1.heap.size, 0, none⟩) 1 1]).run Try.prog (w1.alloc (.cells #[.int .i64 x, .slice (some ⟨gn, 0, none⟩) S S] 46)) = .ok (.slice a1 n1 c1) w2) ∧ w2.cell? ⟨rb, 0, none⟩ = some (.slice (some ⟨g, 0, none⟩) n vc) ∧ w2.frozen? ⟨rb, 0, none⟩ = false ∧
        Hid (∃ fv' v, RefIs (w2.setCell ⟨rb, 0, none⟩ (.slice a1 n1 c1)) B rb fv' (xs ++ [(⟨x, s⟩, v)]) room lost ∧ Mv (RFt rb (.slice (some ⟨g, 0, none⟩) n vc) xs) (RFt rb fv' (xs ++ [(⟨x, s⟩, v)])) w (w2.setCell ⟨rb, 0, none⟩ (.slice a1 n1 c1)))) := hc
  clear hc
  go_upto_region 3 with fail
  go_region_law (first
    | (go_simp; go_at_call 58; refine HC2.out.mono ?_; rintro e w1 ⟨gn, rfl, kc, kca, a1, c1, w2, HR, k2, f2, HE⟩)
    | (refine step_apps2 rfl _ _ 107 rfl _ _ _ (by rfl) (by rfl) HR.out ?_))
  all_goals
    go_wp2_with fail
    go_ret
    exact ⟨rfl, HE.out⟩
theorem rdouble_not (h : RefIs w B rb fv xs room lost) (i : Int) (hi : ¬ (0 ≤ i ∧ i < xs.length ∧ xs.length < room)) :
    Calls Try.prog 47 #[.pointer (some ⟨rb, 0, none⟩), .int .i64 i] w fun e w' => e = .returned (.bool false) ∧ ∃ q, w' = w.drewN q := by
  obtain ⟨a, c, rfl, hc, hm⟩ := h.sl
  have k0 := h.c0
  have k1 := h.c1
  clear h
  generalize xs.length = n at *
  by_cases hn : i < 0
  · go_enter Try.func47, Try.ntmps47
    go_upto_region 1 with fail
    go_quiet (fail)
    go_wp2_with fail
    go_ret
    exact ⟨rfl, _, rfl⟩
  · by_cases hge : i ≥ (n : Int)
    · go_enter Try.func47, Try.ntmps47
      go_upto_region 1 with fail
      go_quiet (fail)
      go_wp2_with fail
      go_ret
      exact ⟨rfl, _, rfl⟩
    · have hz3 : (n : Int) ≥ (room : Int) := by omega
      go_enter Try.func47, Try.ntmps47
      go_upto_region 1 with fail
      go_quiet (fail)
      go_wp2_with fail
      go_ret
      exact ⟨rfl, _, rfl⟩
end
/-- Over: every byte of one's own row is written over. -/
theorem over_any (g n c cap : Nat) (f : Nat → Value) (w : World) (h : w.rowIs g 5 cap f) (hn : n ≤ cap) (hmax : n ≤ 9223372036854775000) :
    Calls Try.prog 42 #[.slice (some ⟨g, 0, none⟩) n c] w fun e w' => e = .returned (.tuple #[]) ∧ Below g w w' ∧ (w'.os = w.os ∧ w'.tape = w.tape ∧ w'.output = w.output ∧ w'.heap.size = w.heap.size) ∧ ∀ k, k ≠ g → w'.heap[k]? = w.heap[k]? := by
  have hg := h.lt
  go_enter Try.func42, Try.ntmps42
  go_wp2_with fail
  go_loopg [2] n (fun q s2 wx => ∃ (i : Nat) (f' : Nat → Value), i ≤ n ∧ q = n - i ∧ s2 = .int .i64 (i : Nat) ∧ wx.rowIs g 5 cap f' ∧ Below g w wx ∧ wx.heap.size = w.heap.size ∧ Hid (∀ k, k ≠ g → wx.heap[k]? = w.heap[k]?))
  case atStart => exact ⟨0, f, Nat.zero_le _, rfl, rfl, h, Below.refl _ _, rfl, fun _ _ => rfl⟩
  case round =>
    clear h
    obtain ⟨i, f', hi, rfl, rfl, hr, hb, hz, HK⟩ := hrel
    by_cases hlt : i < n
    · have hzi : (i : Int) < (n : Int) := by omega
      have hwi : IntKind.i64.wrap ((i : Int) + 1) = (i : Int) + 1 := by rw [IntKind.wrap_i64]; omega
      have k0 : wr.cell? ⟨g, i, none⟩ = some (f' i) := hr.cell (by omega)
      have fz : wr.frozen? ⟨g, i, none⟩ = false := hr.frozen i
      have HE : Hid ((wr.setCell ⟨g, i, none⟩ (.int .u8 238)).rowIs g 5 cap (fun j => if j = i then .int .u8 238 else f' j) ∧ Below g w (wr.setCell ⟨g, i, none⟩ (.int .u8 238)) ∧ (wr.setCell ⟨g, i, none⟩ (.int .u8 238)).heap.size = w.heap.size ∧ Hid (∀ k, k ≠ g → (wr.setCell ⟨g, i, none⟩ (.int .u8 238)).heap[k]? = w.heap[k]?)) :=
        ⟨hr.set i _, hb.setCell (by simp) _, by simp [World.setCell]; exact hz, fun k hk => (Below.heap_setCell _ _ _ _ hk).trans (HK.out k hk)⟩
      generalize f' i = v0 at k0
      clear hr hb hz HK
      go_wp2_with fail
      go_roundg (n - (i + 1))
      case measure => go_light; omega
      case rel => go_light; exact ⟨i + 1, _, by omega, rfl, by simp, HE.out⟩
    · have hzi : ¬ (i : Int) < (n : Int) := by omega
      clear hr
      go_wp2_with fail
      go_end0
      exact ⟨rfl, hb, ⟨hb.os, hb.tape, hb.output, hz⟩, HK.out⟩

/-- A Book in which nothing was written yet. -/
def book0 (i : Nat) : Value := if i = 36 then .int .i64 0 else if i = 37 then .int .i64 0 else if i = 38 then .int .i64 0 else if i % 3 = 2 then .int .i64 0 else .slice none 0 0
end Go.Proofs.Ytdfhdneimoimmaa

/- The empty Book's looks. -/
namespace Go.Proofs.Ytdfhdneimoimmaa
open Go.RowKit
set_option maxRecDepth 100000
set_option maxHeartbeats 1600000 in
set_option maxRecDepth 100000 in
theorem book_kept (bk : Nat) (f : Nat → Value) (w : World) (h : w.rowIs bk 82 39 f) (h6 : f 6 = .slice none 0 0) (h9 : f 9 = .slice none 0 0) (h12 : f 12 = .slice none 0 0) (h15 : f 15 = .slice none 0 0) :
    Calls Try.prog 61 #[.pointer (some ⟨bk, 0, none⟩)] w fun e w' => e = .returned (.bool true) ∧ w' = w := by
  have c6 := h.cell (i := 6) (by decide)
  rw [h6] at c6
  have c9 := h.cell (i := 9) (by decide)
  rw [h9] at c9
  have c12 := h.cell (i := 12) (by decide)
  rw [h12] at c12
  have c15 := h.cell (i := 15) (by decide)
  rw [h15] at c15
  clear h h6 h9 h12 h15
  go_enter Try.func61, Try.ntmps61
  go_wp2_with fail
  go_loopg [3] 0 (fun q s3 wx => q = 0 ∧ s3 = .int .i64 0 ∧ w = wx)
  case atStart => exact ⟨rfl, rfl, rfl⟩
  case round =>
    obtain ⟨rfl, rfl, rfl⟩ := hrel
    go_wp2_with fail
    go_loopg [5] 0 (fun q s5 wx => q = 0 ∧ s5 = .int .i64 0 ∧ w = wx)
    case atStart => exact ⟨rfl, rfl, rfl⟩
    case round =>
      obtain ⟨rfl, rfl, rfl⟩ := hrel
      go_wp2_with fail
      go_loopg [7] 0 (fun q s7 wx => q = 0 ∧ s7 = .int .i64 0 ∧ w = wx)
      case atStart => exact ⟨rfl, rfl, rfl⟩
      case round =>
        obtain ⟨rfl, rfl, rfl⟩ := hrel
        go_wp2_with fail
        go_loopg [9] 0 (fun q s9 wx => q = 0 ∧ s9 = .int .i64 0 ∧ w = wx)
        case atStart => exact ⟨rfl, rfl, rfl⟩
        case round =>
          obtain ⟨rfl, rfl, rfl⟩ := hrel
          go_wp2_with fail
          go_ret
          exact ⟨rfl, rfl⟩
set_option maxHeartbeats 1600000 in
set_option maxRecDepth 100000 in
theorem book_told (bk : Nat) (f : Nat → Value) (w : World) (h : w.rowIs bk 82 39 f) (h18 : f 18 = .slice none 0 0) (h21 : f 21 = .slice none 0 0) (h24 : f 24 = .slice none 0 0) (h27 : f 27 = .slice none 0 0) :
    Calls Try.prog 62 #[.pointer (some ⟨bk, 0, none⟩)] w fun e w' => e = .returned (.bool true) ∧ w' = w := by
  have c18 := h.cell (i := 18) (by decide)
  rw [h18] at c18
  have c21 := h.cell (i := 21) (by decide)
  rw [h21] at c21
  have c24 := h.cell (i := 24) (by decide)
  rw [h24] at c24
  have c27 := h.cell (i := 27) (by decide)
  rw [h27] at c27
  clear h h18 h21 h24 h27
  go_enter Try.func62, Try.ntmps62
  go_wp2_with fail
  go_loopg [3] 0 (fun q s3 wx => q = 0 ∧ s3 = .int .i64 0 ∧ w = wx)
  case atStart => exact ⟨rfl, rfl, rfl⟩
  case round =>
    obtain ⟨rfl, rfl, rfl⟩ := hrel
    go_wp2_with fail
    go_loopg [5] 0 (fun q s5 wx => q = 0 ∧ s5 = .int .i64 0 ∧ w = wx)
    case atStart => exact ⟨rfl, rfl, rfl⟩
    case round =>
      obtain ⟨rfl, rfl, rfl⟩ := hrel
      go_wp2_with fail
      go_loopg [7] 0 (fun q s7 wx => q = 0 ∧ s7 = .int .i64 0 ∧ w = wx)
      case atStart => exact ⟨rfl, rfl, rfl⟩
      case round =>
        obtain ⟨rfl, rfl, rfl⟩ := hrel
        go_wp2_with fail
        go_loopg [9] 0 (fun q s9 wx => q = 0 ∧ s9 = .int .i64 0 ∧ w = wx)
        case atStart => exact ⟨rfl, rfl, rfl⟩
        case round =>
          obtain ⟨rfl, rfl, rfl⟩ := hrel
          go_wp2_with fail
          go_ret
          exact ⟨rfl, rfl⟩
set_option maxHeartbeats 1600000 in
set_option maxRecDepth 100000 in
theorem book_held (bk : Nat) (f : Nat → Value) (w : World) (h : w.rowIs bk 82 39 f) (h30 : f 30 = .slice none 0 0) (h33 : f 33 = .slice none 0 0) :
    Calls Try.prog 63 #[.pointer (some ⟨bk, 0, none⟩)] w fun e w' => e = .returned (.bool true) ∧ w' = w := by
  have c30 := h.cell (i := 30) (by decide)
  rw [h30] at c30
  have c33 := h.cell (i := 33) (by decide)
  rw [h33] at c33
  clear h h30 h33
  go_enter Try.func63, Try.ntmps63
  go_wp2_with fail
  go_loopg [3] 0 (fun q s3 wx => q = 0 ∧ s3 = .int .i64 0 ∧ w = wx)
  case atStart => exact ⟨rfl, rfl, rfl⟩
  case round =>
    obtain ⟨rfl, rfl, rfl⟩ := hrel
    go_wp2_with fail
    go_loopg [7] 0 (fun q s7 wx => q = 0 ∧ s7 = .int .i64 0 ∧ w = wx)
    case atStart => exact ⟨rfl, rfl, rfl⟩
    case round =>
      obtain ⟨rfl, rfl, rfl⟩ := hrel
      go_wp2_with fail
      go_ret
      exact ⟨rfl, rfl⟩
set_option maxHeartbeats 1600000 in
set_option maxRecDepth 100000 in
theorem book_plain0 (bk : Nat) (f : Nat → Value) (w : World) (h : w.rowIs bk 82 39 f) (h0 : f 0 = .slice none 0 0) (h3 : f 3 = .slice none 0 0) :
    Calls Try.prog 60 #[.pointer (some ⟨bk, 0, none⟩)] w fun e w' => e = .returned (.bool true) ∧ w' = w := by
  have c0 := h.cell (i := 0) (by decide)
  rw [h0] at c0
  have c3 := h.cell (i := 3) (by decide)
  rw [h3] at c3
  clear h h0 h3
  go_enter Try.func60, Try.ntmps60
  go_wp2_with fail
  go_loopg [3] 0 (fun q s3 wx => q = 0 ∧ s3 = .int .i64 0 ∧ w = wx)
  case atStart => exact ⟨rfl, rfl, rfl⟩
  case round =>
    obtain ⟨rfl, rfl, rfl⟩ := hrel
    go_wp2_with fail
    go_loopg [5] 0 (fun q s7 wx => q = 0 ∧ s7 = .int .i64 0 ∧ w = wx)
    case atStart => exact ⟨rfl, rfl, rfl⟩
    case round =>
      obtain ⟨rfl, rfl, rfl⟩ := hrel
      go_wp2_with fail
      go_ret
      exact ⟨rfl, rfl⟩

set_option maxHeartbeats 1600000 in
theorem book_look0 (bk : Nat) (w : World) (h : w.rowIs bk 82 39 book0) :
    Calls Try.prog 30 #[.pointer (some ⟨bk, 0, none⟩)] w fun e w' => e = .returned (.bool true) ∧ ∃ q, w' = w.drewN q := by
  have hp := book_plain0 bk book0 w h rfl rfl
  have hk := book_kept bk book0 w h rfl rfl rfl rfl
  have ht := book_told bk book0 w h rfl rfl rfl rfl
  have hh := book_held bk book0 w h rfl rfl
  have c36 : w.cell? ⟨bk, 36, none⟩ = some (.int .i64 0) := h.cell (i := 36) (by decide)
  have c37 : w.cell? ⟨bk, 37, none⟩ = some (.int .i64 0) := h.cell (i := 37) (by decide)
  have HO : Calls Try.prog 49 #[.pointer (some ⟨bk, 0, none⟩)] w fun e w' => e = .returned (.bool true) ∧ w' = w := by
    clear h c36 c37
    go_enter Try.func49, Try.ntmps49
    go_wp2_with fail
    refine hp.mono ?_
    rintro e w1 ⟨rfl, e1⟩
    subst e1
    go_wp2_with fail
    refine hk.mono ?_
    rintro e w2 ⟨rfl, e2⟩
    subst e2
    go_wp2_with fail
    refine ht.mono ?_
    rintro e w3 ⟨rfl, e3⟩
    subst e3
    go_wp2_with fail
    refine hh.mono ?_
    rintro e w4 ⟨rfl, e4⟩
    subst e4
    go_wp2_with fail
    go_ret
    exact ⟨rfl, rfl⟩
  clear h hp hk ht hh
  go_enter Try.func30, Try.ntmps30
  go_wp2_with fail
  refine HO.mono ?_
  rintro e w1 ⟨rfl, e1⟩
  subst e1
  go_wp2_with fail
  go_quiet (fail)
  go_wp2_with fail
  go_ret
  exact ⟨rfl, _, rfl⟩
end Go.Proofs.Ytdfhdneimoimmaa
