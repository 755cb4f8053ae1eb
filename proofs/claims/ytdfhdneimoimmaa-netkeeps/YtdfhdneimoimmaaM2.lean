/- Own texts, joined: N6, N7, N8, N9, N10, N11. -/
import Derived.Test.YtdfhdneimoimmaaM1
import Derived.Lib.SlBytesConst
import Derived.BigQuiet
import Derived.Deep.CutRange
import Derived.Deep.CutBlock
import Derived.Test.YtdfhdneimoimmaaRows
import Derived.ProofKit
import Derived.OpenShut
import Derived.Lib.SmallJoins
import Derived.Deep.Slices

/- NetKeeps: messages with numbers of their own; into, num, which, tag, lives. -/
namespace Go.Proofs.Ytdfhdneimoimmaa
open Go.RowKit
set_option maxRecDepth 100000
set_option maxRecDepth 100000

theorem strOf_size (n : Nat) (x : Nat → Nat) : (strOf n x).size = n := by rw [strOf, strOfNums_size]; simp
theorem bx_strOf {n : Nat} {x : Nat → Nat} (h : ∀ j, j < n → x j < 256) {j : Nat} (hj : j < n) : bx (strOf n x) j = x j := by
  unfold bx strOf
  rw [strOfNums_data]
  simp [List.getD, hj]
  have := h j hj
  omega
theorem since_below {B : Nat} {w w' : World} (h : w.Since B w') : Below B w w' := ⟨h.os, h.tape, h.output, h.size, h.block⟩
theorem below_since {B : Nat} {w w' : World} (h : Below B w w') : w.Since B w' := ⟨h.os, h.tape, h.output, h.size, h.block⟩
theorem below_dN {B : Nat} {w w' : World} (h : Below B w w') (m : Nat) : Below B w (w'.drewN m) := ⟨h.os, h.tape, h.output, h.size, h.block⟩
theorem Byt.on {w w' : World} {a : Option Addr} {n : Nat} {x : Nat → Nat} (h : Byt w a n x) (hb : Below w.heap.size w w') : Byt w' a n x := h.since (below_since hb)
theorem cel_on {w w' : World} (hb : Below w.heap.size w w') {a : Addr} {v : Value} (h : w.cell? a = some v) : w'.cell? a = some v := by
  rw [World.cell?_of_block (w := w) (hb.block _ (World.block_lt_of_cell? _ _ h))]; exact h

set_option maxHeartbeats 800000 in
theorem cmp_same (a b : Option Addr) (n c d : Nat) (x : Nat → Nat) (w : World) (ha : Byt w a n x) (hb : Byt w b n x) (hmax : n ≤ 281474976710656) :
    Calls Try.prog 57 #[.slice a n c, .slice b n d] w fun e w' => e = .returned (.int .i64 0) ∧ ∃ m, w' = w.drewN m := by
  go_enter Try.func57, Try.ntmps57
  go_wp2_with fail
  go_loopg [5] n (fun q s5 wx => ∃ (i m : Nat), i ≤ n ∧ q = n - i ∧ s5 = .int .i64 i ∧ wx = w.drewN m)
  case atStart => exact ⟨0, 0, Nat.zero_le _, rfl, rfl, rfl⟩
  case round =>
    obtain ⟨i, m, hi, rfl, rfl, rfl⟩ := hrel
    by_cases hlt : i < n
    · obtain ⟨b1, o1, rfl, hc1⟩ := ha i hlt
      obtain ⟨b2, o2, rfl, hc2⟩ := hb i hlt
      have hc1' : (w.drewN m).cell? ⟨b1, o1 + i, none⟩ = some (.int .u8 (x i : Nat)) := hc1
      have hc2' : (w.drewN m).cell? ⟨b2, o2 + i, none⟩ = some (.int .u8 (x i : Nat)) := hc2
      have hz : (i : Int) < (n : Int) := by omega
      have HD : Hid (∀ n, (w.drewN m).drewN n = w.drewN (m + n)) := fun n => World.drewN_drewN _ _ _
      generalize w.drewN m = wd at *
      clear hc1 hc2 ha hb
      go_wp2_with fail
      go_quiet (fail)
      go_wp2_with fail
      go_quiet (fail)
      go_wp2_with fail
      go_roundg (n - (i + 1))
      case measure => go_light; omega
      case rel => go_light; exact ⟨i + 1, _, by omega, rfl, by simp, (unhide HD) _⟩
    · obtain rfl : i = n := by omega
      clear ha hb
      go_wp2_with fail
      go_ret
      exact ⟨rfl, m, rfl⟩
theorem eq_same (a b : Option Addr) (n c d : Nat) (x : Nat → Nat) (w : World) (ha : Byt w a n x) (hb : Byt w b n x) (hmax : n ≤ 281474976710656) :
    Calls Try.prog 37 #[.slice a n c, .slice b n d] w fun e w' => e = .returned (.bool true) ∧ ∃ m, w' = w.drewN m := by
  have hc := cmp_same a b n c d x w ha hb hmax
  go_enter Try.func37, Try.ntmps37
  go_wp2_with fail
  refine hc.mono ?_
  rintro e w1 ⟨rfl, m, rfl⟩
  go_wp2_with fail
  go_ret
  exact ⟨rfl, m, rfl⟩

theorem num_any (n : Int) (w : World) : Calls Try.prog 8 #[.int .i64 n] w fun e w' => e = .returned (.int .i64 n) ∧ w' = w := by
  go_enter Try.func8, Try.ntmps8
  go_wp2
  go_ret
  exact ⟨rfl, rfl⟩
/-- into: a number from 0 to m - 1. -/
theorem into_any (K : Int) (m : Nat) (hm : 0 < m) (hm2 : m ≤ 1000000) (w : World) : Calls Try.prog 6 #[.int .i64 K, .int .i64 (m : Nat)] w fun e w' => w' = w ∧ ∃ k : Nat, k < m ∧ e = .returned (.int .i64 (k : Nat)) := by
  have h1 := Int.tmod_lt_of_pos K (show (0 : Int) < (m : Int) by omega)
  have h2 := Int.lt_tmod_of_pos K (show (0 : Int) < (m : Int) by omega)
  have h0 : ¬ (m : Int) = 0 := by omega
  have h0' : ((m : Int) == 0) = false := by simp; omega
  have hmw : IntKind.i64.wrap (K.tmod m) = K.tmod m := by rw [IntKind.wrap_i64]; omega
  by_cases hn : K.tmod m < 0
  · obtain ⟨k, hk, hk2⟩ : ∃ k : Nat, K.tmod m + (m : Int) = (k : Int) ∧ k < m := ⟨(K.tmod m + m).toNat, by omega, by omega⟩
    have hw : IntKind.i64.wrap (k : Int) = (k : Int) := by rw [IntKind.wrap_i64]; omega
    go_enter Try.func6, Try.ntmps6
    go_wp2
    go_ret
    exact ⟨rfl, k, hk2, rfl⟩
  · obtain ⟨k, hk, hk2⟩ : ∃ k : Nat, K.tmod m = (k : Int) ∧ k < m := ⟨(K.tmod m).toNat, by omega, by omega⟩
    rw [hk] at hmw hn
    go_enter Try.func6, Try.ntmps6
    go_wp2
    go_ret
    exact ⟨rfl, k, hk2, rfl⟩

/-- The bytes of the message of number i. -/
def tagx (i : Nat) (j : Nat) : Nat := if j = 0 then i % 256 else i / 256
theorem tagx_lt {i : Nat} (hi : i < 300) (j : Nat) : tagx i j < 256 := by
  unfold tagx; split <;> omega
def tagM (i : Nat) : Ms := ⟨((i % 7 : Nat) : Int), strOf 2 (tagx i)⟩

theorem tag_any (i : Nat) (hi : i < 300) (w : World) :
    Calls Try.prog 11 #[.int .i64 (i : Nat)] w fun e w' => ∃ g, e = .returned (.slice (some ⟨g, 0, none⟩) 2 2) ∧ Byt w' (some ⟨g, 0, none⟩) 2 (tagx i) ∧ Below w.heap.size w w' := by
  have hw1 : IntKind.u8.wrap (i : Int) = ((i % 256 : Nat) : Int) := by rw [IntKind.wrap_u8']; omega
  have hsh : (i : Int) >>> 8 = ((i / 256 : Nat) : Int) := by rw [Int.shiftRight_eq_div_pow]; omega
  have hw2 : IntKind.u8.wrap ((i / 256 : Nat) : Int) = ((i / 256 : Nat) : Int) := by rw [IntKind.wrap_u8']; omega
  have hw3 : IntKind.i64.wrap ((i / 256 : Nat) : Int) = ((i / 256 : Nat) : Int) := by rw [IntKind.wrap_i64]; omega
  have HE : Hid (Byt (w.alloc (.cells #[.int .u8 ((i % 256 : Nat) : Int), .int .u8 ((i / 256 : Nat) : Int)] 5)) (some ⟨w.heap.size, 0, none⟩) 2 (tagx i) ∧ Below w.heap.size w (w.alloc (.cells #[.int .u8 ((i % 256 : Nat) : Int), .int .u8 ((i / 256 : Nat) : Int)] 5))) := by
    refine ⟨fun j hj => ⟨w.heap.size, 0, rfl, ?_⟩, (Below.refl _ _).alloc (Nat.le_refl _) _⟩
    match j, hj with
    | 0, _ => exact World.cell?_alloc_at (w := w) _ _ _ 0 rfl
    | 1, _ => exact World.cell?_alloc_at (w := w) _ _ _ 1 rfl
  have hd : (i : Int) / 256 = ((i / 256 : Nat) : Int) := by omega
  generalize i / 256 = p at *
  generalize i % 256 = q at *
  go_enter Try.func11, Try.ntmps11
  go_wp2
  go_ret
  exact ⟨_, rfl, HE.out⟩

/-- The two bytes of the message of number i lie at g. -/
def Tgd (w : World) (g i : Nat) : Prop := w.cell? ⟨g, 0, none⟩ = some (.int .u8 (tagx i 0 : Nat)) ∧ w.cell? ⟨g, 1, none⟩ = some (.int .u8 (tagx i 1 : Nat))
theorem Tgd.of {w : World} {g c i : Nat} (h : FlB w g c (strOf 2 (tagx i))) (hi : i < 300) : Tgd w g i := by
  have h0 := h.cell 0 (by rw [strOf_size]; decide)
  have h1 := h.cell 1 (by rw [strOf_size]; decide)
  rw [bx_strOf (fun j _ => tagx_lt hi j) (by decide)] at h0 h1
  exact ⟨h0, h1⟩
theorem Tgd.on {w w' : World} {g i : Nat} (h : Tgd w g i) (hb : Below w.heap.size w w') : Tgd w' g i := ⟨cel_on hb h.1, cel_on hb h.2⟩
set_option maxHeartbeats 800000 in
theorem which_any (g c i : Nat) (hi : i < 300) (w : World) (h : Tgd w g i) :
    Calls Try.prog 14 #[.agg #[.int .i64 (i % 7 : Nat), .slice (some ⟨g, 0, none⟩) 2 c]] w fun e w' => e = .returned (.int .i64 (i : Nat)) ∧ Below w.heap.size w w' := by
  have hb0 : Below w.heap.size w (w.alloc (.cells #[.int .i64 (i % 7 : Nat), .slice (some ⟨g, 0, none⟩) 2 c] 46)) := (Below.refl _ _).alloc (Nat.le_refl _) _
  have hT := h.on hb0
  have hr := row2_alloc w (.int .i64 (i % 7 : Nat)) (.slice (some ⟨g, 0, none⟩) 2 c) 46
  generalize hW : w.alloc (.cells #[.int .i64 (i % 7 : Nat), .slice (some ⟨g, 0, none⟩) 2 c] 46) = W at *
  have HW := hide hW
  have t0 : W.cell? ⟨g, 0, none⟩ = some (.int .u8 ((i % 256 : Nat) : Int)) := hT.1
  have t1 : W.cell? ⟨g, 1, none⟩ = some (.int .u8 ((i / 256 : Nat) : Int)) := hT.2
  have r1 : W.cell? ⟨w.heap.size, 1, none⟩ = some (.slice (some ⟨g, 0, none⟩) 2 c) := hr.cell (i := 1) (by decide)
  have w1 : IntKind.i64.wrap ((i % 256 : Nat) : Int) = ((i % 256 : Nat) : Int) := by rw [IntKind.wrap_i64]; omega
  have w2 : IntKind.i64.wrap ((i / 256 : Nat) : Int) = ((i / 256 : Nat) : Int) := by rw [IntKind.wrap_i64]; omega
  obtain ⟨p, hp, hp2⟩ : ∃ p : Nat, (256 : Int) * ((i / 256 : Nat) : Int) = (p : Int) ∧ p = 256 * (i / 256) := ⟨_, by omega, rfl⟩
  have w3 : IntKind.i64.wrap (p : Int) = (p : Int) := by rw [IntKind.wrap_i64]; omega
  have hs : ((i % 256 : Nat) : Int) + (p : Int) = (i : Int) := by omega
  have w4 : IntKind.i64.wrap (i : Int) = (i : Int) := by rw [IntKind.wrap_i64]; omega
  have HB : Hid (Below w.heap.size w W) := hb0
  clear hT hr hb0 h hW hp2
  generalize i / 256 = P at *
  generalize i % 256 = Q at *
  generalize i % 7 = R at *
  go_enter Try.func14, Try.ntmps14
  go_upto_region 1 with fail
  rw [HW.out]
  go_wp2_with fail
  go_quiet (fail)
  go_wp2_with fail
  go_ret
  exact ⟨rfl, below_dN HB.out _⟩
end Go.Proofs.Ytdfhdneimoimmaa

/- tallylaw6: same, lives. -/
namespace Go.Proofs.Ytdfhdneimoimmaa
open Go.RowKit
set_option maxRecDepth 100000
set_option maxRecDepth 100000

set_option maxHeartbeats 800000 in
theorem same_any (x : Int) (a b : Option Addr) (n c d : Nat) (y : Nat → Nat) (w : World) (ha : Byt w a n y) (hb : Byt w b n y) (hmax : n ≤ 281474976710656) :
    Calls Try.prog 21 #[.agg #[.int .i64 x, .slice a n c], .agg #[.int .i64 x, .slice b n d]] w fun e w' => e = .returned (.bool true) ∧ Below w.heap.size w w' := by
  obtain ⟨W, HW⟩ : ∃ W, Hid ((w.alloc (.cells #[.int .i64 x, .slice a n c] 46)).alloc (.cells #[.int .i64 x, .slice b n d] 46) = W) := ⟨_, rfl⟩
  have h1 := row2_alloc w (.int .i64 x) (.slice a n c) 46
  have hz1 : (w.alloc (.cells #[.int .i64 x, .slice a n c] 46)).heap.size = w.heap.size + 1 := by simp
  have h2 := row2_alloc (w.alloc (.cells #[.int .i64 x, .slice a n c] 46)) (.int .i64 x) (.slice b n d) 46
  rw [HW.out, hz1] at h2
  have h1' : W.rowIs w.heap.size 46 2 (fun i => if i = 0 then .int .i64 x else .slice a n c) := h1.of_block (by rw [← HW.out]; exact Below.heap_alloc _ _ _ (by omega))
  have hB : Below w.heap.size w W := by rw [← HW.out]; exact ((Below.refl _ _).alloc (Nat.le_refl _) _).alloc (by simp) _
  have p0 : W.cell? ⟨w.heap.size, 0, none⟩ = some (.int .i64 x) := h1'.cell (i := 0) (by decide)
  have p1 : W.cell? ⟨w.heap.size, 1, none⟩ = some (.slice a n c) := h1'.cell (i := 1) (by decide)
  have q0 : W.cell? ⟨w.heap.size + 1, 0, none⟩ = some (.int .i64 x) := h2.cell (i := 0) (by decide)
  have q1 : W.cell? ⟨w.heap.size + 1, 1, none⟩ = some (.slice b n d) := h2.cell (i := 1) (by decide)
  have he := eq_same a b n c d y W (ha.on hB) (hb.on hB) hmax
  have HB : Hid (Below w.heap.size w W) := hB
  have hxx : (x == x) = true := by simp
  clear h1 h2 h1' hB ha hb hz1
  go_enter Try.func21, Try.ntmps21
  go_upto_region 1 with fail
  rw [HW.out]
  go_wp2_with fail
  refine he.mono ?_
  rintro e w1 ⟨rfl, m, rfl⟩
  go_wp2_with fail
  go_ret
  exact ⟨rfl, below_dN HB.out m⟩

/-- The bytes of []byte("x"). -/
theorem byt_x (w : World) : Byt (w.alloc (.cells #[.int .u8 120] 5 (1, 2))) (some ⟨w.heap.size, 0, none⟩) 1 (fun _ => 120) := fun j hj => ⟨w.heap.size, 0, rfl, by
  obtain rfl : j = 0 := by omega
  exact World.cell?_alloc_mark w _ _ _ 0⟩

set_option maxHeartbeats 1600000 in
theorem lives_any (w : World) : Calls Try.prog 9 #[] w fun e w' => e = .returned (.bool true) ∧ Below w.heap.size w w' := by
  have hnew := new_any 1 (by decide) (by decide) w
  have hnum : Hid (∀ W, Calls Try.prog 8 #[.int .i64 0] W fun e w' => e = .returned (.int .i64 0) ∧ w' = W) := fun W => num_any 0 W
  obtain ⟨S, HS⟩ : ∃ S, Hid (S = strOf 1 (fun _ => 120)) := ⟨_, rfl⟩
  have HS1 : Hid (S.size = 1) := by rw [HS.out]; exact strOf_size _ _
  have HSB : Hid (∀ (W : World) (g c : Nat), FlB W g c S → Byt W (some ⟨g, 0, none⟩) 1 (fun _ => 120)) := fun W g c h j hj => by
    have := h.byt j (by rw [HS1.out]; exact hj)
    rw [HS.out, bx_strOf (fun _ _ => by decide) hj] at this
    exact this
  have kc := fun (w : World) (C : Array Value) (n c : Nat) => Lib.run_convert_bytes_const (P := Try.prog) w 37 5 C n c Try.underlying37 Try.underlying5
  go_enter Try.func9, Try.ntmps9
  go_wp2_with fail
  refine hnew.mono ?_
  rintro e w1 ⟨rfl, hN1, hb1, hz1⟩
  have hx1 := byt_x w1
  have hbx : Below w1.heap.size w1 (w1.alloc (.cells #[.int .u8 120] 5 (1, 2))) := (Below.refl _ _).alloc (Nat.le_refl _) _
  have HBX : Hid (Below w.heap.size w (w1.alloc (.cells #[.int .u8 120] 5 (1, 2)))) := hb1.trans (hbx.mono (by omega))
  have hs1 := send_some (hN1.on hbx) (by simp; omega) (by decide) 3 (some ⟨w1.heap.size, 0, none⟩) 1 1 (fun _ => 120) hx1 (fun h => by cases h)
  rw [← HS.out] at hs1
  have HS3 : Hid (Calls Try.prog 10 #[.pointer (some ⟨w.heap.size, 0, none⟩), .int .i64 3, .slice (some ⟨w1.heap.size, 0, none⟩) 1 1] (w1.alloc (.cells #[.int .u8 120] 5 (1, 2))) fun e w' => e = .returned (.bool true) ∧ (∃ mv, NetIs w' w.heap.size w.heap.size mv 1 [⟨3, S⟩] 0) ∧ Below w.heap.size w w') := hs1.mono fun e w' ⟨he, mv, h1, h2⟩ => ⟨he, ⟨mv, h1⟩, h2.below HBX.out HBX.out.size (fun k hf => (hN1.ge k hf).1)⟩
  have kc1 := kc w1 #[.int .u8 120] 1 1
  clear hnew hs1 hN1 hb1 hbx HBX hx1 hz1
  go_wp2_with fail
  refine (hnum.out _).mono ?_
  rintro e w2 ⟨rfl, e2⟩
  subst e2
  go_wp2_with fail
  refine HS3.out.mono ?_
  rintro e w3 ⟨rfl, ⟨mv3, hN3⟩, hb3⟩
  have h4 := send_full hN3 (by simp) (by decide) 4 (.slice none 0 0)
  have HS4 : Hid (Calls Try.prog 10 #[.pointer (some ⟨w.heap.size, 0, none⟩), .int .i64 4, .slice none 0 0] w3 fun e w' => e = .returned (.bool false) ∧ (∃ mv, NetIs w' w.heap.size w.heap.size mv 1 [⟨3, S⟩] 1) ∧ Below w.heap.size w w') := h4.mono fun e w' ⟨he, h1, h2⟩ => ⟨he, ⟨_, h1⟩, h2.below hb3 hb3.size (fun k hf => (hN3.ge k hf).1)⟩
  clear h4 hN3 hb3 HS3 kc1
  go_wp2_with fail
  refine HS4.out.mono ?_
  rintro e w4 ⟨rfl, ⟨mv4, hN4⟩, hb4⟩
  have h5 := lost_any hN4
  have HT : Hid (Calls Try.prog 13 #[.pointer (some ⟨w.heap.size, 0, none⟩), .int .i64 0] w4 fun e w' => ∃ g c, e = .returned (.tuple #[.agg #[.int .i64 3, .slice (some ⟨g, 0, none⟩) 1 c], .bool true]) ∧ Byt w' (some ⟨g, 0, none⟩) 1 (fun _ => 120) ∧ (∃ mv, NetIs w' w.heap.size w.heap.size mv 1 [] 1) ∧ Below w.heap.size w w') := by
    have := take_some hN4 0 3 S rfl
    rw [HS1.out] at this
    exact this.mono fun e w' ⟨g, c, he, hF, _, mv', h1, h2⟩ => ⟨g, c, he, HSB.out w' g c hF, ⟨mv', h1⟩, h2.below hb4 hb4.size (fun k hf => (hN4.ge k hf).1)⟩
  clear hN4 hb4 HS4
  go_wp2_with fail
  refine h5.mono ?_
  rintro e w5 ⟨rfl, e5⟩
  subst e5
  go_wp2_with fail
  refine HT.out.mono ?_
  rintro e w6 ⟨g, c, rfl, hB6, ⟨mv6, hN6⟩, hb6⟩
  obtain ⟨W7, HW7⟩ : ∃ W, Hid (w6.alloc (.cells #[.int .i64 3, .slice (some ⟨g, 0, none⟩) 1 c] 46) = W) := ⟨_, rfl⟩
  have hb7 : Below w6.heap.size w6 W7 := by rw [← HW7.out]; exact (Below.refl _ _).alloc (Nat.le_refl _) _
  have hr7 := row2_alloc w6 (.int .i64 3) (.slice (some ⟨g, 0, none⟩) 1 c) 46
  rw [HW7.out] at hr7
  have v0 : W7.cell? ⟨w6.heap.size, 0, none⟩ = some (.int .i64 3) := hr7.cell (i := 0) (by decide)
  have v1 : W7.cell? ⟨w6.heap.size, 1, none⟩ = some (.slice (some ⟨g, 0, none⟩) 1 c) := hr7.cell (i := 1) (by decide)
  have hx7 := byt_x W7
  have hbx : Below W7.heap.size W7 (W7.alloc (.cells #[.int .u8 120] 5 (1, 2))) := (Below.refl _ _).alloc (Nat.le_refl _) _
  have h6x : Below w6.heap.size w6 (W7.alloc (.cells #[.int .u8 120] 5 (1, 2))) := hb7.trans (hbx.mono hb7.size)
  have HSM : Hid (Calls Try.prog 21 #[.agg #[.int .i64 3, .slice (some ⟨g, 0, none⟩) 1 c], .agg #[.int .i64 3, .slice (some ⟨W7.heap.size, 0, none⟩) 1 1]] (W7.alloc (.cells #[.int .u8 120] 5 (1, 2))) fun e w' => e = .returned (.bool true) ∧ Below w.heap.size w w' ∧ Hid (Calls Try.prog 16 #[.pointer (some ⟨w.heap.size, 0, none⟩)] w' fun e w'' => e = .returned (.int .i64 0) ∧ w'' = w')) :=
    (same_any 3 _ _ 1 c 1 (fun _ => 120) _ (hB6.on h6x) hx7 (by decide)).mono fun e w' ⟨he, h1⟩ => by
      have hb' := h6x.trans (h1.mono h6x.size)
      exact ⟨he, hb6.trans (hb'.mono hb6.size), len_any (hN6.on hb')⟩
  have kc7 := kc W7 #[.int .u8 120] 1 1
  clear HT h5 hB6 hN6 hb6 hb7 hr7 hx7 hbx h6x kc
  go_upto_region 5 with fail
  rw [HW7.out]
  go_wp2_with fail
  refine HSM.out.mono ?_
  rintro e w8 ⟨rfl, hb8, HL⟩
  go_wp2_with fail
  refine HL.out.mono ?_
  rintro e w9 ⟨rfl, e9⟩
  subst e9
  go_wp2_with fail
  go_ret
  exact ⟨rfl, hb8⟩
end Go.Proofs.Ytdfhdneimoimmaa

/- NetKeeps: the state of its loop; drains. -/
namespace Go.Proofs.Ytdfhdneimoimmaa
open Go.RowKit
set_option maxRecDepth 100000
set_option maxRecDepth 100000

def ints (row : List Nat) : List Value := row.map fun (k : Nat) => .int .i64 (k : Nat)
/-- The net holds the messages of these numbers, the law's own list those. -/
structure KS (W0 w : World) (nb room : Nat) (rv : Value) (row net : List Nat) (lost : Nat) : Prop where
  nt : ∃ mv, NetIs w W0.heap.size nb mv room (net.map tagM) lost
  own : w.ownsRow W0.heap.size 3 1 rv row.length (ints row)
  lt : ∀ k ∈ net, k < 300
  below : Below W0.heap.size W0 w
theorem erase_map (f : Nat → Ms) : ∀ (l : List Nat) (i : Nat), (l.map f).eraseIdx i = (l.eraseIdx i).map f
  | [], i => by simp
  | x :: l, 0 => rfl
  | x :: l, i + 1 => by
    show f x :: (l.map f).eraseIdx i = f x :: (l.eraseIdx i).map f
    rw [erase_map f l i]
section
variable {W0 w w' : World} {nb room lost lost' : Nat} {rv mv mv' : Value} {row net net' : List Nat}
theorem KS.on (h : KS W0 w nb room rv row net lost) (hb : Below w.heap.size w w') : KS W0 w' nb room rv row net lost := by
  obtain ⟨mv, hN⟩ := h.nt
  exact ⟨⟨mv, hN.on hb⟩, rows_keep h.own (fun k e => hb.block k (rows_lt h.own k e).2), h.lt, h.below.trans (hb.mono h.below.size)⟩
theorem KS.turn (h : KS W0 w nb room rv row net lost) (hN : NetIs w W0.heap.size nb mv room (net.map tagM) lost) (hN' : NetIs w' W0.heap.size nb mv' room (net'.map tagM) lost') (hM : Mv (NFt nb mv) (NFt nb mv') w w') (hl : ∀ k ∈ net', k < 300) : KS W0 w' nb room rv row net' lost' := by
  refine ⟨⟨mv', hN'⟩, rows_keep h.own (fun k e => hM.block k (rows_lt h.own k e).2 (fun hf => ?_)), hl, hM.below h.below h.below.size (fun k hf => (hN.ge k hf).1)⟩
  rcases hf with e2 | e2
  · exact rows_apart h.own hN.row (by decide) (e2 ▸ e)
  · exact rows_apart2 h.own hN.own (by decide) k e e2
theorem KS.at (h : KS W0 w nb room rv row net lost) {i k : Nat} (hk : row[i]? = some k) : ∃ g c, rv = .slice (some ⟨g, 0, none⟩) row.length c ∧ row.length ≤ c ∧ c ≤ 9223372036854775807 ∧ w.cell? ⟨g, i, none⟩ = some (.int .i64 (k : Nat)) := by
  have ho := h.own
  have hi := (List.getElem?_eq_some_iff.1 hk).1
  rcases h.own.2 with ⟨e, h0⟩ | ⟨g, c, cur, e, _, _, hc, hm, _⟩
  · omega
  · subst e
    refine ⟨g, c, rfl, hc, hm, ?_⟩
    rw [World.ownsRow.cellAt ho i (by omega)]
    unfold ints
    rw [List.getElem?_map, hk]
    rfl
theorem KS.sl (h : KS W0 w nb room rv row net lost) : ∃ a c, rv = .slice a row.length c ∧ row.length ≤ c ∧ c ≤ 9223372036854775807 := by
  rcases h.own.2 with ⟨e, h0⟩ | ⟨g, cap, cur, e, _, _, hc, hm, _⟩
  · exact ⟨none, 0, by rw [e, h0], by omega, by omega⟩
  · exact ⟨_, cap, e, hc, hm⟩
/-- Take of the message at i. -/
theorem KS.take (h : KS W0 w nb room rv row net lost) {i k : Nat} (hk : net[i]? = some k) :
    Calls Try.prog 13 #[.pointer (some ⟨nb, 0, none⟩), .int .i64 (i : Nat)] w fun e w' => ∃ g c, e = .returned (.tuple #[.agg #[.int .i64 (k % 7 : Nat), .slice (some ⟨g, 0, none⟩) 2 c], .bool true]) ∧ Tgd w' g k ∧ KS W0 w' nb room rv row (net.eraseIdx i) lost := by
  obtain ⟨mv, hN⟩ := h.nt
  have hk3 := h.lt k (List.mem_of_getElem? hk)
  have := take_some hN i ((k % 7 : Nat) : Int) (strOf 2 (tagx k)) (by rw [List.getElem?_map, hk]; rfl)
  rw [strOf_size] at this
  refine this.mono fun e w' ⟨g, c, he, hF, _, mv', h1, h2⟩ => ⟨g, c, he, Tgd.of hF hk3, h.turn hN ?_ h2 (fun k hk => h.lt k (List.mem_of_mem_eraseIdx hk))⟩
  rw [erase_map] at h1
  exact h1
set_option maxHeartbeats 3200000 in
theorem drains_any (h : KS W0 w nb room rv row row lost) (hlen : row.length ≤ 40) :
    Calls Try.prog 18 #[.pointer (some ⟨nb, 0, none⟩), rv] w fun e w' => e = .returned (.bool true) ∧ Below W0.heap.size W0 w' := by
  obtain ⟨va, vc, erv, hvc, hvm⟩ := h.sl
  obtain ⟨n, HN⟩ : ∃ n, Hid (row.length = n) := ⟨_, rfl⟩
  rw [HN.out] at erv hvc hlen
  rw [erv] at h ⊢
  have h : KS W0 w nb room (.slice va n vc) row (row.drop 0) lost := by rw [List.drop_zero]; exact h
  clear erv
  go_enter Try.func18, Try.ntmps18
  go_wp2_with fail
  go_loopg [5] n (fun q s5 wx => ∃ (i : Nat), i ≤ n ∧ q = n - i ∧ s5 = .int .i64 i ∧ KS W0 wx nb room (.slice va n vc) row (row.drop i) lost)
  case atStart => exact ⟨0, Nat.zero_le _, rfl, rfl, h⟩
  case round =>
    clear h
    obtain ⟨i, hi, rfl, rfl, h⟩ := hrel
    by_cases hlt : i < n
    · obtain ⟨k, hk⟩ : ∃ k, row[i]? = some k := ⟨_, List.getElem?_eq_getElem (by rw [HN.out]; exact hlt)⟩
      obtain ⟨rg, c, ev, _, _, hcell⟩ := h.at hk
      obtain rfl : va = some ⟨rg, 0, none⟩ := by injection ev
      clear ev
      have hd : (row.drop i)[0]? = some k := by rw [List.getElem?_drop]; exact hk
      have ht := h.take hd
      have hk3 := h.lt k (List.mem_of_getElem? hd)
      have ed : (row.drop i).eraseIdx 0 = row.drop (i + 1) := by
        rw [← List.tail_drop]
        cases row.drop i <;> rfl
      rw [ed] at ht
      have HT : Hid (Calls Try.prog 13 #[.pointer (some ⟨nb, 0, none⟩), .int .i64 0] wr fun e w' => ∃ g c, e = .returned (.tuple #[.agg #[.int .i64 (k % 7 : Nat), .slice (some ⟨g, 0, none⟩) 2 c], .bool true]) ∧ Tgd w' g k ∧ KS W0 w' nb room (.slice (some ⟨rg, 0, none⟩) n vc) row (row.drop (i + 1)) lost) := ht
      have HRC : Hid (∀ W, KS W0 W nb room (.slice (some ⟨rg, 0, none⟩) n vc) row (row.drop (i + 1)) lost → W.cell? ⟨rg, i, none⟩ = some (.int .i64 (k : Nat))) := fun W hW => by
        obtain ⟨g', c', ev, _, _, hc⟩ := hW.at hk
        have : rg = g' := by injection ev with e1; injection e1 with e1; injection e1
        subst this
        exact hc
      have HWH : Hid (∀ (W : World) (g c : Nat), Tgd W g k → Calls Try.prog 14 #[.agg #[.int .i64 (k % 7 : Nat), .slice (some ⟨g, 0, none⟩) 2 c]] W fun e w' => e = .returned (.int .i64 (k : Nat)) ∧ Below W.heap.size W w') := fun W g c hT => which_any g c k hk3 W hT
      have hz : (i : Int) < (n : Int) := by omega
      have hwi : IntKind.i64.wrap ((i : Int) + 1) = (i : Int) + 1 := by rw [IntKind.wrap_i64]; omega
      have hmod : ((k : Nat) : Int).tmod 7 = ((k % 7 : Nat) : Int) := (Int.ofNat_tmod k 7).symm
      generalize k % 7 = r at *
      clear h ht hd hk hk3 ed
      go_wp2_with fail
      refine HT.out.mono ?_
      rintro e w1 ⟨g, c1, rfl, hT1, hK1⟩
      obtain ⟨W2, HW2⟩ : ∃ W, Hid (w1.alloc (.cells #[.int .i64 (r : Nat), .slice (some ⟨g, 0, none⟩) 2 c1] 46) = W) := ⟨_, rfl⟩
      have hb2 : Below w1.heap.size w1 W2 := by rw [← HW2.out]; exact (Below.refl _ _).alloc (Nat.le_refl _) _
      have hr2 := row2_alloc w1 (.int .i64 (r : Nat)) (.slice (some ⟨g, 0, none⟩) 2 c1) 46
      rw [HW2.out] at hr2
      have v0 : W2.cell? ⟨w1.heap.size, 0, none⟩ = some (.int .i64 (r : Nat)) := hr2.cell (i := 0) (by decide)
      have v1 : W2.cell? ⟨w1.heap.size, 1, none⟩ = some (.slice (some ⟨g, 0, none⟩) 2 c1) := hr2.cell (i := 1) (by decide)
      have hK2 := hK1.on hb2
      have v2 := HRC.out W2 hK2
      have HV : Hid (∀ W, Below W2.heap.size W2 W → W.cell? ⟨w1.heap.size, 0, none⟩ = some (.int .i64 (r : Nat)) ∧ W.cell? ⟨w1.heap.size, 1, none⟩ = some (.slice (some ⟨g, 0, none⟩) 2 c1) ∧ W.cell? ⟨rg, i, none⟩ = some (.int .i64 (k : Nat))) := fun W hb => ⟨cel_on hb v0, cel_on hb v1, cel_on hb v2⟩
      have HWC : Hid (Calls Try.prog 14 #[.agg #[.int .i64 (r : Nat), .slice (some ⟨g, 0, none⟩) 2 c1]] W2.drew fun e w' => e = .returned (.int .i64 (k : Nat)) ∧ KS W0 w' nb room (.slice (some ⟨rg, 0, none⟩) n vc) row (row.drop (i + 1)) lost ∧ Below W2.heap.size W2 w') :=
        (HWH.out W2.drew g c1 ((hT1.on hb2).on (Below.refl _ _).drew)).mono fun e w' ⟨he, hb⟩ => by
          have hb' : Below W2.heap.size W2 w' := ⟨hb.os, hb.tape, hb.output, hb.size, hb.block⟩
          exact ⟨he, hK2.on hb', hb'⟩
      clear HT HRC HWH hT1 hK1 hK2 hb2 hr2 hcell
      go_upto_region 5 with fail
      rw [HW2.out]
      go_region_held3 (fun W => W.cell? ⟨w1.heap.size, 0, none⟩ = some (.int .i64 (r : Nat)) ∧ W.cell? ⟨w1.heap.size, 1, none⟩ = some (.slice (some ⟨g, 0, none⟩) 2 c1) ∧ W.cell? ⟨rg, i, none⟩ = some (.int .i64 (k : Nat)))
        (first | exact ⟨v0, v1, v2⟩ | exact HV.out _ hb3)
        (first
          | (go_at_call 14; with_reducible refine HWC.out.mono ?_; rintro e w3 ⟨rfl, hK3, hb3⟩))
      all_goals
        go_wp2_with fail
        go_roundg (n - (i + 1))
        case measure => go_light; omega
        case rel => go_light; exact ⟨i + 1, by omega, rfl, by simp, hK3⟩
    · obtain rfl : i = n := by omega
      have hz : ¬ (i : Int) < (i : Int) := by omega
      have ed : row.drop i = [] := List.drop_eq_nil_of_le (by rw [HN.out]; exact Nat.le_refl _)
      rw [ed] at h
      obtain ⟨mv, hN⟩ := h.nt
      have hN : NetIs wr W0.heap.size nb mv room [] lost := hN
      have hlk := look_none hN 0 (by simp)
      have HL : Hid (∀ W, Below wr.heap.size wr W → Calls Try.prog 16 #[.pointer (some ⟨nb, 0, none⟩)] W fun e w' => e = .returned (.int .i64 0) ∧ w' = W) := fun W hb => len_any (hN.on hb)
      have HB : Hid (Below W0.heap.size W0 wr) := h.below
      clear h hN ed
      go_wp2_with fail
      refine hlk.mono ?_
      rintro e w1 ⟨rfl, hb1⟩
      have hb2 : Below wr.heap.size wr (w1.alloc (.cells #[.int .i64 0, .slice none 0 0] 46)) := hb1.alloc hb1.size _
      have hl := HL.out _ hb2
      have HE : Hid (Below W0.heap.size W0 (w1.alloc (.cells #[.int .i64 0, .slice none 0 0] 46))) := HB.out.trans (hb2.mono HB.out.size)
      clear hlk HL hb1 hb2 HB
      go_wp2_with fail
      refine hl.mono ?_
      rintro e w3 ⟨rfl, e3⟩
      subst e3
      go_wp2_with fail
      go_ret
      exact ⟨rfl, HE.out⟩
end
end Go.Proofs.Ytdfhdneimoimmaa

/- NetKeeps: its own list of numbers: one more, one less; each call as a step of the loop's state. -/
namespace Go.Proofs.Ytdfhdneimoimmaa
open Go.RowKit
set_option maxRecDepth 100000
set_option maxRecDepth 100000

theorem infoI : (Try.prog.info? 3).map (fun i => (i.zero, i.size, i.bytes)) = some (some (.int .i64 0), 1, 8) := by kernel_rfl
/-- append of numbers that lie somewhere. -/
theorem app_ints {w : World} {K : Nat} {v : Value} {row : List Nat} (h : w.ownsRow K 3 1 v row.length (ints row)) (a : Addr) (c : Nat) (new : List Nat) (hnew : ∀ j k, new[j]? = some k → w.cell? (a.add j) = some (.int .i64 (k : Nat))) (hn : row.length + new.length ≤ 1099511627776) (hK : K ≤ w.heap.size) :
    ∃ va vc w', (Builtin.append_ #[32, 32] 32 #[v, .slice (some a) new.length c]).run Try.prog w = .ok (.slice va (row.length + new.length) vc) w' ∧ w'.ownsRow K 3 1 (.slice va (row.length + new.length) vc) (row ++ new).length (ints (row ++ new)) ∧ w.grownBy w' v.ownBlock := by
  obtain ⟨i0, hi, hz0, hz1, hz2⟩ := info_parts infoI
  have hml : maxLen = 9223372036854775807 := rfl
  obtain ⟨v', w', h1, h2, h3, _⟩ := run_append_own_at (P := Try.prog) w K 32 32 3 i0 _ 1 8 Try.underlying32 hi hz0 hz1 hz2 rfl (by decide) v row.length (ints row) h a new.length c (ints new) (by simp [ints]) (fun j u hu => by
    unfold ints at hu
    rw [List.getElem?_map] at hu
    cases hj : new[j]? with
    | none => rw [hj] at hu; cases hu
    | some k => rw [hj] at hu; rw [hnew j k hj]; exact hu) (fun u hu => by
    obtain ⟨k, _, rfl⟩ := List.mem_map.1 hu
    rfl) (by omega) (by omega) hK
  have e : ints row ++ ints new = ints (row ++ new) := by simp [ints]
  rw [e] at h2
  obtain ⟨va, vc, ev⟩ : ∃ va vc, v' = .slice va (row.length + new.length) vc := by
    rcases h2.2 with ⟨e, h0⟩ | ⟨g, cap, cur, e, _⟩
    · exact ⟨none, 0, by rw [e, h0]⟩
    · exact ⟨_, cap, e⟩
  subst ev
  exact ⟨va, vc, w', h1, by rw [List.length_append]; exact h2, h3⟩
section
variable {W0 w w' : World} {nb room lost : Nat} {rv : Value} {row net : List Nat}
/-- One more number. -/
theorem KS.more (h : KS W0 w nb room rv row net lost) (hl : row.length ≤ 100000) (k : Nat) :
    ∃ va vc w', (Builtin.append_ #[32, 32] 32 #[rv, .slice (some ⟨w.heap.size, 0, none⟩) 1 1]).run Try.prog (w.alloc (.cells #[.int .i64 (k : Nat)] 3)) = .ok (.slice va (row.length + 1) vc) w' ∧ KS W0 w' nb room (.slice va (row.length + 1) vc) (row ++ [k]) net lost := by
  have hb : Below w.heap.size w (w.alloc (.cells #[.int .i64 (k : Nat)] 3)) := (Below.refl _ _).alloc (Nat.le_refl _) _
  have h1 := h.on hb
  obtain ⟨va, vc, w', r1, r2, r3⟩ := app_ints h1.own ⟨w.heap.size, 0, none⟩ 1 [k] (fun j u hj => by
    match j with
    | 0 => simp at hj; subst hj; simp [Addr.add]
    | j + 1 => simp at hj) (by show row.length + 1 ≤ _; omega) (by have := h1.below.size; omega)
  obtain ⟨mv, hN⟩ := h1.nt
  refine ⟨va, vc, w', r1, ⟨mv, hN.later (fun q hf => r3.block q (hN.ge q hf).2 (fun e => ?_))⟩, r2, h.lt, ?_⟩
  · rcases hf with e2 | e2
    · exact rows_apart h1.own hN.row (by decide) (by rw [← e2]; exact e.symm)
    · exact rows_apart2 h1.own hN.own (by decide) q e.symm e2
  · exact h1.below.trans ⟨r3.os, r3.tape, r3.output, r3.size, fun q hq => r3.block q (Nat.lt_of_lt_of_le hq h1.below.size) (fun e => by have := (rows_lt h1.own q e.symm).1; omega)⟩
/-- One number less: append(append([]int{}, row[:at]...), row[at+1:]...). -/
theorem KS.less (h : KS W0 w nb room rv row net lost) (hl : row.length ≤ 100000) {g c at' : Nat} (hv : rv = .slice (some ⟨g, 0, none⟩) row.length c) (hat : at' < row.length) (A : Addr) (hA : c ≠ at' + 1 → A = ⟨g, at' + 1, none⟩) (hcn : c = at' + 1 → row.length = at' + 1) :
    ∃ va vc w1 vb vd w2, (Builtin.append_ #[32, 32] 32 #[.slice (some ⟨w.heap.size, 0, none⟩) 0 0, .slice (some ⟨g, 0, none⟩) at' c]).run Try.prog (w.drew.alloc (.cells #[] 3)) = .ok (.slice va at' vc) w1 ∧
      (Builtin.append_ #[32, 32] 32 #[.slice va at' vc, .slice (some A) (row.length - (at' + 1)) (c - (at' + 1))]).run Try.prog w1 = .ok (.slice vb (row.length - 1) vd) w2 ∧ KS W0 w2 nb room (.slice vb (row.length - 1) vd) (row.eraseIdx at') net lost := by
  subst hv
  have hb : Below w.heap.size w (w.drew.alloc (.cells #[] 3)) := (Below.refl _ _).drew.alloc (Nat.le_refl _) _
  have hz : (w.drew.alloc (.cells #[] 3)).heap.size = w.heap.size + 1 := by simp
  have hcell := World.ownsRow.cellAt h.own
  have ho : (w.drew.alloc (.cells #[] 3)).ownsRow w.heap.size 3 1 (.slice (some ⟨w.heap.size, 0, none⟩) 0 0) ([] : List Nat).length (ints []) :=
    ⟨rfl, .inr ⟨w.heap.size, 0, #[], rfl, Nat.le_refl _, heap_alloc_new w.drew _, Nat.le_refl _, Nat.zero_le _, rfl, rfl⟩⟩
  have hg := (rows_lt h.own g rfl).2
  have hrd : ∀ (W : World), W.heap[g]? = w.heap[g]? → ∀ j k, row[j]? = some k → W.cell? ⟨g, j, none⟩ = some (.int .i64 (k : Nat)) := fun W hW j k hk => by
    have hj := (List.getElem?_eq_some_iff.1 hk).1
    rw [World.cell?_of_block (w := w) (a := ⟨g, j, none⟩) hW, hcell j (by omega)]
    unfold ints
    rw [List.getElem?_map, hk]
    rfl
  obtain ⟨va, vc, w1, r1, o1, g1⟩ := app_ints ho ⟨g, 0, none⟩ c (row.take at') (fun j k hk => by
    rw [Addr.add_lit, Nat.zero_add]
    refine hrd _ (hb.block g hg) j k ?_
    rw [List.getElem?_take] at hk
    split at hk
    · exact hk
    · cases hk) (by rw [List.length_take]; show 0 + _ ≤ _; omega) (by omega)
  have hlt : (row.take at').length = at' := by rw [List.length_take]; omega
  have e1 : row.take at' ++ row.drop (at' + 1) = row.eraseIdx at' := (List.eraseIdx_eq_take_drop_succ row at').symm
  have e2 : (row.take at').length + (row.drop (at' + 1)).length = row.length - 1 := by rw [List.length_drop, List.length_take]; omega
  rw [List.nil_append, show ([] : List Nat).length = 0 from rfl, Nat.zero_add] at o1
  rw [show ([] : List Nat).length = 0 from rfl, Nat.zero_add] at r1
  generalize row.take at' = T at *
  have b1 : Below w.heap.size w w1 := by
    have hs := g1.size
    exact ⟨g1.os, g1.tape, g1.output, by omega, fun q hq => (g1.block q (by omega) (fun e => by
      have : w.heap.size = q := by simpa [Value.ownBlock] using e.symm
      omega)).trans (hb.block q hq)⟩
  obtain ⟨vb, vd, w2, r2, o2, g2⟩ := app_ints o1 A (c - (at' + 1)) (row.drop (at' + 1)) (fun j k hk => by
    rw [List.getElem?_drop] at hk
    have hj := (List.getElem?_eq_some_iff.1 hk).1
    have e : A = ⟨g, at' + 1, none⟩ := hA (fun e => by have := hcn e; omega)
    rw [e, Addr.add_lit]
    exact hrd _ (b1.block g hg) _ k hk) (by rw [e2]; omega) b1.size
  rw [e1, e2] at o2
  rw [e2, hlt, List.length_drop] at r2
  rw [hlt] at r1
  have b2 : Below w.heap.size w w2 := by
    refine b1.trans ⟨g2.os, g2.tape, g2.output, g2.size, fun q hq => g2.block q (Nat.lt_of_lt_of_le hq b1.size) (fun e => ?_)⟩
    have := (rows_lt o1 q e.symm).1
    omega
  obtain ⟨mv, hN⟩ := h.nt
  exact ⟨va, vc, w1, vb, vd, w2, r1, r2, ⟨mv, hN.on b2⟩, ⟨o2.1, o2.2.imp_right (fun ⟨g, cap, cur, e, hk, hr⟩ => ⟨g, cap, cur, e, Nat.le_trans h.below.size hk, hr⟩)⟩, h.lt, h.below.trans (b2.mono h.below.size)⟩
theorem KS.sendOk (h : KS W0 w nb room rv row net lost) (hl : net.length < room) (i : Nat) (hi : i < 300) (g c : Nat) (hb : Byt w (some ⟨g, 0, none⟩) 2 (tagx i)) :
    Calls Try.prog 10 #[.pointer (some ⟨nb, 0, none⟩), .int .i64 (i % 7 : Nat), .slice (some ⟨g, 0, none⟩) 2 c] w fun e w' => e = .returned (.bool true) ∧ KS W0 w' nb room rv row (net ++ [i]) lost := by
  obtain ⟨mv, hN⟩ := h.nt
  refine (send_some hN h.below.size (by rw [List.length_map]; exact hl) _ _ 2 c _ hb (fun e => by cases e)).mono fun e w' ⟨he, mv', h1, h2⟩ => ⟨he, h.turn (net' := net ++ [i]) hN ?_ h2 (fun k hk => ?_)⟩
  · rw [List.map_append]; exact h1
  · rcases List.mem_append.1 hk with q | q
    · exact h.lt k q
    · have : k = i := by simpa using q
      omega
theorem KS.sendFull (h : KS W0 w nb room rv row net lost) (hl : ¬ net.length < room) (hlo : lost ≤ 1000000) (x : Int) (v : Value) :
    Calls Try.prog 10 #[.pointer (some ⟨nb, 0, none⟩), .int .i64 x, v] w fun e w' => e = .returned (.bool false) ∧ KS W0 w' nb room rv row net (lost + 1) := by
  obtain ⟨mv, hN⟩ := h.nt
  exact (send_full hN (by rw [List.length_map]; exact hl) hlo x v).mono fun e w' ⟨he, h1, h2⟩ => ⟨he, h.turn hN h1 h2 h.lt⟩
theorem KS.drop (h : KS W0 w nb room rv row net lost) (i : Nat) (hi : i < net.length) :
    Calls Try.prog 12 #[.pointer (some ⟨nb, 0, none⟩), .int .i64 (i : Nat)] w fun e w' => e = .returned (.bool true) ∧ KS W0 w' nb room rv row (net.eraseIdx i) lost := by
  obtain ⟨mv, hN⟩ := h.nt
  exact (drop_some hN i (by rw [List.length_map]; exact hi)).mono fun e w' ⟨he, mv', h1, h2⟩ => ⟨he, h.turn hN (by rw [← erase_map]; exact h1) h2 (fun k hk => h.lt k (List.mem_of_mem_eraseIdx hk))⟩
theorem KS.dropNot (h : KS W0 w nb room rv row net lost) (i : Int) (hi : ¬ (0 ≤ i ∧ i < net.length)) :
    Calls Try.prog 12 #[.pointer (some ⟨nb, 0, none⟩), .int .i64 i] w fun e w' => e = .returned (.bool false) ∧ w' = w := by
  obtain ⟨mv, hN⟩ := h.nt
  exact drop_none hN i (by rw [List.length_map]; exact hi)
theorem KS.takeNot (h : KS W0 w nb room rv row net lost) (i : Int) (hi : ¬ (0 ≤ i ∧ i < net.length)) :
    Calls Try.prog 13 #[.pointer (some ⟨nb, 0, none⟩), .int .i64 i] w fun e w' => e = .returned (.tuple #[.agg #[.int .i64 0, .slice none 0 0], .bool false]) ∧ KS W0 w' nb room rv row net lost := by
  obtain ⟨mv, hN⟩ := h.nt
  exact (take_none hN i (by rw [List.length_map]; exact hi)).mono fun e w' ⟨he, hb⟩ => ⟨he, h.on hb⟩
theorem KS.doub (h : KS W0 w nb room rv row net lost) (i k : Nat) (hk : net[i]? = some k) (hl : net.length < room) :
    Calls Try.prog 15 #[.pointer (some ⟨nb, 0, none⟩), .int .i64 (i : Nat)] w fun e w' => e = .returned (.bool true) ∧ KS W0 w' nb room rv row (net ++ [k]) lost := by
  obtain ⟨mv, hN⟩ := h.nt
  refine (double_some hN h.below.size i ((k % 7 : Nat) : Int) (strOf 2 (tagx k)) (by rw [List.getElem?_map, hk]; rfl) (by rw [List.length_map]; exact hl)).mono fun e w' ⟨he, mv', h1, h2⟩ => ⟨he, h.turn (net' := net ++ [k]) hN ?_ h2 (fun q hq => ?_)⟩
  · rw [List.map_append]; exact h1
  · rcases List.mem_append.1 hq with p | p
    · exact h.lt q p
    · have : q = k := by simpa using p
      rw [this]
      exact h.lt k (List.mem_of_getElem? hk)
theorem KS.drewN (h : KS W0 w nb room rv row net lost) (q : Nat) : KS W0 (w.drewN q) nb room rv row net lost := h.on (below_dN (Below.refl _ _) q)
theorem KS.doubFull (h : KS W0 w nb room rv row net lost) (i : Nat) (hi : i < net.length) (hl : ¬ net.length < room) :
    Calls Try.prog 15 #[.pointer (some ⟨nb, 0, none⟩), .int .i64 (i : Nat)] w fun e w' => e = .returned (.bool false) ∧ KS W0 w' nb room rv row net lost := by
  obtain ⟨mv, hN⟩ := h.nt
  exact (double_full hN i (by rw [List.length_map]; exact hi) (by rw [List.length_map]; exact hl)).mono fun e w' ⟨he, q, e2⟩ => ⟨he, by rw [e2]; exact h.drewN q⟩
theorem KS.doubNot (h : KS W0 w nb room rv row net lost) (i : Int) (hi : ¬ (0 ≤ i ∧ i < net.length)) :
    Calls Try.prog 15 #[.pointer (some ⟨nb, 0, none⟩), .int .i64 i] w fun e w' => e = .returned (.bool false) ∧ w' = w := by
  obtain ⟨mv, hN⟩ := h.nt
  exact double_none hN i (by rw [List.length_map]; exact hi)
theorem KS.len (h : KS W0 w nb room rv row net lost) : Calls Try.prog 16 #[.pointer (some ⟨nb, 0, none⟩)] w fun e w' => e = .returned (.int .i64 (net.length : Nat)) ∧ w' = w := by
  obtain ⟨mv, hN⟩ := h.nt
  have := len_any hN
  rw [List.length_map] at this
  exact this
theorem KS.lostIs (h : KS W0 w nb room rv row net lost) : Calls Try.prog 17 #[.pointer (some ⟨nb, 0, none⟩)] w fun e w' => e = .returned (.int .u64 (lost : Nat)) ∧ w' = w := by
  obtain ⟨mv, hN⟩ := h.nt
  exact lost_any hN
end
end Go.Proofs.Ytdfhdneimoimmaa

/- NetKeeps: the law's walk. -/
namespace Go.Proofs.Ytdfhdneimoimmaa
open Go.RowKit
set_option maxRecDepth 100000
set_option maxRecDepth 100000

/-- What is done, in memory. -/
def MovesIn (W : World) (a : Option Addr) (L : List (Int × Int)) : Prop := ∀ i d p, L[i]? = some (d, p) → ∃ b off, a = some ⟨b, off, none⟩ ∧ W.cell? ⟨b, off + i * 2, none⟩ = some (.int .i64 d) ∧ W.cell? ⟨b, off + i * 2 + 1, none⟩ = some (.int .i64 p)
theorem MovesIn.on {W W' : World} {a : Option Addr} {L : List (Int × Int)} (h : MovesIn W a L) (hb : Below W.heap.size W W') : MovesIn W' a L := fun i d p hi => by
  obtain ⟨b, off, e, h1, h2⟩ := h i d p hi
  exact ⟨b, off, e, cel_on hb h1, cel_on hb h2⟩

set_option maxHeartbeats 40000000 in
theorem keeps_any (room : Int) (ma : Option Addr) (mc : Nat) (L : List (Int × Int)) (w : World) (hM : MovesIn w ma L) :
    Calls Try.prog 3 #[.agg #[.int .i64 room, .slice ma L.length mc]] w fun e w' => e = .returned (.bool true) ∧ Below w.heap.size w w' := by
  obtain ⟨W0, HW0⟩ : ∃ W, Hid (w.alloc (.cells #[.int .i64 room, .slice ma L.length mc] 24) = W) := ⟨_, rfl⟩
  have hb0 : Below w.heap.size w W0 := by rw [← HW0.out]; exact (Below.refl _ _).alloc (Nat.le_refl _) _
  have hr0 := row2_alloc w (.int .i64 room) (.slice ma L.length mc) 24
  rw [HW0.out] at hr0
  have c0 : W0.cell? ⟨w.heap.size, 0, none⟩ = some (.int .i64 room) := hr0.cell (i := 0) (by decide)
  have c1 : W0.cell? ⟨w.heap.size, 1, none⟩ = some (.slice ma L.length mc) := hr0.cell (i := 1) (by decide)
  have HM : Hid (MovesIn W0 ma L) := hM.on hb0
  have HB0 : Hid (Below w.heap.size w W0) := hb0
  have hin := into_any room 40 (by decide) (by decide) W0
  obtain ⟨N, HN⟩ : ∃ N, Hid (L.length = N) := ⟨_, rfl⟩
  rw [HN.out] at c1
  have HC1 : Hid (∀ W, Below W0.heap.size W0 W → W.cell? ⟨w.heap.size, 1, none⟩ = some (.slice ma N mc)) := fun W hb => cel_on hb c1
  rw [HN.out] at HW0 ⊢
  have HNUM : Hid (∀ W, Calls Try.prog 8 #[.int .i64 0] W fun e w' => e = .returned (.int .i64 0) ∧ w' = W) := fun W => num_any 0 W
  clear hM hb0 hr0
  go_enter Try.func3, Try.ntmps3
  go_upto_region 1 with fail
  rw [HW0.out]
  go_wp2_with fail
  refine hin.mono ?_
  rintro e w1 ⟨e1, k, hk, rfl⟩
  subst e1
  obtain ⟨r, hr, HR⟩ : ∃ r : Nat, (1 : Int) + (k : Int) = (r : Int) ∧ Hid (1 ≤ r ∧ r ≤ 40) := ⟨1 + k, by omega, by constructor <;> omega⟩
  have hwr : IntKind.i64.wrap (r : Int) = (r : Int) := by have := HR.out; rw [IntKind.wrap_i64]; omega
  have hnew := new_any r HR.out.1 (by have := HR.out; omega) w1
  clear hk hin
  go_wp2_with fail
  refine hnew.mono ?_
  rintro e w2 ⟨rfl, hN2, hb2, hz2⟩
  have hliv := lives_any w2
  have HK : Hid (∀ W, Below w2.heap.size w2 W → KS w1 W w1.heap.size r (.slice none 0 0) [] [] 0) := fun W hb => ⟨⟨_, hN2.on hb⟩, ⟨rfl, .inl ⟨rfl, rfl⟩⟩, (fun k hk => by cases hk), hb2.trans (hb.mono (by omega))⟩
  clear hnew hN2 hb2 hz2 hwr hr
  go_wp2_with fail
  refine (HNUM.out _).mono ?_
  rintro e w3 ⟨rfl, e3⟩
  subst e3
  go_wp2_with fail
  refine hliv.mono ?_
  rintro e w4 ⟨rfl, hb4⟩
  have hK4 := HK.out w4 hb4
  obtain ⟨nb, Hnb⟩ : ∃ nb, Hid (w1.heap.size = nb) := ⟨_, rfl⟩
  rw [Hnb.out] at hK4 ⊢
  clear HK hb4 hliv HNUM
  go_wp2_with fail
  go_loopg [6, 7, 8] 300 (fun q s6 s7 s8 wx => ∃ (i lost : Nat) (row : List Nat) (va : Option Addr) (vc : Nat), i ≤ 300 ∧ i ≤ N ∧ q = 300 - i ∧ s6 = .slice va row.length vc ∧ s7 = .int .u64 (lost : Nat) ∧ s8 = .int .i64 (i : Nat) ∧ lost ≤ i ∧ Hid (KS w1 wx nb r (.slice va row.length vc) row row lost))
  case atStart => exact ⟨0, 0, [], none, 0, by decide, Nat.zero_le _, rfl, rfl, rfl, rfl, Nat.le_refl _, hK4⟩
  case round =>
    clear hK4 c0 c1
    obtain ⟨i, lost, row, va, vc, hi3, hiN, rfl, rfl, rfl, rfl, hlo, HK⟩ := hrel
    have hc1 := HC1.out wr HK.out.below
    obtain ⟨n, Hn⟩ : ∃ n, Hid (row.length = n) := ⟨_, rfl⟩
    rw [Hn.out] at HK ⊢
    have HLE : Hid (n ≤ r) := by
      obtain ⟨mv, hN⟩ := HK.out.nt
      have := hN.le
      rw [List.length_map, Hn.out] at this
      exact this
    have HSL : Hid (n ≤ vc ∧ vc ≤ 9223372036854775807) := by
      obtain ⟨a, c, e, h1, h2⟩ := HK.out.sl
      rw [Hn.out] at e h1
      have : vc = c := by injection e
      rw [this]
      exact ⟨h1, h2⟩
    have HDR : Hid (Calls Try.prog 18 #[.pointer (some ⟨nb, 0, none⟩), .slice va n vc] wr fun e w' => e = .returned (.bool true) ∧ Below w.heap.size w w') :=
      (drains_any HK.out (by have := HLE.out; have := HR.out; rw [Hn.out]; omega)).mono fun e w' ⟨he, hb⟩ => ⟨he, HB0.out.trans (hb.mono HB0.out.size)⟩
    by_cases hlt : i < N
    · have hzN : (i : Int) < (N : Int) := by omega
      by_cases hlt3 : i < 300
      · have hz3 : (i : Int) < 300 := by omega
        have hwi : IntKind.i64.wrap ((i : Int) + 1) = (i : Int) + 1 := by rw [IntKind.wrap_i64]; omega
        obtain ⟨⟨d, p⟩, hdp⟩ : ∃ x, L[i]? = some x := ⟨_, List.getElem?_eq_getElem (by rw [HN.out]; exact hlt)⟩
        obtain ⟨mb, mo, rfl, hd, hp⟩ := (HM.out.on (HK.out.below)) i d p hdp
        clear HDR hdp hiN hi3
        have HC1 := hide hc1
        clear hc1
        have hc1 := HC1.out
        obtain ⟨b, Hb⟩ : ∃ b : Bool, Hid (b = decide (0 ≤ p ∧ p < n)) := ⟨_, rfl⟩
        go_upto_region 11 with fail
        go_cut [10] from 36 to 185 (fun s10 wx => s10 = .bool b ∧ wr = wx)
        case first =>
          by_cases hp0 : 0 ≤ p
          · by_cases hpn : p < n
            · have eb : b = true := by rw [Hb.out]; simp [hp0, hpn]
              clear HK HM
              go_wp2_with fail
              go_meet
              case rel => go_light; exact ⟨by rw [eb], rfl⟩
            · have eb : b = false := by rw [Hb.out]; simp [hpn]
              clear HK HM
              go_wp2_with fail
              go_meet
              case rel => go_light; exact ⟨by rw [eb], rfl⟩
          · have eb : b = false := by rw [Hb.out]; simp [hp0]
            clear HK HM
            go_wp2_with fail
            go_meet
            case rel => go_light; exact ⟨by rw [eb], rfl⟩
        case rest =>
          obtain ⟨rfl, rfl⟩ := hcut
          go_upto_block 2 with fail
          go_cut [6, 7, 11, 12, 13, 14, 15] from 36 to 185 (fun s6 s7 _ _ _ _ _ wx => ∃ (lost' : Nat) (row' : List Nat) (va' : Option Addr) (n' vc' : Nat), s6 = .slice va' n' vc' ∧ s7 = .int .u64 (lost' : Nat) ∧ row'.length = n' ∧ lost' ≤ i + 1 ∧ Hid (KS w1 wx nb r (.slice va' n' vc') row' row' lost'))
          case first =>
            by_cases h1 : d = 1
            · by_cases hnr : n < r
              · have hzr : (n : Int) < (r : Int) := by omega
                obtain rfl : d = 1 := h1
                have hmod : ((i : Nat) : Int).tmod 7 = ((i % 7 : Nat) : Int) := (Int.ofNat_tmod i 7).symm
                have htg := tag_any i hlt3 wr
                have hlo3 : lost ≤ 1000000 := by omega
                have HSD : Hid (∀ (w5 : World) (g : Nat), Byt w5 (some ⟨g, 0, none⟩) 2 (tagx i) → Below wr.heap.size wr w5 → Calls Try.prog 10 #[.pointer (some ⟨nb, 0, none⟩), .int .i64 (i % 7 : Nat), .slice (some ⟨g, 0, none⟩) 2 2] w5 fun e w' => e = .returned (.bool true) ∧ KS w1 w' nb r (.slice va n vc) row (row ++ [i]) lost) := fun w5 g hb5 hb =>
                  (HK.out.on hb).sendOk (by rw [Hn.out]; omega) i hlt3 g 2 hb5
                generalize i % 7 = r7 at *
                have hw7 : IntKind.i64.wrap (r7 : Int) = (r7 : Int) := by rw [← hmod, IntKind.wrap_i64]; have h1 := Int.tmod_lt_of_pos (i : Int) (show (0 : Int) < 7 by decide); have h2 := Int.lt_tmod_of_pos (i : Int) (show (0 : Int) < 7 by decide); omega
                clear HM
                go_wp2_with fail
                refine htg.mono ?_
                rintro e w5 ⟨g5, rfl, hB5, hb5⟩
                have hsd := HSD.out w5 g5 hB5 hb5
                clear htg HSD hB5 hb5
                go_wp2_with fail
                refine hsd.mono ?_
                rintro e w6 ⟨rfl, hK6⟩
                clear hsd
                obtain ⟨va7, vc7, w7, hrun, hK7⟩ := hK6.more (by rw [Hn.out]; have := HLE.out; have := HR.out; omega) i
                rw [Hn.out] at hrun hK7
                obtain ⟨n1, Hn1⟩ : ∃ n1, Hid (n + 1 = n1) := ⟨_, rfl⟩
                rw [Hn1.out] at hrun hK7
                have HRUN : Hid ((Builtin.append_ #[32, 32] 32 #[.slice va n vc, .slice (some ⟨w6.heap.size, 0, none⟩) 1 1]).run Try.prog (w6.alloc (.cells #[.int .i64 (i : Nat)] 3)) = .ok (.slice va7 n1 vc7) w7) := hrun
                have HK7 : Hid (KS w1 w7 nb r (.slice va7 n1 vc7) (row ++ [i]) (row ++ [i]) lost) := hK7
                clear hrun hK7 hK6
                go_wp2_with (at_builtin; refine wpList_append_eq rfl _ _ 32 rfl _ _ _ (by rfl) (by rfl) HRUN.out ?_)
                go_meet
                case rel => go_light; exact ⟨lost, row ++ [i], va7, n1, vc7, rfl, rfl, by rw [List.length_append, Hn.out]; exact Hn1.out, by omega, HK7.out⟩
              · have hzr : ¬ (n : Int) < (r : Int) := by omega
                obtain rfl : d = 1 := h1
                have hmod : ((i : Nat) : Int).tmod 7 = ((i % 7 : Nat) : Int) := (Int.ofNat_tmod i 7).symm
                have htg := tag_any i hlt3 wr
                have hlo3 : lost ≤ 1000000 := by omega
                have HSD : Hid (∀ (w5 : World) (g : Nat), Byt w5 (some ⟨g, 0, none⟩) 2 (tagx i) → Below wr.heap.size wr w5 → Calls Try.prog 10 #[.pointer (some ⟨nb, 0, none⟩), .int .i64 (i % 7 : Nat), .slice (some ⟨g, 0, none⟩) 2 2] w5 fun e w' => e = .returned (.bool false) ∧ KS w1 w' nb r (.slice va n vc) row row (lost + 1)) := fun w5 g hb5 hb =>
                  (HK.out.on hb).sendFull (by rw [Hn.out]; omega) hlo3 _ _
                generalize i % 7 = r7 at *
                have hw7 : IntKind.i64.wrap (r7 : Int) = (r7 : Int) := by rw [← hmod, IntKind.wrap_i64]; have h1 := Int.tmod_lt_of_pos (i : Int) (show (0 : Int) < 7 by decide); have h2 := Int.lt_tmod_of_pos (i : Int) (show (0 : Int) < 7 by decide); omega
                clear HM
                go_wp2_with fail
                refine htg.mono ?_
                rintro e w5 ⟨g5, rfl, hB5, hb5⟩
                have hsd := HSD.out w5 g5 hB5 hb5
                clear htg HSD hB5 hb5
                go_wp2_with fail
                refine hsd.mono ?_
                rintro e w6 ⟨rfl, hK6⟩
                clear hsd
                obtain ⟨l1, hl1, Hl1⟩ : ∃ l1 : Nat, (lost : Int) + 1 = (l1 : Int) ∧ Hid (lost + 1 = l1) := ⟨lost + 1, by omega, rfl⟩
                have hwl : IntKind.u64.wrap (l1 : Int) = (l1 : Int) := by rw [IntKind.wrap_u64]; omega
                rw [Hl1.out] at hK6
                have HK6 : Hid (KS w1 w6 nb r (.slice va n vc) row row l1) := hK6
                clear hK6
                go_wp2_with fail
                go_meet
                case rel => go_light; exact ⟨l1, row, va, n, vc, rfl, rfl, Hn.out, by have := Hl1.out; omega, HK6.out⟩
            by_cases h2 : d = 2
            · by_cases hin : 0 ≤ p ∧ p < n
              · obtain ⟨q, rfl⟩ : ∃ q : Nat, p = (q : Int) := ⟨p.toNat, by omega⟩
                obtain rfl : b = true := by rw [Hb.out]; simp; omega
                obtain rfl : d = 2 := h2
                obtain ⟨k, hk⟩ : ∃ k, row[q]? = some k := ⟨_, List.getElem?_eq_getElem (by rw [Hn.out]; omega)⟩
                obtain ⟨rg, rc, ev, _, _, hrk⟩ := HK.out.at hk
                obtain rfl : va = some ⟨rg, 0, none⟩ := by injection ev
                clear ev
                have htk := HK.out.take hk
                have hk3 := HK.out.lt k (List.mem_of_getElem? hk)
                have HRC : Hid (∀ W net, KS w1 W nb r (.slice (some ⟨rg, 0, none⟩) n vc) row net lost → W.cell? ⟨rg, q, none⟩ = some (.int .i64 (k : Nat))) := fun W net hW => by
                  obtain ⟨g', c', ev, _, _, hc⟩ := hW.at hk
                  have : rg = g' := by injection ev with e1; injection e1 with e1; injection e1
                  subst this
                  exact hc
                have HWH : Hid (∀ (W : World) (g c : Nat), Tgd W g k → Calls Try.prog 14 #[.agg #[.int .i64 (k % 7 : Nat), .slice (some ⟨g, 0, none⟩) 2 c]] W fun e w' => e = .returned (.int .i64 (k : Nat)) ∧ Below W.heap.size W w') := fun W g c hT => which_any g c k hk3 W hT
                have hmod : ((k : Nat) : Int).tmod 7 = ((k % 7 : Nat) : Int) := (Int.ofNat_tmod k 7).symm
                generalize k % 7 = r7 at *
                clear HM hrk hk hk3
                go_wp2_with fail
                refine htk.mono ?_
                rintro e w5 ⟨g5, c5, rfl, hT5, hK5⟩
                obtain ⟨W6, HW6⟩ : ∃ W, Hid (w5.alloc (.cells #[.int .i64 (r7 : Nat), .slice (some ⟨g5, 0, none⟩) 2 c5] 46) = W) := ⟨_, rfl⟩
                have hb6 : Below w5.heap.size w5 W6 := by rw [← HW6.out]; exact (Below.refl _ _).alloc (Nat.le_refl _) _
                have hr6 := row2_alloc w5 (.int .i64 (r7 : Nat)) (.slice (some ⟨g5, 0, none⟩) 2 c5) 46
                rw [HW6.out] at hr6
                have v0 : W6.cell? ⟨w5.heap.size, 0, none⟩ = some (.int .i64 (r7 : Nat)) := hr6.cell (i := 0) (by decide)
                have v1 : W6.cell? ⟨w5.heap.size, 1, none⟩ = some (.slice (some ⟨g5, 0, none⟩) 2 c5) := hr6.cell (i := 1) (by decide)
                have hK6 := hK5.on hb6
                have v2 := HRC.out W6 _ hK6
                have HV : Hid (∀ W, Below W6.heap.size W6 W → W.cell? ⟨w5.heap.size, 0, none⟩ = some (.int .i64 (r7 : Nat)) ∧ W.cell? ⟨w5.heap.size, 1, none⟩ = some (.slice (some ⟨g5, 0, none⟩) 2 c5) ∧ W.cell? ⟨rg, q, none⟩ = some (.int .i64 (k : Nat))) := fun W hb => ⟨cel_on hb v0, cel_on hb v1, cel_on hb v2⟩
                have HWC : Hid (Calls Try.prog 14 #[.agg #[.int .i64 (r7 : Nat), .slice (some ⟨g5, 0, none⟩) 2 c5]] W6.drew fun e w' => e = .returned (.int .i64 (k : Nat)) ∧ KS w1 w' nb r (.slice (some ⟨rg, 0, none⟩) n vc) row (row.eraseIdx q) lost ∧ Below W6.heap.size W6 w') :=
                  (HWH.out W6.drew g5 c5 ((hT5.on hb6).on (Below.refl _ _).drew)).mono fun e w' ⟨he, hb⟩ => by
                    have hb' : Below W6.heap.size W6 w' := ⟨hb.os, hb.tape, hb.output, hb.size, hb.block⟩
                    exact ⟨he, hK6.on hb', hb'⟩
                clear htk HRC HWH hT5 hK5 hK6 hb6 hr6
                go_upto_region 27 with fail
                rw [HW6.out]
                go_region_held3 (fun W => W.cell? ⟨w5.heap.size, 0, none⟩ = some (.int .i64 (r7 : Nat)) ∧ W.cell? ⟨w5.heap.size, 1, none⟩ = some (.slice (some ⟨g5, 0, none⟩) 2 c5) ∧ W.cell? ⟨rg, q, none⟩ = some (.int .i64 (k : Nat)))
                  (first | exact ⟨v0, v1, v2⟩ | exact HV.out _ hb7)
                  (first
                    | (go_at_call 14; with_reducible refine HWC.out.mono ?_; rintro e w7 ⟨rfl, hK7, hb7⟩))
                all_goals
                  have HKc : Hid (KS w1 w7 nb r (.slice (some ⟨rg, 0, none⟩) n vc) row (row.eraseIdx q) lost) := hK7
                  clear HWC HV hK7 hb7 v0 v1 v2
                  obtain ⟨j, hj, Hj⟩ : ∃ j : Nat, (q : Int) + 1 = (j : Int) ∧ Hid (q + 1 = j) := ⟨q + 1, by omega, rfl⟩
                  have hwj : IntKind.i64.wrap (j : Int) = (j : Int) := by have := HLE.out; have := HR.out; have := Hj.out; rw [IntKind.wrap_i64]; omega
                  have hjn : (j : Int) ≤ (n : Int) := by have := Hj.out; omega
                  have hnvc : (n : Int) ≤ (vc : Int) := by have := HSL.out; omega
                  have hqvc : q ≤ vc := by have := HSL.out; have := Hj.out; omega
                  have hjvc : j ≤ vc := by have := HSL.out; have := Hj.out; omega
                  obtain ⟨A, hA, HA2⟩ : ∃ A : Addr, (if vc = j then some (⟨rg, 0, none⟩ : Addr) else some ⟨rg, j, none⟩) = some A ∧ Hid (vc ≠ q + 1 → A = ⟨rg, q + 1, none⟩) := by
                    by_cases hcj : vc = j
                    · exact ⟨⟨rg, 0, none⟩, by simp [hcj], fun h => absurd (hcj.trans Hj.out.symm) h⟩
                    · exact ⟨⟨rg, j, none⟩, by simp [hcj], fun _ => by rw [Hj.out]⟩
                  obtain ⟨vx, cx, wx1, vy, cy, wx2, rx1, rx2, hKx⟩ := HKc.out.less (by rw [Hn.out]; have := HLE.out; have := HR.out; omega) (by rw [Hn.out]) (by rw [Hn.out]; omega) A HA2.out (fun e => by have := HSL.out; rw [Hn.out]; omega)
                  rw [Hn.out] at rx2 hKx
                  rw [Hj.out] at rx2
                  obtain ⟨n1, Hn1⟩ : ∃ n1, Hid (n - 1 = n1) := ⟨_, rfl⟩
                  rw [Hn1.out] at rx2 hKx
                  have HX1 : Hid ((Builtin.append_ #[32, 32] 32 #[.slice (some ⟨w7.heap.size, 0, none⟩) 0 0, .slice (some ⟨rg, 0, none⟩) q vc]).run Try.prog (w7.drew.alloc (.cells #[] 3)) = .ok (.slice vx q cx) wx1) := rx1
                  have HX2 : Hid ((Builtin.append_ #[32, 32] 32 #[.slice vx q cx, .slice (some A) (n - j) (vc - j)]).run Try.prog wx1 = .ok (.slice vy n1 cy) wx2) := rx2
                  have HKx : Hid (KS w1 wx2 nb r (.slice vy n1 cy) (row.eraseIdx q) (row.eraseIdx q) lost) := hKx
                  clear rx1 rx2 hKx HKc
                  go_upto_region 32 with fail
                  go_region_law (first
                    | (refine step_apps2 rfl (.tmp 139) (.tmp 142) 32 rfl (.slice (some ⟨w7.heap.size, 0, none⟩) 0 0) (.slice (some ⟨rg, 0, none⟩) q vc) (.slice vx q cx) (by simp [Act.eval]) (by simp [Act.eval]) HX1.out ?_)
                    | (refine step_apps2 rfl (.tmp 143) (.tmp 147) 32 rfl (.slice vx q cx) (.slice (some A) (n - j) (vc - j)) (.slice vy n1 cy) (by simp [Act.eval]) (by simp [Act.eval]) HX2.out ?_))
                  all_goals
                    go_wp2_with fail
                    go_meet
                    case rel => go_light; exact ⟨lost, row.eraseIdx q, vy, n1, cy, rfl, rfl, by rw [List.length_eraseIdx, if_pos (by rw [Hn.out]; omega), Hn.out]; exact Hn1.out, by omega, HKx.out⟩
              · obtain rfl : b = false := by rw [Hb.out]; simp; omega
                obtain rfl : d = 2 := h2
                have htk := HK.out.takeNot p (by rw [Hn.out]; omega)
                clear HM
                go_wp2_with fail
                refine htk.mono ?_
                rintro e w5 ⟨rfl, hK5⟩
                obtain ⟨W6, HW6⟩ : ∃ W, Hid (w5.alloc (.cells #[.int .i64 0, .slice none 0 0] 46) = W) := ⟨_, rfl⟩
                have hb6 : Below w5.heap.size w5 W6.drew := by rw [← HW6.out]; exact ((Below.refl _ _).alloc (Nat.le_refl _) _).drew
                have HK6 : Hid (KS w1 W6.drew nb r (.slice va n vc) row row lost) := hK5.on hb6
                clear htk hK5 hb6
                go_upto_region 27 with fail
                rw [HW6.out]
                go_big_region
                all_goals
                  go_wp2_with fail
                  go_meet
                  case rel => go_light; exact ⟨lost, row, va, n, vc, rfl, rfl, Hn.out, by omega, HK6.out⟩
            by_cases h3 : d = 3
            · by_cases hin : 0 ≤ p ∧ p < n
              · obtain ⟨q, rfl⟩ : ∃ q : Nat, p = (q : Int) := ⟨p.toNat, by omega⟩
                obtain rfl : b = true := by rw [Hb.out]; simp; omega
                obtain rfl : d = 3 := h3
                obtain ⟨k, hk⟩ : ∃ k, row[q]? = some k := ⟨_, List.getElem?_eq_getElem (by rw [Hn.out]; omega)⟩
                obtain ⟨rg, rc, ev, _, _, hrk⟩ := HK.out.at hk
                obtain rfl : va = some ⟨rg, 0, none⟩ := by injection ev
                clear ev
                have hdp := HK.out.drop q (by rw [Hn.out]; omega)
                clear HM hrk
                go_wp2_with fail
                refine hdp.mono ?_
                rintro e w5 ⟨rfl, hK5⟩
                have HKc : Hid (KS w1 w5 nb r (.slice (some ⟨rg, 0, none⟩) n vc) row (row.eraseIdx q) lost) := hK5
                clear hdp hK5
                obtain ⟨j, hj, Hj⟩ : ∃ j : Nat, (q : Int) + 1 = (j : Int) ∧ Hid (q + 1 = j) := ⟨q + 1, by omega, rfl⟩
                have hwj : IntKind.i64.wrap (j : Int) = (j : Int) := by have := HLE.out; have := HR.out; have := Hj.out; rw [IntKind.wrap_i64]; omega
                have hjn : (j : Int) ≤ (n : Int) := by have := Hj.out; omega
                have hnvc : (n : Int) ≤ (vc : Int) := by have := HSL.out; omega
                have hqvc : q ≤ vc := by have := HSL.out; have := Hj.out; omega
                have hjvc : j ≤ vc := by have := HSL.out; have := Hj.out; omega
                obtain ⟨A, hA, HA2⟩ : ∃ A : Addr, (if vc = j then some (⟨rg, 0, none⟩ : Addr) else some ⟨rg, j, none⟩) = some A ∧ Hid (vc ≠ q + 1 → A = ⟨rg, q + 1, none⟩) := by
                  by_cases hcj : vc = j
                  · exact ⟨⟨rg, 0, none⟩, by simp [hcj], fun h => absurd (hcj.trans Hj.out.symm) h⟩
                  · exact ⟨⟨rg, j, none⟩, by simp [hcj], fun _ => by rw [Hj.out]⟩
                obtain ⟨vx, cx, wx1, vy, cy, wx2, rx1, rx2, hKx⟩ := HKc.out.less (by rw [Hn.out]; have := HLE.out; have := HR.out; omega) (by rw [Hn.out]) (by rw [Hn.out]; omega) A HA2.out (fun e => by have := HSL.out; rw [Hn.out]; omega)
                rw [Hn.out] at rx2 hKx
                rw [Hj.out] at rx2
                obtain ⟨n1, Hn1⟩ : ∃ n1, Hid (n - 1 = n1) := ⟨_, rfl⟩
                rw [Hn1.out] at rx2 hKx
                have HX1 : Hid ((Builtin.append_ #[32, 32] 32 #[.slice (some ⟨w5.heap.size, 0, none⟩) 0 0, .slice (some ⟨rg, 0, none⟩) q vc]).run Try.prog (w5.drew.alloc (.cells #[] 3)) = .ok (.slice vx q cx) wx1) := rx1
                have HX2 : Hid ((Builtin.append_ #[32, 32] 32 #[.slice vx q cx, .slice (some A) (n - j) (vc - j)]).run Try.prog wx1 = .ok (.slice vy n1 cy) wx2) := rx2
                have HKx : Hid (KS w1 wx2 nb r (.slice vy n1 cy) (row.eraseIdx q) (row.eraseIdx q) lost) := hKx
                clear rx1 rx2 hKx HKc
                go_upto_region 32 with fail
                go_region_law (first
                  | (refine step_apps2 rfl (.tmp 139) (.tmp 142) 32 rfl (.slice (some ⟨w5.heap.size, 0, none⟩) 0 0) (.slice (some ⟨rg, 0, none⟩) q vc) (.slice vx q cx) (by simp [Act.eval]) (by simp [Act.eval]) HX1.out ?_)
                  | (refine step_apps2 rfl (.tmp 143) (.tmp 147) 32 rfl (.slice vx q cx) (.slice (some A) (n - j) (vc - j)) (.slice vy n1 cy) (by simp [Act.eval]) (by simp [Act.eval]) HX2.out ?_))
                all_goals
                  go_wp2_with fail
                  go_meet
                  case rel => go_light; exact ⟨lost, row.eraseIdx q, vy, n1, cy, rfl, rfl, by rw [List.length_eraseIdx, if_pos (by rw [Hn.out]; omega), Hn.out]; exact Hn1.out, by omega, HKx.out⟩
              · obtain rfl : b = false := by rw [Hb.out]; simp; omega
                obtain rfl : d = 3 := h3
                have hdp := HK.out.dropNot p (by rw [Hn.out]; omega)
                clear HM
                go_wp2_with fail
                refine hdp.mono ?_
                rintro e w5 ⟨rfl, e5⟩
                subst e5
                clear hdp
                go_wp2_with fail
                go_meet
                case rel => go_light; exact ⟨lost, row, va, n, vc, rfl, rfl, Hn.out, by omega, HK.out⟩
            by_cases h4 : d = 4
            · by_cases hin : 0 ≤ p ∧ p < n
              · obtain ⟨q, rfl⟩ : ∃ q : Nat, p = (q : Int) := ⟨p.toNat, by omega⟩
                obtain rfl : b = true := by rw [Hb.out]; simp; omega
                by_cases hnr : n < r
                · have hzr : (n : Int) < (r : Int) := by omega
                  obtain rfl : d = 4 := h4
                  obtain ⟨k, hk⟩ : ∃ k, row[q]? = some k := ⟨_, List.getElem?_eq_getElem (by rw [Hn.out]; omega)⟩
                  obtain ⟨rg, rc, ev, _, _, hrk⟩ := HK.out.at hk
                  obtain rfl : va = some ⟨rg, 0, none⟩ := by injection ev
                  clear ev
                  have hdb := HK.out.doub q k hk (by rw [Hn.out]; omega)
                  have HRC : Hid (∀ W net, KS w1 W nb r (.slice (some ⟨rg, 0, none⟩) n vc) row net lost → W.cell? ⟨rg, q, none⟩ = some (.int .i64 (k : Nat))) := fun W net hW => by
                    obtain ⟨g', c', ev, _, _, hc⟩ := hW.at hk
                    have : rg = g' := by injection ev with e1; injection e1 with e1; injection e1
                    subst this
                    exact hc
                  clear HM hrk hk
                  go_wp2_with fail
                  refine hdb.mono ?_
                  rintro e w6 ⟨rfl, hK6⟩
                  have v2 := HRC.out w6 _ hK6
                  obtain ⟨va7, vc7, w7, hrun, hK7⟩ := hK6.more (by rw [Hn.out]; have := HLE.out; have := HR.out; omega) k
                  rw [Hn.out] at hrun hK7
                  obtain ⟨n1, Hn1⟩ : ∃ n1, Hid (n + 1 = n1) := ⟨_, rfl⟩
                  rw [Hn1.out] at hrun hK7
                  have HRUN : Hid ((Builtin.append_ #[32, 32] 32 #[.slice (some ⟨rg, 0, none⟩) n vc, .slice (some ⟨w6.heap.size, 0, none⟩) 1 1]).run Try.prog (w6.alloc (.cells #[.int .i64 (k : Nat)] 3)) = .ok (.slice va7 n1 vc7) w7) := hrun
                  have HK7 : Hid (KS w1 w7 nb r (.slice va7 n1 vc7) (row ++ [k]) (row ++ [k]) lost) := hK7
                  clear hrun hK7 hK6 hdb HRC
                  go_wp2_with (at_builtin; refine wpList_append_eq rfl _ _ 32 rfl _ _ _ (by rfl) (by rfl) HRUN.out ?_)
                  go_meet
                  case rel => go_light; exact ⟨lost, row ++ [k], va7, n1, vc7, rfl, rfl, by rw [List.length_append, Hn.out]; exact Hn1.out, by omega, HK7.out⟩
                · have hzr : ¬ (n : Int) < (r : Int) := by omega
                  obtain rfl : d = 4 := h4
                  have hdb := HK.out.doubFull q (by rw [Hn.out]; omega) (by rw [Hn.out]; omega)
                  clear HM
                  go_wp2_with fail
                  refine hdb.mono ?_
                  rintro e w5 ⟨rfl, hK5⟩
                  have HK5 : Hid (KS w1 w5 nb r (.slice va n vc) row row lost) := hK5
                  clear hdb hK5
                  go_wp2_with fail
                  go_meet
                  case rel => go_light; exact ⟨lost, row, va, n, vc, rfl, rfl, Hn.out, by omega, HK5.out⟩
              · obtain rfl : b = false := by rw [Hb.out]; simp; omega
                obtain rfl : d = 4 := h4
                have hdb := HK.out.doubNot p (by rw [Hn.out]; omega)
                clear HM
                go_wp2_with fail
                refine hdb.mono ?_
                rintro e w5 ⟨rfl, e5⟩
                subst e5
                clear hdb
                go_wp2_with fail
                go_meet
                case rel => go_light; exact ⟨lost, row, va, n, vc, rfl, rfl, Hn.out, by omega, HK.out⟩
            have ho1 : (d == 1) = false := by simpa using h1
            have ho2 : (d == 2) = false := by simpa using h2
            have ho3 : (d == 3) = false := by simpa using h3
            have ho4 : (d == 4) = false := by simpa using h4
            clear HM
            go_wp2_with fail
            go_meet
            case rel => go_light; exact ⟨lost, row, va, n, vc, rfl, rfl, Hn.out, by omega, HK.out⟩
          case rest =>
            obtain ⟨lost', row', va', n', vc', rfl, rfl, hn', hlo', HK'⟩ := hcut
            have HLN : Hid (Calls Try.prog 16 #[.pointer (some ⟨nb, 0, none⟩)] wc fun e w' => e = .returned (.int .i64 (n' : Nat)) ∧ w' = wc) := by
              have := HK'.out.len
              rw [hn'] at this
              exact this
            have HLS : Hid (Calls Try.prog 17 #[.pointer (some ⟨nb, 0, none⟩)] wc fun e w' => e = .returned (.int .u64 (lost' : Nat)) ∧ w' = wc) := HK'.out.lostIs
            have Hn' : Hid (row'.length = n') := hn'
            clear hn' HK hd hp
            go_wp2_with fail
            refine HLN.out.mono ?_
            rintro e w8 ⟨rfl, e8⟩
            subst e8
            go_wp2_with fail
            refine HLS.out.mono ?_
            rintro e w9 ⟨rfl, e9⟩
            subst e9
            go_wp2_with fail
            go_roundg (300 - (i + 1))
            case measure => go_light; omega
            case rel => go_light; exact ⟨i + 1, lost', row', va', vc', by omega, by omega, rfl, by rw [Hn'.out], rfl, by simp, by omega, by rw [Hn'.out]; exact HK'.out⟩
      · have hz3 : ¬ (i : Int) < 300 := by omega
        clear HM HC1 HK hlt hlt3
        go_wp2_with fail
        refine HDR.out.mono ?_
        rintro e w5 ⟨rfl, hb5⟩
        go_wp2_with fail
        go_ret
        exact ⟨rfl, hb5⟩
    · have hzN : ¬ (i : Int) < (N : Int) := by omega
      clear HM HC1 HK hlt
      go_wp2_with fail
      refine HDR.out.mono ?_
      rintro e w5 ⟨rfl, hb5⟩
      go_wp2_with fail
      go_ret
      exact ⟨rfl, hb5⟩
end Go.Proofs.Ytdfhdneimoimmaa

/- What NetKeeps is handed, read out of memory. -/
namespace Go.Proofs.Ytdfhdneimoimmaa
open Go.ChangeShapes Go.WideShapes Go.ChangeAt Go.RowKit Go.Deep Go.Joins
set_option maxRecDepth 100000

theorem cellsI : Try.prog.cellsOf 3 = 1 := by kernel_rfl
theorem cellsM : Try.prog.cellsOf 35 = 2 := by kernel_rfl
theorem cellsMs : Try.prog.cellsOf 22 = 1 := by kernel_rfl
theorem add_at (b o : Nat) (r : Nat) : (⟨b, o, none⟩ : Addr).add r = ⟨b, o + r, none⟩ := by simp [Addr.add]
theorem cells2_of {w : World} {a : Addr} {cs : List Value} (h : w.cells? 0 a 2 = some cs) : ∃ v0 v1, cs = [v0, v1] ∧ w.cell? (a.add 0) = some v0 ∧ w.cell? (a.add 1) = some v1 := by
  obtain ⟨_, hl, hc⟩ := World.cells?_some h
  match cs, hl with
  | [v0, v1], _ => exact ⟨v0, v1, rfl, hc 0 (by decide), hc 1 (by decide)⟩
theorem open_moves {H : Type} {enc : TypeId × Value → H} {W : World} {fuel : Nat} {v : Value} {y : DataW H × List MemPlace} (h : DataW.trod enc Try.prog W 0 (fun _ => true) true fuel 22 [v] = some y) :
    ∃ (a : Option Addr) (c : Nat) (l : List (Int × Int)), v = .slice a l.length c ∧ MovesIn W a l := by
  rcases open_slice Try.underlying22 h with ⟨hcs, _⟩ | ⟨a, len, cap, m, n, D, Pl, hcs, _, hl, _, hm, hx, hel⟩
  · exact ⟨none, 0, [], by simpa using hcs, fun i d p ho => by simp at ho⟩
  · simp only [if_true] at hm
    subst hm
    obtain ⟨b, o, sp⟩ := a
    have hsp : 0 < len → sp = none := fun h0 => by
      obtain ⟨cs', hc, _⟩ := hel 0 (by omega)
      rw [cellsM] at hc
      obtain ⟨v0, v1, rfl, h0, _⟩ := cells2_of hc
      simpa [Addr.add] using World.cell?_spot h0
    have hall : ∀ i, ∃ q : Int × Int, i < len → (W.cell? ⟨b, o + i * 2, none⟩ = some (.int .i64 q.1) ∧ W.cell? ⟨b, o + i * 2 + 1, none⟩ = some (.int .i64 q.2)) := fun i => by
      by_cases hi : i < len
      · obtain rfl := hsp (by omega)
        obtain ⟨cs', hc, ht⟩ := hel i (by omega)
        rw [cellsM, add_at] at hc
        obtain ⟨v0, v1, rfl, h0, h1⟩ := cells2_of hc
        obtain ⟨xs, m, _, hx, _, hlen, hfs⟩ := DataW.trod_struct Try.underlying35 ht
        obtain ⟨y0, y1, rfl⟩ : ∃ y0 y1, xs = [y0, y1] := by
          match xs, hlen with
          | [a, b], _ => exact ⟨a, b, rfl⟩
        have f0 := hfs 0 _ rfl
        have f1 := hfs 1 _ rfl
        simp [cellsI] at f0 f1
        obtain ⟨k0, e0, _, _⟩ := DataW.trod_int Try.underlying3 f0
        obtain ⟨k1, e1, _, _⟩ := DataW.trod_int Try.underlying3 f1
        obtain rfl : v0 = .int .i64 k0 := by simpa using e0
        obtain rfl : v1 = .int .i64 k1 := by simpa using e1
        rw [add_at] at h0 h1
        exact ⟨(k0, k1), fun _ => ⟨h0, h1⟩⟩
      · exact ⟨(0, 0), fun h => absurd h hi⟩
    obtain ⟨Q, hQ⟩ := Classical.axiomOfChoice hall
    have hlen : ((List.range len).map Q).length = len := by simp
    refine ⟨some ⟨b, o, sp⟩, m, (List.range len).map Q, by rw [hlen]; simpa using hcs, fun i d p hq => ?_⟩
    have hi : i < len := by have := (List.getElem?_eq_some_iff.1 hq).1; rwa [hlen] at this
    rw [List.getElem?_map, List.getElem?_range hi] at hq
    have e : Q i = (d, p) := Option.some.inj hq
    obtain rfl := hsp (by omega)
    have := hQ i hi
    rw [e] at this
    exact ⟨b, o, rfl, this⟩
end Go.Proofs.Ytdfhdneimoimmaa
