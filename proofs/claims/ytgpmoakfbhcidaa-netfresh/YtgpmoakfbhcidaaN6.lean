/- NetKeeps: messages with numbers of their own; into, num, which, tag, lives. -/
import Derived.Test.YtgpmoakfbhcidaaN5
import Derived.Lib.SlBytesConst
import Derived.BigQuiet
namespace Go.Proofs.Ytgpmoakfbhcidaa
open Go.RowKit
set_option maxRecDepth 100000
set_option maxRecDepth 100000

theorem strOf_size (n : Nat) (x : Nat → Nat) : (strOf n x).size = n := by rw [strOf, strOfNums_size]; simp
theorem bx_strOf {n : Nat} {x : Nat → Nat} (h : ∀ j, j < n → x j < 256) {j : Nat} (hj : j < n) : bx (strOf n x) j = x j := by
  unfold bx strOf
  rw [strOfNums_data]
  simp [List.getD, hj]
  have := h j hj
  omega
theorem since_below {B : Nat} {w w' : World} (h : w.Since B w') : Below B w w' := ⟨h.os, h.tape, h.output, h.size, h.block⟩
theorem below_since {B : Nat} {w w' : World} (h : Below B w w') : w.Since B w' := ⟨h.os, h.tape, h.output, h.size, h.block⟩
theorem below_dN {B : Nat} {w w' : World} (h : Below B w w') (m : Nat) : Below B w (w'.drewN m) := ⟨h.os, h.tape, h.output, h.size, h.block⟩
theorem Byt.on {w w' : World} {a : Option Addr} {n : Nat} {x : Nat → Nat} (h : Byt w a n x) (hb : Below w.heap.size w w') : Byt w' a n x := h.since (below_since hb)
theorem cel_on {w w' : World} (hb : Below w.heap.size w w') {a : Addr} {v : Value} (h : w.cell? a = some v) : w'.cell? a = some v := by
  rw [World.cell?_of_block (w := w) (hb.block _ (World.block_lt_of_cell? _ _ h))]; exact h

set_option maxHeartbeats 800000 in
theorem cmp_same (a b : Option Addr) (n c d : Nat) (x : Nat → Nat) (w : World) (ha : Byt w a n x) (hb : Byt w b n x) (hmax : n ≤ 281474976710656) :
    Calls Try.prog 70 #[.slice a n c, .slice b n d] w fun e w' => e = .returned (.int .i64 0) ∧ ∃ m, w' = w.drewN m := by
  go_enter Try.func70, Try.ntmps70
  go_wp2_with fail
  go_loopg [5] n (fun q s5 wx => ∃ (i m : Nat), i ≤ n ∧ q = n - i ∧ s5 = .int .i64 i ∧ wx = w.drewN m)
  case atStart => exact ⟨0, 0, Nat.zero_le _, rfl, rfl, rfl⟩
  case round =>
    obtain ⟨i, m, hi, rfl, rfl, rfl⟩ := hrel
    by_cases hlt : i < n
    · obtain ⟨b1, o1, rfl, hc1⟩ := ha i hlt
      obtain ⟨b2, o2, rfl, hc2⟩ := hb i hlt
      have hc1' : (w.drewN m).cell? ⟨b1, o1 + i, none⟩ = some (.int .u8 (x i : Nat)) := hc1
      have hc2' : (w.drewN m).cell? ⟨b2, o2 + i, none⟩ = some (.int .u8 (x i : Nat)) := hc2
      have hz : (i : Int) < (n : Int) := by omega
      have HD : Hid (∀ n, (w.drewN m).drewN n = w.drewN (m + n)) := fun n => World.drewN_drewN _ _ _
      generalize w.drewN m = wd at *
      clear hc1 hc2 ha hb
      go_wp2_with fail
      go_quiet (fail)
      go_wp2_with fail
      go_quiet (fail)
      go_wp2_with fail
      go_roundg (n - (i + 1))
      case measure => go_light; omega
      case rel => go_light; exact ⟨i + 1, _, by omega, rfl, by simp, (unhide HD) _⟩
    · obtain rfl : i = n := by omega
      clear ha hb
      go_wp2_with fail
      go_ret
      exact ⟨rfl, m, rfl⟩
theorem eq_same (a b : Option Addr) (n c d : Nat) (x : Nat → Nat) (w : World) (ha : Byt w a n x) (hb : Byt w b n x) (hmax : n ≤ 281474976710656) :
    Calls Try.prog 46 #[.slice a n c, .slice b n d] w fun e w' => e = .returned (.bool true) ∧ ∃ m, w' = w.drewN m := by
  have hc := cmp_same a b n c d x w ha hb hmax
  go_enter Try.func46, Try.ntmps46
  go_wp2_with fail
  refine hc.mono ?_
  rintro e w1 ⟨rfl, m, rfl⟩
  go_wp2_with fail
  go_ret
  exact ⟨rfl, m, rfl⟩

theorem num_any (n : Int) (w : World) : Calls Try.prog 19 #[.int .i64 n] w fun e w' => e = .returned (.int .i64 n) ∧ w' = w := by
  go_enter Try.func19, Try.ntmps19
  go_wp2
  go_ret
  exact ⟨rfl, rfl⟩
/-- into: a number from 0 to m - 1. -/
theorem into_any (K : Int) (m : Nat) (hm : 0 < m) (hm2 : m ≤ 1000000) (w : World) : Calls Try.prog 11 #[.int .i64 K, .int .i64 (m : Nat)] w fun e w' => w' = w ∧ ∃ k : Nat, k < m ∧ e = .returned (.int .i64 (k : Nat)) := by
  have h1 := Int.tmod_lt_of_pos K (show (0 : Int) < (m : Int) by omega)
  have h2 := Int.lt_tmod_of_pos K (show (0 : Int) < (m : Int) by omega)
  have h0 : ¬ (m : Int) = 0 := by omega
  have h0' : ((m : Int) == 0) = false := by simp; omega
  have hmw : IntKind.i64.wrap (K.tmod m) = K.tmod m := by rw [IntKind.wrap_i64]; omega
  by_cases hn : K.tmod m < 0
  · obtain ⟨k, hk, hk2⟩ : ∃ k : Nat, K.tmod m + (m : Int) = (k : Int) ∧ k < m := ⟨(K.tmod m + m).toNat, by omega, by omega⟩
    have hw : IntKind.i64.wrap (k : Int) = (k : Int) := by rw [IntKind.wrap_i64]; omega
    go_enter Try.func11, Try.ntmps11
    go_wp2
    go_ret
    exact ⟨rfl, k, hk2, rfl⟩
  · obtain ⟨k, hk, hk2⟩ : ∃ k : Nat, K.tmod m = (k : Int) ∧ k < m := ⟨(K.tmod m).toNat, by omega, by omega⟩
    rw [hk] at hmw hn
    go_enter Try.func11, Try.ntmps11
    go_wp2
    go_ret
    exact ⟨rfl, k, hk2, rfl⟩

/-- The bytes of the message of number i. -/
def tagx (i : Nat) (j : Nat) : Nat := if j = 0 then i % 256 else i / 256
theorem tagx_lt {i : Nat} (hi : i < 300) (j : Nat) : tagx i j < 256 := by
  unfold tagx; split <;> omega
def tagM (i : Nat) : Ms := ⟨((i % 7 : Nat) : Int), strOf 2 (tagx i)⟩

/-- The two bytes of the message of number i lie at g. -/
def Tgd (w : World) (g i : Nat) : Prop := w.cell? ⟨g, 0, none⟩ = some (.int .u8 (tagx i 0 : Nat)) ∧ w.cell? ⟨g, 1, none⟩ = some (.int .u8 (tagx i 1 : Nat))
theorem Tgd.of {w : World} {g c i : Nat} (h : FlB w g c (strOf 2 (tagx i))) (hi : i < 300) : Tgd w g i := by
  have h0 := h.cell 0 (by rw [strOf_size]; decide)
  have h1 := h.cell 1 (by rw [strOf_size]; decide)
  rw [bx_strOf (fun j _ => tagx_lt hi j) (by decide)] at h0 h1
  exact ⟨h0, h1⟩
theorem Tgd.on {w w' : World} {g i : Nat} (h : Tgd w g i) (hb : Below w.heap.size w w') : Tgd w' g i := ⟨cel_on hb h.1, cel_on hb h.2⟩
end Go.Proofs.Ytgpmoakfbhcidaa
