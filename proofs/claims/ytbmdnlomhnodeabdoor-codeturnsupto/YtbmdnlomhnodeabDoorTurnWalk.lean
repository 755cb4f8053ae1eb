/- The walks of lays and back: an item is written; it is read again. -/
import Derived.Test.YtbmdnlomhnodeabDoorTurnMath
import Derived.Test.YtbmdnlomhnodeabDoorEye2
import Derived.Test.YtbmdnlomhnodeabDoorRefEq
import Derived.Deep.RegionHeld3
namespace Go.Proofs.YtbmdnlomhnodeabDoor
open Go.RowKit
set_option maxRecDepth 100000

theorem cmp_zero (a b : Option Addr) (m c d : Nat) (w : World) (hmax : m ≤ 140737488355328) :
    Calls Tryd.prog 52 #[.slice a 0 c, .slice b m d] w fun e w' => (∃ k : Int, e = .returned (.int .i64 k)) ∧ w' = w := by
  have hz : (0 : Int) ≤ (m : Int) := by omega
  have hz2 : ¬ ((m : Int) < 0) := by omega
  by_cases hm : m = 0
  · subst hm
    go_enter Tryd.func52, Tryd.ntmps52
    go_wp2_with fail
    go_loopg [5] 0 (fun q s5 wx => q = 0 ∧ s5 = .int .i64 0 ∧ wx = w)
    case atStart => exact ⟨rfl, rfl, rfl⟩
    case round =>
      obtain ⟨rfl, rfl, rfl⟩ := hrel
      go_wp2_with fail
      go_ret
      exact ⟨⟨_, rfl⟩, rfl⟩
  · have hp : (0 : Int) < (m : Int) := by omega
    go_enter Tryd.func52, Tryd.ntmps52
    go_wp2_with fail
    go_loopg [5] 0 (fun q s5 wx => q = 0 ∧ s5 = .int .i64 0 ∧ wx = w)
    case atStart => exact ⟨rfl, rfl, rfl⟩
    case round =>
      obtain ⟨rfl, rfl, rfl⟩ := hrel
      go_wp2_with fail
      go_ret
      exact ⟨⟨_, rfl⟩, rfl⟩
theorem eq_two (a b : Option Addr) (n m c d : Nat) (x y : Nat → Nat) (w : World) (ha : Byt w a n x) (hb : Byt w b m y) (hmax : m ≤ 140737488355328) (h : (n = m ∧ ∀ j, j < m → x j = y j) ∨ n = 0) :
    Calls Tryd.prog 22 #[.slice a n c, .slice b m d] w fun e w' => ∃ r, e = .returned (.bool r) ∧ (n = m → (∀ j, j < m → x j = y j) → r = true) ∧ ∃ m, w' = w.drewN m := by
  by_cases h1 : n = m ∧ ∀ j, j < m → x j = y j
  · obtain ⟨rfl, h2⟩ := h1
    have hb' : Byt w b n x := fun j hj => by
      obtain ⟨q, off, e, hc⟩ := hb j hj
      exact ⟨q, off, e, by rw [h2 j hj]; exact hc⟩
    exact (eq_same a b n c d x w ha hb' hmax).mono (fun e w' ⟨h1, h2⟩ => ⟨true, h1, fun _ _ => rfl, h2⟩)
  · rcases h with h | h
    · exact absurd h h1
    · subst h
      have hc := cmp_zero a b m c d w hmax
      go_enter Tryd.func22, Tryd.ntmps22
      go_wp2_with fail
      refine hc.mono ?_
      rintro e w' ⟨⟨k, rfl⟩, rfl⟩
      go_wp2_with fail
      go_ret
      exact ⟨_, rfl, fun e1 e2 => absurd ⟨e1, e2⟩ h1, 0, rfl⟩
/-- One item, as bytes. -/
def encOf (K : Int) (N bl : Nat) (zb : Nat → Nat) : List Nat :=
  if K = 1 then fl 1 (N % 256) else if K = 2 then fl 4 (N % 4294967296) else if K = 3 then fl 8 N else if K = 4 then vl 9 N else if K = 5 then vl 9 bl ++ (List.range bl).map zb else if K = 6 then (List.range bl).map zb else []
theorem encOf_len (K : Int) (N bl : Nat) (zb : Nat → Nat) : (encOf K N bl zb).length ≤ bl + 10 := by
  unfold encOf
  have h1 := vl_len 9 N
  have h2 := vl_len 9 bl
  split
  · rw [fl_len]; omega
  · split
    · rw [fl_len]; omega
    · split
      · rw [fl_len]; omega
      · split
        · omega
        · split
          · simp; omega
          · split
            · simp
            · exact Nat.zero_le _
theorem bytes_l2 (wb B : Nat) (v : Value) (l : List Nat) (a : Option Addr) (m c : Nat) (y : Nat → Nat) (w : World) (h : IsL w wb B v l) (hb : Byt w a m y) (ha : a = none → m = 0 ∧ c = 0) (hmax : l.length + 10 + m ≤ 140737488355328) (hne : 0 < m → ∀ b off, a = some ⟨b, off, none⟩ → b ≠ wb ∧ some b ≠ v.ownBlock) :
    Calls Tryd.prog 31 #[.pointer (some ⟨wb, 0, none⟩), .slice a m c] w fun e w' => e = .returned (.tuple #[]) ∧ ∃ v', IsL w' wb B v' (l ++ (vl 9 m ++ (List.range m).map y)) ∧ Ext wb v v' w w' := by
  go_enter Tryd.func31, Tryd.ntmps31
  go_wp2_with fail
  refine (var_l wb B v l m w h (by omega) (by omega)).mono ?_
  rintro e w1 ⟨rfl, v1, h1, hE1⟩
  have hb1 : Byt w1 a m y := fun j hj => by
    obtain ⟨b, off, e, hc⟩ := hb j hj
    have hn := hne (by omega) b off e
    exact ⟨b, off, e, by rw [World.cell?_of_block (w := w) (hE1.block b (World.block_lt_of_cell? _ _ hc) hn.1 hn.2)]; exact hc⟩
  have hl := vl_len 9 m
  go_wp2_with fail
  refine (raw_l wb B v1 (l ++ vl 9 m) a m c y w1 h1 hb1 ha (by rw [List.length_append]; omega)).mono ?_
  rintro e w2 ⟨rfl, v2, h2, hE2⟩
  go_wp2_with fail
  go_end0
  exact ⟨rfl, v2, by rw [← List.append_assoc]; exact h2, hE1.trans hE2⟩

set_option maxHeartbeats 3200000 in
set_option maxRecDepth 100000 in
/-- lays: the item is written. -/
theorem lays_walk (wb B : Nat) (v : Value) (l : List Nat) (K WH M : Int) (N : Nat) (ba : Option Addr) (bl bc : Nat) (zb : Nat → Nat) (w : World) (h : IsL w wb B v l) (hW : Wid w) (hN : N < 18446744073709551616) (hb : Byt w ba bl zb) (ha : ba = none → bl = 0 ∧ bc = 0) (hmax : l.length + 10 + bl ≤ 140737488355328) (hne : 0 < bl → ∀ b off, ba = some ⟨b, off, none⟩ → b ≠ wb ∧ some b ≠ v.ownBlock) :
    Calls Tryd.prog 10 #[.pointer (some ⟨wb, 0, none⟩), .agg #[.int .i64 K, .int .i64 WH, .int .i64 M, .int .u64 N, .slice ba bl bc]] w fun e w' => e = .returned (.tuple #[]) ∧ ∃ v', IsL w' wb B v' (l ++ encOf K N bl zb) ∧ Ext wb v v' w w' := by
  have hs0 : w.Since w.heap.size (w.alloc (.cells #[.int .i64 K, .int .i64 WH, .int .i64 M, .int .u64 N, .slice ba bl bc] 33)) := (World.Since.refl _ _).alloc (Nat.le_refl _) _
  have k0 : (w.alloc (.cells #[.int .i64 K, .int .i64 WH, .int .i64 M, .int .u64 N, .slice ba bl bc] 33)).cell? ⟨w.heap.size, 0, none⟩ = some (.int .i64 K) := by simp
  have k3 : (w.alloc (.cells #[.int .i64 K, .int .i64 WH, .int .i64 M, .int .u64 N, .slice ba bl bc] 33)).cell? ⟨w.heap.size, 3, none⟩ = some (.int .u64 N) := by simp
  have k4 : (w.alloc (.cells #[.int .i64 K, .int .i64 WH, .int .i64 M, .int .u64 N, .slice ba bl bc] 33)).cell? ⟨w.heap.size, 4, none⟩ = some (.slice ba bl bc) := by simp
  have h1 : IsL (w.alloc (.cells #[.int .i64 K, .int .i64 WH, .int .i64 M, .int .u64 N, .slice ba bl bc] 33)) wb B v l := ⟨row_since h.cell hs0, own_since h.own hs0, h.ne, Nat.le_trans h.lo hs0.size⟩
  have hW1 := hW.since hs0
  have hb1 := hb.since hs0
  have hE0 : Ext wb v v w (w.alloc (.cells #[.int .i64 K, .int .i64 WH, .int .i64 M, .int .u64 N, .slice ba bl bc] 33)) := ⟨hs0.os, hs0.tape, hs0.output, hs0.size, fun k hk _ _ => hs0.block k hk, Or.inl rfl⟩
  go_enter Tryd.func10, Tryd.ntmps10
  go_upto_region 1 with fail
  generalize w.alloc (.cells #[.int .i64 K, .int .i64 WH, .int .i64 M, .int .u64 N, .slice ba bl bc] 33) = w1 at *
  generalize w.heap.size = ab at *
  clear h hs0 hW hb
  by_cases e1 : K = 1
  · subst e1
    have hc : IntKind.u8.wrap (N : Int) = ((N % 256 : Nat) : Int) := by rw [IntKind.wrap_u8']; omega
    have hcl := u8_l wb B v l (N % 256) w1 h1 hW1 (by omega) (by omega)
    generalize hN1 : N % 256 = N1 at *
    go_wp2_with fail
    refine hcl.mono ?_
    rintro e w2 ⟨rfl, v2, h2, hE2⟩
    go_wp2_with fail
    go_end0
    subst hN1
    exact ⟨rfl, v2, h2, hE0.trans hE2⟩
  by_cases e2 : K = 2
  · subst e2
    have hc : IntKind.u32.wrap (N : Int) = ((N % 4294967296 : Nat) : Int) := by rw [IntKind.wrap_u32']; omega
    have hcl := u32_l wb B v l (N % 4294967296) w1 h1 hW1 (by omega) (by omega)
    generalize hN1 : N % 4294967296 = N1 at *
    go_wp2_with fail
    refine hcl.mono ?_
    rintro e w2 ⟨rfl, v2, h2, hE2⟩
    go_wp2_with fail
    go_end0
    subst hN1
    exact ⟨rfl, v2, h2, hE0.trans hE2⟩
  by_cases e3 : K = 3
  · subst e3
    have hcl := u64_l wb B v l N w1 h1 hW1 hN (by omega)
    go_wp2_with fail
    refine hcl.mono ?_
    rintro e w2 ⟨rfl, v2, h2, hE2⟩
    go_wp2_with fail
    go_end0
    exact ⟨rfl, v2, h2, hE0.trans hE2⟩
  by_cases e4 : K = 4
  · subst e4
    have hcl := var_l wb B v l N w1 h1 hN (by omega)
    go_wp2_with fail
    refine hcl.mono ?_
    rintro e w2 ⟨rfl, v2, h2, hE2⟩
    go_wp2_with fail
    go_end0
    exact ⟨rfl, v2, h2, hE0.trans hE2⟩
  by_cases e5 : K = 5
  · subst e5
    have hcl := bytes_l2 wb B v l ba bl bc zb w1 h1 hb1 ha (by omega) hne
    go_wp2_with fail
    refine hcl.mono ?_
    rintro e w2 ⟨rfl, v2, h2, hE2⟩
    go_wp2_with fail
    go_end0
    exact ⟨rfl, v2, h2, hE0.trans hE2⟩
  by_cases e6 : K = 6
  · subst e6
    have hcl := raw_l wb B v l ba bl bc zb w1 h1 hb1 ha (by omega)
    go_wp2_with fail
    refine hcl.mono ?_
    rintro e w2 ⟨rfl, v2, h2, hE2⟩
    go_wp2_with fail
    go_end0
    exact ⟨rfl, v2, h2, hE0.trans hE2⟩
  have he : encOf K N bl zb = [] := by simp [encOf, e1, e2, e3, e4, e5, e6]
  have q1 : (K == 1) = false := by simp; omega
  have q2 : (K == 2) = false := by simp; omega
  have q3 : (K == 3) = false := by simp; omega
  have q4 : (K == 4) = false := by simp; omega
  have q5 : (K == 5) = false := by simp; omega
  have q6 : (K == 6) = false := by simp; omega
  go_wp2_with fail
  go_end0
  exact ⟨rfl, v, by rw [he, List.append_nil]; exact h1, hE0⟩
end Go.Proofs.YtbmdnlomhnodeabDoor
