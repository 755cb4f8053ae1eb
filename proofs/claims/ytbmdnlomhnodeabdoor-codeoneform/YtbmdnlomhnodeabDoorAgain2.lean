/- The walk of again, all kinds. -/
import Derived.Test.YtbmdnlomhnodeabDoorAgain
namespace Go.Proofs.YtbmdnlomhnodeabDoor
open Go.RowKit
set_option maxRecDepth 100000

set_option maxHeartbeats 3200000 in
set_option maxRecDepth 100000 in
theorem again_walk (w0 w : World) (rb hb n : Nat) (z : Nat → Nat) (at' wb B : Nat) (v : Value) (K WH M : Int) (N : Nat) (ba : Option Addr) (bl bc : Nat) (h : OF w0 w rb hb n z at' 0 wb B v ((List.range at').map z)) (hW : Wid w0) (hn : n ≤ 140737488351232) (hN : N < 18446744073709551616) (hM : M ≤ 9223372036854775807) :
    Calls Tryd.prog 21 #[.pointer (some ⟨rb, 0, none⟩), .pointer (some ⟨wb, 0, none⟩), .agg #[.int .i64 K, .int .i64 WH, .int .i64 M, .int .u64 N, .slice ba bl bc]] w fun e w' => e = .returned (.tuple #[]) ∧ Done w0 w' rb hb n z at' wb B := by
  have hs0 : w.Since w.heap.size (w.alloc (.cells #[.int .i64 K, .int .i64 WH, .int .i64 M, .int .u64 N, .slice ba bl bc] 33)) := (World.Since.refl _ _).alloc (Nat.le_refl _) _
  have h1 := h.later hs0
  have k0 : (w.alloc (.cells #[.int .i64 K, .int .i64 WH, .int .i64 M, .int .u64 N, .slice ba bl bc] 33)).cell? ⟨w.heap.size, 0, none⟩ = some (.int .i64 K) := by simp
  have k2 : (w.alloc (.cells #[.int .i64 K, .int .i64 WH, .int .i64 M, .int .u64 N, .slice ba bl bc] 33)).cell? ⟨w.heap.size, 2, none⟩ = some (.int .i64 M) := by simp
  have k3 : (w.alloc (.cells #[.int .i64 K, .int .i64 WH, .int .i64 M, .int .u64 N, .slice ba bl bc] 33)).cell? ⟨w.heap.size, 3, none⟩ = some (.int .u64 N) := by simp
  have hle := h.rd.le
  have hz := h.rd.byte
  go_enter Tryd.func21, Tryd.ntmps21
  go_upto_region 1 with fail
  generalize w.alloc (.cells #[.int .i64 K, .int .i64 WH, .int .i64 M, .int .u64 N, .slice ba bl bc] 33) = w1 at *
  generalize w.heap.size = ab at *
  have hWw : ∀ {W : World}, w0.Since w0.heap.size W → Wid W := fun hs => hW.since hs
  clear h hs0
  by_cases e1 : K = 1
  · subst e1
    obtain ⟨f1, f2, f3⟩ := fix_form z hz n 1 at'
    have f4 : (fixAns z n 1 at' 0).1 < 256 := fixAns_lt z hz n 1 at' 0
    have hr := u8_r rb hb n at' 0 z w1 h1.rd (hWw h1.since)
    generalize fixAns z n 1 at' 0 = V at *
    obtain ⟨A, at2, bad2⟩ := V
    go_wp2_with fail
    refine hr.mono ?_
    rintro e w2 ⟨rfl, hb2, hI2⟩
    have h2 := h1.read hb2 hI2
    have hwr := u8_l wb B v _ A w2 h2.wt (hWw h2.since) f4 (by simp; omega)
    clear hr
    go_wp2_with fail
    refine hwr.mono ?_
    rintro e w3 ⟨rfl, v', hI3, hE3⟩
    have h3 := h2.write hE3 hI3
    clear hwr
    go_wp2_with fail
    go_end0
    exact ⟨rfl, at2, bad2, v', _, h3, f1, f2, f3⟩
  by_cases e2 : K = 2
  · subst e2
    obtain ⟨f1, f2, f3⟩ := fix_form z hz n 4 at'
    have f4 : (fixAns z n 4 at' 0).1 < 4294967296 := fixAns_lt z hz n 4 at' 0
    have hr := u32_r rb hb n at' 0 z w1 h1.rd (hWw h1.since)
    generalize fixAns z n 4 at' 0 = V at *
    obtain ⟨A, at2, bad2⟩ := V
    go_wp2_with fail
    refine hr.mono ?_
    rintro e w2 ⟨rfl, hb2, hI2⟩
    have h2 := h1.read hb2 hI2
    have hwr := u32_l wb B v _ A w2 h2.wt (hWw h2.since) f4 (by simp; omega)
    clear hr
    go_wp2_with fail
    refine hwr.mono ?_
    rintro e w3 ⟨rfl, v', hI3, hE3⟩
    have h3 := h2.write hE3 hI3
    clear hwr
    go_wp2_with fail
    go_end0
    exact ⟨rfl, at2, bad2, v', _, h3, f1, f2, f3⟩
  by_cases e3 : K = 3
  · subst e3
    obtain ⟨f1, f2, f3⟩ := fix_form z hz n 8 at'
    have f4 : (fixAns z n 8 at' 0).1 < 18446744073709551616 := fixAns_lt z hz n 8 at' 0
    have hr := u64_r rb hb n at' 0 z w1 h1.rd (hWw h1.since)
    generalize fixAns z n 8 at' 0 = V at *
    obtain ⟨A, at2, bad2⟩ := V
    go_wp2_with fail
    refine hr.mono ?_
    rintro e w2 ⟨rfl, hb2, hI2⟩
    have h2 := h1.read hb2 hI2
    have hwr := u64_l wb B v _ A w2 h2.wt (hWw h2.since) f4 (by simp; omega)
    clear hr
    go_wp2_with fail
    refine hwr.mono ?_
    rintro e w3 ⟨rfl, v', hI3, hE3⟩
    have h3 := h2.write hE3 hI3
    clear hwr
    go_wp2_with fail
    go_end0
    exact ⟨rfl, at2, bad2, v', _, h3, f1, f2, f3⟩
  by_cases e4 : K = 4
  · subst e4
    obtain ⟨f1, f2, f3⟩ := var_form z hz n N at'
    have f4 : (varAns z n N at' 0).1 < 18446744073709551616 := by
      unfold varAns
      rw [if_neg (by simp)]
      exact vlook_lt _ (fun j => hz _) _ _ hN
    have hr := var_r rb hb n at' 0 N z w1 h1.rd
    generalize varAns z n N at' 0 = V at *
    obtain ⟨A, at2, bad2⟩ := V
    go_wp2_with fail
    refine hr.mono ?_
    rintro e w2 ⟨rfl, hb2, hI2⟩
    have h2 := h1.read hb2 hI2
    have hwr := var_l wb B v _ A w2 h2.wt f4 (by simp; omega)
    clear hr
    go_wp2_with fail
    refine hwr.mono ?_
    rintro e w3 ⟨rfl, v', hI3, hE3⟩
    have h3 := h2.write hE3 hI3
    clear hwr
    go_wp2_with fail
    go_end0
    exact ⟨rfl, at2, bad2, v', _, h3, f1, f2, f3⟩
  by_cases e5 : K = 5
  · subst e5
    obtain ⟨f1, f2, f3, f4⟩ := bytes_form z hz n M.toNat at'
    have hr := bytes_r rb hb n at' 0 M z w1 h1.rd hM
    generalize bytesAns z n M.toNat at' 0 = V at *
    obtain ⟨A, fr, at2, bad2⟩ := V
    replace f4 : A ≤ n - at' := f4
    have hlt1 := h1.wt.cell.lt
    have hlt2 := own_lt h1.wt.own
    go_wp2_with fail
    refine hr.mono ?_
    rintro e w2 ⟨⟨ta, rfl, htx⟩, hb2, hI2⟩
    have h2 := h1.read hb2 hI2
    obtain ⟨t1, t2, t3⟩ := txt_byt htx
    have hwr := bytes_l wb B v _ ta A A _ w2 h2.wt t1 t2 (by simp; omega) (fun b off e => by
      have hb := t3 b off e
      exact ⟨by omega, fun e2 => by have := hlt2 b e2.symm; omega⟩)
    clear hr hlt1 hlt2
    go_wp2_with fail
    refine hwr.mono ?_
    rintro e w3 ⟨rfl, v', hI3, hE3⟩
    have h3 := h2.write hE3 hI3
    clear hwr t2 t3
    go_wp2_with fail
    go_end0
    exact ⟨rfl, at2, bad2, v', _, h3, f1, fun hh => by rw [List.append_assoc]; exact f2 hh, f3⟩
  by_cases e6 : K = 6
  · subst e6
    have hin := into_20 M w1
    have hlt1 := h1.wt.cell.lt
    have hlt2 := own_lt h1.wt.own
    go_wp2_with fail
    refine hin.mono ?_
    rintro e w1' ⟨rfl, k, hk, rfl⟩
    obtain ⟨f1, f2, f3, f4⟩ := raw_form z n k at'
    have hr := raw_r rb hb n at' 0 k z w1' h1.rd (by omega)
    generalize rawAns n k at' 0 = V at *
    obtain ⟨A, fr, at2, bad2⟩ := V
    replace f4 : A ≤ n - at' := f4
    clear hin
    go_wp2_with fail
    refine hr.mono ?_
    rintro e w2 ⟨⟨ta, rfl, htx⟩, hb2, hI2⟩
    have h2 := h1.read hb2 hI2
    obtain ⟨t1, t2, t3⟩ := txt_byt htx
    have hwr := raw_l wb B v _ ta A A _ w2 h2.wt t1 t2 (by simp; omega)
    clear hr hlt1 hlt2
    go_wp2_with fail
    refine hwr.mono ?_
    rintro e w3 ⟨rfl, v', hI3, hE3⟩
    have h3 := h2.write hE3 hI3
    clear hwr t2 t3
    go_wp2_with fail
    go_end0
    exact ⟨rfl, at2, bad2, v', _, h3, f1, f2, f3⟩
  have q1 : (K == 1) = false := by simp; omega
  have q2 : (K == 2) = false := by simp; omega
  have q3 : (K == 3) = false := by simp; omega
  have q4 : (K == 4) = false := by simp; omega
  have q5 : (K == 5) = false := by simp; omega
  have q6 : (K == 6) = false := by simp; omega
  go_wp2_with fail
  go_end0
  exact ⟨rfl, at', 0, v, _, h1, Nat.le_refl _, fun _ => rfl, fun h => absurd rfl h⟩
end Go.Proofs.YtbmdnlomhnodeabDoor
