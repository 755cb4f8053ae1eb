/- Package net: Double, Send, Take. -/
import Derived.Test.YtgpmoakfbhcidaaN3
namespace Go.Proofs.Ytgpmoakfbhcidaa
open Go.RowKit
set_option maxRecDepth 100000
set_option maxRecDepth 100000
section
variable {w w' : World} {B nb : Nat} {mv : Value} {room lost : Nat} {ms : List Ms}
theorem NetIs.drewN (h : NetIs w B nb mv room ms lost) (q : Nat) : NetIs (w.drewN q) B nb mv room ms lost := h.later (fun _ _ => rfl)
theorem Mv.drewN {F F' : Nat → Prop} {q : Nat} (h : Mv F F' (w.drewN q) w') : Mv F F' w w' := ⟨h.os, h.tape, h.output, h.size, h.block, h.foot⟩
set_option maxHeartbeats 1600000 in
theorem double_some (h : NetIs w B nb mv room ms lost) (hB : B ≤ w.heap.size) (i : Nat) (x : Int) (s : ByteArray) (hm : ms[i]? = some ⟨x, s⟩) (hl : ms.length < room) :
    Calls Try.prog 32 #[.pointer (some ⟨nb, 0, none⟩), .int .i64 (i : Nat)] w fun e w' => e = .returned (.bool true) ∧ ∃ mv', NetIs w' B nb mv' room (ms ++ [⟨x, s⟩]) lost ∧ Mv (NFt nb mv) (NFt nb mv') w w' := by
  have hi := (List.getElem?_eq_some_iff.1 hm).1
  have hrm := h.rm
  have hh := has_any h (i : Int)
  have et : decide ((0 : Int) ≤ (i : Int) ∧ (i : Int) < (ms.length : Int)) = true := by simp; omega
  rw [et] at hh
  have hf := full_any h
  have ef : decide (room ≤ ms.length) = false := by simp; omega
  rw [ef] at hf
  have HA : Hid (∀ q, Calls Try.prog 41 #[.pointer (some ⟨nb, 0, none⟩), .agg #[.int .i64 x, .string s]] (w.drewN q) fun e w' => e = .returned (.tuple #[]) ∧ ∃ mv', NetIs w' B nb mv' room (ms ++ [⟨x, s⟩]) lost ∧ Mv (NFt nb mv) (NFt nb mv') w w') := fun q =>
    (add_any (h.drewN q) hB hl x s).mono fun e w' ⟨he, mv', h1, h2⟩ => ⟨he, mv', h1, h2.drewN⟩
  obtain ⟨g, c, rfl, hc, p0, p1⟩ := h.msg hm
  have c1 := h.c1
  have hzi : (i : Int) < (ms.length : Int) := by omega
  have HC : Hid (∀ q, (w.drewN q).cell? ⟨nb, 1, none⟩ = some (.slice (some ⟨g, 0, none⟩) ms.length c) ∧ (w.drewN q).cell? ⟨g, i * 2, none⟩ = some (.int .i64 x) ∧ (w.drewN q).cell? ⟨g, i * 2 + 1, none⟩ = some (.string s)) := fun q => ⟨c1, p0, p1⟩
  generalize ms.length = n at *
  clear h et ef hi hrm hl hm p0 p1 c1
  go_enter Try.func32, Try.ntmps32
  go_wp2_with fail
  refine hh.mono ?_
  rintro e w1 ⟨rfl, e1⟩
  subst e1
  go_wp2_with fail
  refine hf.mono ?_
  rintro e w2 ⟨rfl, q, e1⟩
  obtain ⟨k1, k2, k3⟩ := HC.out q
  have ha := HA.out q
  rw [← e1] at k1 k2 k3 ha
  clear e1 HC HA hh hf
  go_wp2_with fail
  refine ha.mono ?_
  rintro e w3 ⟨rfl, hq⟩
  go_wp2_with fail
  go_ret
  exact ⟨rfl, hq⟩
theorem double_full (h : NetIs w B nb mv room ms lost) (i : Nat) (hi : i < ms.length) (hl : ¬ ms.length < room) :
    Calls Try.prog 32 #[.pointer (some ⟨nb, 0, none⟩), .int .i64 (i : Nat)] w fun e w' => e = .returned (.bool false) ∧ ∃ q, w' = w.drewN q := by
  have hh := has_any h (i : Int)
  have et : decide ((0 : Int) ≤ (i : Int) ∧ (i : Int) < (ms.length : Int)) = true := by simp; omega
  rw [et] at hh
  have hf := full_any h
  have ef : decide (room ≤ ms.length) = true := by simp; omega
  rw [ef] at hf
  clear h et ef hi hl
  go_enter Try.func32, Try.ntmps32
  go_wp2_with fail
  refine hh.mono ?_
  rintro e w1 ⟨rfl, e1⟩
  subst e1
  go_wp2_with fail
  refine hf.mono ?_
  rintro e w2 ⟨rfl, q, e1⟩
  go_wp2_with fail
  go_ret
  exact ⟨rfl, q, rfl⟩
theorem double_none (h : NetIs w B nb mv room ms lost) (i : Int) (hi : ¬ (0 ≤ i ∧ i < ms.length)) :
    Calls Try.prog 32 #[.pointer (some ⟨nb, 0, none⟩), .int .i64 i] w fun e w' => e = .returned (.bool false) ∧ w' = w := by
  have hh := has_any h i
  have et : decide ((0 : Int) ≤ (i : Int) ∧ (i : Int) < (ms.length : Int)) = false := by simp; omega
  rw [et] at hh
  clear h et hi
  go_enter Try.func32, Try.ntmps32
  go_wp2_with fail
  refine hh.mono ?_
  rintro e w1 ⟨rfl, e1⟩
  subst e1
  go_wp2
  go_ret
  exact ⟨rfl, rfl⟩

set_option maxHeartbeats 1600000 in
theorem send_some (h : NetIs w B nb mv room ms lost) (hB : B ≤ w.heap.size) (hl : ms.length < room) (x : Int) (a : Option Addr) (n c : Nat) (y : Nat → Nat) (hb : Byt w a n y) (ha : a = none → n = 0) :
    Calls Try.prog 12 #[.pointer (some ⟨nb, 0, none⟩), .int .i64 x, .slice a n c] w fun e w' => e = .returned (.bool true) ∧ ∃ mv', NetIs w' B nb mv' room (ms ++ [⟨x, strOf n y⟩]) lost ∧ Mv (NFt nb mv) (NFt nb mv') w w' := by
  have hf := full_any h
  have ef : decide (room ≤ ms.length) = false := by simp; omega
  rw [ef] at hf
  have HA : Hid (∀ q, Calls Try.prog 41 #[.pointer (some ⟨nb, 0, none⟩), .agg #[.int .i64 x, .string (strOf n y)]] (w.drewN q).drew fun e w' => e = .returned (.tuple #[]) ∧ ∃ mv', NetIs w' B nb mv' room (ms ++ [⟨x, strOf n y⟩]) lost ∧ Mv (NFt nb mv) (NFt nb mv') w w') := fun q =>
    (add_any (w := (w.drewN q).drew) (h.later (fun _ _ => rfl)) hB hl x _).mono fun e w' ⟨he, mv', h1, h2⟩ => ⟨he, mv', h1, ⟨h2.os, h2.tape, h2.output, h2.size, h2.block, h2.foot⟩⟩
  have HS : Hid (∀ q, (convert 53 9 (.slice a n c)).run Try.prog (w.drewN q).drew = .ok (.string (strOf n y)) (w.drewN q).drew) := fun q => str_byt a n c y (w.drewN q).drew hb ha
  generalize strOf n y = S at *
  clear h ef hl hb ha hB
  go_enter Try.func12, Try.ntmps12
  go_wp2_with fail
  refine hf.mono ?_
  rintro e w2 ⟨rfl, q, e1⟩
  have hs := HS.out q
  have ha := HA.out q
  rw [← e1] at hs ha
  have HA2 : Hid (Calls Try.prog 41 #[.pointer (some ⟨nb, 0, none⟩), .agg #[.int .i64 x, .string S]] w2.drew fun e w' => e = .returned (.tuple #[]) ∧ ∃ mv', NetIs w' B nb mv' room (ms ++ [⟨x, S⟩]) lost ∧ Mv (NFt nb mv) (NFt nb mv') w w') := ha
  clear e1 HS HA hf ha
  go_wp2_with fail
  go_region_law (first
    | (go_simp; go_at_call 41; refine HA2.out.mono ?_; rintro e w6 ⟨rfl, hq⟩))
  all_goals
    go_wp2_with fail
    go_ret
    exact ⟨rfl, hq⟩
theorem send_full (h : NetIs w B nb mv room ms lost) (hl : ¬ ms.length < room) (hlo : lost ≤ 1000000) (x : Int) (v : Value) :
    Calls Try.prog 12 #[.pointer (some ⟨nb, 0, none⟩), .int .i64 x, v] w fun e w' => e = .returned (.bool false) ∧ NetIs w' B nb mv room ms (lost + 1) ∧ Mv (NFt nb mv) (NFt nb mv) w w' := by
  have hf := full_any h
  have ef : decide (room ≤ ms.length) = true := by simp; omega
  rw [ef] at hf
  have HL : Hid (∀ q, Calls Try.prog 40 #[.pointer (some ⟨nb, 0, none⟩)] (w.drewN q) fun e w' => e = .returned (.tuple #[]) ∧ NetIs w' B nb mv room ms (lost + 1) ∧ Mv (NFt nb mv) (NFt nb mv) w w') := fun q =>
    (lose_any (h.drewN q) hlo).mono fun e w' ⟨he, h1, h2⟩ => ⟨he, h1, h2.drewN⟩
  clear h ef hl
  go_enter Try.func12, Try.ntmps12
  go_wp2_with fail
  refine hf.mono ?_
  rintro e w2 ⟨rfl, q, e1⟩
  have ha := HL.out q
  rw [← e1] at ha
  clear HL hf e1
  go_wp2_with fail
  refine ha.mono ?_
  rintro e w3 ⟨rfl, hq⟩
  go_wp2_with fail
  go_ret
  exact ⟨rfl, hq⟩
end
end Go.Proofs.Ytgpmoakfbhcidaa
