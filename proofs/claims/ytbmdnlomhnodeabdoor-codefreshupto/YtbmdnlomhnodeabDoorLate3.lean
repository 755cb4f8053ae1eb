/- The walks of Late.Add and Late.same. -/
import Derived.Test.YtbmdnlomhnodeabDoorLate2
namespace Go.Proofs.YtbmdnlomhnodeabDoor
open Go.RowKit
set_option maxRecDepth 100000

set_option maxHeartbeats 3200000 in
set_option maxRecDepth 100000 in
theorem late_add {w : World} {B lk n : Nat} {GA WA : Nat → Option Addr} {gl GC WC : Nat → Nat} {X : Nat → Nat → Nat} {gv wv : Value} (h : LateIs w B lk n GA WA gl GC WC X gv wv) (hB : B ≤ w.heap.size) (a : Option Addr) (len cap : Nat) (x : Nat → Nat) (hN : n ≤ 900000)
    (hown : Own w B (.slice a len cap) len x) (hfree : ∀ ad, a = some ad → ¬ LF lk n GA WA gv wv ad.block) (wa : Option Addr) (wc : Nat) (hwb : Byt w wa len x) (hwn : wa = none → len = 0) (hwl : ∀ b off, wa = some ⟨b, off, none⟩ → ¬ LF lk n GA WA gv wv b) :
    Calls Tryd.prog 38 #[.pointer (some ⟨lk, 0, none⟩), .slice a len cap, .slice wa len wc] w fun e w' => e = .returned (.tuple #[]) ∧ ∃ GA' WA' GC' WC' X' gv' wv', LateIs w' B lk (n + 1) GA' WA' (put gl n len) GC' WC' X' gv' wv' ∧ Mv (fun k => LF lk n GA WA gv wv k ∨ ∃ ad, a = some ad ∧ ad.block = k) (LF lk (n + 1) GA' WA' gv' wv') w w' := by
  obtain ⟨ga, gc, w2, c4, w4, oa, oc, w6, S, hr1, p0, p1, p2, p3, hs1, hr4, p4, p5, hr2, p6, p7, hfin, mvf⟩ := h.add hB a len cap x hN hown hfree wa wc hwb hwn hwl
  have H1 := hide hr1
  have H2 := hide hr2
  clear hr1 hr2 h hown hfree hwb hwn hwl hB
  go_enter Tryd.func38, Tryd.ntmps38
  go_wp2_with (at_builtin; refine wpList_append_eq rfl _ _ 59 rfl _ _ _ (by rfl) (by rfl) (unhide H1) ?_)
  go_region_law (refine step_append_eq (by rfl) _ _ 59 (by rfl) _ _ _ (by rfl) (by rfl) (unhide H2) ?_)
  all_goals
    go_wp2_with fail
    go_end0
    exact ⟨rfl, _, _, _, _, _, _, _, hfin, mvf⟩

set_option maxHeartbeats 3200000 in
set_option maxRecDepth 100000 in
theorem late_same {w : World} {B lk n : Nat} {GA WA : Nat → Option Addr} {gl GC WC : Nat → Nat} {X : Nat → Nat → Nat} {gv wv : Value} (h : LateIs w B lk n GA WA gl GC WC X gv wv) (hN : n ≤ 1000000) :
    Calls Tryd.prog 63 #[.pointer (some ⟨lk, 0, none⟩)] w fun e w' => e = .returned (.bool true) ∧ ∃ m, w' = w.drewN m := by
  obtain ⟨va, vc, rfl, hvc⟩ := owns_form h.og
  obtain ⟨oa, oc, rfl, hoc⟩ := owns_form h.ow
  have c0 : ∀ m, (w.drewN m).cell? ⟨lk, 0, none⟩ = some (.slice va n vc) := fun m => h.row.cell (i := 0) (by decide)
  have c1 : ∀ m, (w.drewN m).cell? ⟨lk, 1, none⟩ = some (.slice oa n oc) := fun m => h.row.cell (i := 1) (by decide)
  have hent : ∀ i, i < n → ∃ gg go S, va = some ⟨gg, 0, none⟩ ∧ oa = some ⟨go, 0, none⟩ ∧ (∀ m, (w.drewN m).cell? ⟨gg, i, none⟩ = some (.slice (GA i) (gl i) (GC i))) ∧ (∀ m, (w.drewN m).cell? ⟨go, i, none⟩ = some (.slice (WA i) (gl i) (WC i))) ∧ (∀ m, (convert 22 9 (.slice (GA i) (gl i) (GC i))).run Tryd.prog (w.drewN m).drew = .ok (.string S) (w.drewN m).drew) ∧ ∀ m, (convert 22 9 (.slice (WA i) (gl i) (WC i))).run Tryd.prog (w.drewN m).drew = .ok (.string S) (w.drewN m).drew := fun i hi => by
    obtain ⟨gg, e1, q1⟩ := hvc i hi
    obtain ⟨go, e2, q2⟩ := hoc i hi
    have hbg : Byt w (GA i) (gl i) (X i) ∧ (GA i = none → gl i = 0 ∧ GC i = 0) := byt_of_own (h.own i hi)
    have hd : ∀ m, w.Since w.heap.size (w.drewN m).drew := fun m => (since_drewN' (World.Since.refl _ _) m).drew
    exact ⟨gg, go, _, e1, e2, fun m => q1, fun m => q2, fun m => str_byt _ _ _ _ _ (hbg.1.since (hd m)) (fun e => (hbg.2 e).1), fun m => by rw [← strOf_mod]; exact str_byt _ _ _ _ _ ((h.byt i hi).since (hd m)) (h.wn i hi)⟩
  clear h hvc hoc
  go_enter Tryd.func63, Tryd.ntmps63
  go_wp2_with fail
  go_loopg [3] n (fun q s3 wx => ∃ (i m : Nat), i ≤ n ∧ q = n - i ∧ s3 = .int .i64 i ∧ wx = w.drewN m)
  case atStart => exact ⟨0, 0, Nat.zero_le _, rfl, rfl, rfl⟩
  case round =>
    obtain ⟨i, m, hi, rfl, rfl, rfl⟩ := hrel
    have d0 := c0 m
    have d1 := c1 m
    by_cases hlt : i < n
    · obtain ⟨gg, go, S, rfl, rfl, cg, co, s1, s2⟩ := hent i hlt
      have dg := cg m
      have do' := co m
      have t1 := s1 m
      have t2 := s2 m
      have hz : (i : Int) < (n : Int) := by omega
      clear cg co s1 s2
      generalize GA i = ta at *
      generalize WA i = tb at *
      generalize gl i = tl at *
      generalize GC i = tc at *
      generalize WC i = td at *
      have HD : Hid (∀ n, (w.drewN m).drewN n = w.drewN (m + n)) := fun n => World.drewN_drewN _ _ _
      generalize w.drewN m = wd at *
      go_upto_region 4 with fail
      go_region_held3 (fun W => W.cell? ⟨lk, 0, none⟩ = some (.slice (some ⟨gg, 0, none⟩) n vc) ∧ W.cell? ⟨lk, 1, none⟩ = some (.slice (some ⟨go, 0, none⟩) n oc) ∧ W.cell? ⟨gg, i, none⟩ = some (.slice ta tl tc) ∧ W.cell? ⟨go, i, none⟩ = some (.slice tb tl td) ∧ (convert 22 9 (.slice ta tl tc)).run Tryd.prog W = .ok (.string S) W ∧ (convert 22 9 (.slice tb tl td)).run Tryd.prog W = .ok (.string S) W)
        (exact ⟨d0, d1, dg, do', t1, t2⟩)
        (fail)
      all_goals
        go_wp2_with fail
        go_roundg (n - (i + 1))
        case measure => go_light; omega
        case rel => go_light; exact ⟨i + 1, m + 1, by omega, rfl, by simp, (unhide HD) 1⟩
    · have hz : ¬ ((i : Int) < (n : Int)) := by omega
      go_wp2_with fail
      go_ret
      exact ⟨rfl, m, rfl⟩
end Go.Proofs.YtbmdnlomhnodeabDoor
