/- The law's own helpers: untouched, image. -/
import Derived.Test.YtbebnjeamlmclaaD10
namespace Go.Proofs.Ytbebnjeamlmclaa
open Go.RowKit Go.Maps Go.Sort
set_option maxRecDepth 100000
set_option maxRecDepth 100000

theorem image_same (a b : Option Addr) (n c d : Nat) (nm : Nat → ByteArray) (dl : Nat → Nat) (dx : Nat → Nat → Nat) (w : World) (ha : Img w a n nm dl dx) (hb : Img w b n nm dl dx) (hn : n ≤ 1048576) (hd : ∀ i, i < n → dl i ≤ 1048576) :
    Calls Try.prog 19 #[.slice a n c, .slice b n d] w fun e w' => e = .returned (.bool true) ∧ ∃ m, w' = w.drewN m := by
  have hc := eqImage_same a b n c d nm dl dx w ha hb hn hd
  clear ha hb hd
  go_enter Try.func19, Try.ntmps19
  go_wp2_with fail
  refine hc.mono ?_
  rintro e w1 ⟨rfl, m, rfl⟩
  go_wp2_with fail
  go_ret
  exact ⟨rfl, m, rfl⟩

set_option maxHeartbeats 1600000 in
theorem untouched_any (gb cap n : Nat) (a : Option Addr) (c : Nat) (nm : Nat → ByteArray) (dl : Nat → Nat) (dx : Nat → Nat → Nat) (lg lc : Nat → Nat) (fl : Nat → Nat → Value) (w : World) (hg : Giv w gb cap n nm dl dx lg lc fl) (hs : Src w a n nm dl dx) (hn : n ≤ 1048576) (hd : ∀ i, i < n → dl i ≤ 1048576) :
    Calls Try.prog 11 #[.slice (some ⟨gb, 0, none⟩) n cap, .slice a n c] w fun e w' => e = .returned (.bool true) ∧ ∃ m, w' = w.drewN m := by
  have HG : Hid (Giv w gb cap n nm dl dx lg lc fl) := hg
  have HS : Hid (Src w a n nm dl dx) := hs
  have HL : Hid (∀ i, i < n → dl i ≤ 1048576) := hd
  have hm : (n : Int) ≤ 1048576 := by omega
  clear hg hs hd
  go_enter Try.func11, Try.ntmps11
  go_wp2_with fail
  go_loopg [5] n (fun q s5 wx => ∃ (i m : Nat), i ≤ n ∧ q = n - i ∧ s5 = .int .i64 i ∧ wx = w.drewN m)
  case atStart => exact ⟨0, 0, Nat.zero_le _, rfl, rfl, rfl⟩
  case round =>
    obtain ⟨i, m, hi, rfl, rfl, rfl⟩ := hrel
    have HD : Hid (∀ n, (w.drewN m).drewN n = w.drewN (m + n)) := fun n => World.drewN_drewN _ _ _
    by_cases hlt : i < n
    · obtain ⟨p1, p2, p3⟩ := HG.out.files i hlt
      obtain ⟨b2, o2, rfl, q1, da2, dc2, q2, qn, q3⟩ := HS.out i hlt
      have r1 : (w.drewN m).cell? ⟨gb, i * 2, none⟩ = some (.string (nm i)) := p1
      have r2 : (w.drewN m).cell? ⟨gb, i * 2 + 1, none⟩ = some (.slice (some ⟨lg i, 0, none⟩) (dl i) (lc i)) := p2
      have t1 : (w.drewN m).cell? ⟨b2, o2 + i * 2, none⟩ = some (.string (nm i)) := q1
      have t2 : (w.drewN m).cell? ⟨b2, o2 + i * 2 + 1, none⟩ = some (.slice da2 (dl i) dc2) := q2
      have hz : (i : Int) < (n : Int) := by omega
      have HC : Hid (∀ k, Calls Try.prog 40 #[.slice (some ⟨lg i, 0, none⟩) (dl i) (lc i), .slice da2 (dl i) dc2] ((w.drewN m).drewN k) fun e w' => e = .returned (.bool true) ∧ w' = (w.drewN m).drewN k) := fun k => intact_any (lg i) (dl i) (lc i) (dx i) (fl i) da2 dc2 ((w.drewN m).drewN k) ((p3.drewN m).drewN k) ((q3.drewN m).drewN k) (fun e => (qn e).1) (by have := HL.out i hlt; omega)
      have hne : ∀ W, (binOp .neq 9 (.string (nm i)) (.string (nm i))).run Try.prog W = .ok (.bool false) W := fun W => by simp [binOp, Op.stringOp]
      generalize w.drewN m = wd at *
      clear p1 p2 p3 q1 q2 q3 qn
      generalize nm i = s at *
      generalize dl i = d at *
      generalize lg i = g at *
      generalize lc i = cc at *
      go_wp2_with fail
      go_quiet (exact Calls.quiet_of_same (HC.out _))
      go_wp2_with fail
      go_roundg (n - (i + 1))
      case measure => go_light; omega
      case rel => go_light; exact ⟨i + 1, _, by omega, rfl, by simp, HD.out _⟩
    · obtain rfl : i = n := by omega
      have km : (w.drewN m).cell? ⟨gb, i * 2, none⟩ = some (.string markS) := HG.out.mark
      obtain ⟨N1, hN1, hN2⟩ : ∃ N1 : Nat, (i : Int) + 1 = (N1 : Int) ∧ N1 = i + 1 := ⟨i + 1, by omega, rfl⟩
      have hw1 : IntKind.i64.wrap (N1 : Int) = (N1 : Int) := by rw [IntKind.wrap_i64]; omega
      have hr : (N1 : Int) ≤ (cap : Int) := by have := HG.out.room; omega
      have hix : (i : Int) < (N1 : Int) := by omega
      have hms : (markS.toList == [35, 109, 97, 114, 107]) = true := by rw [toList_data]; rfl
      clear hN2
      generalize markS = ms at *
      go_wp2_with fail
      go_ret
      exact ⟨rfl, m, rfl⟩
end Go.Proofs.Ytbebnjeamlmclaa
