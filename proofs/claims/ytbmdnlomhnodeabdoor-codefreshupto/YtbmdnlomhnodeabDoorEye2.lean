/- The document's Reader: numbers of fixed size, End, and the place of a number's last byte. -/
import Derived.Test.YtbmdnlomhnodeabDoorEye
import Derived.Test.YtbmdnlomhnodeabDoorFormMath
namespace Go.Proofs.YtbmdnlomhnodeabDoor
open Go.RowKit
set_option maxRecDepth 100000

theorem txt_byt' {B : Nat} {w : World} {ta : Option Addr} {l : Nat} {tx : Nat → Nat} (h : Txt B w ta l tx) : Byt w ta l tx ∧ (ta = none → l = 0 ∧ l = 0) ∧ ∀ b off, ta = some ⟨b, off, none⟩ → B ≤ b := by
  rcases h with ⟨rfl, rfl⟩ | ⟨t, rfl, hb, hr⟩
  · exact ⟨fun j hj => absurd hj (Nat.not_lt_zero _), fun _ => ⟨rfl, rfl⟩, fun b off e => by cases e⟩
  · exact ⟨Byt.of_row hr, (fun e => by cases e), (fun b off e => by cases e; exact hb)⟩
theorem fix_raw (z : Nat → Nat) (n k at' bad : Nat) : fixAns z n k at' bad = (be (fun j => z (at' + j)) (rawAns n k at' bad).1, (rawAns n k at' bad).2.2.1, (rawAns n k at' bad).2.2.2) := by
  unfold fixAns rawAns
  by_cases hb : bad ≠ 0
  · rw [if_pos hb, if_pos hb]; rfl
  · rw [if_neg hb, if_neg hb, if_neg (show ¬ ((k : Int) < 0) by omega), Int.toNat_natCast]
    unfold rlook
    by_cases hs : n - at' < k
    · rw [if_pos hs, if_pos hs]; rfl
    · rw [if_neg hs, if_neg hs]
theorem raw_from (n : Nat) (k : Int) (at' bad : Nat) : (rawAns n k at' bad).2.1 = at' := by
  unfold rawAns
  split
  · rfl
  · split <;> rfl
theorem raw_le (n k at' bad : Nat) : (rawAns n k at' bad).1 ≤ k := by
  unfold rawAns
  split
  · exact Nat.zero_le _
  · rw [if_neg (by omega), Int.toNat_natCast]
    unfold rlook
    split
    · exact Nat.zero_le _
    · exact Nat.le_refl _

set_option maxHeartbeats 800000 in
theorem eyeFixed (eb hb n at' bad k : Nat) (z : Nat → Nat) (w : World) (h : IsE w eb hb n z at' bad) (hk : k ≤ 8) :
    Calls Tryd.prog 68 #[.pointer (some ⟨eb, 0, none⟩), .int .i64 k] w fun e w' => e = .returned (.int .u64 ((fixAns z n k at' bad).1 : Nat)) ∧ But eb w w' ∧ IsE w' eb hb n z (fixAns z n k at' bad).2.1 (fixAns z n k at' bad).2.2 := by
  have hr := eyeRaw eb hb n at' bad k z w h (by omega)
  have hkl := raw_le n k at' bad
  rw [fix_raw]
  rw [raw_from] at hr
  have hz := h.byte
  generalize rawAns n k at' bad = V at *
  obtain ⟨l, fr, at2, bad2⟩ := V
  replace hkl : l ≤ k := hkl
  go_enter Tryd.func68, Tryd.ntmps68
  go_wp2_with fail
  refine hr.mono ?_
  rintro e w1 ⟨⟨ta, rfl, htx⟩, hB, hI⟩
  obtain ⟨hy, _, _⟩ := txt_byt' htx
  clear hr htx
  go_wp2_with fail
  go_loopg [6, 7] l (fun q s6 s7 wx => ∃ i : Nat, i ≤ l ∧ q = l - i ∧ s6 = .int .u64 (be (fun j => z (at' + j)) i : Nat) ∧ s7 = .int .i64 i ∧ wx = w1)
  case atStart => exact ⟨0, Nat.zero_le _, rfl, rfl, rfl, rfl⟩
  case round =>
    obtain ⟨i, hi, rfl, rfl, rfl, hwx⟩ := hrel
    subst hwx
    by_cases hlt : i < l
    · have hlz : (i : Int) < (l : Int) := by omega
      obtain ⟨b, off, rfl, hc0⟩ := hy i hlt
      have hc : wr.cell? ⟨b, off + i, none⟩ = some (.int .u8 (z (at' + i) : Nat)) := hc0
      have b1 := be_lt64 (fun j => z (at' + j)) (fun j => hz _) (i + 1) (by omega)
      have e1 : be (fun j => z (at' + j)) (i + 1) = be (fun j => z (at' + j)) i * 256 + z (at' + i) := rfl
      have b2 : be (fun j => z (at' + j)) i * 256 < 18446744073709551616 := by omega
      have b3 := hz (at' + i)
      have hsum : ((be (fun j => z (at' + j)) i : Nat) : Int) * 256 + ((z (at' + i) : Nat) : Int) = ((be (fun j => z (at' + j)) (i + 1) : Nat) : Int) := by omega
      clear hy e1 hc0
      generalize hN1 : be (fun j => z (at' + j)) (i + 1) = N1 at *
      generalize be (fun j => z (at' + j)) i = N0 at *
      generalize z (at' + i) = c at *
      go_wp2_with fail
      go_roundg (l - (i + 1))
      case measure => go_light; omega
      case rel => go_light; exact ⟨i + 1, by omega, rfl, by rw [hN1], by simp, rfl⟩
    · obtain rfl : i = l := by omega
      go_wp2_with fail
      go_ret
      exact ⟨rfl, hB, hI⟩

theorem eyeU8 (eb hb n at' bad : Nat) (z : Nat → Nat) (w : World) (h : IsE w eb hb n z at' bad) :
    Calls Tryd.prog 53 #[.pointer (some ⟨eb, 0, none⟩)] w fun e w' => e = .returned (.int .u8 ((fixAns z n 1 at' bad).1 : Nat)) ∧ But eb w w' ∧ IsE w' eb hb n z (fixAns z n 1 at' bad).2.1 (fixAns z n 1 at' bad).2.2 := by
  have hr := eyeFixed eb hb n at' bad 1 z w h (by decide)
  have hlt : (fixAns z n 1 at' bad).1 < 256 := by
    rw [fix_raw]
    exact Nat.lt_of_lt_of_le (be_lt _ (fun j => h.byte _) _) (Nat.pow_le_pow_right (n := 256) (by decide) (raw_le n 1 at' bad))
  generalize fixAns z n 1 at' bad = V at *
  obtain ⟨A, a2, b2⟩ := V
  go_enter Tryd.func53, Tryd.ntmps53
  go_wp2_with fail
  refine hr.mono ?_
  rintro e w1 ⟨rfl, hB, hI⟩
  go_wp2
  go_ret
  exact ⟨rfl, hB, hI⟩

theorem eyeU32 (eb hb n at' bad : Nat) (z : Nat → Nat) (w : World) (h : IsE w eb hb n z at' bad) :
    Calls Tryd.prog 54 #[.pointer (some ⟨eb, 0, none⟩)] w fun e w' => e = .returned (.int .u32 ((fixAns z n 4 at' bad).1 : Nat)) ∧ But eb w w' ∧ IsE w' eb hb n z (fixAns z n 4 at' bad).2.1 (fixAns z n 4 at' bad).2.2 := by
  have hr := eyeFixed eb hb n at' bad 4 z w h (by decide)
  have hlt : (fixAns z n 4 at' bad).1 < 4294967296 := by
    rw [fix_raw]
    exact Nat.lt_of_lt_of_le (be_lt _ (fun j => h.byte _) _) (Nat.pow_le_pow_right (n := 256) (by decide) (raw_le n 4 at' bad))
  generalize fixAns z n 4 at' bad = V at *
  obtain ⟨A, a2, b2⟩ := V
  go_enter Tryd.func54, Tryd.ntmps54
  go_wp2_with fail
  refine hr.mono ?_
  rintro e w1 ⟨rfl, hB, hI⟩
  go_wp2
  go_ret
  exact ⟨rfl, hB, hI⟩

theorem eyeU64 (eb hb n at' bad : Nat) (z : Nat → Nat) (w : World) (h : IsE w eb hb n z at' bad) :
    Calls Tryd.prog 55 #[.pointer (some ⟨eb, 0, none⟩)] w fun e w' => e = .returned (.int .u64 ((fixAns z n 8 at' bad).1 : Nat)) ∧ But eb w w' ∧ IsE w' eb hb n z (fixAns z n 8 at' bad).2.1 (fixAns z n 8 at' bad).2.2 := by
  have hr := eyeFixed eb hb n at' bad 8 z w h (by decide)
  have hlt : (fixAns z n 8 at' bad).1 < 18446744073709551616 := by
    rw [fix_raw]
    exact Nat.lt_of_lt_of_le (be_lt _ (fun j => h.byte _) _) (Nat.pow_le_pow_right (n := 256) (by decide) (raw_le n 8 at' bad))
  generalize fixAns z n 8 at' bad = V at *
  obtain ⟨A, a2, b2⟩ := V
  go_enter Tryd.func55, Tryd.ntmps55
  go_wp2_with fail
  refine hr.mono ?_
  rintro e w1 ⟨rfl, hB, hI⟩
  go_wp2
  go_ret
  exact ⟨rfl, hB, hI⟩

theorem eyeEnd (rb hb n at' bad : Nat) (z : Nat → Nat) (w : World) (h : IsE w rb hb n z at' bad) :
    Calls Tryd.prog 28 #[.pointer (some ⟨rb, 0, none⟩)] w fun e w' => e = .returned (.int .i64 ((if bad = 0 ∧ at' < n then 13 else bad : Nat) : Int)) ∧ ∃ m, w' = w.drewN m := by
  have c2 := h.c2
  by_cases hbad : bad = 0
  · subst hbad
    have hlf := eyeLeft rb hb n at' 0 z w h
    by_cases hlt : at' < n
    · rw [if_pos ⟨rfl, hlt⟩]
      have hp : (0 : Int) < ((n - at' : Nat) : Int) := by omega
      generalize n - at' = d at *
      go_enter Tryd.func28, Tryd.ntmps28
      go_wp2_with fail
      refine hlf.mono ?_
      rintro e w1 ⟨rfl, m, rfl⟩
      go_wp2
      go_ret
      exact ⟨rfl, m, rfl⟩
    · rw [if_neg (by omega)]
      have hp : ((n - at' : Nat) : Int) = 0 := by omega
      rw [hp] at hlf
      go_enter Tryd.func28, Tryd.ntmps28
      go_wp2_with fail
      refine hlf.mono ?_
      rintro e w1 ⟨rfl, m, rfl⟩
      have c3 := (h.since (since_drewN' (World.Since.refl _ _) m)).c2
      go_wp2
      go_ret
      exact ⟨rfl, m, rfl⟩
  · rw [if_neg (by omega)]
    have hq : ((bad : Int) == 0) = false := by simp; omega
    go_enter Tryd.func28, Tryd.ntmps28
    go_wp2
    go_ret
    exact ⟨rfl, 0, rfl⟩

/-- The first place of the first ten that has a byte below 128. -/
def lastAt (z : Nat → Nat) (m : Nat) : Nat → Nat → Option Nat
  | 0, _ => none
  | f + 1, i => if i < m then (if z i < 128 then some i else lastAt z m f (i + 1)) else none

set_option maxHeartbeats 1600000 in
theorem eyeLast (eb hb n at' bad : Nat) (z : Nat → Nat) (w : World) (h : IsE w eb hb n z at' bad) (R : Option Nat) (hR : lastAt (fun j => z (at' + j)) (n - at') 10 0 = R) :
    Calls Tryd.prog 69 #[.pointer (some ⟨eb, 0, none⟩)] w fun e w' => e = .returned (.int .i64 (match R with | none => -1 | some i => ((at' + i : Nat) : Int))) ∧ w.Since w.heap.size w' := by
  have hle := h.le
  have hroom := h.room
  go_enter Tryd.func69, Tryd.ntmps69
  go_wp2_with fail
  go_loopg [3] 10 (fun q s3 wx => ∃ i : Nat, i ≤ 10 ∧ q = 10 - i ∧ s3 = .int .i64 i ∧ w.Since w.heap.size wx ∧ lastAt (fun j => z (at' + j)) (n - at') (10 - i) i = R)
  case atStart => exact ⟨0, by omega, rfl, rfl, World.Since.refl _ _, hR⟩
  case round =>
    obtain ⟨i, hi, rfl, rfl, hs, hv⟩ := hrel
    have h1 := h.since hs
    have c0 := h1.c0
    have c1 := h1.c1
    by_cases h10 : i = 10
    · subst h10
      obtain rfl : none = R := hv
      go_wp2_with fail
      go_quiet (fail)
      go_wp2_with fail
      go_ret
      exact ⟨rfl, since_drewN' hs _⟩
    · obtain ⟨f, hf⟩ : ∃ f, 10 - i = f + 1 := ⟨9 - i, by omega⟩
      rw [hf] at hv
      unfold lastAt at hv
      have hi10 : (i : Int) < 10 := by omega
      obtain ⟨E, hE, hsum⟩ : ∃ E : Nat, at' + i = E ∧ (at' : Int) + (i : Int) = (E : Int) := ⟨at' + i, rfl, by omega⟩
      have hwE : IntKind.i64.wrap (E : Int) = (E : Int) := by rw [IntKind.wrap_i64]; omega
      have hwS : IntKind.i64.wrap ((at' : Int) + (i : Int)) = (E : Int) := by rw [hsum]; exact hwE
      have hf' : f = 9 - i := by omega
      by_cases hin : i < n - at'
      · rw [if_pos hin] at hv
        have hlt : (E : Int) < (n : Int) := by omega
        have cz : wr.cell? ⟨hb, E, none⟩ = some (.int .u8 (z E : Nat)) := h1.row.cell (i := E) (by omega)
        have hv1 : (if z E < 128 then some i else lastAt (fun j => z (at' + j)) (n - at') f (i + 1)) = R := by rw [← hE]; exact hv
        clear hv hf
        go_wp2_with fail
        go_quiet (fail)
        have hs2 := since_drewN' hs nq
        have h2 := h.since hs2
        have c0' := h2.c0
        have c1' := h2.c1
        have cz' : (wr.drewN nq).cell? ⟨hb, E, none⟩ = some (.int .u8 (z E : Nat)) := h2.row.cell (i := E) (by omega)
        generalize wr.drewN nq = wq at *
        clear c0 c1 cz h1
        by_cases hz : z E < 128
        · rw [if_pos hz] at hv1
          subst hv1
          have hz' : (z E : Int) < 128 := by omega
          go_wp2_with fail
          go_quiet (fail)
          have hs3 := since_drewN' hs2 nq
          have c1'' := (h.since hs3).c1
          generalize wq.drewN nq = wq2 at *
          go_wp2_with fail
          go_ret
          exact ⟨ret_int (by first | (simp; omega) | simp), hs3⟩
        · rw [if_neg hz] at hv1
          have hz' : ¬ ((z E : Int) < 128) := by omega
          go_wp2_with fail
          go_quiet (fail)
          have hs3 := since_drewN' hs2 nq
          generalize wq.drewN nq = wq2 at *
          go_wp2_with fail
          go_roundg (10 - (i + 1))
          case measure => go_light; omega
          case rel => go_light; exact ⟨i + 1, by omega, rfl, by simp, hs3, by rw [show 10 - (i + 1) = f by omega]; exact hv1⟩
      · rw [if_neg hin] at hv
        subst hv
        have hlt : ¬ ((E : Int) < (n : Int)) := by omega
        clear hf
        go_wp2_with fail
        go_quiet (fail)
        have hs2 := since_drewN' hs nq
        generalize wr.drewN nq = wq at *
        go_wp2_with fail
        go_ret
        exact ⟨rfl, hs2⟩
end Go.Proofs.YtbmdnlomhnodeabDoor
