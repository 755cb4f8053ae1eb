/- Package disk: fits, Load. -/
import Derived.Test.YtbebnjeamlmclaaD4
namespace Go.Proofs.Ytbebnjeamlmclaa
open Go.RowKit Go.Maps Go.Sort
set_option maxRecDepth 100000
set_option maxRecDepth 100000

/-- The first n lengths together. -/
def sumL (dl : Nat → Nat) : Nat → Nat
  | 0 => 0
  | n + 1 => sumL dl n + dl n
theorem sumL_mono (dl : Nat → Nat) {i n : Nat} (h : i ≤ n) : sumL dl i ≤ sumL dl n := by
  induction n with
  | zero => obtain rfl : i = 0 := by omega
            exact Nat.le_refl _
  | succ n ih =>
    by_cases e : i = n + 1
    · subst e; exact Nat.le_refl _
    · have := ih (by omega)
      show _ ≤ sumL dl n + dl n
      omega

set_option maxHeartbeats 1600000 in
theorem fits_any (a : Option Addr) (n c : Nat) (nm : Nat → ByteArray) (dl : Nat → Nat) (dx : Nat → Nat → Nat) (room : Nat) (w : World) (h : Img w a n nm dl dx) (hn : n ≤ 140737488355328) (hr : room ≤ 67108864) :
    Calls Try.prog 36 #[.slice a n c, .int .i64 room] w fun e w' => e = .returned (.bool (decide (sumL dl n ≤ room))) ∧ Below w.heap.size w w' := by
  obtain ⟨R, hR⟩ : ∃ R, R = decide (sumL dl n ≤ room) := ⟨_, rfl⟩
  rw [← hR]
  have HR : Hid (R = decide (sumL dl n ≤ room)) := hR
  have HI : Hid (Img w a n nm dl dx) := h
  clear hR h
  go_enter Try.func36, Try.ntmps36
  go_wp2_with fail
  go_loopg [1, 9] n (fun q s1 s9 wx => ∃ (i r : Nat), i ≤ n ∧ q = n - i ∧ s9 = .int .i64 i ∧ s1 = .int .i64 r ∧ sumL dl i + r = room ∧ Below w.heap.size w wx)
  case atStart => exact ⟨0, room, Nat.zero_le _, rfl, rfl, rfl, by simp [sumL], Below.refl _ _⟩
  case round =>
    obtain ⟨i, r, hi, rfl, rfl, rfl, hsum, hB⟩ := hrel
    by_cases hlt : i < n
    · have hz : (i : Int) < (n : Int) := by omega
      obtain ⟨b, o, rfl, h1, da, dc, h2, h3⟩ := HI.out.on hB i hlt
      have HM : Hid (sumL dl (i + 1) ≤ sumL dl n ∧ sumL dl (i + 1) = sumL dl i + dl i) := ⟨sumL_mono dl (by omega), rfl⟩
      have HB2 := hB.alloc hB.size (.cells #[.string (nm i), .slice da (dl i) dc] 28)
      have k1 : (wr.alloc (.cells #[.string (nm i), .slice da (dl i) dc] 28)).cell? ⟨wr.heap.size, 1, none⟩ = some (.slice da (dl i) dc) := World.cell?_alloc_at (w := wr) _ _ _ 1 rfl
      go_upto_region 4 with fail
      clear h1 h2 h3
      generalize wr.alloc (.cells #[.string (nm i), .slice da (dl i) dc] 28) = W2 at *
      generalize wr.heap.size = fb at *
      by_cases hle : dl i ≤ r
      · have hz2 : ¬ (r : Int) < ((dl i : Nat) : Int) := by omega
        obtain ⟨r', hr'⟩ : ∃ r' : Nat, (r : Int) - ((dl i : Nat) : Int) = (r' : Int) ∧ dl i + r' = r := ⟨r - dl i, by omega, by omega⟩
        obtain ⟨hr1, hr2⟩ := hr'
        have hw : IntKind.i64.wrap (r' : Int) = (r' : Int) := by rw [IntKind.wrap_i64]; omega
        have HS : Hid (sumL dl (i + 1) + r' = room) := by
          have := HM.out.2
          show _ = _
          omega
        clear hr2 hle hsum
        generalize dl i = d at *
        go_wp2_with fail
        go_roundg (n - (i + 1))
        case measure => go_light; omega
        case rel => go_light; exact ⟨i + 1, r', by omega, rfl, by simp, rfl, HS.out, HB2⟩
      · have hz2 : (r : Int) < ((dl i : Nat) : Int) := by omega
        have HE : Hid (R = false) := by
          have e : decide (sumL dl n ≤ room) = false := by
            have h1 := HM.out.1
            have h2 := HM.out.2
            exact decide_eq_false (by omega)
          show _ = _
          rw [HR.out, e]
        clear hle hsum
        generalize dl i = d at *
        go_wp2_with fail
        go_ret
        exact ⟨by rw [HE.out]; rfl, HB2⟩
    · obtain rfl : i = n := by omega
      have HE : Hid (R = true) := by
        have e : decide (sumL dl i ≤ room) = true := decide_eq_true (by omega)
        show _ = _
        rw [HR.out, e]
      clear hsum
      go_wp2_with fail
      go_ret
      exact ⟨by rw [HE.out]; rfl, hB⟩

/-- A disk that was just loaded. -/
structure Disk0 (w : World) (db sb nb : Nat) (room : Nat) (n : Nat) (nm : Nat → ByteArray) (fb dl : Nat → Nat) (dx : Nat → Nat → Nat) : Prop where
  row : w.rowIs db 82 10 (dkCell room sb nb)
  safe : w.ownsMap Try.prog 9 Rf sb n (nmD nm fb n)
  seen : w.ownsMap Try.prog 9 Rf nb n (nmD nm fb n)
  files : ∀ i, i < n → File0 w (fb i) (dl i) (dx i)
theorem map_on {w w' : World} {b n : Nat} {D : DataW Nat} (h : w.ownsMap Try.prog 9 Rf b n D) (hb : Below w.heap.size w w') : w'.ownsMap Try.prog 9 Rf b n D := by
  have hlt := h.lt
  obtain ⟨es, clock, hx, F, hs, hD⟩ := h
  exact ⟨es, clock, (hb.block b hlt).trans hx, F, hs, hD⟩
theorem Disk0.on {w w' : World} {db sb nb : Nat} {room : Nat} {n : Nat} {nm : Nat → ByteArray} {fb dl : Nat → Nat} {dx : Nat → Nat → Nat} (h : Disk0 w db sb nb room n nm fb dl dx) (hb : Below w.heap.size w w') : Disk0 w' db sb nb room n nm fb dl dx :=
  ⟨h.row.of_block (hb.block _ h.row.lt), map_on h.safe hb, map_on h.seen hb, fun i hi => (h.files i hi).on hb⟩
end Go.Proofs.Ytbebnjeamlmclaa
