/- The walks of tallyref1's power, mirrored and Sum. -/
import Derived.Test.YthoeehgnkolgpaaDoorSum2
import Derived.Test.YthoeehgnkolgpaaDoorMirror
import Derived.Deep.LoopGhost
import Derived.Deep.OwnRows
import Derived.Deep.Cut
import Derived.Deep.Light
import Derived.Deep.CutRange
import Derived.CellFam
import Derived.BigGuard
import Derived.BigQuiet
import Derived.BigRegion
import Derived.Deep.RegionWith
import Derived.Deep.QuietTactic
namespace Go.Proofs.YthoeehgnkolgpaaDoor
open Go.RowKit

/-- A slice's cells hold these bytes. -/
def Byt (w : World) (a : Option Addr) (len : Nat) (x : Nat → Nat) : Prop := ∀ j, j < len → ∃ b off, a = some ⟨b, off, none⟩ ∧ w.cell? ⟨b, off + j, none⟩ = some (.int .u8 (x j : Nat))

theorem power_any (k Q : Nat) (w : World) (hk : k < 8) (hQ : Hid (Q = 2 ^ k)) : Calls Tryd.prog 62 #[.int .i64 k] w fun e w' => e = .returned (.int .u32 (Q : Nat)) ∧ w' = w := by
  go_enter Tryd.func62, Tryd.ntmps62
  go_wp2
  go_loop [3, 4] (fun n i => ∃ j P : Nat, j ≤ k ∧ i = .int .i64 j ∧ n = .int .u32 P ∧ P < 256 ∧ P = 2 ^ j) (fun _ i => k - (intOf i).toNat)
  case atStart => exact ⟨0, 1, Nat.zero_le _, rfl, rfl, by decide, rfl⟩
  case round =>
    obtain ⟨j, P, hj, rfl, rfl, hb, hP⟩ := hrel
    have HP := hide hP
    clear hP
    by_cases hlt : j < k
    · have HE : Hid (P * 2 = 2 ^ (j + 1)) := by show _ = _; rw [Nat.pow_succ, ← unhide HP]
      have HB : Hid (P * 2 < 256) := by
        show _ < _
        rw [unhide HE]
        have : 2 ^ (j + 1) < 2 ^ 8 := Nat.pow_lt_pow_right (by decide) (by omega)
        exact this
      go_wp2
      go_round
      case rel => exact ⟨j + 1, P * 2, by omega, by go_num, by go_num, unhide HB, unhide HE⟩
      case measure => simp [intOf]; omega
    · have HF : Hid (Q = P) := by show _ = _; rw [unhide HP, unhide hQ, show j = k by omega]
      go_wp2
      go_ret
      exact ⟨by rw [unhide HF]; rfl, rfl⟩
theorem mirrored_any (n : Nat) (w : World) (hn : n < 4294967296) : Calls Tryd.prog 63 #[.int .u32 n] w fun e w' => e = .returned (.int .u32 (Crc.mir n : Nat)) ∧ w' = w := by
  go_enter Tryd.func63, Tryd.ntmps63
  go_wp2
  go_loop [0, 3, 4] (fun a m i => ∃ (j A M : Nat), j ≤ 32 ∧ i = .int .i64 j ∧ a = .int .u32 A ∧ m = .int .u32 M ∧ A < 4294967296 ∧ M < 2 ^ j ∧ Crc.mirGo (32 - j) A M = Crc.mir n) (fun _ _ i => 32 - (intOf i).toNat)
  case atStart => exact ⟨0, n, 0, by omega, rfl, rfl, rfl, hn, by decide, rfl⟩
  case round =>
    obtain ⟨j, A, M, hj, rfl, rfl, rfl, hA, hM, hgo⟩ := hrel
    have HG := hide hgo
    clear hgo
    by_cases hlt : j < 32
    · have hb : M < 2147483648 := by
        have : 2 ^ j ≤ 2 ^ 31 := Nat.pow_le_pow_right (by decide) (by omega)
        exact Nat.lt_of_lt_of_le hM this
      have HM : Hid (M * 2 + A % 2 < 2 ^ (j + 1)) := by show _ < _; rw [Nat.pow_succ]; omega
      clear hM
      go_wp2
      go_round
      case rel => exact ⟨j + 1, A / 2, M * 2 + A % 2, by omega, by go_num, by go_num, by go_num, by omega, unhide HM, by have h := unhide HG; rw [show 32 - j = (32 - (j + 1)) + 1 by omega] at h; exact h⟩
      case measure => simp [intOf]; omega
    · obtain rfl : j = 32 := by omega
      clear hM
      go_wp2
      go_ret
      exact ⟨by have h := unhide HG; rw [← h]; rfl, rfl⟩

set_option maxHeartbeats 1600000 in
theorem refsum_any (a : Option Addr) (len cap : Nat) (x : Nat → Nat) (w : World) (hmax : len ≤ 281474976710656) (hc : Byt w a len x) (hr : ∀ j, x j < 256) :
    Calls Tryd.prog 47 #[.slice a len cap] w fun e w' => e = .returned (.int .u32 (Crc.sum ((List.range len).map x) : Nat)) ∧ ∃ m, w' = w.drewN m := by
  go_enter Tryd.func47, Tryd.ntmps47
  go_wp2
  go_loopg [3, 4] (len + 4) (fun g s3 s4 wx => ∃ (i R m : Nat), i ≤ len + 4 ∧ g = len + 4 - i ∧ s4 = .int .i64 i ∧ s3 = .int .u32 R ∧ R < 4294967296 ∧ Crc.mir R = Crc.ms (fun q => Crc.bitOf len x q ^^^ Crc.inv q) (8 * i) ∧ wx = w.drewN m)
  case atStart => exact ⟨0, 0, 0, Nat.zero_le _, rfl, rfl, rfl, by decide, (by decide +kernel : Crc.mir 0 = 0), rfl⟩
  case round =>
    obtain ⟨i, R, m, hi, rfl, rfl, rfl, hR, hms, rfl⟩ := hrel
    have HM := hide hms
    clear hms
    by_cases hlt : i < len + 4
    · have hiz : (i : Int) < (len : Int) + 4 := by omega
      go_wp2_with fail
      go_loopg [3, 5] 8 (fun g s3 s5 wx => ∃ (k R m : Nat), k ≤ 8 ∧ g = 8 - k ∧ s5 = .int .i64 k ∧ s3 = .int .u32 R ∧ R < 4294967296 ∧ Crc.mir R = Crc.ms (fun q => Crc.bitOf len x q ^^^ Crc.inv q) (8 * i + k) ∧ wx = w.drewN m)
      case atStart => exact ⟨0, R, m, Nat.zero_le _, rfl, rfl, rfl, hR, unhide HM, rfl⟩
      case round =>
        obtain ⟨k, R', m', hk, rfl, rfl, rfl, hR', hms', rfl⟩ := hrel
        have HM' := hide hms'
        clear hms'
        by_cases hk8 : k < 8
        · go_upto_if 22 with fail
          go_cut [6] from 15 to 45 (fun s6 wx => s6 = .int .u32 (Crc.bitOf len x (8 * i + k) : Nat) ∧ ∃ m, wx = w.drewN m)
          case first =>
            by_cases hil : i < len
            · obtain ⟨b, off, rfl, hcell⟩ := hc i hil
              have hilz : (i : Int) < (len : Int) := by omega
              have hbo : Crc.bitOf len x (8 * i + k) = x i / 2 ^ k % 2 := by unfold Crc.bitOf; rw [show (8 * i + k) / 8 = i by omega, show (8 * i + k) % 8 = k by omega, if_pos hil]
              have hpk : 0 < 2 ^ k := Nat.two_pow_pos k
              have hp8 : 2 ^ k < 256 := by
                have : 2 ^ k < 2 ^ 8 := Nat.pow_lt_pow_right (by decide) hk8
                exact this
              have hxi := hr i
              obtain ⟨P, hPe⟩ : ∃ P, P = 2 ^ k := ⟨_, rfl⟩
              rw [← hPe] at hbo hpk hp8
              have Hbo := hide hbo
              have hpw := fun W => power_any k P W hk8 hPe
              have HW := hide hpw
              clear hbo hpw hPe
              have hP0 : ((P : Int) == 0) = false := by simp; omega
              have hcd : (w.drewN m').cell? ⟨b, off + i, none⟩ = some (.int .u8 (x i : Nat)) := hcell
              have HD : Hid (∀ n, (w.drewN m').drewN n = w.drewN (m' + n)) := fun n => World.drewN_drewN _ _ _
              generalize w.drewN m' = wd at *
              clear hcell
              go_wp2_with fail
              go_quiet ((go_at_call 62; exact Calls.quiet_of_same ((unhide HW) _)))
              go_wp2_with fail
              go_meet
              case rel => go_light; exact ⟨by rw [unhide Hbo]; go_num, _, (unhide HD) nq⟩
            · have hbo : Crc.bitOf len x (8 * i + k) = 0 := by unfold Crc.bitOf; rw [if_neg (by omega)]
              have hilz : ¬ (i : Int) < (len : Int) := by omega
              have Hbo := hide hbo
              clear hbo
              go_wp2_with fail
              go_meet
              case rel => go_light; exact ⟨by rw [unhide Hbo]; rfl, m', rfl⟩
          case rest =>
            obtain ⟨rfl, m2, rfl⟩ := hcut
            have hbl := Crc.bitOf_lt len x (8 * i + k)
            go_upto_if 33 with fail
            go_cut [6] from 15 to 45 (fun s6 wx => s6 = .int .u32 (Crc.bitOf len x (8 * i + k) ^^^ Crc.inv (8 * i + k) : Nat) ∧ wx = w.drewN m2)
            case first =>
              by_cases hi4 : i < 4
              · have hinv : Crc.inv (8 * i + k) = 1 := by unfold Crc.inv; rw [if_pos (by omega)]
                have Hb : Hid (Crc.bitOf len x (8 * i + k) ^^^ Crc.inv (8 * i + k) = 1 - Crc.bitOf len x (8 * i + k)) := by
                  show _ = _
                  rw [hinv]
                  have hx1 : ∀ b : Nat, b < 2 → b ^^^ 1 = 1 - b := by decide
                  exact hx1 _ hbl
                clear hinv
                go_wp2_with fail
                go_meet
                case rel => go_light; exact ⟨by rw [unhide Hb]; go_num, rfl⟩
              · have hinv : Crc.inv (8 * i + k) = 0 := by unfold Crc.inv; rw [if_neg (by omega)]
                have Hb : Hid (Crc.bitOf len x (8 * i + k) ^^^ Crc.inv (8 * i + k) = Crc.bitOf len x (8 * i + k)) := by show _ = _; rw [hinv, Nat.xor_zero]
                clear hinv
                go_wp2_with fail
                go_meet
                case rel => go_light; exact ⟨by rw [unhide Hb], rfl⟩
            case rest =>
              obtain ⟨rfl, rfl⟩ := hcut
              have hbl2 : Crc.bitOf len x (8 * i + k) ^^^ Crc.inv (8 * i + k) < 2 := Nat.xor_lt_two_pow (n := 1) hbl (Crc.inv_lt _)
              have hnext : Hid (Crc.mir (Crc.mstep R' (Crc.bitOf len x (8 * i + k) ^^^ Crc.inv (8 * i + k))) = Crc.ms (fun q => Crc.bitOf len x q ^^^ Crc.inv q) (8 * i + (k + 1))) := by
                show _ = _
                rw [Crc.mir_step R' _ hR' hbl2, unhide HM']; rfl
              clear hbl
              generalize Crc.bitOf len x (8 * i + k) ^^^ Crc.inv (8 * i + k) = B at *
              by_cases htop : R' / 2147483648 = 1
              · have hms : Crc.mstep R' B = ((2 * R' + B) % 4294967296) ^^^ 79764919 := by unfold Crc.mstep; rw [if_pos htop]
                have htz : ((R' : Int) / 2147483648 == 1) = true := by simp; omega
                have hxr : bits .xor .u32 ((R' : Int) * 2 % 4294967296 + (B : Int)) 79764919 = ((Crc.mstep R' B : Nat) : Int) := by
                  rw [hms, show ((R' : Int) * 2 % 4294967296 + (B : Int)) = (((2 * R' + B) % 4294967296 : Nat) : Int) by omega]
                  exact u32_xor_nat _ 79764919 (Nat.mod_lt _ (by decide)) (by decide)
                have hlt3 := Crc.mstep_lt R' B
                clear hms
                generalize Crc.mstep R' B = M at *
                go_wp2_with fail
                go_roundg (8 - (k + 1))
                case measure => go_light; omega
                case rel => go_light; exact ⟨k + 1, M, m2, by omega, rfl, by simp, rfl, hlt3, unhide hnext, rfl⟩
              · have hms : Crc.mstep R' B = ((2 * R' + B) % 4294967296) := by unfold Crc.mstep; rw [if_neg htop, Nat.xor_zero]
                have htz : ((R' : Int) / 2147483648 == 1) = false := by simp; omega
                have hlt3 := Crc.mstep_lt R' B
                have HMS := hide hms
                clear hms
                go_wp2_with fail
                go_roundg (8 - (k + 1))
                case measure => go_light; omega
                case rel => go_light; exact ⟨k + 1, Crc.mstep R' B, m2, by omega, rfl, by simp, by rw [unhide HMS, show (2 * R' + B) % 4294967296 = R' * 2 + B by omega]; go_num, hlt3, unhide hnext, rfl⟩
        · obtain rfl : k = 8 := by omega
          go_wp2_with fail
          go_roundg (len + 4 - (i + 1))
          case measure => go_light; omega
          case rel => go_light; exact ⟨i + 1, R', m', by omega, rfl, by simp, rfl, hR', unhide HM', rfl⟩
    · obtain rfl : i = len + 4 := by omega
      have hfin := unhide HM
      rw [Crc.ms_sum len x hr] at hfin
      have HF : Hid (Crc.mir R = Crc.fold 4294967295 ((List.range len).map x)) := hfin
      have hfl : Crc.fold 4294967295 ((List.range len).map x) < 4294967296 := Crc.fold_lt _ _ (by decide) (fun c hc => by obtain ⟨j, _, rfl⟩ := List.mem_map.1 hc; exact hr j)
      clear hfin
      go_wp2_with fail
      refine (mirrored_any R _ hR).mono ?_
      rintro e w' ⟨rfl, rfl⟩
      rw [unhide HF]
      go_wp2
      go_ret
      exact ⟨ret_u32 (flip_sum _ hfl), m, rfl⟩
end Go.Proofs.YthoeehgnkolgpaaDoor
