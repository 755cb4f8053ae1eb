/- The walk of code.Sum: on any bytes it answers the check sum that the plain text reckons, and leaves the world as it is. -/
import Derived.Test.YthoeehgnkolgpaaDoorTxt1
import Derived.Test.YthoeehgnkolgpaaDoorCrc
import Derived.WalkKit
import Derived.Deep.OwnRows
import Derived.Laws.BitsAllLaws
namespace Go.Proofs.YthoeehgnkolgpaaDoor
open Go.RowKit

/-- What holds below a number holds below every smaller one. -/
theorem since_mono {B B' : Nat} {w w' : World} (h : w.Since B w') (hB : B' ≤ B) : w.Since B' w' := ⟨h.os, h.tape, h.output, h.size, fun k hk => h.block k (by omega)⟩

def halves : Nat → Nat → Nat
  | 0, s => s
  | j + 1, s => Crc.half (halves j s)

theorem halves_lt (j s : Nat) (h : s < 4294967296) : halves j s < 4294967296 := by
  induction j with
  | zero => exact h
  | succ j ih => exact Crc.half_lt _ ih

theorem ret_u32 {a b : Int} (h : a = b) : Ending.returned (.int .u32 a) = .returned (.int .u32 b) := by rw [h]
theorem flip_sum (l : List Nat) (h : Crc.fold 4294967295 l < 4294967296) : bits .xor .u32 IntKind.u32.max (Crc.fold 4294967295 l : Nat) = ((Crc.sum l : Nat) : Int) := by
  have e : IntKind.u32.max = ((4294967295 : Nat) : Int) := by decide
  rw [e, u32_xor_nat _ _ (by decide) h, Nat.xor_comm]; rfl

theorem sum_any (b off len cap : Nat) (zs : List Nat) (w : World) (hz : zs.length = len) (hmax : len ≤ 9223372036854775807)
    (hc : ∀ j, j < len → w.cell? ⟨b, off + j, none⟩ = some (.int .u8 (zs.getD j 0 : Nat))) (hr : ∀ j : Nat, zs.getD j 0 < 256)
    (ht : ∀ i, i < 16 → w.cell? ⟨1, i, none⟩ = some (.int .u32 (Crc.T i : Nat))) :
    Calls Tryd.prog 38 #[.slice (some ⟨b, off, none⟩) len cap] w fun e w' => e = .returned (.int .u32 (Crc.sum zs : Nat)) ∧ w' = w := by
  go_enter Tryd.func38, Tryd.ntmps38
  go_wp2
  go_loop [3, 8] (fun t i => ∃ (k : Nat), k ≤ len ∧ i = .int .i64 k ∧ t = .int .u32 (Crc.fold 4294967295 (zs.take k) : Nat)) (fun _ i => len - (intOf i).toNat)
  case atStart => exact ⟨0, by omega, rfl, rfl⟩
  case round =>
    obtain ⟨k, hk, rfl, rfl⟩ := hrel
    have hS : Crc.fold 4294967295 (zs.take k) < 4294967296 := Crc.fold_lt _ _ (by decide) (fun c hc => by
      obtain ⟨j, hj, rfl⟩ := List.mem_iff_getElem.1 (List.mem_of_mem_take hc)
      have := hr j; rwa [List.getD_eq_getElem?_getD, List.getElem?_eq_getElem hj] at this)
    by_cases hlt : k < len
    · have hcell : w.cell? ⟨b, off + k, none⟩ = some (.int .u8 (zs.getD k 0 : Nat)) := hc k hlt
      have hrk := hr k
      have HS : Hid (Crc.fold 4294967295 (zs.take (k + 1)) = Crc.byte (Crc.fold 4294967295 (zs.take k)) (zs.getD k 0)) := by
        show _ = _
        rw [List.take_succ_eq_append_getElem (by omega), Crc.fold_snoc]; simp [List.getD, hz, hlt]
      generalize Crc.fold 4294967295 (zs.take k) = S at *
      generalize zs.getD k 0 = c at *
      clear hc hr
      have hx : bits .xor .u32 (S : Int) (c : Int) = ((S ^^^ c : Nat) : Int) := u32_xor_nat S c hS (by omega)
      have hM : S ^^^ c < 4294967296 := Nat.xor_lt_two_pow (n := 32) hS (by omega)
      go_wp2
      have HB : Hid (Crc.byte S c = halves 2 (S ^^^ c)) := rfl
      generalize S ^^^ c = X at *
      clear hx
      go_loop [3, 16] (fun t i => ∃ (j : Nat), j ≤ 2 ∧ i = .int .i64 j ∧ t = .int .u32 (halves j X : Nat)) (fun _ i => 2 - (intOf i).toNat)
      case atStart => exact ⟨0, by omega, rfl, rfl⟩
      case round =>
        obtain ⟨j, hj, rfl, rfl⟩ := hrel
        have hH : halves j X < 4294967296 := halves_lt j X hM
        by_cases hj2 : j < 2
        · have HN : Hid (halves (j + 1) X = Crc.half (halves j X)) := rfl
          generalize halves j X = M at *
          have ha : bits .and .u32 (M : Int) 15 = ((M % 16 : Nat) : Int) := by
            have := u32_and_nat M 15 hH (by decide); rw [nat_mask4] at this; exact this
          have hT := ht (M % 16) (Nat.mod_lt _ (by decide))
          have hl := Crc.T_lt (M % 16)
          have hy : bits .xor .u32 ((M : Int) / 16) ((Crc.T (M % 16) : Nat) : Int) = ((Crc.half M : Nat) : Int) := by
            rw [show ((M : Int) / 16) = ((M / 16 : Nat) : Int) by omega]; exact u32_xor_nat _ _ (by omega) hl
          generalize Crc.T (M % 16) = TT at *
          go_wp2
          go_round
          case rel => exact ⟨j + 1, by omega, by go_num, by rw [HN.out]⟩
          case measure => simp [intOf]; omega
        · go_wp2
          go_round
          case rel => exact ⟨k + 1, by omega, by go_num, by rw [HS.out, HB.out, show j = 2 by omega]⟩
          case measure => simp [intOf]; omega
    · go_wp2
      go_ret
      have e : zs.take k = zs := List.take_of_length_le (by omega)
      exact ⟨ret_u32 (by rw [e]; exact flip_sum zs (e ▸ hS)), rfl⟩

/-- A slice of length 0, a nil one too. -/
theorem sum_empty (a : Option Addr) (cap : Nat) (w : World) :
    Calls Tryd.prog 38 #[.slice a 0 cap] w fun e w' => e = .returned (.int .u32 (Crc.sum [] : Nat)) ∧ w' = w := by
  go_enter Tryd.func38, Tryd.ntmps38
  go_wp2
  refine wp_loop_rounds 1 ?_
  rw [rounds_succ]
  go_wp2
  go_ret
  exact ⟨ret_u32 (flip_sum [] (by decide)), rfl⟩

/-- Both at once. -/
theorem sum_all (a : Option Addr) (len cap : Nat) (zs : List Nat) (w : World) (hz : zs.length = len) (hmax : len ≤ 9223372036854775807)
    (hc : ∀ j, j < len → ∃ b off, a = some ⟨b, off, none⟩ ∧ w.cell? ⟨b, off + j, none⟩ = some (.int .u8 (zs.getD j 0 : Nat))) (hr : ∀ j : Nat, zs.getD j 0 < 256)
    (ht : ∀ i, i < 16 → w.cell? ⟨1, i, none⟩ = some (.int .u32 (Crc.T i : Nat))) :
    Calls Tryd.prog 38 #[.slice a len cap] w fun e w' => e = .returned (.int .u32 (Crc.sum zs : Nat)) ∧ w' = w := by
  by_cases h0 : len = 0
  · subst h0
    obtain rfl := List.eq_nil_of_length_eq_zero hz
    exact sum_empty a cap w
  · obtain ⟨b, off, rfl, _⟩ := hc 0 (by omega)
    refine sum_any b off len cap zs w hz hmax (fun j hj => ?_) hr ht
    obtain ⟨b', off', e, hcell⟩ := hc j hj
    cases e; exact hcell
end Go.Proofs.YthoeehgnkolgpaaDoor
