/- Package disk: images in memory; isImage, fits. -/
import Derived.Test.YtbebnjeamlmclaaD3
import Derived.Deep.RegionHeld3
namespace Go.Proofs.Ytbebnjeamlmclaa
open Go.RowKit Go.Maps Go.Sort
set_option maxRecDepth 100000
set_option maxRecDepth 100000

/-- A list of files, as it lies in memory. -/
def Img (w : World) (a : Option Addr) (n : Nat) (nm : Nat → ByteArray) (dl : Nat → Nat) (dx : Nat → Nat → Nat) : Prop :=
  ∀ i, i < n → ∃ b o, a = some ⟨b, o, none⟩ ∧ w.cell? ⟨b, o + i * 2, none⟩ = some (.string (nm i)) ∧ ∃ da dc, w.cell? ⟨b, o + i * 2 + 1, none⟩ = some (.slice da (dl i) dc) ∧ Byt w da (dl i) (dx i)
theorem Img.on {w w' : World} {a : Option Addr} {n : Nat} {nm : Nat → ByteArray} {dl : Nat → Nat} {dx : Nat → Nat → Nat} (h : Img w a n nm dl dx) (hb : Below w.heap.size w w') : Img w' a n nm dl dx := fun i hi => by
  obtain ⟨b, o, e, h1, da, dc, h2, h3⟩ := h i hi
  exact ⟨b, o, e, cel_on hb h1, da, dc, cel_on hb h2, h3.on hb⟩

/-- Is file i a good one behind the one before? -/
def stepB (nm : Nat → ByteArray) (i : Nat) : Bool := okN (nm i) && (decide (i = 0) || Op.bytesLess (nm (i - 1)).toList (nm i).toList)
def imgB (n : Nat) (nm : Nat → ByteArray) : Bool := decide (n ≤ 64) && (List.range n).all (stepB nm)
theorem all_range_succ (f : Nat → Bool) (n : Nat) : (List.range (n + 1)).all f = ((List.range n).all f && f n) := by
  rw [List.range_succ, List.all_append]; simp
theorem all_range_false {f : Nat → Bool} {n i : Nat} (hi : i < n) (h : f i = false) : (List.range n).all f = false := by
  rw [List.all_eq_false]
  exact ⟨i, List.mem_range.2 hi, by rw [h]; simp⟩

theorem below_drewN {w w' : World} {B : Nat} (h : Below B w w') (n : Nat) : Below B w (w'.drewN n) := ⟨h.os, h.tape, h.output, h.size, h.block⟩

set_option maxHeartbeats 3200000 in
theorem isImage_any (a : Option Addr) (n c : Nat) (nm : Nat → ByteArray) (dl : Nat → Nat) (dx : Nat → Nat → Nat) (w : World) (h : Img w a n nm dl dx) :
    Calls Try.prog 35 #[.slice a n c] w fun e w' => e = .returned (.bool (imgB n nm)) ∧ Below w.heap.size w w' := by
  by_cases h64 : n ≤ 64
  · have z64 : ¬ (64 : Int) < (n : Int) := by omega
    obtain ⟨R, hR⟩ : ∃ R, R = (List.range n).all (stepB nm) := ⟨_, rfl⟩
    have e0 : imgB n nm = R := by rw [hR]; unfold imgB; simp [h64]
    rw [e0]
    have HR : Hid (R = (List.range n).all (stepB nm)) := hR
    have HI : Hid (Img w a n nm dl dx) := h
    have hfn : ∀ s W, _ := fun s W => fileName_any s W
    clear e0 hR h
    go_enter Try.func35, Try.ntmps35
    go_wp2_with fail
    go_loopg [10] n (fun q s10 wx => ∃ (i : Nat), i ≤ n ∧ q = n - i ∧ s10 = .int .i64 i ∧ (List.range i).all (stepB nm) = true ∧ Below w.heap.size w wx)
    case atStart => exact ⟨0, Nat.zero_le _, rfl, rfl, rfl, Below.refl _ _⟩
    case round =>
      obtain ⟨i, hi, rfl, rfl, hall, hB⟩ := hrel
      by_cases hlt : i < n
      · have hz : (i : Int) < (n : Int) := by omega
        have hI := HI.out.on hB
        obtain ⟨b, o, rfl, h1, da, dc, h2, h3⟩ := HI.out.on hB i hlt
        have HS : Hid ((List.range (i + 1)).all (stepB nm) = ((List.range i).all (stepB nm) && stepB nm i)) := all_range_succ _ _
        have HF : Hid (stepB nm i = false → (List.range n).all (stepB nm) = false) := fun e => all_range_false hlt e
        have HB2 := hB.alloc hB.size (.cells #[.string (nm i), .slice da (dl i) dc] 28)
        have bq : Below wr.heap.size wr (wr.alloc (.cells #[.string (nm i), .slice da (dl i) dc] 28)) := (Below.refl _ _).alloc (Nat.le_refl _) _
        have k0 : (wr.alloc (.cells #[.string (nm i), .slice da (dl i) dc] 28)).cell? ⟨wr.heap.size, 0, none⟩ = some (.string (nm i)) := World.cell?_alloc_at (w := wr) _ _ _ 0 rfl
        go_upto_region 6 with fail
        have hI2 := hI.on bq
        clear hI bq
        generalize wr.alloc (.cells #[.string (nm i), .slice da (dl i) dc] 28) = W2 at *
        generalize wr.heap.size = fb at *
        have hst : stepB nm i = (okN (nm i) && (decide (i = 0) || Op.bytesLess (nm (i - 1)).toList (nm i).toList)) := rfl
        have HST : Hid (stepB nm i = (okN (nm i) && (decide (i = 0) || Op.bytesLess (nm (i - 1)).toList (nm i).toList))) := hst
        clear hst h1 h2 h3
        cases hok : okN (nm i) with
        | false =>
          have hfi := hfn (nm i)
          rw [hok] at hfi
          have HE : Hid (stepB nm i = false) := by rw [HST.out, hok]; rfl
          clear hI2 hok HST HS hfn
          generalize nm i = s at *
          go_quiet (exact Calls.quiet_of_same (hfi _))
          go_wp2_with fail
          go_ret
          exact ⟨by rw [HR.out, HF.out HE.out]; rfl, below_drewN HB2 _⟩
        | true =>
          have hfi := hfn (nm i)
          rw [hok] at hfi
          by_cases h0 : i = 0
          · subst h0
            have HE : Hid (stepB nm 0 = true) := by rw [HST.out, hok]; rfl
            clear hI2 hok HST hfn
            generalize nm 0 = s at *
            go_quiet (exact Calls.quiet_of_same (hfi _))
            go_wp2_with fail
            go_roundg (n - (0 + 1))
            case measure => go_light; omega
            case rel => go_light; exact ⟨0 + 1, by omega, rfl, by simp, by rw [HS.out, hall, HE.out]; rfl, below_drewN HB2 _⟩
          · obtain ⟨b', o', e', hp, _⟩ := hI2 (i - 1) (by omega)
            cases e'
            have hi0 : (0 : Int) < (i : Int) := by omega
            obtain ⟨j, hj⟩ : ∃ j : Nat, i = j + 1 := ⟨i - 1, by omega⟩
            subst hj
            rw [Nat.add_sub_cancel] at hp
            have hwr : IntKind.i64.wrap (j : Int) = (j : Int) := by rw [IntKind.wrap_i64]; omega
            have hj2 : ((j : Nat) : Int) < (n : Int) := by omega
            have hlB : stepB nm (j + 1) = Op.bytesLess (nm j).toList (nm (j + 1)).toList := by rw [HST.out, hok, Nat.add_sub_cancel]; simp
            have HLB : Hid (stepB nm (j + 1) = Op.bytesLess (nm j).toList (nm (j + 1)).toList) := hlB
            clear hI2 hok HST hfn hlB
            generalize nm (j + 1) = s at *
            generalize nm j = s' at *
            cases hbl : Op.bytesLess s'.toList s.toList with
            | true =>
              have HE : Hid (stepB nm (j + 1) = true) := by rw [HLB.out, hbl]; exact rfl
              have hge : ∀ W, (binOp .geq 9 (.string s') (.string s)).run Try.prog W = .ok (.bool false) W := fun W => by simp [binOp, Op.stringOp, hbl]
              go_quiet (exact Calls.quiet_of_same (hfi _))
              go_wp2_with fail
              go_roundg (n - (j + 1 + 1))
              case measure => go_light; omega
              case rel => go_light; exact ⟨j + 1 + 1, by omega, rfl, by simp, by rw [HS.out, hall, HE.out]; rfl, below_drewN HB2 _⟩
            | false =>
              have HE : Hid (stepB nm (j + 1) = false) := by rw [HLB.out, hbl]; exact rfl
              have hge : ∀ W, (binOp .geq 9 (.string s') (.string s)).run Try.prog W = .ok (.bool true) W := fun W => by simp [binOp, Op.stringOp, hbl]
              go_quiet (exact Calls.quiet_of_same (hfi _))
              go_wp2_with fail
              go_ret
              exact ⟨by rw [HR.out, HF.out HE.out]; rfl, below_drewN HB2 _⟩
      · obtain rfl : i = n := by omega
        go_wp2_with fail
        go_ret
        exact ⟨by rw [HR.out, hall]; rfl, hB⟩
  · have e0 : imgB n nm = false := by unfold imgB; simp [h64]
    rw [e0]
    have z64 : (64 : Int) < (n : Int) := by omega
    go_enter Try.func35, Try.ntmps35
    go_wp2_with fail
    go_ret
    exact ⟨rfl, Below.refl _ _⟩
end Go.Proofs.Ytbebnjeamlmclaa
