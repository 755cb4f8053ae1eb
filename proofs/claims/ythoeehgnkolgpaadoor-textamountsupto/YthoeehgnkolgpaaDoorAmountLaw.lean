/- TextAmounts, walked. -/
import Derived.Test.YthoeehgnkolgpaaDoorRefAmount2
import Derived.Test.YthoeehgnkolgpaaDoorRefMoney
import Derived.Test.YthoeehgnkolgpaaDoorMoneyLaw
namespace Go.Proofs.YthoeehgnkolgpaaDoor
open Go.RowKit Go.ChangeShapes Go.WideShapes Go.ChangeAt Go.Deep

set_option maxHeartbeats 6400000 in
set_option maxRecDepth 100000 in
theorem amountLaw_walk (a : Option Addr) (len cap : Nat) (z : Nat → ByteArray) (a' : Option Addr) (len' cap' : Nat) (z' : Nat → Int) (B : Nat) (m : Int) (W : World) (hT : Tabs m W) (hl : TextsIn W a len z B) (hn : NumsIn .u64 W a' len' z' B) (hB : B ≤ 1048576) :
    Calls Tryd.prog 5 #[.agg #[.slice a len cap, .slice a' len' cap']] W fun e W' => e = .returned (.bool true) ∧ W.Since W.heap.size W' := by
  have HT := hide hT
  have Hl := hide hl
  have Hn := hide hn
  have hlen := hl.bln
  have hlen' := hn.bln
  clear hT hl hn
  have hbox : Below W.heap.size W (W.alloc (.cells #[.slice a len cap, .slice a' len' cap'] 25)) := (Below.refl _ W).alloc (Nat.le_refl _) _
  have Hbox := hide hbox
  go_enter Tryd.func5, Tryd.ntmps5
  go_wp2_with fail
  go_quiet (fail)
  go_wp2_with fail
  have bq := below_drewN Hbox.out nq
  refine (begun_any m _ (HT.out.below bq)).mono ?_
  rintro e w1 ⟨rfl, bb⟩
  have b1 : Below W.heap.size W w1 := bq.trans (bb.mono bq.size)
  clear bq bb Hbox hbox
  go_wp2_with fail
  go_loopg [5] len (fun q s5 wx => ∃ i : Nat, i ≤ len ∧ q = len - i ∧ s5 = .int .i64 i ∧ Below W.heap.size W wx)
  case atStart => exact ⟨0, Nat.zero_le _, rfl, rfl, b1⟩
  case round =>
    obtain ⟨i, hi, rfl, rfl, hbw⟩ := hrel
    clear b1
    by_cases hlt : i < len
    · obtain ⟨bb, bo, ha', hc⟩ := Hl.out.cell i hlt
      have hbl := World.block_lt_of_cell? _ _ hc
      have hcr := below_cell hbw hbl hc
      have hz : (i : Int) < (len : Int) := by omega
      have hsz := Hl.out.bsz i hlt
      have ham := amount_any (z i) m wr (by omega) (HT.out.below hbw).max
      have hra := refAmount_any (z i) (by omega)
      unfold amountV at ham hra
      generalize amountM (z i).data.toList = R at *
      obtain ⟨x, y⟩ := R
      simp only at ham hra
      subst ha'
      go_wp2_with fail
      refine ham.mono ?_
      rintro e w2 ⟨rfl, b2⟩
      have B2 := hbw.trans (b2.mono hbw.size)
      have c2 := below_cell B2 hbl hc
      clear ham hcr
      go_wp2_with fail
      refine (hra _).mono ?_
      rintro e w3 ⟨rfl, k3, rfl⟩
      have B3 := below_drewN B2 k3
      clear hra
      go_wp2_with (first | (go_at_call 12; go_in))
      go_roundg (len - (i + 1))
      case measure => go_light; omega
      case rel => go_light; exact ⟨i + 1, by omega, rfl, by simp, B3⟩
    · have hz : ¬ (i : Int) < (len : Int) := by omega
      generalize wr = wq at *
      go_wp2_with fail
      go_loopg [10] len' (fun q s9 wx => ∃ i : Nat, i ≤ len' ∧ q = len' - i ∧ s9 = .int .i64 i ∧ Below W.heap.size W wx)
      case atStart => exact ⟨0, Nat.zero_le _, rfl, rfl, hbw⟩
      case round =>
        clear hbw hi hlt hz
        obtain ⟨i, hi, rfl, rfl, hbw⟩ := hrel
        by_cases hlt : i < len'
        · obtain ⟨bb, bo, ha', hc⟩ := Hn.out.cell i hlt
          obtain ⟨N, hN, hN64⟩ := wf_u64 (Hn.out.wf i hlt)
          rw [hN] at hc
          clear hN
          have hbl := World.block_lt_of_cell? _ _ hc
          have hcr := below_cell hbw hbl hc
          have hz : (i : Int) < (len' : Int) := by omega
          have hmon : ∀ W', Below W.heap.size W W' → Calls Tryd.prog 10 #[.int .u64 (N : Nat)] W' fun e w' => e = .returned (.string ⟨(moneyM N).toArray⟩) ∧ Below W.heap.size W w' ∧ w'.cell? ⟨bb, bo + i, none⟩ = some (.int .u64 (N : Nat)) := fun W' B4 => by
            refine (money_any N hN64 W' (HT.out.below B4).pow).mono ?_
            rintro e w5 ⟨rfl, b5⟩
            have B5 := B4.trans (b5.mono B4.size)
            exact ⟨rfl, B5, below_cell B5 hbl hc⟩
          have hrm : ∀ W', Below W.heap.size W W' → Calls Tryd.prog 18 #[.int .u64 (N : Nat)] W' fun e w' => e = .returned (.string ⟨(moneyM N).toArray⟩) ∧ Below W.heap.size W w' ∧ w'.cell? ⟨bb, bo + i, none⟩ = some (.int .u64 (N : Nat)) := fun W' B4 => by
            refine (refMoney_any N hN64 W').mono ?_
            rintro e w5 ⟨rfl, b5⟩
            have B5 := B4.trans (b5.mono B4.size)
            exact ⟨rfl, B5, below_cell B5 hbl hc⟩
          generalize (⟨(moneyM N).toArray⟩ : ByteArray) = S at *
          have hS := beq_same S
          have Hmon := hide hmon
          have Hrm := hide hrm
          clear hmon hrm
          subst ha'
          have g3 : (0 : Int) ≤ (i : Int) := by omega
          go_upto_region 14 with fail
          go_region_held3 (fun W' => W'.cell? ⟨bb, bo + i, none⟩ = some (.int .u64 (N : Nat)))
            (assumption)
            ((first
              | (go_at_call 10; first | (refine (Hmon.out w6 B6).mono ?_; rintro e w7 ⟨rfl, B7, q7⟩) | (refine (Hmon.out wr.drew (below_drewN hbw 1)).mono ?_; rintro e w5 ⟨rfl, B5, q5⟩))
              | (go_at_call 18; first | (refine (Hrm.out w5 B5).mono ?_; rintro e w7 ⟨rfl, B7, q7⟩) | (refine (Hrm.out wr.drew (below_drewN hbw 1)).mono ?_; rintro e w6 ⟨rfl, B6, q6⟩))))
          all_goals
            go_wp2_with fail
            go_roundg (len' - (i + 1))
            case measure => go_light; omega
            case rel => go_light; exact ⟨i + 1, by omega, rfl, by simp, B7⟩
        · have hz : ¬ (i : Int) < (len' : Int) := by omega
          go_wp2_with fail
          refine (begun_any m wr (HT.out.below hbw)).mono ?_
          rintro e w2 ⟨rfl, b2⟩
          go_wp2_with fail
          go_ret
          exact ⟨rfl, below_since (hbw.trans (b2.mono hbw.size))⟩
end Go.Proofs.YthoeehgnkolgpaaDoor
