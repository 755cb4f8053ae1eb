/- TextMoney, walked. -/
import Derived.Test.YthoeehgnkolgpaaDoorFormed
import Derived.Test.YthoeehgnkolgpaaDoorFrame2
namespace Go.Proofs.YthoeehgnkolgpaaDoor
open Go.RowKit Go.ChangeShapes Go.WideShapes Go.ChangeAt Go.Deep

theorem below_since {w w' : World} (h : Below w.heap.size w w') : w.Since w.heap.size w' := ⟨h.os, h.tape, h.output, h.size, h.block⟩
theorem money_len (n : Nat) (h : n < 18446744073709551616) : (moneyM n).length ≤ 43 ∧ (marked true (Lib.decDigits (n / 100))).length ≤ 40 := by
  have h1 : (Lib.decDigits (n / 100)).length ≤ 20 := by rw [Lib.decDigits_length]; exact Lib.nDigits_le20 _ (by omega)
  have h2 := marked_le (Lib.decDigits (n / 100)) true
  unfold moneyM
  rw [List.length_append]
  simp only [List.length_cons, List.length_nil]
  omega
theorem below_cell {B : Nat} {w w' : World} {a : Addr} {v : Value} (hb : Below B w w') (ha : a.block < B) (hc : w.cell? a = some v) : w'.cell? a = some v := (hb.cell ha).trans hc
/-- A number written and read again. -/
theorem amount_of_money {m : Int} (n : Nat) (hn : n < 18446744073709551616) (W : World) (h : Tabs m W) :
    Calls Tryd.prog 11 #[.string ⟨(moneyM n).toArray⟩] W fun e w' => e = .returned (.tuple #[.int .u64 ((if n ≤ 9007199254740992 then n else 0 : Nat) : Int), .int .i64 ((if n ≤ 9007199254740992 then 0 else 22 : Nat) : Int)]) ∧ Below W.heap.size W w' := by
  have h1 := amount_any ⟨(moneyM n).toArray⟩ m W (by rw [back_size]; have := (money_len n hn).1; omega) h.max
  rw [back, amountV, amount_money] at h1
  by_cases hc : n ≤ 9007199254740992
  · simp only [if_pos hc] at h1 ⊢; exact h1
  · simp only [if_neg hc] at h1 ⊢; exact h1

set_option maxHeartbeats 6400000 in
set_option maxRecDepth 100000 in
theorem moneyLaw_walk (a : Option Addr) (len cap : Nat) (z : Nat → ByteArray) (a' : Option Addr) (len' cap' : Nat) (z' : Nat → Int) (B : Nat) (m : Int) (W : World) (hT : Tabs m W) (hl : TextsIn W a len z B) (hn : NumsIn .u64 W a' len' z' B) (hB : B ≤ 1048576) :
    Calls Tryd.prog 3 #[.agg #[.slice a len cap, .slice a' len' cap']] W fun e W' => e = .returned (.bool true) ∧ W.Since W.heap.size W' := by
  have HT := hide hT
  have Hl := hide hl
  have Hn := hide hn
  have hlen := hl.bln
  have hlen' := hn.bln
  clear hT hl hn
  have hbox : Below W.heap.size W (W.alloc (.cells #[.slice a len cap, .slice a' len' cap'] 25)) := (Below.refl _ W).alloc (Nat.le_refl _) _
  have Hbox := hide hbox
  go_enter Tryd.func3, Tryd.ntmps3
  go_wp2_with fail
  go_quiet (fail)
  go_wp2_with fail
  have bq := below_drewN Hbox.out nq
  refine (begun_any m _ (HT.out.below bq)).mono ?_
  rintro e w1 ⟨rfl, bb⟩
  have b1 : Below W.heap.size W w1 := bq.trans (bb.mono bq.size)
  clear bq bb Hbox hbox
  go_wp2_with fail
  go_loopg [5] len' (fun q s5 wx => ∃ i : Nat, i ≤ len' ∧ q = len' - i ∧ s5 = .int .i64 i ∧ Below W.heap.size W wx)
  case atStart => exact ⟨0, Nat.zero_le _, rfl, rfl, b1⟩
  case round =>
    obtain ⟨i, hi, rfl, rfl, hbw⟩ := hrel
    clear b1
    by_cases hlt : i < len'
    · obtain ⟨bb, bo, ha', hc⟩ := Hn.out.cell i hlt
      obtain ⟨N, hN, hN64⟩ := wf_u64 (Hn.out.wf i hlt)
      rw [hN] at hc
      clear hN
      have hbl := World.block_lt_of_cell? _ _ hc
      have hcr := below_cell hbw hbl hc
      have hz : (i : Int) < (len' : Int) := by omega
      have hmon := money_any N hN64 wr (HT.out.below hbw).pow
      have hams := fun W' (h : Tabs m W') => amount_of_money N hN64 W' h
      have hfor := fun W' => formed_any ⟨(moneyM N).toArray⟩ _ W' (by have := (money_len N hN64).2; omega) (money_form N)
      have key : i = 0 ∨ ∃ k P, i = k + 1 ∧ P < 18446744073709551616 ∧ W.cell? ⟨bb, bo + k, none⟩ = some (.int .u64 (P : Nat)) := by
        rcases Nat.eq_zero_or_pos i with h | h
        · exact Or.inl h
        · right
          obtain ⟨b2, o2, ha2, hc2⟩ := Hn.out.cell (i - 1) (by omega)
          obtain ⟨P, hP, hP64⟩ := wf_u64 (Hn.out.wf (i - 1) (by omega))
          rw [ha'] at ha2
          cases ha2
          rw [hP] at hc2
          exact ⟨i - 1, P, by omega, hP64, hc2⟩
      subst ha'
      obtain ⟨S, hS⟩ : ∃ S : ByteArray, S = ⟨(moneyM N).toArray⟩ := ⟨_, rfl⟩
      rw [← hS] at hmon
      simp only [← hS] at hams hfor
      have HS := hide hS
      have Hkey := hide key
      have Hams := hide hams
      have Hfor := hide hfor
      clear hS key hams hfor
      by_cases hmx : N ≤ 9007199254740992
      case' pos =>
        simp only [if_pos hmx] at Hams
        have z1 : (N : Int) ≤ 9007199254740992 := by omega
        have z2 : ¬ (9007199254740992 : Int) < (N : Int) := by omega
      case' neg =>
        simp only [if_neg hmx] at Hams
        have z1 : ¬ (N : Int) ≤ 9007199254740992 := by omega
        have z2 : (9007199254740992 : Int) < (N : Int) := by omega
      all_goals
        go_wp2_with fail
        refine hmon.mono ?_
        rintro e w2 ⟨rfl, b2⟩
        have B2 := hbw.trans (b2.mono hbw.size)
        clear hmon
        have c2 := below_cell B2 hbl hc
        go_wp2_with fail
        refine (Hams.out w2 (HT.out.below B2)).mono ?_
        rintro e w3 ⟨rfl, b3⟩
        have B3 := B2.trans (b3.mono B2.size)
        have c3 := below_cell B3 hbl hc
        clear hcr
        go_wp2_with (first | (go_at_call 12; go_in) | (go_at_call 13; refine (Hfor.out _).mono ?_; rintro e w4 ⟨rfl, e4⟩; subst e4))
        clear z1 z2 hmx c2 b2 b3 B2 hz Hams Hfor
        rcases Hkey.out with rfl | ⟨k, P, rfl, hP64, hcP⟩
        · go_quiet (fail)
          go_wp2_with fail
          go_roundg (len' - (0 + 1))
          case measure => go_light; omega
          case rel => go_light; exact ⟨0 + 1, by omega, rfl, by simp, below_drewN B3 _⟩
        · have cP := below_cell B3 (a := ⟨bb, bo + k, none⟩) hbl hcP
          by_cases hNP : N = P
          · have hx : ((N : Int) != (P : Int)) = false := by simp; omega
            go_quiet (fail)
            go_wp2_with fail
            go_roundg (len' - (k + 1 + 1))
            case measure => go_light; omega
            case rel => go_light; exact ⟨k + 1 + 1, by omega, rfl, by simp, below_drewN B3 _⟩
          · have hx : ((N : Int) != (P : Int)) = true := by simp; omega
            have hmp : ∀ W', Below w4.heap.size w4 W' → Calls Tryd.prog 10 #[.int .u64 (P : Nat)] W' fun e w' => e = .returned (.string ⟨(moneyM P).toArray⟩) ∧ Below W.heap.size W w' ∧ w'.cell? ⟨bb, bo + (k + 1), none⟩ = some (.int .u64 (N : Nat)) ∧ w'.cell? ⟨bb, bo + k, none⟩ = some (.int .u64 (P : Nat)) := fun W' hb' => by
              have B4 := B3.trans (hb'.mono B3.size)
              refine (money_any P hP64 W' (HT.out.below B4).pow).mono ?_
              rintro e w5 ⟨rfl, b5⟩
              have B5 := B4.trans (b5.mono B4.size)
              exact ⟨rfl, B5, below_cell B5 hbl hc, below_cell B5 (a := ⟨bb, bo + k, none⟩) hbl hcP⟩
            have hxe : (S.toList == (⟨(moneyM P).toArray⟩ : ByteArray).toList) = false := by
              rw [HS.out]
              refine beq_eq_false_iff_ne.2 fun e => hNP (money_inj ?_)
              rw [Lib.toList_data, Lib.toList_data] at e
              exact e
            have Hmp := hide hmp
            clear hmp hNP
            have g1 : ((k : Int) + 1) < (len' : Int) := by omega
            have g2 : (k : Int) < (len' : Int) := by omega
            have g3 : (0 : Int) ≤ (k : Int) := by omega
            have g4 : (0 : Int) ≤ (k : Int) + 1 := by omega
            have g5 : (0 : Int) < (k : Int) + 1 := by omega
            have g6 : IntKind.i64.wrap ((k : Int) + 1 - 1) = (k : Int) := by rw [Int.add_sub_cancel]; exact wr_i64 (by omega) (by omega)
            have g8 : IntKind.i64.wrap (k : Int) = (k : Int) := wr_i64 (by omega) (by omega)
            have g7 : (k : Int) + 1 - 1 = (k : Int) := by omega
            generalize (⟨(moneyM P).toArray⟩ : ByteArray) = S2 at *
            go_region_held3 (fun W' => W'.cell? ⟨bb, bo + (k + 1), none⟩ = some (.int .u64 (N : Nat)) ∧ W'.cell? ⟨bb, bo + k, none⟩ = some (.int .u64 (P : Nat)))
              (exact ⟨by assumption, by assumption⟩)
              ((first | (go_at_call 10; refine (Hmp.out w4.drew ⟨rfl, rfl, rfl, Nat.le_refl _, fun _ _ => rfl⟩).mono ?_; rintro e w5 ⟨rfl, B5, q1, q2⟩)))
            all_goals
              go_wp2_with fail
              go_roundg (len' - (k + 1 + 1))
              case measure => go_light; omega
              case rel => go_light; exact ⟨k + 1 + 1, by omega, rfl, by simp, B5⟩
    · have hz : ¬ (i : Int) < (len' : Int) := by omega
      generalize wr = wq at *
      go_wp2_with fail
      go_loopg [9] len (fun q s9 wx => ∃ i : Nat, i ≤ len ∧ q = len - i ∧ s9 = .int .i64 i ∧ Below W.heap.size W wx)
      case atStart => exact ⟨0, Nat.zero_le _, rfl, rfl, hbw⟩
      case round =>
        clear hbw hi hlt hz
        obtain ⟨i, hi, rfl, rfl, hbw⟩ := hrel
        by_cases hlt : i < len
        · obtain ⟨bb, bo, ha', hc⟩ := Hl.out.cell i hlt
          have hbl := World.block_lt_of_cell? _ _ hc
          have hcr := below_cell hbw hbl hc
          have hz : (i : Int) < (len : Int) := by omega
          have hsz := Hl.out.bsz i hlt
          have ham := amount_any (z i) m wr (by omega) (HT.out.below hbw).max
          have hcase := amount_cases (z i).data.toList
          unfold amountV at ham
          generalize amountM (z i).data.toList = R at *
          obtain ⟨x, y⟩ := R
          simp only at hcase ham
          subst ha'
          rcases hcase with ⟨rfl, hx⟩ | ⟨rfl, h21 | h22⟩
          · have hmon := fun W' (h : Tabs m W') => money_any x (by omega) W' h.pow
            have hams := fun W' (h : Tabs m W') => amount_of_money x (by omega) W' h
            simp only [if_pos hx] at hams
            have z1 : ¬ (9007199254740992 : Int) < (x : Int) := by omega
            have Hmon := hide hmon
            have Hams := hide hams
            clear hmon hams
            go_wp2_with fail
            refine ham.mono ?_
            rintro e w2 ⟨rfl, b2⟩
            have B2 := hbw.trans (b2.mono hbw.size)
            clear ham
            go_wp2_with (first | (go_at_call 12; go_in))
            refine (Hmon.out w2 (HT.out.below B2)).mono ?_
            rintro e w3 ⟨rfl, b3⟩
            have B3 := B2.trans (b3.mono B2.size)
            go_wp2_with fail
            refine (Hams.out w3 (HT.out.below B3)).mono ?_
            rintro e w4 ⟨rfl, b4⟩
            have B4 := B3.trans (b4.mono B3.size)
            go_wp2_with (first | (go_at_call 12; go_in))
            go_roundg (len - (i + 1))
            case measure => go_light; omega
            case rel => go_light; exact ⟨i + 1, by omega, rfl, by simp, B4⟩
          · subst h21
            go_wp2_with fail
            refine ham.mono ?_
            rintro e w2 ⟨rfl, b2⟩
            have B2 := hbw.trans (b2.mono hbw.size)
            clear ham
            go_wp2_with (first | (go_at_call 12; go_in))
            go_roundg (len - (i + 1))
            case measure => go_light; omega
            case rel => go_light; exact ⟨i + 1, by omega, rfl, by simp, B2⟩
          · subst h22
            go_wp2_with fail
            refine ham.mono ?_
            rintro e w2 ⟨rfl, b2⟩
            have B2 := hbw.trans (b2.mono hbw.size)
            clear ham
            go_wp2_with (first | (go_at_call 12; go_in))
            go_roundg (len - (i + 1))
            case measure => go_light; omega
            case rel => go_light; exact ⟨i + 1, by omega, rfl, by simp, B2⟩
        · have hz : ¬ (i : Int) < (len : Int) := by omega
          go_wp2_with fail
          refine (begun_any m wr (HT.out.below hbw)).mono ?_
          rintro e w2 ⟨rfl, b2⟩
          go_wp2_with fail
          go_ret
          exact ⟨rfl, below_since (hbw.trans (b2.mono hbw.size))⟩
end Go.Proofs.YthoeehgnkolgpaaDoor
