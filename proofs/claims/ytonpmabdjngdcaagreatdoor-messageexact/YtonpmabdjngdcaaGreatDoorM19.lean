/- Own texts, joined: RefT1, MsgF, TurnM, FamB, BackM, BackL, BackO, ExactB. -/
import Derived.Test.YtonpmabdjngdcaaGreatDoorM18
import Derived.Test.YtonpmabdjngdcaaGreatDoorCards
import Derived.Test.YtonpmabdjngdcaaGreatDoorTie
import Derived.WalkKit
import Derived.ProofKit
import Derived.OpenShut
import Derived.SizedLaws
import Derived.Deep.Modes
import Derived.Deep.Frames
import Derived.Deep.Matrix
import Derived.Deep.DeepHandedRow
import Derived.Lib.LaidTab
import Derived.Lib.LaidU8T
import Derived.Lib.SmallJoins
import Derived.Deep.Slices
import Derived.Test.YtonpmabdjngdcaaGreatDoorM6
import Derived.Test.YtonpmabdjngdcaaGreatDoorM11
import Derived.Test.YtonpmabdjngdcaaGreatDoorProg
import Derived.OwnWalk
import Derived.Below
import Derived.Deep.OwnRows
import Derived.Deep.Onto
import Derived.Deep.DeepAppendWide
import Derived.Deep.LoopGhost
import Derived.Test.YtonpmabdjngdcaaGreatDoorM4

/- The laws of package message: begun. -/
namespace Go.Proofs.YtonpmabdjngdcaaGreatDoor
open Go.RowKit
set_option maxRecDepth 100000

/-- The message that begun writes. -/
def mB : Mg := ⟨fun c => if c = 0 then 1 else if c = 1 then 1 else if c = 2 then 2 else if c = 4 then 5 else 0, fun _ => []⟩
theorem mB_v : mgV mB none 0 = .agg #[.int .i64 1, .int .i64 1, .int .i64 2, .int .i64 0, .int .u64 5, .int .u64 0, .int .u64 0, .int .u64 0, .int .i64 0, .int .u64 0, .slice none 0 0, .int .i64 0, .int .u64 0, .string ⟨#[]⟩, .string ⟨#[]⟩, .int .u64 0, .int .u64 0, .int .u64 0, .int .i64 0, .int .i64 0, .int .i64 0, .int .i64 0] := rfl
theorem mB_wf : mB.wf := ⟨fun c h => by
  rcases h with rfl | rfl | rfl | h
  · rfl
  · rfl
  · rfl
  · show (if c = 0 then (1 : Int) else if c = 1 then 1 else if c = 2 then 2 else if c = 4 then 5 else 0) = 0
    rw [if_neg (by omega), if_neg (by omega), if_neg (by omega), if_neg (by omega)], fun _ _ _ _ => rfl⟩
theorem mB_body : bodyG mB = [1, 1, 2, 0, 5] := by decide +kernel
theorem mB_enc : encM mB = (0, sealG [1, 1, 2, 0, 5]) := by
  unfold encM
  rw [if_neg (by decide +kernel), if_neg (by decide +kernel), mB_body]
theorem mB_A (w : World) : MgA w mB none 0 := ⟨fun j hj => absurd hj (Nat.not_lt_zero j), fun _ => ⟨rfl, rfl⟩, fun q e _ => by simp at e, fun _ => Nat.zero_le _, fun _ v hv => absurd hv (List.not_mem_nil)⟩
theorem five_row (w : World) : Byt (w.alloc (.cells #[.int .u8 1, .int .u8 1, .int .u8 2, .int .u8 0, .int .u8 5] 5)) (some ⟨w.heap.size, 0, none⟩) 5 (fun j => [1, 1, 2, 0, 5].getD j 0) := by
  have hr : (w.alloc (.cells #[.int .u8 1, .int .u8 1, .int .u8 2, .int .u8 0, .int .u8 5] 5)).rowIs w.heap.size 5 5 (fun j => .int .u8 (([1, 1, 2, 0, 5].getD j 0 : Nat) : Int)) := World.rowIs_alloc w _ _ _ (fun i hi => by
    have hi' : i < 5 := hi
    match i, hi' with
    | 0, _ => rfl
    | 1, _ => rfl
    | 2, _ => rfl
    | 3, _ => rfl
    | 4, _ => rfl)
  exact fun j hj => ⟨_, 0, rfl, by rw [Nat.zero_add]; exact hr.cell hj⟩
theorem five_lt (j : Nat) : [1, 1, 2, 0, 5].getD j 0 < 256 := getD_byte (l := [1, 1, 2, 0, 5]) (by decide) j
theorem sum1 : Crc.sum [1] = 2768625435 := by decide +kernel
theorem five_dec : decM (fun j => [1, 1, 2, 0, 5].getD j 0) 5 = (82, mg0) := by
  have h0 : ¬ ((5 : Nat) < 4 ∨ 17000 < 5) := by decide
  have e1 : cutZ (fun j => [1, 1, 2, 0, 5].getD j 0) 0 (5 - 4) = [1] := rfl
  have e2 : be (fun j => (fun j => [1, 1, 2, 0, 5].getD j 0) (5 - 4 + j)) 4 = 16908293 := rfl
  unfold decM
  rw [if_neg h0, e1, sum1, e2, if_pos (by decide)]
theorem own_cap {w : World} {B : Nat} {a : Option Addr} {n c : Nat} {x : Nat → Nat} (h : Own w B (.slice a n c) n x) (hn : 0 < n) : n ≤ c := by
  obtain ⟨g, cap, f, e, _, h1, _⟩ := own_row h hn
  cases e
  exact h1
theorem five_list : (List.range 5).map (fun j => [1, 1, 2, 0, 5].getD j 0) = [1, 1, 2, 0, 5] := by decide
theorem seal5_any {S : List Nat} (hS : sealG [1, 1, 2, 0, 5] = S) (hl : S.length = 9) (W : World) : Calls Tryz.prog 28 #[.slice (some ⟨W.heap.size, 0, none⟩) 5 5] (W.alloc (.cells #[.int .u8 1, .int .u8 1, .int .u8 2, .int .u8 0, .int .u8 5] 5)) fun e w' => ∃ xa xc, e = .returned (.slice xa 9 xc) ∧ 9 ≤ xc ∧ Byt w' xa 9 (fun j => S.getD j 0) ∧ W.Since W.heap.size w' := by
  have hs0 : W.Since W.heap.size (W.alloc (.cells #[.int .u8 1, .int .u8 1, .int .u8 2, .int .u8 0, .int .u8 5] 5)) := (World.Since.refl _ _).alloc (Nat.le_refl _) _
  refine (seal_any (some ⟨W.heap.size, 0, none⟩) 5 5 _ _ (five_row W) (fun e => by simp at e) five_lt (by decide)).mono fun e w' ⟨v, he, ho, hs⟩ => ?_
  rw [five_list, hS] at ho
  have ho' : Own w' (W.alloc (.cells #[.int .u8 1, .int .u8 1, .int .u8 2, .int .u8 0, .int .u8 5] 5)).heap.size v 9 (fun j => S.getD j 0) := by rw [← hl]; exact ho
  obtain ⟨xa, xc, hv, hby, hn⟩ := own_byt ho'
  subst hv
  exact ⟨xa, xc, he, own_cap ho' (by decide), hby, hs0.trans (since_mono hs hs0.size)⟩
theorem seal5_dec {S : List Nat} (hS : sealG [1, 1, 2, 0, 5] = S) (hl : S.length = 9) (hb : ∀ v ∈ S, v < 256) : decM (fun j => S.getD j 0) 9 = (0, mB) := by
  have he : encM mB = (0, S) := by rw [mB_enc, hS]
  have := dec_enc (m := mB) (z := fun j => S.getD j 0) (fun j => getD_byte hb j) mB_wf he (by rw [hl]; decide) (by rw [← cut_all, range_getD])
  rw [hl] at this
  exact this
set_option maxHeartbeats 8000000 in
theorem begun_any (w : World) (ht : Tb w) (hU : Us w) : Calls Tryz.prog 7 #[] w fun e w' => e = .returned (.bool true) ∧ w.Since w.heap.size w' := by
  obtain ⟨S, HS⟩ : ∃ x, Hid (sealG [1, 1, 2, 0, 5] = x) := ⟨_, rfl⟩
  have hl9 : S.length = 9 := by rw [← HS.out]; exact seal_len _
  have hSb : ∀ v ∈ S, v < 256 := by rw [← HS.out]; exact seal_byte (by decide)
  have hdec := seal5_dec HS.out hl9 hSb
  obtain ⟨W1, MA, HMV, HT1, HW1, HIN, HON, HH1, HS1⟩ := mg_put w mB none 0
  have HE1 : Hid (Calls Tryz.prog 9 #[.agg MA] W1 fun e w' => ∃ ta, e = .returned (.tuple #[.slice ta 9 9, .int .i64 0]) ∧ Byt w' ta 9 (fun j => S.getD j 0) ∧ W1.Since W1.heap.size w') := by
    have q := encode_any W1 mB none 0 (mB_A W1) (ht.since HS1.out) (hU.since HS1.out)
    rw [HMV.out] at q
    unfold EncAns at q
    rw [mB_enc, HS.out] at q
    refine q.mono fun e w' ⟨⟨ta, he, htx⟩, hs⟩ => ?_
    have he : e = .returned (.tuple #[.slice ta S.length S.length, .int .i64 0]) := he
    have htx : Txt _ w' ta S.length (fun j => S.getD j 0) := htx
    rw [hl9] at he htx
    exact ⟨ta, he, htx.toByt, hs⟩
  have HSE := hide (seal5_any HS.out hl9)
  have HD9 : Hid (∀ (W : World) (xa : Option Addr) (xc : Nat), w.Since w.heap.size W → 9 ≤ xc → Byt W xa 9 (fun j => S.getD j 0) → Calls Tryz.prog 11 #[.slice xa 9 xc] W fun e w' => ∃ va, e = .returned (.tuple #[mgV mB va 0, .int .i64 0]) ∧ MgA w' mB va 0 ∧ W.Since W.heap.size w') := fun W xa xc hW hc hb => by
    refine (dec_any xa 9 xc _ W hb (fun j => getD_byte hSb j) hc (by decide) (ht.since hW) (hU.since hW)).mono fun e w' ⟨⟨va, he, h1, h2, h3⟩, hs⟩ => ?_
    rw [hdec] at he h1 h2 h3
    exact ⟨va, he, MgA.of_txt h1 h2 h3, hs⟩
  have HD5 : Hid (∀ W : World, w.Since w.heap.size W → Calls Tryz.prog 11 #[.slice (some ⟨W.heap.size, 0, none⟩) 5 5] (W.alloc (.cells #[.int .u8 1, .int .u8 1, .int .u8 2, .int .u8 0, .int .u8 5] 5)) fun e w' => ∃ va, e = .returned (.tuple #[mgV mg0 va 0, .int .i64 82]) ∧ W.Since W.heap.size w') := fun W hW => by
    have hs0 : W.Since W.heap.size (W.alloc (.cells #[.int .u8 1, .int .u8 1, .int .u8 2, .int .u8 0, .int .u8 5] 5)) := (World.Since.refl _ _).alloc (Nat.le_refl _) _
    have hw0 := hW.trans (since_mono hs0 hW.size)
    refine (dec_any (some ⟨W.heap.size, 0, none⟩) 5 5 _ _ (five_row W) five_lt (by decide) (by decide) (ht.since hw0) (hU.since hw0)).mono fun e w' ⟨⟨va, he, h1, h2, h3⟩, hs⟩ => ?_
    rw [five_dec] at he
    exact ⟨va, he, hs0.trans (since_mono hs hs0.size)⟩
  have HHM := hide HH1.out
  have HS0 := hide HS1.out
  clear ht hU hl9 hdec hSb
  go_enter Tryz.func7, Tryz.ntmps7
  go_upto_region 1 with fail
  refine wp_region_lit ?_
  refine wpList_plain rfl fun _ hK => op_run (.agg #[.int .i64 1, .int .i64 1, .int .i64 2, .int .i64 0]) (by kernel_rfl) (hK _ _ ?_)
  refine wpList_plain rfl fun _ hK => op_run (mgV mB none 0) (by rw [mB_v]; kernel_rfl) (hK _ _ ?_)
  rw [HMV.out]
  go_wp2_with (first
    | (refine wpList_store_mid rfl 37 _ _ rfl w.heap.size 0 _ rfl rfl HT1.out HIN.out HON.out ?_; rw [HW1.out])
    | (refine wpList_load_row rfl 37 _ rfl w.heap.size rfl _ _ (0, 0) _ (HHM.out _ (World.Since.refl _ _)) Tryz.underlying37 rfl HIN.out ?_))
  refine HE1.out.mono ?_
  rintro e w2 ⟨ta, rfl, hb2, hs2⟩
  have HB2 := hide hb2
  have HSW2 : Hid (W1.Since W1.heap.size w2) := hs2
  clear hb2 hs2 HE1 HT1 HW1
  have HQ := hide (HSE.out w2)
  go_wp2_with fail
  refine HQ.out.mono ?_
  rintro e w3 ⟨xa, xc, rfl, hxc, hb3, hs3⟩
  have HSW3 : Hid (W1.Since W1.heap.size w3) := HSW2.out.trans (since_mono hs3 HSW2.out.size)
  have HQ2 := hide (HD9.out w3 xa xc (HS0.out.trans (since_mono HSW3.out HS0.out.size)) hxc hb3)
  have HSW23 := hide hs3
  clear HQ hb3 hs3 HD9 hxc
  go_wp2_with fail
  refine HQ2.out.mono ?_
  rintro e w4 ⟨va, rfl, hA4, hs4⟩
  obtain ⟨W5, MC, HMC, HT5, HW5, HIN5, HON5, HH5, HS5⟩ := mg_put w4 mB va 0
  rw [HMC.out]
  have HA5 : Hid (MgA W5 mB va 0) := hA4.since HS5.out
  have hs45 := HS5.out
  have s35 : w3.Since w3.heap.size W5 := hs4.trans (since_mono hs45 hs4.size)
  have HS25 : Hid (w2.Since w2.heap.size W5) := HSW23.out.trans (since_mono s35 HSW23.out.size)
  have HSW5 : Hid (W1.Since W1.heap.size W5) := HSW2.out.trans (since_mono HS25.out HSW2.out.size)
  have HQ3 := hide (HD5.out W5 (HS0.out.trans (since_mono HSW5.out HS0.out.size)))
  clear HQ2 hA4 hs4 hs45 s35 HD5 HSW3 HSW23
  go_wp2_with (refine wpList_store_mid rfl 37 _ _ rfl w4.heap.size 0 _ rfl rfl HT5.out HIN5.out HON5.out ?_; rw [HW5.out])
  refine HQ3.out.mono ?_
  rintro e w6 ⟨vb, rfl, hs6⟩
  obtain ⟨W7, MD, HMD, HT7, HW7, HIN7, HON7, HH7, HS7⟩ := mg_put w6 mg0 vb 0
  rw [HMD.out]
  have HS57 : Hid (W5.Since W5.heap.size W7) := hs6.trans (since_mono HS7.out hs6.size)
  have HS27 : Hid (w2.Since w2.heap.size W7) := HS25.out.trans (since_mono HS57.out HS25.out.size)
  have HSW7 : Hid (W1.Since W1.heap.size W7) := HSW5.out.trans (since_mono HS57.out HSW5.out.size)
  clear HQ3 hs6 HS25 HSW5 HT5 HW5 HH7 HS7
  have HN0 := hide (fun W => num8_any 0 W)
  have HN82 := hide (fun W => num8_any 82 W)
  have HQ4 := hide (HSE.out W7)
  clear HSE
  go_wp2_with (first
    | (refine wpList_store_mid rfl 37 _ _ rfl w6.heap.size 0 _ rfl rfl HT7.out HIN7.out HON7.out ?_; rw [HW7.out])
    | (go_at_call 10; with_reducible refine (HN0.out _).mono ?_; rintro e w8 ⟨rfl, rfl⟩))
  refine HQ4.out.mono ?_
  rintro e w8 ⟨xb, xd, rfl, hxd, hb8, hs8⟩
  have HS58 : Hid (W5.Since W5.heap.size w8) := HS57.out.trans (since_mono hs8 HS57.out.size)
  have HS28 : Hid (w2.Since w2.heap.size w8) := HS27.out.trans (since_mono hs8 HS27.out.size)
  have HSW8 : Hid (W1.Since W1.heap.size w8) := HSW7.out.trans (since_mono hs8 HSW7.out.size)
  have HQ5 : Hid (Calls Tryz.prog 13 #[.slice ta 9 9, .slice xb 9 xd] w8 fun e w' => e = .returned (.bool true) ∧ ∃ m, w' = w8.drewN m) := eq_same ta xb 9 9 xd _ w8 (HB2.out.since HS28.out) hb8 (by decide)
  clear HQ4 hb8 hs8 HS57 HS27 HSW7 HB2 HS28 hxd
  go_wp2_with fail
  refine HQ5.out.mono ?_
  rintro e w9 ⟨rfl, k9, hk9⟩
  have s89 : w8.Since w8.heap.size w9 := by rw [hk9]; exact drewN_since _ _
  have HS59 : Hid (W5.Since W5.heap.size w9) := HS58.out.trans (since_mono s89 HS58.out.size)
  have HSW9 : Hid (W1.Since W1.heap.size w9) := HSW8.out.trans (since_mono s89 HSW8.out.size)
  have HL1 := hide (HHM.out w9 HSW9.out)
  have HL5 := hide (HH5.out w9 HS59.out)
  have q := eqMsg_any mB mB va none 0 0 w9 (HA5.out.since HS59.out) (mB_A w9) mB_wf mB_wf
  rw [eqG_refl, HMV.out, HMC.out] at q
  have HQ6 : Hid (Calls Tryz.prog 12 #[.agg MC, .agg MA] w9 fun e w' => e = .returned (.bool true) ∧ w.Since w.heap.size w') := q.mono fun e w' ⟨he, hs⟩ => by
    have a := HS0.out.trans (since_mono HSW9.out HS0.out.size)
    exact ⟨he, a.trans (since_mono hs a.size)⟩
  clear HQ5 hk9 s89 HS58 HSW8 HS59 HSW9 q HA5 HMV HMC HMD HH5 HHM
  go_wp2_with (first
    | (refine wpList_load_rowG rfl 37 _ rfl w4.heap.size rfl _ _ (0, 0) _ HL5.out Tryz.underlying37 rfl HIN5.out ?_)
    | (refine wpList_load_rowG rfl 37 _ rfl w.heap.size rfl _ _ (0, 0) _ HL1.out Tryz.underlying37 rfl HIN.out ?_))
  refine HQ6.out.mono ?_
  rintro e w10 ⟨rfl, hs10⟩
  clear HQ6
  go_wp2_with (go_at_call 10; refine (HN82.out _).mono ?_; rintro e w11 ⟨rfl, rfl⟩)
  go_ret
  exact ⟨rfl, hs10⟩
end Go.Proofs.YtonpmabdjngdcaaGreatDoor

/- What the rows that hand messages in share: tables, bytes, messages. -/
namespace Go.Proofs.YtonpmabdjngdcaaGreatDoor
open Go.ChangeShapes Go.WideShapes Go.ChangeAt Go.RowKit Go.Deep Go.Joins
set_option maxRecDepth 100000

theorem own : ownKnob Tryz.prog.godebug = none := by kernel_rfl
theorem laidOut : laidOutB Tryz.prog = true := by kernel_rfl
theorem cellsI : Tryz.prog.cellsOf 3 = 1 := by kernel_rfl
theorem cellsU : Tryz.prog.cellsOf 29 = 1 := by kernel_rfl
theorem cells8 : Tryz.prog.cellsOf 5 = 1 := by kernel_rfl
theorem cellsB : Tryz.prog.cellsOf 32 = 1 := by kernel_rfl
theorem cellsS : Tryz.prog.cellsOf 9 = 1 := by kernel_rfl
theorem cellsH : Tryz.prog.cellsOf 28 = 4 := by kernel_rfl
theorem cellsT : Tryz.prog.cellsOf 31 = 2 := by kernel_rfl
theorem cellsC : Tryz.prog.cellsOf 34 = 2 := by kernel_rfl
theorem cellsE : Tryz.prog.cellsOf 35 = 1 := by kernel_rfl
theorem cellsM : Tryz.prog.cellsOf 37 = 22 := by kernel_rfl
theorem bytes8 : Tryz.prog.bytesOf 5 = 1 := by kernel_rfl
theorem reach_eq : reachBytes = 140737488351232 := rfl
theorem add_at (b o : Nat) (r : Nat) : (⟨b, o, none⟩ : Addr).add r = ⟨b, o + r, none⟩ := by simp [Addr.add]
theorem byte_of {n : Int} (h : (Lit.int .u8 n).wf = true) : ∃ m : Nat, n = m ∧ m < 256 := by
  have := bounds_u8 h
  exact ⟨n.toNat, by omega, by omega⟩
theorem tab_of {W : World} {name : String} {k : IntKind} {zs : List Int} {g : Nat} {t e : TypeId} {n : Nat}
    (hg : Tryz.prog.globalNamed name = some g) (hty : (Tryz.prog.globals[g]?).map (·.type) = some t) (ht : Tryz.prog.underlying t = some (.array n e)) (he : Tryz.prog.underlying e = some (.int k)) (hce : Tryz.prog.cellsOf e = 1) (hct : Tryz.prog.cellsOf t = n)
    (h : Lib.VarReads Tryz.prog W name (Lib.tabData k zs)) : Lib.TabIs Tryz.prog W name k zs := by
  obtain ⟨g', t', cs, fuel, p, hg', ht', hvar, hd⟩ := h
  obtain rfl := Option.some.inj (hg.symm.trans hg')
  obtain rfl := Option.some.inj (hty.symm.trans ht')
  unfold Lib.TabIs
  rw [hvar, ← Lib.cells_of_tab ht he hce hct hd]
theorem steps_eq : (Rows.laid_tally_code_sumSteps : DataW Unit) = Lib.tabData .u32 Crc.tab := by kernel_rfl
theorem uses_eq : (Rows.laid_tally_message_uses : DataW Unit) = Lib.tabData .u32 ((List.range 12).map fun k => ((usesT k : Nat) : Int)) := by kernel_rfl
theorem widths_eq : (Rows.laid_tally_code_widths : DataW Unit) = Lib.tabData .i64 [1, 4, 8] := by kernel_rfl
/-- The three tables. -/
theorem tabs_of {W : World} {laid : List (String × DataW Unit)} {ps : List MemPlace} (h : DataW.LaidVars Tryz.prog W laid ps) (m0 : ("tally/code.widths", Rows.laid_tally_code_widths) ∈ laid) (m1 : ("tally/code.sumSteps", Rows.laid_tally_code_sumSteps) ∈ laid) (m2 : ("tally/message.uses", Rows.laid_tally_message_uses) ∈ laid) : Tb W ∧ Us W := by
  have r0 := Lib.LaidVars_reads h _ _ m0
  have r1 := Lib.LaidVars_reads h _ _ m1
  have r2 := Lib.LaidVars_reads h _ _ m2
  rw [widths_eq] at r0
  rw [steps_eq] at r1
  rw [uses_eq] at r2
  have g0 : Tryz.prog.globalNamed "tally/code.widths" = some 2 := by kernel_rfl
  have g1 : Tryz.prog.globalNamed "tally/code.sumSteps" = some 0 := by kernel_rfl
  have g2 : Tryz.prog.globalNamed "tally/message.uses" = some 1 := by kernel_rfl
  have t0 := tab_of (g := 2) g0 (by kernel_rfl) Tryz.underlying163 Tryz.underlying3 (by kernel_rfl) (by kernel_rfl) r0
  have t1 := tab_of (g := 0) g1 (by kernel_rfl) Tryz.underlying133 Tryz.underlying97 (by kernel_rfl) (by kernel_rfl) r1
  have t2 := tab_of (g := 1) g2 (by kernel_rfl) Tryz.underlying162 Tryz.underlying97 (by kernel_rfl) (by kernel_rfl) r2
  refine ⟨⟨⟨t0.cell g0 0 (by decide), t0.cell g0 1 (by decide), t0.cell g0 2 (by decide)⟩, fun i hi => ?_⟩, fun k hk => ?_⟩
  · rw [t1.cell g1 i hi]
    have : ∀ j : Fin 16, Crc.tab.getD j.val 0 = ((Crc.T j.val : Nat) : Int) := by decide +kernel
    rw [this ⟨i, hi⟩]
  · rw [t2.cell g2 k (by simpa using hk)]
    have : ∀ j : Fin 12, ((List.range 12).map fun k => ((usesT k : Nat) : Int)).getD j.val 0 = ((usesT j.val : Nat) : Int) := by decide +kernel
    rw [this ⟨k, hk⟩]
/-- What is read is within the form's own reach. -/
def Fits {H : Type} (t : TypeId) (d : DataW H) : Prop := ∀ n, n ∈ d.weights Tryz.prog t → n ≤ reachBytes
theorem fits_of_each {H : Type} {ts : List TypeId} {ds : List (DataW H)} (h : ∀ n, n ∈ DataW.weightsEach Tryz.prog ts ds → n ≤ reachBytes) {j : Nat} {t : TypeId} {d : DataW H} (ht : ts[j]? = some t) (hd : ds[j]? = some d) : Fits t d :=
  fun n hn => h n (DataW.weights_mem_each ht hd n hn)
theorem each_of_all {H : Type} {ts : List TypeId} {ds : List (DataW H)} (h : (DataW.weightsEach Tryz.prog ts ds).all (· ≤ reachBytes) = true) : ∀ n, n ∈ DataW.weightsEach Tryz.prog ts ds → n ≤ reachBytes :=
  fun n hn => of_decide_eq_true (List.all_eq_true.1 h n hn)
theorem weightsAll_mem {H : Type} {P : Program} {e : TypeId} : ∀ {l : List (DataW H)} {d : DataW H}, d ∈ l → ∀ n ∈ d.weights P e, n ∈ DataW.weightsAll P e l
  | d' :: r, d, hd, n, hn => by
    simp only [DataW.weightsAll, List.mem_append]
    rcases List.mem_cons.1 hd with rfl | h
    · exact Or.inl hn
    · exact Or.inr (weightsAll_mem h n hn)


def lit1 : DataW Unit → List Value
  | .lit (.int k z) => [.int k z]
  | _ => []
def lit2 : DataW Unit → List Value
  | .agg ds => ds.flatMap lit1
  | d => lit1 d
def lit3 : DataW Unit → List Value
  | .agg ds => ds.flatMap lit2
  | d => lit2 d
/-- A block's cells, laid anew. -/
def putCells (cs : Array Value) : Obj → Obj
  | .cells _ t frozen => .cells cs t frozen
  | o => o
/-- The settled one, the tables holding what their initialisers lay. -/
noncomputable def laidWorld (os : Os) : World :=
  { World.holding Tryz.prog os ⟨#[], #[], []⟩ with heap := ((((World.holding Tryz.prog os ⟨#[], #[], []⟩).heap.modify 2 (putCells (lit3 Rows.laid_tally_code_widths).toArray)).modify 0 (putCells (lit3 Rows.laid_tally_code_sumSteps).toArray)).modify 1 (putCells (lit3 Rows.laid_tally_message_uses).toArray)) }
/-- A field that is a list of bytes. -/
theorem open_bytes {H : Type} {enc : TypeId × Value → H} {W : World} {fuel : Nat} {v : Value} {y : DataW H × List MemPlace} (h : DataW.trod enc Tryz.prog W 0 (fun _ => true) true fuel 32 [v] = some y) (hf : Fits 32 y.1) :
    ∃ (a : Option Addr) (len cap : Nat) (z : Nat → Nat), v = .slice a len cap ∧ len ≤ cap ∧ cap ≤ 140737488351232 ∧ (∀ j, z j < 256) ∧ Byt W a cap z ∧ (a = none → len = 0 ∧ cap = 0) := by
  rcases open_ints Tryz.underlying32 Tryz.underlying5 cells8 h with ⟨hcs, _⟩ | ⟨a, len, cap, zs, hcs, _, hl, hm, hz, hx, hcell, hwf⟩
  · exact ⟨none, 0, 0, fun _ => 0, by simpa using hcs, Nat.le_refl _, by omega, fun _ => by show 0 < 256; decide, fun j hj => absurd hj (Nat.not_lt_zero _), fun _ => ⟨rfl, rfl⟩⟩
  · simp only [if_true] at hz
    refine ⟨some a, len, cap, fun j => (zs.getD j 0).toNat % 256, by simpa using hcs, hl, ?_, fun j => Nat.mod_lt _ (by decide), fun j hj => ?_, fun e => by cases e⟩
    · have hw := hf ((lits .u8 (zs.take len) : List (DataW H)).length + (lits .u8 (zs.drop len) : List (DataW H)).length) (by rw [hx]; simp [DataW.weights, Tryz.underlying32, bytes8])
      simp only [lits, List.length_map, List.length_take, List.length_drop, reach_eq] at hw
      omega
    · obtain ⟨b, off, sp⟩ := a
      have h5 := hcell j (by omega)
      obtain rfl : sp = none := by simpa [Addr.add] using World.cell?_spot (hcell 0 (by omega))
      rw [add_at] at h5
      refine ⟨b, off, rfl, ?_⟩
      have hmem : zs.getD j 0 ∈ zs := by
        rw [List.getD_eq_getElem?_getD, List.getElem?_eq_getElem (by omega)]; exact List.getElem_mem _
      obtain ⟨m, hm1, hm2⟩ := byte_of (hwf _ hmem)
      show W.cell? _ = some (.int .u8 (((zs.getD j 0).toNat % 256 : Nat) : Int))
      rw [hm1] at h5 ⊢
      rw [Int.toNat_natCast, Nat.mod_eq_of_lt hm2]
      exact h5
/-- Whole numbers as they lie in a message. -/
def Mg.int (m : Mg) : Prop := (∀ c, isU c = true → 0 ≤ m.n c ∧ m.n c < 18446744073709551616) ∧ ∀ c, -9223372036854775808 ≤ m.n c ∧ (isU c = false → m.n c < 9223372036854775808)
set_option maxHeartbeats 4000000 in
/-- A message that is handed in. -/
theorem open_msg {H : Type} {enc : TypeId × Value → H} {W : World} {fuel : Nat} {cs : List Value} {y : DataW H × List MemPlace} (h : DataW.trod enc Tryz.prog W 0 (fun _ => true) true fuel 37 cs = some y) (hf : Fits 37 y.1) :
    ∃ (m : Mg) (va : Option Addr) (vc : Nat), cs = mgL m va vc ∧ MgA W m va vc ∧ m.wf ∧ m.int ∧ (m.s 10).length ≤ vc ∧ vc ≤ 140737488351232 := by
  obtain ⟨xs, m, _, hx, hcl, hlen, hfs⟩ := DataW.trod_struct Tryz.underlying37 h
  rw [cellsM] at hcl
  obtain ⟨v0, v1, v2, v3, v4, v5, v6, v7, v8, v9, v10, v11, v12, v13, v14, v15, v16, v17, v18, v19, v20, v21, rfl⟩ : ∃ v0 v1 v2 v3 v4 v5 v6 v7 v8 v9 v10 v11 v12 v13 v14 v15 v16 v17 v18 v19 v20 v21, cs = [v0, v1, v2, v3, v4, v5, v6, v7, v8, v9, v10, v11, v12, v13, v14, v15, v16, v17, v18, v19, v20, v21] := by
    match cs, hcl with
    | [v0, v1, v2, v3, v4, v5, v6, v7, v8, v9, v10, v11, v12, v13, v14, v15, v16, v17, v18, v19, v20, v21], _ => exact ⟨v0, v1, v2, v3, v4, v5, v6, v7, v8, v9, v10, v11, v12, v13, v14, v15, v16, v17, v18, v19, v20, v21, rfl⟩
  obtain ⟨y0, y1, y2, y3, y4, y5, y6, y7, y8, y9, y10, y11, y12, y13, y14, y15, y16, rfl⟩ : ∃ y0 y1 y2 y3 y4 y5 y6 y7 y8 y9 y10 y11 y12 y13 y14 y15 y16, xs = [y0, y1, y2, y3, y4, y5, y6, y7, y8, y9, y10, y11, y12, y13, y14, y15, y16] := by
    match xs, hlen with
    | [y0, y1, y2, y3, y4, y5, y6, y7, y8, y9, y10, y11, y12, y13, y14, y15, y16], _ => exact ⟨y0, y1, y2, y3, y4, y5, y6, y7, y8, y9, y10, y11, y12, y13, y14, y15, y16, rfl⟩
  have f0 := hfs 0 _ rfl
  have f1 := hfs 1 _ rfl
  have f2 := hfs 2 _ rfl
  have f3 := hfs 3 _ rfl
  have f4 := hfs 4 _ rfl
  have f5 := hfs 5 _ rfl
  have f6 := hfs 6 _ rfl
  have f7 := hfs 7 _ rfl
  have f8 := hfs 8 _ rfl
  have f9 := hfs 9 _ rfl
  have f10 := hfs 10 _ rfl
  have f11 := hfs 11 _ rfl
  have f12 := hfs 12 _ rfl
  have f13 := hfs 13 _ rfl
  have f14 := hfs 14 _ rfl
  have f15 := hfs 15 _ rfl
  have f16 := hfs 16 _ rfl
  simp [cellsH] at f0
  simp [cellsU] at f1
  simp [cellsT] at f2
  simp [cellsU] at f3
  simp [cellsI] at f4
  simp [cellsU] at f5
  simp [cellsB] at f6
  simp [cellsI] at f7
  simp [cellsU] at f8
  simp [cellsS] at f9
  simp [cellsS] at f10
  simp [cellsU] at f11
  simp [cellsC] at f12
  simp [cellsI] at f13
  simp [cellsI] at f14
  simp [cellsI] at f15
  simp [cellsE] at f16
  obtain ⟨xs0, n0, _, _, _, hl0, hg0⟩ := DataW.trod_struct Tryz.underlying28 f0
  obtain ⟨q0, q1, q2, q3, rfl⟩ : ∃ q0 q1 q2 q3, xs0 = [q0, q1, q2, q3] := by
    match xs0, hl0 with
    | [a, b, c, d], _ => exact ⟨a, b, c, d, rfl⟩
  have g0 := hg0 0 _ rfl
  simp [cellsI] at g0
  obtain ⟨k0, e0, _, w0⟩ := DataW.trod_int Tryz.underlying3 g0
  obtain rfl : v0 = .int .i64 k0 := by simpa using e0
  have g1 := hg0 1 _ rfl
  simp [cellsI] at g1
  obtain ⟨k1, e1, _, w1⟩ := DataW.trod_int Tryz.underlying3 g1
  obtain rfl : v1 = .int .i64 k1 := by simpa using e1
  have g2 := hg0 2 _ rfl
  simp [cellsI] at g2
  obtain ⟨k2, e2, _, w2⟩ := DataW.trod_int Tryz.underlying3 g2
  obtain rfl : v2 = .int .i64 k2 := by simpa using e2
  have g3 := hg0 3 _ rfl
  simp [cellsI] at g3
  obtain ⟨k3, e3, _, w3⟩ := DataW.trod_int Tryz.underlying3 g3
  obtain rfl : v3 = .int .i64 k3 := by simpa using e3
  obtain ⟨k4, e4, _, w4⟩ := DataW.trod_int Tryz.underlying29 f1
  obtain rfl : v4 = .int .u64 k4 := by simpa using e4
  obtain ⟨xs2, n2, _, _, _, hl2, hg2⟩ := DataW.trod_struct Tryz.underlying31 f2
  obtain ⟨q5, q6, rfl⟩ : ∃ q5 q6, xs2 = [q5, q6] := by
    match xs2, hl2 with
    | [a, b], _ => exact ⟨a, b, rfl⟩
  have g5 := hg2 0 _ rfl
  simp [cellsU] at g5
  obtain ⟨k5, e5, _, w5⟩ := DataW.trod_int Tryz.underlying29 g5
  obtain rfl : v5 = .int .u64 k5 := by simpa using e5
  have g6 := hg2 1 _ rfl
  simp [cellsU] at g6
  obtain ⟨k6, e6, _, w6⟩ := DataW.trod_int Tryz.underlying29 g6
  obtain rfl : v6 = .int .u64 k6 := by simpa using e6
  obtain ⟨k7, e7, _, w7⟩ := DataW.trod_int Tryz.underlying29 f3
  obtain rfl : v7 = .int .u64 k7 := by simpa using e7
  obtain ⟨k8, e8, _, w8⟩ := DataW.trod_int Tryz.underlying3 f4
  obtain rfl : v8 = .int .i64 k8 := by simpa using e8
  obtain ⟨k9, e9, _, w9⟩ := DataW.trod_int Tryz.underlying29 f5
  obtain rfl : v9 = .int .u64 k9 := by simpa using e9
  have hfit : Fits 32 y6.1 := fun n hn => hf n (by
    rw [hx]
    simp only [DataW.weights, Tryz.underlying37]
    exact DataW.weights_mem_each (j := 6) rfl rfl n hn)
  obtain ⟨a, len, cap, z, rfl, hl, hcap, hz, hb, hn⟩ := open_bytes f6 hfit
  obtain ⟨k11, e11, _, w11⟩ := DataW.trod_int Tryz.underlying3 f7
  obtain rfl : v11 = .int .i64 k11 := by simpa using e11
  obtain ⟨k12, e12, _, w12⟩ := DataW.trod_int Tryz.underlying29 f8
  obtain rfl : v12 = .int .u64 k12 := by simpa using e12
  obtain ⟨s13, e13, hy13, _⟩ := DataW.trod_string Tryz.underlying9 f9
  obtain rfl : v13 = .string s13 := by simpa using e13
  have hs13 : s13.size ≤ 140737488351232 := by
    have := hf s13.data.toList.length (by
      rw [hx]
      simp only [DataW.weights, Tryz.underlying37]
      exact DataW.weights_mem_each (j := 9) rfl rfl _ (by rw [hy13]; simp [DataW.weights]))
    rw [Array.length_toList] at this
    exact this
  obtain ⟨s14, e14, hy14, _⟩ := DataW.trod_string Tryz.underlying9 f10
  obtain rfl : v14 = .string s14 := by simpa using e14
  have hs14 : s14.size ≤ 140737488351232 := by
    have := hf s14.data.toList.length (by
      rw [hx]
      simp only [DataW.weights, Tryz.underlying37]
      exact DataW.weights_mem_each (j := 10) rfl rfl _ (by rw [hy14]; simp [DataW.weights]))
    rw [Array.length_toList] at this
    exact this
  obtain ⟨k15, e15, _, w15⟩ := DataW.trod_int Tryz.underlying29 f11
  obtain rfl : v15 = .int .u64 k15 := by simpa using e15
  obtain ⟨xs12, n12, _, _, _, hl12, hg12⟩ := DataW.trod_struct Tryz.underlying34 f12
  obtain ⟨q16, q17, rfl⟩ : ∃ q16 q17, xs12 = [q16, q17] := by
    match xs12, hl12 with
    | [a, b], _ => exact ⟨a, b, rfl⟩
  have g16 := hg12 0 _ rfl
  simp [cellsU] at g16
  obtain ⟨k16, e16, _, w16⟩ := DataW.trod_int Tryz.underlying29 g16
  obtain rfl : v16 = .int .u64 k16 := by simpa using e16
  have g17 := hg12 1 _ rfl
  simp [cellsU] at g17
  obtain ⟨k17, e17, _, w17⟩ := DataW.trod_int Tryz.underlying29 g17
  obtain rfl : v17 = .int .u64 k17 := by simpa using e17
  obtain ⟨k18, e18, _, w18⟩ := DataW.trod_int Tryz.underlying3 f13
  obtain rfl : v18 = .int .i64 k18 := by simpa using e18
  obtain ⟨k19, e19, _, w19⟩ := DataW.trod_int Tryz.underlying3 f14
  obtain rfl : v19 = .int .i64 k19 := by simpa using e19
  obtain ⟨k20, e20, _, w20⟩ := DataW.trod_int Tryz.underlying3 f15
  obtain rfl : v20 = .int .i64 k20 := by simpa using e20
  obtain ⟨k21, e21, _, w21⟩ := DataW.trod_int Tryz.underlying35 f16
  obtain rfl : v21 = .int .i64 k21 := by simpa using e21
  refine ⟨⟨fun c => if c = 0 then k0 else if c = 1 then k1 else if c = 2 then k2 else if c = 3 then k3 else if c = 4 then k4 else if c = 5 then k5 else if c = 6 then k6 else if c = 7 then k7 else if c = 8 then k8 else if c = 9 then k9 else if c = 11 then k11 else if c = 12 then k12 else if c = 15 then k15 else if c = 16 then k16 else if c = 17 then k17 else if c = 18 then k18 else if c = 19 then k19 else if c = 20 then k20 else if c = 21 then k21 else 0, fun c => if c = 10 then (List.range len).map z else if c = 13 then listS s13 else if c = 14 then listS s14 else []⟩, a, cap, ?_, ⟨?_, ?_, ?_, ?_, ?_⟩, ?_, ?_, ?_, hcap⟩
  · have e10 : ((List.range len).map z).length = len := by simp
    show _ = ([.int .i64 k0, .int .i64 k1, .int .i64 k2, .int .i64 k3, .int .u64 k4, .int .u64 k5, .int .u64 k6, .int .u64 k7, .int .i64 k8, .int .u64 k9, .slice a ((List.range len).map z).length cap, .int .i64 k11, .int .u64 k12, .string (strL (listS s13)), .string (strL (listS s14)), .int .u64 k15, .int .u64 k16, .int .u64 k17, .int .i64 k18, .int .i64 k19, .int .i64 k20, .int .i64 k21] : List Value)
    rw [e10, strL_listS, strL_listS]
  · show Byt W a ((List.range len).map z).length (fun j => ((List.range len).map z).getD j 0)
    rw [List.length_map, List.length_range]
    intro j hj
    obtain ⟨b, o, e, hc⟩ := hb j (by omega)
    refine ⟨b, o, e, ?_⟩
    show W.cell? _ = some (.int .u8 ((((List.range len).map z).getD j 0 : Nat) : Int))
    rw [getD_range_map z len j hj]
    exact hc
  · intro e
    show ((List.range len).map z).length = 0 ∧ cap = 0
    rw [List.length_map, List.length_range]
    exact hn e
  · intro q e h0
    have h0 : 0 < ((List.range len).map z).length := h0
    rw [List.length_map, List.length_range] at h0
    obtain ⟨b, o, e2, hc⟩ := hb 0 (by omega)
    rw [e2] at e
    obtain rfl := Option.some.inj e
    exact World.block_lt_of_cell? _ _ hc
  · intro c
    show (if c = 10 then (List.range len).map z else if c = 13 then listS s13 else if c = 14 then listS s14 else []).length ≤ _
    split
    · rw [List.length_map, List.length_range]; omega
    · split
      · rw [listS_len]; exact hs13
      · split
        · rw [listS_len]; exact hs14
        · exact Nat.zero_le _
  · intro c v hv
    have hv : v ∈ (if c = 10 then (List.range len).map z else if c = 13 then listS s13 else if c = 14 then listS s14 else []) := hv
    split at hv
    · obtain ⟨j, _, rfl⟩ := List.mem_map.1 hv
      exact hz j
    · split at hv
      · exact listS_byte s13 v hv
      · split at hv
        · exact listS_byte s14 v hv
        · exact absurd hv (List.not_mem_nil)
  · refine ⟨fun c hc => ?_, fun c c1 c2 c3 => ?_⟩
    · show (if c = 0 then k0 else if c = 1 then k1 else if c = 2 then k2 else if c = 3 then k3 else if c = 4 then k4 else if c = 5 then k5 else if c = 6 then k6 else if c = 7 then k7 else if c = 8 then k8 else if c = 9 then k9 else if c = 11 then k11 else if c = 12 then k12 else if c = 15 then k15 else if c = 16 then k16 else if c = 17 then k17 else if c = 18 then k18 else if c = 19 then k19 else if c = 20 then k20 else if c = 21 then k21 else 0) = (0 : Int)
      rw [if_neg (by omega)]; rw [if_neg (by omega)]; rw [if_neg (by omega)]; rw [if_neg (by omega)]; rw [if_neg (by omega)]; rw [if_neg (by omega)]; rw [if_neg (by omega)]; rw [if_neg (by omega)]; rw [if_neg (by omega)]; rw [if_neg (by omega)]; rw [if_neg (by omega)]; rw [if_neg (by omega)]; rw [if_neg (by omega)]; rw [if_neg (by omega)]; rw [if_neg (by omega)]; rw [if_neg (by omega)]; rw [if_neg (by omega)]; rw [if_neg (by omega)]; rw [if_neg (by omega)]
    · show (if c = 10 then (List.range len).map z else if c = 13 then listS s13 else if c = 14 then listS s14 else []) = []
      rw [if_neg c1, if_neg c2, if_neg c3]
  · have b0 : ∀ {n : Int}, (Lit.int .i64 n).wf = true → -9223372036854775808 ≤ n ∧ n < 9223372036854775808 := fun h => by have := bounds_i64 h; omega
    have b1 : ∀ {n : Int}, (Lit.int .u64 n).wf = true → 0 ≤ n ∧ n < 18446744073709551616 := fun h => by have := bounds_u64 h; omega
    have r0 := b0 w0
    have r1 := b0 w1
    have r2 := b0 w2
    have r3 := b0 w3
    have r4 := b1 w4
    have r5 := b1 w5
    have r6 := b1 w6
    have r7 := b1 w7
    have r8 := b0 w8
    have r9 := b1 w9
    have r11 := b0 w11
    have r12 := b1 w12
    have r15 := b1 w15
    have r16 := b1 w16
    have r17 := b1 w17
    have r18 := b0 w18
    have r19 := b0 w19
    have r20 := b0 w20
    have r21 := b0 w21
    have hall : ∀ c, (isU c = true → 0 ≤ (if c = 0 then k0 else if c = 1 then k1 else if c = 2 then k2 else if c = 3 then k3 else if c = 4 then k4 else if c = 5 then k5 else if c = 6 then k6 else if c = 7 then k7 else if c = 8 then k8 else if c = 9 then k9 else if c = 11 then k11 else if c = 12 then k12 else if c = 15 then k15 else if c = 16 then k16 else if c = 17 then k17 else if c = 18 then k18 else if c = 19 then k19 else if c = 20 then k20 else if c = 21 then k21 else 0) ∧ (if c = 0 then k0 else if c = 1 then k1 else if c = 2 then k2 else if c = 3 then k3 else if c = 4 then k4 else if c = 5 then k5 else if c = 6 then k6 else if c = 7 then k7 else if c = 8 then k8 else if c = 9 then k9 else if c = 11 then k11 else if c = 12 then k12 else if c = 15 then k15 else if c = 16 then k16 else if c = 17 then k17 else if c = 18 then k18 else if c = 19 then k19 else if c = 20 then k20 else if c = 21 then k21 else 0) < (18446744073709551616 : Int)) ∧ -9223372036854775808 ≤ (if c = 0 then k0 else if c = 1 then k1 else if c = 2 then k2 else if c = 3 then k3 else if c = 4 then k4 else if c = 5 then k5 else if c = 6 then k6 else if c = 7 then k7 else if c = 8 then k8 else if c = 9 then k9 else if c = 11 then k11 else if c = 12 then k12 else if c = 15 then k15 else if c = 16 then k16 else if c = 17 then k17 else if c = 18 then k18 else if c = 19 then k19 else if c = 20 then k20 else if c = 21 then k21 else 0) ∧ (isU c = false → (if c = 0 then k0 else if c = 1 then k1 else if c = 2 then k2 else if c = 3 then k3 else if c = 4 then k4 else if c = 5 then k5 else if c = 6 then k6 else if c = 7 then k7 else if c = 8 then k8 else if c = 9 then k9 else if c = 11 then k11 else if c = 12 then k12 else if c = 15 then k15 else if c = 16 then k16 else if c = 17 then k17 else if c = 18 then k18 else if c = 19 then k19 else if c = 20 then k20 else if c = 21 then k21 else 0) < (9223372036854775808 : Int)) := fun c => by
      by_cases hc : c < 22
      · match c, hc with
        | 0, _ => exact (show (isU 0 = true → 0 ≤ k0 ∧ k0 < (18446744073709551616 : Int)) ∧ -9223372036854775808 ≤ k0 ∧ (isU 0 = false → k0 < (9223372036854775808 : Int)) from ⟨fun _ => by first | omega | (exact absurd ‹_› (by decide)), by omega, fun _ => by first | omega | (exact absurd ‹_› (by decide))⟩)
        | 1, _ => exact (show (isU 1 = true → 0 ≤ k1 ∧ k1 < (18446744073709551616 : Int)) ∧ -9223372036854775808 ≤ k1 ∧ (isU 1 = false → k1 < (9223372036854775808 : Int)) from ⟨fun _ => by first | omega | (exact absurd ‹_› (by decide)), by omega, fun _ => by first | omega | (exact absurd ‹_› (by decide))⟩)
        | 2, _ => exact (show (isU 2 = true → 0 ≤ k2 ∧ k2 < (18446744073709551616 : Int)) ∧ -9223372036854775808 ≤ k2 ∧ (isU 2 = false → k2 < (9223372036854775808 : Int)) from ⟨fun _ => by first | omega | (exact absurd ‹_› (by decide)), by omega, fun _ => by first | omega | (exact absurd ‹_› (by decide))⟩)
        | 3, _ => exact (show (isU 3 = true → 0 ≤ k3 ∧ k3 < (18446744073709551616 : Int)) ∧ -9223372036854775808 ≤ k3 ∧ (isU 3 = false → k3 < (9223372036854775808 : Int)) from ⟨fun _ => by first | omega | (exact absurd ‹_› (by decide)), by omega, fun _ => by first | omega | (exact absurd ‹_› (by decide))⟩)
        | 4, _ => exact (show (isU 4 = true → 0 ≤ k4 ∧ k4 < (18446744073709551616 : Int)) ∧ -9223372036854775808 ≤ k4 ∧ (isU 4 = false → k4 < (9223372036854775808 : Int)) from ⟨fun _ => by first | omega | (exact absurd ‹_› (by decide)), by omega, fun _ => by first | omega | (exact absurd ‹_› (by decide))⟩)
        | 5, _ => exact (show (isU 5 = true → 0 ≤ k5 ∧ k5 < (18446744073709551616 : Int)) ∧ -9223372036854775808 ≤ k5 ∧ (isU 5 = false → k5 < (9223372036854775808 : Int)) from ⟨fun _ => by first | omega | (exact absurd ‹_› (by decide)), by omega, fun _ => by first | omega | (exact absurd ‹_› (by decide))⟩)
        | 6, _ => exact (show (isU 6 = true → 0 ≤ k6 ∧ k6 < (18446744073709551616 : Int)) ∧ -9223372036854775808 ≤ k6 ∧ (isU 6 = false → k6 < (9223372036854775808 : Int)) from ⟨fun _ => by first | omega | (exact absurd ‹_› (by decide)), by omega, fun _ => by first | omega | (exact absurd ‹_› (by decide))⟩)
        | 7, _ => exact (show (isU 7 = true → 0 ≤ k7 ∧ k7 < (18446744073709551616 : Int)) ∧ -9223372036854775808 ≤ k7 ∧ (isU 7 = false → k7 < (9223372036854775808 : Int)) from ⟨fun _ => by first | omega | (exact absurd ‹_› (by decide)), by omega, fun _ => by first | omega | (exact absurd ‹_› (by decide))⟩)
        | 8, _ => exact (show (isU 8 = true → 0 ≤ k8 ∧ k8 < (18446744073709551616 : Int)) ∧ -9223372036854775808 ≤ k8 ∧ (isU 8 = false → k8 < (9223372036854775808 : Int)) from ⟨fun _ => by first | omega | (exact absurd ‹_› (by decide)), by omega, fun _ => by first | omega | (exact absurd ‹_› (by decide))⟩)
        | 9, _ => exact (show (isU 9 = true → 0 ≤ k9 ∧ k9 < (18446744073709551616 : Int)) ∧ -9223372036854775808 ≤ k9 ∧ (isU 9 = false → k9 < (9223372036854775808 : Int)) from ⟨fun _ => by first | omega | (exact absurd ‹_› (by decide)), by omega, fun _ => by first | omega | (exact absurd ‹_› (by decide))⟩)
        | 10, _ => exact (show (isU 10 = true → 0 ≤ (0 : Int) ∧ (0 : Int) < (18446744073709551616 : Int)) ∧ -9223372036854775808 ≤ (0 : Int) ∧ (isU 10 = false → (0 : Int) < (9223372036854775808 : Int)) from ⟨fun _ => by first | omega | (exact absurd ‹_› (by decide)), by omega, fun _ => by first | omega | (exact absurd ‹_› (by decide))⟩)
        | 11, _ => exact (show (isU 11 = true → 0 ≤ k11 ∧ k11 < (18446744073709551616 : Int)) ∧ -9223372036854775808 ≤ k11 ∧ (isU 11 = false → k11 < (9223372036854775808 : Int)) from ⟨fun _ => by first | omega | (exact absurd ‹_› (by decide)), by omega, fun _ => by first | omega | (exact absurd ‹_› (by decide))⟩)
        | 12, _ => exact (show (isU 12 = true → 0 ≤ k12 ∧ k12 < (18446744073709551616 : Int)) ∧ -9223372036854775808 ≤ k12 ∧ (isU 12 = false → k12 < (9223372036854775808 : Int)) from ⟨fun _ => by first | omega | (exact absurd ‹_› (by decide)), by omega, fun _ => by first | omega | (exact absurd ‹_› (by decide))⟩)
        | 13, _ => exact (show (isU 13 = true → 0 ≤ (0 : Int) ∧ (0 : Int) < (18446744073709551616 : Int)) ∧ -9223372036854775808 ≤ (0 : Int) ∧ (isU 13 = false → (0 : Int) < (9223372036854775808 : Int)) from ⟨fun _ => by first | omega | (exact absurd ‹_› (by decide)), by omega, fun _ => by first | omega | (exact absurd ‹_› (by decide))⟩)
        | 14, _ => exact (show (isU 14 = true → 0 ≤ (0 : Int) ∧ (0 : Int) < (18446744073709551616 : Int)) ∧ -9223372036854775808 ≤ (0 : Int) ∧ (isU 14 = false → (0 : Int) < (9223372036854775808 : Int)) from ⟨fun _ => by first | omega | (exact absurd ‹_› (by decide)), by omega, fun _ => by first | omega | (exact absurd ‹_› (by decide))⟩)
        | 15, _ => exact (show (isU 15 = true → 0 ≤ k15 ∧ k15 < (18446744073709551616 : Int)) ∧ -9223372036854775808 ≤ k15 ∧ (isU 15 = false → k15 < (9223372036854775808 : Int)) from ⟨fun _ => by first | omega | (exact absurd ‹_› (by decide)), by omega, fun _ => by first | omega | (exact absurd ‹_› (by decide))⟩)
        | 16, _ => exact (show (isU 16 = true → 0 ≤ k16 ∧ k16 < (18446744073709551616 : Int)) ∧ -9223372036854775808 ≤ k16 ∧ (isU 16 = false → k16 < (9223372036854775808 : Int)) from ⟨fun _ => by first | omega | (exact absurd ‹_› (by decide)), by omega, fun _ => by first | omega | (exact absurd ‹_› (by decide))⟩)
        | 17, _ => exact (show (isU 17 = true → 0 ≤ k17 ∧ k17 < (18446744073709551616 : Int)) ∧ -9223372036854775808 ≤ k17 ∧ (isU 17 = false → k17 < (9223372036854775808 : Int)) from ⟨fun _ => by first | omega | (exact absurd ‹_› (by decide)), by omega, fun _ => by first | omega | (exact absurd ‹_› (by decide))⟩)
        | 18, _ => exact (show (isU 18 = true → 0 ≤ k18 ∧ k18 < (18446744073709551616 : Int)) ∧ -9223372036854775808 ≤ k18 ∧ (isU 18 = false → k18 < (9223372036854775808 : Int)) from ⟨fun _ => by first | omega | (exact absurd ‹_› (by decide)), by omega, fun _ => by first | omega | (exact absurd ‹_› (by decide))⟩)
        | 19, _ => exact (show (isU 19 = true → 0 ≤ k19 ∧ k19 < (18446744073709551616 : Int)) ∧ -9223372036854775808 ≤ k19 ∧ (isU 19 = false → k19 < (9223372036854775808 : Int)) from ⟨fun _ => by first | omega | (exact absurd ‹_› (by decide)), by omega, fun _ => by first | omega | (exact absurd ‹_› (by decide))⟩)
        | 20, _ => exact (show (isU 20 = true → 0 ≤ k20 ∧ k20 < (18446744073709551616 : Int)) ∧ -9223372036854775808 ≤ k20 ∧ (isU 20 = false → k20 < (9223372036854775808 : Int)) from ⟨fun _ => by first | omega | (exact absurd ‹_› (by decide)), by omega, fun _ => by first | omega | (exact absurd ‹_› (by decide))⟩)
        | 21, _ => exact (show (isU 21 = true → 0 ≤ k21 ∧ k21 < (18446744073709551616 : Int)) ∧ -9223372036854775808 ≤ k21 ∧ (isU 21 = false → k21 < (9223372036854775808 : Int)) from ⟨fun _ => by first | omega | (exact absurd ‹_› (by decide)), by omega, fun _ => by first | omega | (exact absurd ‹_› (by decide))⟩)
        | k + 22, h => exact absurd h (by omega)
      · rw [if_neg (by omega), if_neg (by omega), if_neg (by omega), if_neg (by omega), if_neg (by omega), if_neg (by omega), if_neg (by omega), if_neg (by omega), if_neg (by omega), if_neg (by omega), if_neg (by omega), if_neg (by omega), if_neg (by omega), if_neg (by omega), if_neg (by omega), if_neg (by omega), if_neg (by omega), if_neg (by omega), if_neg (by omega)]
        exact ⟨fun _ => by omega, by omega, fun _ => by omega⟩
    exact ⟨fun c hc => (hall c).1 hc, fun c => (hall c).2⟩
  · show ((List.range len).map z).length ≤ cap
    rw [List.length_map, List.length_range]
    exact hl
end Go.Proofs.YtonpmabdjngdcaaGreatDoor

/- A message's bytes with one bit turned: plain mathematics. -/
namespace Go.Proofs.YtonpmabdjngdcaaGreatDoor
open Go.RowKit

/-- The greatest number of bytes of a part. -/
def Fd.room : Fd → Nat
  | .var _ _ => 10
  | .small _ _ => 1
  | .text _ most => most + 10
theorem put_room {m : Mg} {f : Fd} (h : f.fits m) : (f.put m).length ≤ f.room := by
  cases f with
  | var c most => have := vl_len 9 (m.n c).toNat; exact this
  | small c most => show (fl 1 _).length ≤ 1; rw [fl_len]; exact Nat.le_refl _
  | text c most =>
    have h1 : (m.s c).length ≤ most := h.1
    show (vl 9 (m.s c).length ++ m.s c).length ≤ most + 10
    rw [List.length_append]
    have := vl_len 9 (m.s c).length
    omega
theorem putL_room {m : Mg} : ∀ fs : List Fd, (∀ f ∈ fs, f.fits m) → (putL m fs).length ≤ (fs.map Fd.room).sum
  | [], _ => Nat.le_refl _
  | f :: fs, h => by
    show (f.put m ++ putL m fs).length ≤ _
    rw [List.length_append, List.map_cons, List.sum_cons]
    have := put_room (h f (List.mem_cons_self ..))
    have := putL_room fs (fun g hg => h g (List.mem_cons_of_mem _ hg))
    omega
theorem fdsK_room : ∀ k : Fin 12, ((fdsK k.val).map Fd.room).sum ≤ 16900 := by decide +kernel
/-- Bytes that Encode answers: their number. -/
theorem enc_size {m : Mg} {l : List Nat} (he : encM m = (0, l)) : 8 ≤ l.length ∧ l.length ≤ 17000 := by
  unfold encM at he
  by_cases hk : kindB m = false
  · rw [if_pos hk] at he; exact absurd (congrArg Prod.fst he) (by simp)
  · rw [if_neg hk] at he
    by_cases hm : mayM m = false
    · rw [if_pos hm] at he; exact absurd (congrArg Prod.fst he) (by simp)
    · rw [if_neg hm] at he
      have e : sealG (bodyG m) = l := congrArg Prod.snd he
      have hk := Bool.of_not_eq_false hk
      have hm := Bool.of_not_eq_false hm
      have h1 := putL_room (fdsK (m.n 0).toNat) (fdsK_fits (Bool.and_eq_true_iff.1 hm).2)
      have h2 := fdsK_room ⟨_, kind_lt hk⟩
      have h3 : (bodyG m).length = 4 + (putL m (fdsK (m.n 0).toNat)).length := by unfold bodyG; rw [List.length_append, hds_len]
      have h2 : ((fdsK (m.n 0).toNat).map Fd.room).sum ≤ 16900 := h2
      rw [← e, seal_len]
      omega
theorem bitAt_ne {i j : Nat} (h : j ≠ i / 8) : Crc.bitAt i j = 0 := by unfold Crc.bitAt; rw [if_neg h]
theorem bitAt_lt8 (i j : Nat) : Crc.bitAt i j < 256 := by
  unfold Crc.bitAt
  split
  · exact Nat.lt_of_lt_of_le (Nat.pow_lt_pow_right (by decide) (Nat.mod_lt i (by decide))) (by decide)
  · decide
theorem xor_lt8 {a b : Nat} (ha : a < 256) (hb : b < 256) : a ^^^ b < 256 := Nat.xor_lt_two_pow (n := 8) ha hb
theorem bit_told (n i : Nat) (h : i < 8 * n) : Crc.fold 0 ((List.range n).map (Crc.bitAt i)) ≠ 0 := fun e => by
  rw [(Crc.fold_bit n i).2 h] at e
  exact absurd (Crc.it_eq_zero _ 1 (by decide) e) (by decide)
theorem xor_same (S D : Nat) (h : S ^^^ D = S) : D = 0 := by
  have : S ^^^ (S ^^^ D) = S ^^^ S := by rw [h]
  rw [← Nat.xor_assoc, Nat.xor_self, Nat.zero_xor] at this
  exact this
theorem cut_congr {x y : Nat → Nat} {a k : Nat} (h : ∀ j, j < k → x (a + j) = y (a + j)) : cutZ x a k = cutZ y a k := by
  unfold cutZ
  exact List.map_congr_left (fun j hj => h j (List.mem_range.1 hj))
theorem be_congr {x y : Nat → Nat} : ∀ k, (∀ j, j < k → x j = y j) → be x k = be y k
  | 0, _ => rfl
  | k + 1, h => by
    show be x k * 256 + x k = be y k * 256 + y k
    rw [be_congr k (fun j hj => h j (by omega)), h k (by omega)]
/-- One bit turned: another sum. -/
theorem dec_turned {m : Mg} {l : List Nat} (he : encM m = (0, l)) (hb : ∀ v ∈ l, v < 256) {i : Nat} (hi : i < 8 * l.length) : decM (fun j => l.getD j 0 ^^^ Crc.bitAt i j) l.length = (82, mg0) := by
  obtain ⟨h8, h17⟩ := enc_size he
  have hx : ∀ j, l.getD j 0 < 256 := fun j => by
    by_cases h : j < l.length
    · rw [List.getD_eq_getElem?_getD, List.getElem?_eq_getElem h]; exact hb _ (List.getElem_mem h)
    · rw [List.getD_eq_getElem?_getD, List.getElem?_eq_none (by omega)]; decide
  obtain ⟨N, hN⟩ : ∃ N, l.length = N + 4 := ⟨l.length - 4, by omega⟩
  have hcut : cutZ (fun j => l.getD j 0) 0 (N + 4) = l := by
    rw [← hN]
    unfold cutZ
    simp only [Nat.zero_add]
    exact range_getD l
  have hseal : be (fun j => (fun j => l.getD j 0) (N + j)) 4 = Crc.sum (cutZ (fun j => l.getD j 0) 0 N) := by
    refine (seal_iff (fun j => l.getD j 0) hx N).1 ?_
    unfold encM at he
    by_cases hk : kindB m = false
    · rw [if_pos hk] at he; exact absurd (congrArg Prod.fst he) (by simp)
    · rw [if_neg hk] at he
      by_cases hm : mayM m = false
      · rw [if_pos hm] at he; exact absurd (congrArg Prod.fst he) (by simp)
      · rw [if_neg hm] at he
        have e : sealG (bodyG m) = l := congrArg Prod.snd he
        have hl : (bodyG m).length = N := by have := congrArg List.length e; rw [seal_len, hN] at this; omega
        have hc := cutZ_cat (fun j => l.getD j 0) 0 N 4
        rw [Nat.zero_add, hcut, ← e] at hc
        have hbd : cutZ (fun j => l.getD j 0) 0 N = bodyG m := by rw [← e]; exact (List.append_inj hc (by rw [cutZ_len, hl])).1
        rw [hbd, hcut, e]
  unfold decM
  rw [hN] at hi ⊢
  rw [if_neg (by omega), Nat.add_sub_cancel, if_pos ?_]
  intro hq
  by_cases hin : i < 8 * N
  · have e1 : be (fun j => l.getD (N + j) 0 ^^^ Crc.bitAt i (N + j)) 4 = be (fun j => l.getD (N + j) 0) 4 := be_congr 4 (fun j hj => by rw [bitAt_ne (by omega), Nat.xor_zero])
    have hq : be (fun j => l.getD (N + j) 0 ^^^ Crc.bitAt i (N + j)) 4 = Crc.sum (cutZ (fun j => l.getD j 0 ^^^ Crc.bitAt i j) 0 N) := hq
    have hs := Crc.sum_turned N (fun j => l.getD j 0) (Crc.bitAt i)
    have e2 : cutZ (fun j => l.getD j 0 ^^^ Crc.bitAt i j) 0 N = (List.range N).map (fun j => l.getD j 0 ^^^ Crc.bitAt i j) := by unfold cutZ; simp only [Nat.zero_add]
    have e3 : cutZ (fun j => l.getD j 0) 0 N = (List.range N).map (fun j => l.getD j 0) := by unfold cutZ; simp only [Nat.zero_add]
    rw [e1, e2, hs, ← e3] at hq
    have hq2 := hseal.symm.trans hq
    exact bit_told N i hin (xor_same _ _ hq2.symm)
  · have e2 : cutZ (fun j => l.getD j 0 ^^^ Crc.bitAt i j) 0 N = cutZ (fun j => l.getD j 0) 0 N := cut_congr (fun j hj => by
      show l.getD (0 + j) 0 ^^^ Crc.bitAt i (0 + j) = l.getD (0 + j) 0
      rw [bitAt_ne (by omega), Nat.xor_zero])
    have hq : be (fun j => l.getD (N + j) 0 ^^^ Crc.bitAt i (N + j)) 4 = Crc.sum (cutZ (fun j => l.getD j 0 ^^^ Crc.bitAt i j) 0 N) := hq
    rw [e2, ← hseal] at hq
    have f1 := fl_be (fun j => l.getD (N + j) 0 ^^^ Crc.bitAt i (N + j)) (fun j => xor_lt8 (hx _) (bitAt_lt8 _ _)) 4
    have f2 := fl_be (fun j => l.getD (N + j) 0) (fun j => hx _) 4
    have hq3 : be (fun j => l.getD (N + j) 0 ^^^ Crc.bitAt i (N + j)) 4 = be (fun j => l.getD (N + j) 0) 4 := hq
    rw [hq3, f2] at f1
    have hj : i / 8 - N < 4 := by omega
    have : List.getD _ (i / 8 - N) 0 = List.getD _ (i / 8 - N) 0 := congrArg (fun l => l.getD (i / 8 - N) 0) f1
    rw [getD_range_map _ 4 _ hj, getD_range_map _ 4 _ hj, show N + (i / 8 - N) = i / 8 by omega] at this
    have h0 := xor_same _ _ this.symm
    unfold Crc.bitAt at h0
    rw [if_pos rfl] at h0
    exact absurd h0 (Nat.ne_of_gt (Nat.pow_pos (by decide)))
end Go.Proofs.YtonpmabdjngdcaaGreatDoor

/- Lists side by side, of elements of one cell: what an append of one leaves of all others. -/
namespace Go.Proofs.YtonpmabdjngdcaaGreatDoor
open Go.RowKit

/-- Cell j of block b, a row of elements of type e, holds x. -/
def Cel (e : TypeId) (w : World) (b j : Nat) (x : Value) : Prop := ∃ cur, w.heap[b]? = some (.cells cur e (0, 0)) ∧ cur[j]? = some x
theorem Cel.cell {e : TypeId} {w : World} {b j : Nat} {x : Value} (h : Cel e w b j x) : w.cell? ⟨b, j, none⟩ = some x := by
  obtain ⟨cur, h1, h2⟩ := h
  simp [World.cell?, h1, h2]
theorem Cel.lt {e : TypeId} {w : World} {b j : Nat} {x : Value} (h : Cel e w b j x) : b < w.heap.size := by
  obtain ⟨cur, h1, _⟩ := h
  exact (Array.getElem?_eq_some_iff.1 h1).1
theorem Cel.of_block {e : TypeId} {w w' : World} {b j : Nat} {x : Value} (h : Cel e w b j x) (hb : w'.heap[b]? = w.heap[b]?) : Cel e w' b j x := by
  obtain ⟨cur, h1, h2⟩ := h
  exact ⟨cur, hb.trans h1, h2⟩
theorem Cel.apart {e e' : TypeId} {w : World} {b b' j j' : Nat} {x x' : Value} (h : Cel e w b j x) (h' : Cel e' w b' j' x') (hne : e ≠ e') : b ≠ b' := by
  rintro rfl
  obtain ⟨cur, h1, _⟩ := h
  obtain ⟨cur', h1', _⟩ := h'
  rw [h1] at h1'
  simp only [Option.some.injEq, Obj.cells.injEq] at h1'
  exact hne h1'.2.1
theorem fown_cel {w : World} {K : Nat} {e : TypeId} {v : Value} {n : Nat} {xs : List Value} (h : w.ownsRow K e 1 v n xs) {b j : Nat} {x : Value} (hb : v.ownBlock = some b) (hx : xs[j]? = some x) : Cel e w b j x := by
  rcases h.2 with ⟨rfl, _⟩ | ⟨g, cap, cur, rfl, _, hq, _, _, _, htake⟩
  · cases hb
  · obtain rfl : g = b := by simpa [Value.ownBlock] using hb
    refine ⟨cur, hq, ?_⟩
    have hj : j < xs.length := (List.getElem?_eq_some_iff.1 hx).1
    rw [← htake] at hx
    rw [List.getElem?_take] at hx
    split at hx
    · simpa using hx
    · cases hx
/-- The block of a row that is not empty. -/
theorem fown_some {w : World} {K : Nat} {e : TypeId} {v : Value} {n : Nat} {xs : List Value} (h : w.ownsRow K e 1 v n xs) (hn : 0 < n) : ∃ b c, v = .slice (some ⟨b, 0, none⟩) n c ∧ v.ownBlock = some b ∧ K ≤ b ∧ b < w.heap.size ∧ n ≤ c := by
  rcases h.2 with ⟨_, rfl⟩ | ⟨g, cap, cur, rfl, hk, hq, hc, _⟩
  · omega
  · exact ⟨g, cap, rfl, rfl, hk, (Array.getElem?_eq_some_iff.1 hq).1, hc⟩
theorem fown_slice {w : World} {K : Nat} {e : TypeId} {v : Value} {n : Nat} {xs : List Value} (h : w.ownsRow K e 1 v n xs) : ∃ a c, v = .slice a n c ∧ n ≤ c ∧ (∀ b, v.ownBlock = some b → a = some ⟨b, 0, none⟩) := by
  rcases h.2 with ⟨rfl, rfl⟩ | ⟨g, cap, cur, rfl, _, _, hc, _⟩
  · exact ⟨none, 0, rfl, Nat.le_refl _, fun b h => by cases h⟩
  · exact ⟨_, cap, rfl, hc, fun b h => by simp [Value.ownBlock] at h; rw [h]⟩
theorem fown_apart {w : World} {K K' : Nat} {e e' : TypeId} {v v' : Value} {n n' : Nat} {xs xs' : List Value} (h : w.ownsRow K e 1 v n xs) (h' : w.ownsRow K' e' 1 v' n' xs') (hne : e ≠ e') : ∀ b, v.ownBlock = some b → v'.ownBlock ≠ some b := by
  intro b hb hb'
  rcases h.2 with ⟨rfl, _⟩ | ⟨g, cap, cur, rfl, _, hq, _⟩
  · cases hb
  · rcases h'.2 with ⟨rfl, _⟩ | ⟨g', cap', cur', rfl, _, hq', _⟩
    · cases hb'
    · obtain rfl : g = b := by simpa [Value.ownBlock] using hb
      obtain rfl : g' = g := by simpa [Value.ownBlock] using hb'
      rw [hq] at hq'
      simp only [Option.some.injEq, Obj.cells.injEq] at hq'
      exact hne hq'.2.1
theorem fown_block {w w' : World} {K : Nat} {e : TypeId} {v : Value} {n : Nat} {xs : List Value} (h : w.ownsRow K e 1 v n xs) (hb : ∀ b, v.ownBlock = some b → w'.heap[b]? = w.heap[b]?) : w'.ownsRow K e 1 v n xs := by
  refine ⟨h.1, ?_⟩
  rcases h.2 with ⟨rfl, h0⟩ | ⟨g, cap, cur, rfl, hk, hq, hr⟩
  · exact .inl ⟨rfl, h0⟩
  · exact .inr ⟨g, cap, cur, rfl, hk, (hb g rfl).trans hq, hr⟩

/-- From w to w' only the block g has been written, from its cell n on, and the block f; all else that was there is as it was. -/
structure Grew (e : TypeId) (w w' : World) (g : Option Nat) (n : Nat) (f : Option Nat) : Prop where
  os : w'.os = w.os
  tape : w'.tape = w.tape
  output : w'.output = w.output
  size : w.heap.size ≤ w'.heap.size
  block : ∀ b, b < w.heap.size → g ≠ some b → f ≠ some b → w'.heap[b]? = w.heap[b]?
  cell : ∀ b j x, g = some b → f ≠ some b → j < n → Cel e w b j x → Cel e w' b j x

theorem Grew.refl (e : TypeId) (w : World) (g : Option Nat) (n : Nat) (f : Option Nat) : Grew e w w g n f := ⟨rfl, rfl, rfl, Nat.le_refl _, fun _ _ _ _ => rfl, fun _ _ _ _ _ _ h => h⟩

theorem Grew.of_below {w w' : World} (h : Below w.heap.size w w') (e : TypeId) (g : Option Nat) (n : Nat) (f : Option Nat) : Grew e w w' g n f :=
  ⟨h.os, h.tape, h.output, h.size, fun b hb _ _ => h.block b hb, fun b _ _ _ _ _ hc => hc.of_block (h.block b hc.lt)⟩

theorem Grew.below {e : TypeId} {w w' : World} {g : Option Nat} {n : Nat} {f : Option Nat} (h : Grew e w w' g n f) (K : Nat) (hK : K ≤ w.heap.size) (hg : ∀ b, g = some b → K ≤ b) (hf : ∀ b, f = some b → K ≤ b) : Below K w w' :=
  ⟨h.os, h.tape, h.output, h.size, fun b hb => h.block b (by omega) (fun e => by have := hg b e; omega) (fun e => by have := hf b e; omega)⟩

/-- A row elsewhere is as it was. -/
theorem Grew.own {e : TypeId} {w w' : World} {g f : Option Nat} {m : Nat} (k : Grew e w w' g m f) {K : Nat} {e' : TypeId} {v : Value} {n : Nat} {xs : List Value} (h : w.ownsRow K e' 1 v n xs) (hg : ∀ b, v.ownBlock = some b → g ≠ some b) (hf : ∀ b, v.ownBlock = some b → f ≠ some b) : w'.ownsRow K e' 1 v n xs :=
  fown_block h (fun b hb => k.block b (h.lt b hb).2 (hg b hb) (hf b hb))

/-- One more step: the list under way lies where it began, or in new memory; so does the other row. -/
theorem Grew.trans {e : TypeId} {w w1 w2 : World} {g g1 f f1 : Option Nat} {n n1 : Nat} (h : Grew e w w1 g n f) (k : Grew e w1 w2 g1 n1 f1) (hg : g1 = g ∧ n ≤ n1 ∨ ∀ b, g1 = some b → w.heap.size ≤ b) (hf : f1 = f ∨ ∀ b, f1 = some b → w.heap.size ≤ b) : Grew e w w2 g n f := by
  have ne1 : ∀ b, b < w.heap.size → g ≠ some b → g1 ≠ some b := fun b hb hn e => by
    rcases hg with ⟨rfl, _⟩ | hg
    · exact hn e
    · have := hg b e; omega
  have nf1 : ∀ b, b < w.heap.size → f ≠ some b → f1 ≠ some b := fun b hb hn e => by
    rcases hf with rfl | hf
    · exact hn e
    · have := hf b e; omega
  refine ⟨k.os.trans h.os, k.tape.trans h.tape, k.output.trans h.output, Nat.le_trans h.size k.size, fun b hb h1 h2 => ?_, fun b j x eg hfb hj hc => ?_⟩
  · rw [k.block b (Nat.lt_of_lt_of_le hb h.size) (ne1 b hb h1) (nf1 b hb h2)]
    exact h.block b hb h1 h2
  · have hb := hc.lt
    have hc1 := h.cell b j x eg hfb hj hc
    by_cases e1 : g1 = some b
    · rcases hg with ⟨_, hn⟩ | hg
      · exact k.cell b j x e1 (nf1 b hb hfb) (by omega) hc1
      · have := hg b e1; omega
    · exact hc1.of_block (k.block b (Nat.lt_of_lt_of_le hb h.size) e1 (nf1 b hb hfb))

/-- append of one, whatever the element's type. -/
theorem fapp_one {P : Program} {w : World} {K n bytes : Nat} {v z y : Value} {xs : List Value} {t ty e : TypeId} (ht : P.underlying t = some (.slice e)) (hinfo : (P.info? e).map (fun i => (i.zero, i.size, i.bytes)) = some (some z, 1, bytes)) (hzc : z.cells.size = 1)
    (h : w.ownsRow K e 1 v n xs) (hy : y.oneCell' = true) (hb : ((n + 1) + (n + 1) / 4 + 192) * bytes ≤ 281474976710656) (hn : n + 1 ≤ 140737488355328) (hK : K ≤ w.heap.size) :
    ∃ v' w', (Builtin.append_ #[t, t] ty #[v, .slice (some ⟨w.heap.size, 0, none⟩) 1 1]).run P (w.alloc (.cells #[y] e)) = .ok v' w' ∧ w'.ownsRow K e 1 v' (n + 1) (xs ++ [y]) ∧ Grew e w w' v.ownBlock n none ∧ (v'.ownBlock = v.ownBlock ∨ ∃ b, v'.ownBlock = some b ∧ w.heap.size ≤ b) := by
  obtain ⟨i0, hi, hz0, hz1, hz2⟩ : ∃ i, P.info? e = some i ∧ i.zero = some z ∧ i.size = 1 ∧ i.bytes = bytes := by
    obtain ⟨i, hi, hh⟩ := Option.map_eq_some_iff.1 hinfo
    simp only [Prod.mk.injEq] at hh
    exact ⟨i, hi, hh.1, hh.2.1, hh.2.2⟩
  have hnews : ∀ j u, [y][j]? = some u → (w.alloc (.cells #[y] e)).cell? ((⟨w.heap.size, 0, none⟩ : Addr).add j) = some u := fun j u hj => by
    obtain ⟨hj1, hj2⟩ := List.getElem?_eq_some_iff.1 hj
    have : j = 0 := by simpa using hj1
    subst this
    rw [← hj2]
    simp [Addr.add]
  have hwf : ∀ u, u ∈ [y] → u.oneCell' = true := fun u hu => by rw [show u = y by simpa using hu]; exact hy
  have hml : maxLen = 9223372036854775807 := rfl
  have ho := h.alloc (.cells #[y] e)
  have hz : (w.alloc (.cells #[y] e)).heap.size = w.heap.size + 1 := by simp
  obtain ⟨v', w', h1, h2, h3, _⟩ := run_append_own_wide (P := P) (w.alloc (.cells #[y] e)) K t ty e i0 z 1 bytes ht hi hz0 hz1 hz2 hzc (by decide) v n xs ho ⟨w.heap.size, 0, none⟩ 1 1 [y] rfl hnews hwf (by omega) hb (by omega)
  have hlt := h.lt
  refine ⟨v', w', h1, h2, ⟨h3.os, h3.tape, h3.output, by have := h3.size; omega, fun b hb hg _ => ?_, fun b j x hg _ hj hc => ?_⟩, ?_⟩
  · rw [h3.block b (by omega) (fun e => hg e.symm)]
    exact Below.heap_alloc _ _ _ hb
  · rcases ho.2 with ⟨rfl, hn0⟩ | ⟨q, cap, cur, rfl, hbg, hq, hnc, hcm, hcs, htake⟩
    · omega
    · obtain rfl : q = b := by simpa [Value.ownBlock] using hg
      have hqb := (hlt q rfl).2
      have hxs : xs[j]? = some x := by
        rw [← h.cellAt j (by omega)]
        exact hc.cell
      by_cases hroom : n + 1 ≤ cap
      · have hr2 := run_append_room (P := P) (w.alloc (.cells #[y] e)) t ty e i0 ht hi q n cap cur hq ⟨w.heap.size, 0, none⟩ 1 1 [y] (by rw [hz1]; rfl) hnews hwf hroom (by rw [hz1, hcs]; show n * 1 + 1 ≤ cap * 1; omega)
        rw [hr2] at h1
        injection h1 with e1 e2
        subst e1
        exact fown_cel h2 rfl (by rw [List.getElem?_append_left (by rw [h.1]; omega)]; exact hxs)
      · have hr2 := run_append_grow (P := P) (w.alloc (.cells #[y] e)) t ty e i0 z ht hi hz0 ⟨q, 0, none⟩ n cap xs (by rw [hz1]; exact ho.1) (ho.cells (g := q) rfl) ⟨w.heap.size, 0, none⟩ 1 1 [y] (by rw [hz1]; rfl) hnews (by omega) (by omega) (by rw [hz2]; exact growslice_fits_wide (by omega) hb)
        rw [hr2] at h1
        injection h1 with e1 e2
        subst e2
        refine (hc.of_block (Below.heap_alloc _ (.cells #[y] e) _ hqb)).of_block ?_
        exact heap_alloc_old (w.alloc (.cells #[y] e)).drew _ (by simp; omega)
  · rcases ho.2 with ⟨rfl, hn0⟩ | ⟨q, cap, cur, rfl, hbg, hq, hnc, hcm, hcs, htake⟩
    · subst hn0
      have hr2 := run_append_nil (P := P) (w.alloc (.cells #[y] e)) t ty e i0 z ht hi hz0 ⟨w.heap.size, 0, none⟩ 1 1 [y] (by rw [hz1]; rfl) hnews (by omega) (by omega) (by rw [hz2]; omega)
      rw [hr2] at h1
      injection h1 with e1 e2
      subst e1
      exact .inr ⟨_, rfl, by show w.heap.size ≤ (w.alloc (.cells #[y] e)).heap.size; omega⟩
    · by_cases hroom : n + 1 ≤ cap
      · have hr2 := run_append_room (P := P) (w.alloc (.cells #[y] e)) t ty e i0 ht hi q n cap cur hq ⟨w.heap.size, 0, none⟩ 1 1 [y] (by rw [hz1]; rfl) hnews hwf hroom (by rw [hz1, hcs]; show n * 1 + 1 ≤ cap * 1; omega)
        rw [hr2] at h1
        injection h1 with e1 e2
        subst e1
        exact .inl rfl
      · have hr2 := run_append_grow (P := P) (w.alloc (.cells #[y] e)) t ty e i0 z ht hi hz0 ⟨q, 0, none⟩ n cap xs (by rw [hz1]; exact ho.1) (ho.cells (g := q) rfl) ⟨w.heap.size, 0, none⟩ 1 1 [y] (by rw [hz1]; rfl) hnews (by omega) (by omega) (by rw [hz2]; exact growslice_fits_wide (by omega) hb)
        rw [hr2] at h1
        injection h1 with e1 e2
        subst e1
        exact .inr ⟨_, rfl, by show w.heap.size ≤ (w.alloc (.cells #[y] e)).heap.size; omega⟩
end Go.Proofs.YtonpmabdjngdcaaGreatDoor

/- MessageBack: plain mathematics, and the list of what has been written. -/
namespace Go.Proofs.YtonpmabdjngdcaaGreatDoor
open Go.RowKit
set_option maxRecDepth 100000

theorem mg_eq {a b : Mg} (wa : a.wf) (wb : b.wf) (h : eqG a b = true) : a = b := by
  have h := (eqG_iff a b).1 h
  refine Mg.ext' (fun c => ?_) (fun c => ?_)
  · by_cases hc : c < 22
    · exact (h c hc).1
    · rw [wa.n c (by omega), wb.n c (by omega)]
  · by_cases hc : c < 22
    · exact (h c hc).2
    · rw [wa.s c (by omega) (by omega) (by omega), wb.s c (by omega) (by omega) (by omega)]
theorem enc_inj {a b : Mg} (wa : a.wf) (wb : b.wf) {x y : List Nat} (ha : encM a = (0, x)) (hb : encM b = (0, y)) (hx : ∀ v ∈ x, v < 256) : decide (x = y) = eqG a b := by
  by_cases h : eqG a b = true
  · obtain rfl := mg_eq wa wb h
    rw [ha] at hb
    rw [h, decide_eq_true (congrArg Prod.snd hb)]
  · have hf : eqG a b = false := Bool.eq_false_iff.2 h
    rw [hf]
    refine decide_eq_false fun e => h ?_
    subst e
    have hl := (enc_size ha).2
    have h1 := dec_enc (z := fun j => x.getD j 0) (fun j => getD_byte hx j) wa ha hl (by rw [← cut_all, range_getD])
    have h2 := dec_enc (z := fun j => x.getD j 0) (fun j => getD_byte hx j) wb hb hl (by rw [← cut_all, range_getD])
    rw [h1] at h2
    have : a = b := congrArg Prod.snd h2
    rw [this]
    exact eqG_refl b
theorem enc_byte {m : Mg} (hb : ∀ c, ∀ v ∈ m.s c, v < 256) : ∀ v ∈ (encM m).2, v < 256 := by
  unfold encM
  split
  · exact fun v hv => absurd hv (List.not_mem_nil)
  · split
    · exact fun v hv => absurd hv (List.not_mem_nil)
    · exact seal_byte (body_byte hb)
theorem enc_none {m : Mg} (h : (encM m).1 ≠ 0) : (encM m).2 = [] := by
  unfold encM at h ⊢
  split
  · rfl
  · rename_i h1
    rw [if_neg h1] at h
    split
    · rfl
    · rename_i h2
      rw [if_neg h2] at h
      exact absurd rfl h
/-- The list of what has been written so far. -/
structure BkAll (W0 wr : World) (v : Value) (i : Nat) (EA : Nat → Option Addr) (M : Nat → Mg) : Prop where
  own : wr.ownsRow W0.heap.size 32 1 v i ((List.range i).map fun k => .slice (EA k) (encM (M k)).2.length (encM (M k)).2.length)
  txt : ∀ k, k < i → Txt W0.heap.size wr (EA k) (encM (M k)).2.length (fun j => (encM (M k)).2.getD j 0)
  sin : W0.Since W0.heap.size wr
theorem BkAll.later {W0 wr wr' : World} {v : Value} {i : Nat} {EA : Nat → Option Addr} {M : Nat → Mg} (h : BkAll W0 wr v i EA M) (hs : wr.Since wr.heap.size wr') : BkAll W0 wr' v i EA M :=
  ⟨fown_block h.own (fun b hb => hs.block b (h.own.lt b hb).2), fun k hk => (h.txt k hk).since hs, h.sin.trans (since_mono hs h.sin.size)⟩
theorem infoBs : (Tryz.prog.info? 32).map (fun i => (i.zero, i.size, i.bytes)) = some (some (.slice none 0 0), 1, 24) := by kernel_rfl
/-- One more. -/
theorem BkAll.push {W0 wr : World} {v : Value} {i : Nat} {EA : Nat → Option Addr} {M : Nat → Mg} (h : BkAll W0 wr v i EA M) (hi : i ≤ 1000000000000) (ta : Option Addr) (ht : Txt W0.heap.size wr ta (encM (M i)).2.length (fun j => (encM (M i)).2.getD j 0)) :
    ∃ (a' : Option Addr) (c' : Nat) (w' : World), Hid ((Builtin.append_ #[23, 23] 23 #[v, .slice (some ⟨wr.heap.size, 0, none⟩) 1 1]).run Tryz.prog (wr.alloc (.cells #[.slice ta (encM (M i)).2.length (encM (M i)).2.length] 32)) = .ok (.slice a' (i + 1) c') w') ∧ Hid (BkAll W0 w' (.slice a' (i + 1) c') (i + 1) (fun k => if k = i then ta else EA k) M) := by
  obtain ⟨v', w', hr, ho, hg, hv⟩ := fapp_one (P := Tryz.prog) (ty := 23) (y := .slice ta (encM (M i)).2.length (encM (M i)).2.length) Tryz.underlying23 infoBs rfl h.own rfl (by omega) (by omega) h.sin.size
  obtain ⟨a', c', hv', hc', _⟩ := fown_slice ho
  subst hv'
  refine ⟨a', c', w', hr, ?_, fun k hk => ?_, ?_⟩
  · have e : ((List.range (i + 1)).map fun k => Value.slice (if k = i then ta else EA k) (encM (M k)).2.length (encM (M k)).2.length) = ((List.range i).map fun k => Value.slice (EA k) (encM (M k)).2.length (encM (M k)).2.length) ++ [.slice ta (encM (M i)).2.length (encM (M i)).2.length] := by
      rw [List.range_succ, List.map_append]
      congr 1
      · exact List.map_congr_left (fun k hk => by have := List.mem_range.1 hk; rw [if_neg (by omega)])
      · simp
    rw [e]
    exact ho
  · have keep : ∀ (t L : Nat) (f : Nat → Value), wr.rowIs t 5 L f → w'.rowIs t 5 L f := fun t L f hr => hr.of_block (hg.block t hr.lt (fun e => by
      rcases h.own.2 with ⟨rfl, _⟩ | ⟨g, cap, cur, rfl, _, hq, _⟩
      · cases e
      · obtain rfl : g = t := by simpa [Value.ownBlock] using e
        obtain ⟨c, h1, _⟩ := hr
        rw [hq] at h1
        simp only [Option.some.injEq, Obj.cells.injEq] at h1
        exact absurd h1.2.1 (by decide)) (fun e => by cases e))
    by_cases e : k = i
    · subst e
      rw [if_pos rfl]
      rcases ht with h1 | ⟨t, h1, h2, h3⟩
      · exact .inl h1
      · exact .inr ⟨t, h1, h2, keep _ _ _ h3⟩
    · rw [if_neg e]
      rcases h.txt k (by omega) with h1 | ⟨t, h1, h2, h3⟩
      · exact .inl h1
      · exact .inr ⟨t, h1, h2, keep _ _ _ h3⟩
  · have := hg.below W0.heap.size h.sin.size (fun b e => (h.own.lt b e).1) (fun b e => by cases e)
    exact h.sin.trans ⟨this.os, this.tape, this.output, this.size, this.block⟩
theorem BkAll.at {W0 wr : World} {v : Value} {i : Nat} {EA : Nat → Option Addr} {M : Nat → Mg} (h : BkAll W0 wr v i EA M) {k : Nat} (hk : k < i) : ∃ b c, v = .slice (some ⟨b, 0, none⟩) i c ∧ i ≤ c ∧ wr.cell? ⟨b, k, none⟩ = some (.slice (EA k) (encM (M k)).2.length (encM (M k)).2.length) ∧ b < wr.heap.size := by
  obtain ⟨b, c, hv, hb, _, hlt, hc⟩ := fown_some h.own (by omega)
  refine ⟨b, c, hv, hc, ?_, hlt⟩
  have := fown_cel h.own hb (j := k) (x := .slice (EA k) (encM (M k)).2.length (encM (M k)).2.length) (by rw [List.getElem?_map, List.getElem?_range hk]; rfl)
  exact this.cell
end Go.Proofs.YtonpmabdjngdcaaGreatDoor

/- MessageBack: its walk. -/
namespace Go.Proofs.YtonpmabdjngdcaaGreatDoor
open Go.RowKit
set_option maxRecDepth 100000

/-- Messages that are handed in. -/
structure MsgsIn (w : World) (ma : Option Addr) (mn : Nat) (M : Nat → Mg) (va : Nat → Option Addr) (vc : Nat → Nat) : Prop where
  at' : ∀ i, i < mn → ∃ b o, ma = some ⟨b, o, none⟩ ∧ w.rangeAt b (o + i * 22) (mgL (M i) (va i) (vc i)) ∧ b < w.heap.size
  ok : ∀ i, i < mn → MgA w (M i) (va i) (vc i) ∧ (M i).wf ∧ ∀ c, isU c = true → 0 ≤ (M i).n c
/-- Lists of bytes that are handed in. -/
structure BytsIn (w : World) (ba : Option Addr) (bn : Nat) (xa : Nat → Option Addr) (xl xc : Nat → Nat) (x : Nat → Nat → Nat) : Prop where
  at' : ∀ i, i < bn → ∃ b o, ba = some ⟨b, o, none⟩ ∧ w.cell? ⟨b, o + i, none⟩ = some (.slice (xa i) (xl i) (xc i))
  ok : ∀ i, i < bn → Byt w (xa i) (xl i) (x i) ∧ (∀ j, x i j < 256) ∧ xl i ≤ xc i ∧ xc i ≤ 140737488351232
theorem range_since {w w' : World} {b o : Nat} {cs : List Value} (h : w.rangeAt b o cs) (hl : b < w.heap.size) (hs : w.Since w.heap.size w') : w'.rangeAt b o cs := fun j v hv => by
  rw [World.cell?_of_block (a := ⟨b, o + j, none⟩) (hs.block b hl)]
  exact h j v hv
set_option maxHeartbeats 16000000 in
theorem back_walk (ma : Option Addr) (mn mc : Nat) (M : Nat → Mg) (va : Nat → Option Addr) (vc : Nat → Nat) (ba : Option Addr) (bn bc : Nat) (xa : Nat → Option Addr) (xl xc : Nat → Nat) (x : Nat → Nat → Nat) (w : World) (hM : MsgsIn w ma mn M va vc) (hB : BytsIn w ba bn xa xl xc x) (hmn : mn ≤ 1000000000000) (hbn : bn ≤ 281474976710656) (ht : Tb w) (hU : Us w) :
    Calls Tryz.prog 3 #[.agg #[.slice ma mn mc, .slice ba bn bc]] w fun e w' => e = .returned (.bool true) ∧ w.Since w.heap.size w' := by
  obtain ⟨W0, HW0⟩ : ∃ W, Hid (w.alloc (.cells #[.slice ma mn mc, .slice ba bn bc] 25) = W) := ⟨_, rfl⟩
  have s0 : w.Since w.heap.size W0 := by rw [← HW0.out]; exact (World.Since.refl _ _).alloc (Nat.le_refl _) _
  have z0 : w.heap.size < W0.heap.size := by rw [← HW0.out]; simp
  have hr0 : W0.rowIs w.heap.size 25 2 (fun i => if i = 0 then .slice ma mn mc else .slice ba bn bc) := by
    rw [← HW0.out]
    exact World.rowIs_alloc w _ _ _ (fun i hi => by
      have hi' : i < 2 := hi
      match i, hi' with
      | 0, _ => rfl
      | 1, _ => rfl)
  have HC0 : Hid (∀ W, W0.Since W0.heap.size W → W.cell? ⟨w.heap.size, 0, none⟩ = some (.slice ma mn mc)) := fun W hW => (row_since hr0 hW).cell (i := 0) (by decide)
  have HC1 : Hid (∀ W, W0.Since W0.heap.size W → W.cell? ⟨w.heap.size, 1, none⟩ = some (.slice ba bn bc)) := fun W hW => (row_since hr0 hW).cell (i := 1) (by decide)
  have ht0 := ht.since s0
  have hU0 := hU.since s0
  have HBG : Hid (∀ W, W0.Since W0.heap.size W → Calls Tryz.prog 7 #[] W fun e w' => e = .returned (.bool true) ∧ W0.Since W0.heap.size w') := fun W hW => (begun_any W (ht0.since hW) (hU0.since hW)).mono fun e w' ⟨he, hs⟩ => ⟨he, hW.trans (since_mono hs hW.size)⟩
  have HMA : Hid (∀ W i, W0.Since W0.heap.size W → i < mn → MgA W (M i) (va i) (vc i) ∧ (M i).wf ∧ ∀ c, isU c = true → 0 ≤ (M i).n c) := fun W i hW hi => ⟨((hM.ok i hi).1.since s0).since hW, (hM.ok i hi).2⟩
  have HMR : Hid (∀ W i, W0.Since W0.heap.size W → i < mn → ∃ b o, ma = some ⟨b, o, none⟩ ∧ W.rangeAt b (o + i * 22) (mgL (M i) (va i) (vc i))) := fun W i hW hi => by
    obtain ⟨b, o, e, hr, hl⟩ := hM.at' i hi
    exact ⟨b, o, e, range_since (range_since hr hl s0) (Nat.lt_of_lt_of_le hl s0.size) hW⟩
  have HBR : Hid (∀ W i, W0.Since W0.heap.size W → i < bn → ∃ b o, ba = some ⟨b, o, none⟩ ∧ W.cell? ⟨b, o + i, none⟩ = some (.slice (xa i) (xl i) (xc i))) := fun W i hW hi => by
    obtain ⟨b, o, e, hr⟩ := hB.at' i hi
    exact ⟨b, o, e, cell_later hW (cell_later s0 hr)⟩
  have HBK : Hid (∀ W i, W0.Since W0.heap.size W → i < bn → Byt W (xa i) (xl i) (x i) ∧ (∀ j, x i j < 256) ∧ xl i ≤ xc i ∧ xc i ≤ 140737488351232) := fun W i hW hi => ⟨((hB.ok i hi).1.since s0).since hW, (hB.ok i hi).2⟩
  have HEB : Hid (∀ i, i < mn → ∀ v ∈ (encM (M i)).2, v < 256) := fun i hi => enc_byte (hM.ok i hi).1.byte
  have HT0 := hide ht0
  have HU0 := hide hU0
  have HS0 := hide s0
  clear hM hB ht hU ht0 hU0 s0 hr0 z0
  go_enter Tryz.func3, Tryz.ntmps3
  go_upto_region 1 with fail
  rw [HW0.out]
  have HQ := hide (HBG.out W0 (World.Since.refl _ _))
  go_wp2_with fail
  refine HQ.out.mono ?_
  rintro e w1 ⟨rfl, hS1⟩
  have HS1 := hide hS1
  clear HQ hS1 HW0
  go_wp2_with fail
  go_loopg [3, 4] mn (fun q s3 s4 wx => ∃ (i : Nat) (v : Value) (a' : Option Addr) (c' : Nat) (EA : Nat → Option Addr), i ≤ mn ∧ q = mn - i ∧ v = s3 ∧ v = .slice a' i c' ∧ s4 = .int .i64 i ∧ Hid (BkAll W0 wx v i EA M))
  case atStart => exact ⟨0, .slice none 0 0, none, 0, fun _ => none, Nat.zero_le _, rfl, rfl, rfl, rfl, ⟨⟨rfl, .inl ⟨rfl, rfl⟩⟩, fun k hk => absurd hk (Nat.not_lt_zero k), HS1.out⟩⟩
  case round =>
    obtain ⟨i, v, a', c', EA, hi, rfl, hv1, hv2, rfl, HB⟩ := hrel
    subst hv2
    subst hv1
    generalize wr = wi at *
    have c0 := HC0.out wi HB.out.sin
    by_cases hlt : i < mn
    · have hlt2 : (i : Int) < (mn : Int) := by omega
      obtain ⟨b, o, hma, hrg⟩ := HMR.out wi i HB.out.sin hlt
      subst hma
      have HRG := hide hrg
      obtain ⟨W1, MA, HMV, HT1, HW1, HIN, HON, HH1, HS1'⟩ := mg_put wi (M i) (va i) (vc i)
      have HAG : Hid (Value.agg (mgL (M i) (va i) (vc i)).toArray = .agg MA) := HMV.out
      have HINM := hide (infoMg' (M i) (va i) (vc i))
      have HSi : Hid (W0.Since W0.heap.size W1) := HB.out.sin.trans (since_mono HS1'.out HB.out.sin.size)
      obtain ⟨hA1, hwf, hpos⟩ := HMA.out W1 i HSi.out hlt
      have HWF := hide hwf
      have HA1 := hide hA1
      have HER : Hid (Calls Tryz.prog 8 #[.agg MA] W1 fun e w' => ∃ ya yc, e = .returned (.tuple #[.slice ya (encM (M i)).2.length yc, .int .i64 ((encM (M i)).1 : Nat)]) ∧ W1.Since W1.heap.size w') := by
        have q := refenc_any (M i) (va i) (vc i) W1 hA1 hwf hpos
        rw [HMV.out] at q
        refine q.mono fun e w' ⟨⟨v, he, ho⟩, hs⟩ => ?_
        obtain ⟨ya, yc, hv, _, _⟩ := own_byt ho
        subst hv
        exact ⟨ya, yc, he, hs⟩
      have HEP : Hid (∀ W, W1.Since W1.heap.size W → Calls Tryz.prog 9 #[.agg MA] W fun e w' => ∃ ta, e = .returned (.tuple #[.slice ta (encM (M i)).2.length (encM (M i)).2.length, .int .i64 ((encM (M i)).1 : Nat)]) ∧ Txt W.heap.size w' ta (encM (M i)).2.length (fun j => (encM (M i)).2.getD j 0) ∧ W.Since W.heap.size w') := fun W hW => by
        have a := HSi.out.trans (since_mono hW HSi.out.size)
        have q := encode_any W (M i) (va i) (vc i) (hA1.since hW) (HT0.out.since a) (HU0.out.since a)
        rw [HMV.out] at q
        exact q.mono fun e w' ⟨⟨ta, he, htx⟩, hs⟩ => ⟨ta, he, htx, hs⟩
      clear hA1 hwf hpos hrg
      go_upto_region 8 with (first
        | (refine wpList_load_mid rfl 37 _ rfl b (o + i * 22) rfl _ _ HRG.out Tryz.underlying37 rfl HINM.out ?_; rw [HAG.out])
        | (refine wpList_store_mid rfl 37 _ _ rfl wi.heap.size 0 _ rfl rfl HT1.out HIN.out HON.out ?_; rw [HW1.out]))
      clear HRG HAG HINM HT1 HW1 c0
      go_wp2_with (refine wpList_load_row rfl 37 _ rfl wi.heap.size rfl _ _ (0, 0) _ (HH1.out _ (World.Since.refl _ _)) Tryz.underlying37 rfl HIN.out ?_)
      refine HER.out.mono ?_
      rintro e w2 ⟨ya, yc, rfl, hs2⟩
      have HS2 := hide hs2
      have HL2 := hide (HH1.out w2 hs2)
      have HQ2 := hide (HEP.out w2 hs2)
      clear HER HEP hs2
      go_wp2_with (refine wpList_load_row rfl 37 _ rfl wi.heap.size rfl _ _ (0, 0) _ HL2.out Tryz.underlying37 rfl HIN.out ?_)
      refine HQ2.out.mono ?_
      rintro e w3 ⟨ta, rfl, htx, hs3⟩
      have HS3 : Hid (W1.Since W1.heap.size w3) := HS2.out.trans (since_mono hs3 HS2.out.size)
      have HTX : Hid (Txt W0.heap.size w3 ta (encM (M i)).2.length (fun j => (encM (M i)).2.getD j 0)) := htx.mono (Nat.le_trans HSi.out.size HS2.out.size)
      have hwi3 : wi.Since wi.heap.size w3 := HS1'.out.trans (since_mono HS3.out HS1'.out.size)
      have HB3 := hide (HB.out.later hwi3)
      clear HQ2 htx hs3 HS2 HL2 hwi3
      have HN : Hid (∀ (e : Int) (W : World), Calls Tryz.prog 10 #[.int .i64 e] W fun r w' => r = .returned (.int .i64 e) ∧ W = w') := fun e W => (num8_any e W).mono fun _ _ ⟨h1, h2⟩ => ⟨h1, h2.symm⟩
      by_cases hER : (encM (M i)).1 = 0
      · have henc : encM (M i) = (0, (encM (M i)).2) := by rw [← hER]
        obtain ⟨h8, h17⟩ := enc_size henc
        have hdec := dec_enc (z := fun j => (encM (M i)).2.getD j 0) (fun j => getD_byte (HEB.out i hlt) j) HWF.out henc h17 (by rw [← cut_all, range_getD])
        have S3 : W0.Since W0.heap.size w3 := HSi.out.trans (since_mono HS3.out HSi.out.size)
        have HD : Hid (Calls Tryz.prog 11 #[.slice ta (encM (M i)).2.length (encM (M i)).2.length] w3 fun e w' => ∃ vb, e = .returned (.tuple #[mgV (M i) vb ((M i).s 10).length, .int .i64 0]) ∧ MgA w' (M i) vb ((M i).s 10).length ∧ w3.Since w3.heap.size w') := (dec_any ta _ _ (fun j => (encM (M i)).2.getD j 0) w3 HTX.out.toByt (fun j => getD_byte (HEB.out i hlt) j) (Nat.le_refl _) (by omega) (HT0.out.since S3) (HU0.out.since S3)).mono fun e w' ⟨⟨vb, he, h1, h2, h3⟩, hs⟩ => by
          rw [hdec] at he h1 h2 h3
          exact ⟨vb, he, MgA.of_txt h1 h2 h3, hs⟩
        have HENC := hide henc
        obtain ⟨L, HLL⟩ : ∃ x, Hid ((encM (M i)).2.length = x) := ⟨_, rfl⟩
        rw [hER]
        rw [HLL.out] at HD h8 h17 HTX ⊢
        have n0 : (((0 : Nat) : Int) != ((0 : Nat) : Int)) = false := by decide
        have n1 : (((0 : Nat) : Int) != 0) = false := by decide
        clear hdec S3 henc hER
        go_wp2_with (go_at_call 10; refine (HN.out _ _).mono ?_; rintro e w5 ⟨rfl, rfl⟩)
        refine HD.out.mono ?_
        rintro e w4 ⟨vb, rfl, hA4, hs4⟩
        obtain ⟨W5, MB, HMB, HT5, HW5, HIN5, HON5, HH5, HS5⟩ := mg_put w4 (M i) vb ((M i).s 10).length
        rw [HMB.out]
        have s35 : w3.Since w3.heap.size W5 := hs4.trans (since_mono HS5.out hs4.size)
        have HS15 : Hid (W1.Since W1.heap.size W5) := HS3.out.trans (since_mono s35 HS3.out.size)
        have q := eqMsg_any (M i) (M i) (va i) vb (vc i) ((M i).s 10).length W5 (HA1.out.since HS15.out) (hA4.since HS5.out) HWF.out HWF.out
        rw [eqG_refl, HMV.out, HMB.out] at q
        have HQ3 : Hid (Calls Tryz.prog 12 #[.agg MA, .agg MB] W5 fun e w' => e = .returned (.bool true) ∧ W5.Since W5.heap.size w') := q
        have HL1 := hide (HH1.out W5 HS15.out)
        have HL5 := hide (HH5.out W5 (World.Since.refl _ _))
        have HS35 := hide s35
        clear HD hA4 hs4 s35 q HH5 HS5
        have m1 : ¬ ((L : Int) > 17000) := by omega
        have m2 : ¬ ((L : Int) < 8) := by omega
        have m3 : decide ((L : Int) > 17000) = false := by simp; omega
        have m4 : decide ((L : Int) < 8) = false := by simp; omega
        go_wp2_with (first
          | (refine wpList_store_mid rfl 37 _ _ rfl w4.heap.size 0 _ rfl rfl HT5.out HIN5.out HON5.out ?_; rw [HW5.out])
          | (go_at_call 10; refine (HN.out _ _).mono ?_; rintro e w6 ⟨rfl, rfl⟩)
          | (refine wpList_load_rowG rfl 37 _ rfl wi.heap.size rfl _ _ (0, 0) _ HL1.out Tryz.underlying37 rfl HIN.out ?_)
          | (refine wpList_load_rowG rfl 37 _ rfl w4.heap.size rfl _ _ (0, 0) _ HL5.out Tryz.underlying37 rfl HIN5.out ?_)
          | (go_at_call 12; refine HQ3.out.mono ?_; rintro e w6 ⟨rfl, hs6⟩))
        have HS36 : Hid (w3.Since w3.heap.size w6) := HS35.out.trans (since_mono hs6 HS35.out.size)
        have HS16 : Hid (W1.Since W1.heap.size w6) := HS3.out.trans (since_mono HS36.out HS3.out.size)
        have HB6 := hide (HB3.out.later HS36.out)
        have HTX6 := hide (HTX.out.since HS36.out)
        clear HQ3 HL1 HL5 hs6 HT5 HW5 HIN5 HON5 HS35 HS15 HMB HB3 HTX HS36 HS3 m1 m2 m3 m4 n0 n1
        have HMI : Hid ((mgL (M i) (va i) (vc i)).toArray = MA) := Value.agg.inj HMV.out
        have HLI : Hid (∀ W, w6.Since w6.heap.size W → W.rangeAt wi.heap.size 0 (mgL (M i) (va i) (vc i))) := fun W hW j v hv => by
          have hh := HH1.out W (HS16.out.trans (since_mono hW HS16.out.size))
          rw [← HMI.out] at hh
          rw [Nat.zero_add]
          simp [World.cell?, hh, hv]
        have HK : Hid (∀ k, k < i → ∃ bk ck, a' = some ⟨bk, 0, none⟩ ∧ c' = ck ∧ ∀ W, w6.Since w6.heap.size W → W.cell? ⟨bk, k, none⟩ = some (.slice (EA k) (encM (M k)).2.length (encM (M k)).2.length)) := fun k hk => by
          obtain ⟨bk, ck, hv, _, hc, _⟩ := HB6.out.at hk
          simp only [Value.slice.injEq] at hv
          exact ⟨bk, ck, hv.1, hv.2.2, fun W hW => cell_later hW hc⟩
        have HEQ : Hid (∀ k, k < i → ∀ W, w6.Since w6.heap.size W → 0 < (encM (M k)).2.length → ∃ B : Bool, Hid (Calls Tryz.prog 13 #[.slice (EA k) (encM (M k)).2.length (encM (M k)).2.length, .slice ta L L] W fun e w' => e = .returned (.bool B) ∧ W.Since W.heap.size w') ∧ Hid (∀ W', w6.Since w6.heap.size W' → Calls Tryz.prog 12 #[.agg (mgL (M k) (va k) (vc k)).toArray, .agg MA] W' fun e w' => e = .returned (.bool B) ∧ W'.Since W'.heap.size w')) := fun k hk W hW h0 => by
          have S6 : ∀ W, w6.Since w6.heap.size W → W0.Since W0.heap.size W := fun W hW => HB6.out.sin.trans (since_mono hW HB6.out.sin.size)
          obtain ⟨hAk, hwk, _⟩ := HMA.out W k (S6 W hW) (by omega)
          have hk0 : (encM (M k)).1 = 0 := Classical.byContradiction fun h => by rw [enc_none h] at h0; exact absurd h0 (Nat.lt_irrefl 0)
          have hin := enc_inj hwk HWF.out (x := (encM (M k)).2) (y := (encM (M i)).2) (by rw [← hk0]) HENC.out (HEB.out k (by omega))
          refine ⟨eqG (M k) (M i), ?_, fun W' hW' => ?_⟩
          · have hlk : (encM (M k)).2.length ≤ 17000 := (enc_size (m := M k) (l := (encM (M k)).2) (by rw [← hk0])).2
            have q := eq_any (EA k) ta (encM (M k)).2.length L (encM (M k)).2.length L (fun j => (encM (M k)).2.getD j 0) (fun j => (encM (M i)).2.getD j 0) W ((HB6.out.txt k hk).since hW).toByt (HTX6.out.since hW).toByt (by omega) (by omega)
            rw [← HLL.out, range_getD, range_getD, hin] at q
            rw [← HLL.out]
            exact q.mono fun e w' ⟨he, j, hj⟩ => ⟨he, by rw [hj]; exact drewN_since _ _⟩
          · have q := eqMsg_any (M k) (M i) (va k) (va i) (vc k) (vc i) W' ((HMA.out W' k (S6 W' hW') (by omega)).1) (HA1.out.since (HS16.out.trans (since_mono hW' HS16.out.size))) hwk HWF.out
            rw [HMV.out] at q
            exact q
        have HPS : Hid (∀ W, w6.Since w6.heap.size W → ∃ (pa : Option Addr) (pc : Nat) (w' : World), Hid ((Builtin.append_ #[23, 23] 23 #[.slice a' i c', .slice (some ⟨W.heap.size, 0, none⟩) 1 1]).run Tryz.prog (W.alloc (.cells #[.slice ta L L] 32)) = .ok (.slice pa (i + 1) pc) w') ∧ Hid (BkAll W0 w' (.slice pa (i + 1) pc) (i + 1) (fun k => if k = i then ta else EA k) M)) := fun W hW => by
          have q := (HB6.out.later hW).push (by omega) ta (by rw [HLL.out]; exact HTX6.out.since hW)
          rw [HLL.out] at q
          exact q
        have HCM : Hid (∀ W, w6.Since w6.heap.size W → W.cell? ⟨w.heap.size, 0, none⟩ = some (.slice (some ⟨b, o, none⟩) mn mc)) := fun W hW => HC0.out W (HB6.out.sin.trans (since_mono hW HB6.out.sin.size))
        have HRK : Hid (∀ k W, k < i → w6.Since w6.heap.size W → W.rangeAt b (o + k * 22) (mgL (M k) (va k) (vc k))) := fun k W hk hW => by
          obtain ⟨b2, o2, e2, hr⟩ := HMR.out W k (HB6.out.sin.trans (since_mono hW HB6.out.sin.size)) (by omega)
          cases e2
          exact hr
        clear HH1 HB6 HTX6 HS16 HA1 HWF HMV HENC HS1' HSi HIN HON h8 h17
        go_wp2_with fail
        go_loopg [12] i (fun q s12 wx => ∃ (k : Nat), k ≤ i ∧ q = i - k ∧ s12 = .int .i64 k ∧ Hid (w6.Since w6.heap.size wx))
        case atStart => exact ⟨0, Nat.zero_le _, rfl, rfl, World.Since.refl _ _⟩
        case round =>
          obtain ⟨k, hk, rfl, rfl, HSK⟩ := hrel
          by_cases hkl : k < i
          · have hkl2 : (k : Int) < (i : Int) := by omega
            obtain ⟨bk, ck, e1, e2, hck⟩ := HK.out k hkl
            subst e1
            subst e2
            have HCK := hide hck
            clear hck
            by_cases hL0 : 0 < (encM (M k)).2.length
            · have HREG := hide hL0
              obtain ⟨LK, HLK⟩ : ∃ x, Hid ((encM (M k)).2.length = x) := ⟨_, rfl⟩
              have hS0 : w6.Since w6.heap.size wr.drew := HSK.out.trans (since_mono (World.Since.refl _ _).drew HSK.out.size)
              obtain ⟨B, HEq, HEm⟩ := HEQ.out k hkl wr.drew hS0 hL0
              rw [HLK.out] at HCK HEq hL0
              obtain ⟨MK, HMK⟩ : ∃ x, Hid (mgL (M k) (va k) (vc k) = x) := ⟨_, rfl⟩
              have HRG : Hid (∀ W, w6.Since w6.heap.size W → W.rangeAt b (o + k * 22) MK) := fun W hW => by rw [← HMK.out]; exact HRK.out k W hkl hW
              have HINK : Hid ((Tryz.prog.info? 37).map (·.size) = some MK.length) := by rw [← HMK.out]; exact infoMg' _ _ _
              obtain ⟨MI, HMI2⟩ : ∃ x, Hid (mgL (M i) (va i) (vc i) = x) := ⟨_, rfl⟩
              have HINI : Hid ((Tryz.prog.info? 37).map (·.size) = some MI.length) := by rw [← HMI2.out]; exact infoMg' _ _ _
              rw [HMI2.out] at HMI HLI
              rw [HMK.out, ← HMI.out] at HEm
              have y1 : decide ((LK : Int) > 0) = true := by simp; omega
              have y2 : (LK : Int) > 0 := by omega
              have y3 : (0 : Int) ≤ (k : Int) := by omega
              have y4 : (k : Int) < (mn : Int) := by omega
              clear HK HEQ HPS HRK HMK HLK
              go_upto_region 22 with fail
              refine wp_region_held_drew (S := fun W => w6.Since w6.heap.size W) (by kernel_rfl) hS0 fun _ => ?_
              refine wpAnyH_take (i := 0) (v := .slice (some ⟨bk, 0, none⟩) i c') rfl (by kernel_rfl) (by kernel_rfl) (by kernel_rfl) (fun _ _ _ h => h) (.inl ⟨rfl, fun W hW => by kernel_rfl⟩) hS0 ?_
              simp only [List.getElem_toArray, List.getElem_cons_zero, Act.put, List.setIfInBounds_toArray, List.set_cons_zero, List.set_cons_succ]
              refine wpAnyH_take (i := 1) (v := .int .i64 (k : Nat)) rfl (by kernel_rfl) (by kernel_rfl) (by kernel_rfl) (fun _ _ _ h => h) (.inl ⟨rfl, fun W hW => by kernel_rfl⟩) hS0 ?_
              simp only [List.getElem_toArray, List.getElem_cons_zero, List.getElem_cons_succ, Act.put, List.setIfInBounds_toArray, List.set_cons_zero, List.set_cons_succ]
              refine wpAnyH_take (i := 2) (v := .pointer (some ⟨bk, k, none⟩)) rfl (by kernel_rfl) (by kernel_rfl) (by kernel_rfl) (fun _ _ _ h => h) (.inl ⟨rfl, fun W hW => by go_simp⟩) hS0 ?_
              simp only [List.getElem_toArray, List.getElem_cons_zero, List.getElem_cons_succ, Act.put, List.setIfInBounds_toArray, List.set_cons_zero, List.set_cons_succ]
              refine wpAnyH_take (i := 3) (v := .slice (EA k) LK LK) rfl (by kernel_rfl) (by kernel_rfl) (by kernel_rfl) (fun _ _ _ h => h) (.inl ⟨rfl, fun W hW => by have c := HCK.out W hW; go_simp⟩) hS0 ?_
              simp only [List.getElem_toArray, List.getElem_cons_zero, List.getElem_cons_succ, Act.put, List.setIfInBounds_toArray, List.set_cons_zero, List.set_cons_succ]
              refine wpAnyH_take (i := 4) (v := .int .i64 (LK : Nat)) rfl (by kernel_rfl) (by kernel_rfl) (by kernel_rfl) (fun _ _ _ h => h) (.inl ⟨rfl, fun W hW => by go_simp⟩) hS0 ?_
              simp only [List.getElem_toArray, List.getElem_cons_zero, List.getElem_cons_succ, Act.put, List.setIfInBounds_toArray, List.set_cons_zero, List.set_cons_succ]
              refine wpAnyH_take (i := 5) (v := .bool true) rfl (by kernel_rfl) (by kernel_rfl) (by kernel_rfl) (fun _ _ _ h => h) (.inl ⟨rfl, fun W hW => by go_simp⟩) hS0 ?_
              simp only [List.getElem_toArray, List.getElem_cons_zero, List.getElem_cons_succ, Act.put, List.setIfInBounds_toArray, List.set_cons_zero, List.set_cons_succ]
              refine wpAnyH_take (i := 6) (v := .bool true) rfl (by kernel_rfl) (by kernel_rfl) (by kernel_rfl) (fun _ _ _ h => h) (.inl ⟨rfl, fun W hW => by kernel_rfl⟩) hS0 ?_
              simp only [List.getElem_toArray, List.getElem_cons_zero, List.getElem_cons_succ, Act.put, List.setIfInBounds_toArray, List.set_cons_zero, List.set_cons_succ]
              refine wpAnyH_take (i := 7) (v := .slice (some ⟨bk, 0, none⟩) i c') rfl (by kernel_rfl) (by kernel_rfl) (by kernel_rfl) (fun _ _ _ h => h) (.inl ⟨rfl, fun W hW => by kernel_rfl⟩) hS0 ?_
              simp only [List.getElem_toArray, List.getElem_cons_zero, List.getElem_cons_succ, Act.put, List.setIfInBounds_toArray, List.set_cons_zero, List.set_cons_succ]
              refine wpAnyH_take (i := 8) (v := .int .i64 (k : Nat)) rfl (by kernel_rfl) (by kernel_rfl) (by kernel_rfl) (fun _ _ _ h => h) (.inl ⟨rfl, fun W hW => by kernel_rfl⟩) hS0 ?_
              simp only [List.getElem_toArray, List.getElem_cons_zero, List.getElem_cons_succ, Act.put, List.setIfInBounds_toArray, List.set_cons_zero, List.set_cons_succ]
              refine wpAnyH_take (i := 9) (v := .pointer (some ⟨bk, k, none⟩)) rfl (by kernel_rfl) (by kernel_rfl) (by kernel_rfl) (fun _ _ _ h => h) (.inl ⟨rfl, fun W hW => by go_simp⟩) hS0 ?_
              simp only [List.getElem_toArray, List.getElem_cons_zero, List.getElem_cons_succ, Act.put, List.setIfInBounds_toArray, List.set_cons_zero, List.set_cons_succ]
              refine wpAnyH_take (i := 10) (v := .slice (EA k) LK LK) rfl (by kernel_rfl) (by kernel_rfl) (by kernel_rfl) (fun _ _ _ h => h) (.inl ⟨rfl, fun W hW => by have c := HCK.out W hW; go_simp⟩) hS0 ?_
              simp only [List.getElem_toArray, List.getElem_cons_zero, List.getElem_cons_succ, Act.put, List.setIfInBounds_toArray, List.set_cons_zero, List.set_cons_succ]
              refine wpAnyH_take (i := 11) (v := .slice ta L L) rfl (by kernel_rfl) (by kernel_rfl) (by kernel_rfl) (fun _ _ _ h => h) (.inl ⟨rfl, fun W hW => by kernel_rfl⟩) hS0 ?_
              simp only [List.getElem_toArray, List.getElem_cons_zero, List.getElem_cons_succ, Act.put, List.setIfInBounds_toArray, List.set_cons_zero, List.set_cons_succ]
              refine wpAnyH_take (i := 13) (v := .pointer (some ⟨w.heap.size, 0, none⟩)) rfl (by kernel_rfl) (by kernel_rfl) (by kernel_rfl) (fun _ _ _ h => h) (.inl ⟨rfl, fun W hW => by kernel_rfl⟩) hS0 ?_
              simp only [List.getElem_toArray, List.getElem_cons_zero, List.getElem_cons_succ, Act.put, List.setIfInBounds_toArray, List.set_cons_zero, List.set_cons_succ]
              refine wpAnyH_take (i := 14) (v := .slice (some ⟨b, o, none⟩) mn mc) rfl (by kernel_rfl) (by kernel_rfl) (by kernel_rfl) (fun _ _ _ h => h) (.inl ⟨rfl, fun W hW => by have c := HCM.out W hW; go_simp⟩) hS0 ?_
              simp only [List.getElem_toArray, List.getElem_cons_zero, List.getElem_cons_succ, Act.put, List.setIfInBounds_toArray, List.set_cons_zero, List.set_cons_succ]
              refine wpAnyH_take (i := 15) (v := .int .i64 (k : Nat)) rfl (by kernel_rfl) (by kernel_rfl) (by kernel_rfl) (fun _ _ _ h => h) (.inl ⟨rfl, fun W hW => by kernel_rfl⟩) hS0 ?_
              simp only [List.getElem_toArray, List.getElem_cons_zero, List.getElem_cons_succ, Act.put, List.setIfInBounds_toArray, List.set_cons_zero, List.set_cons_succ]
              refine wpAnyH_take (i := 16) (v := .pointer (some ⟨b, o + k * 22, none⟩)) rfl (by kernel_rfl) (by kernel_rfl) (by kernel_rfl) (fun _ _ _ h => h) (.inl ⟨rfl, fun W hW => by go_simp⟩) hS0 ?_
              simp only [List.getElem_toArray, List.getElem_cons_zero, List.getElem_cons_succ, Act.put, List.setIfInBounds_toArray, List.set_cons_zero, List.set_cons_succ]
              refine wpAnyH_take (i := 17) (v := .agg MK.toArray) rfl (by kernel_rfl) (by kernel_rfl) (by kernel_rfl) (fun _ _ _ h => h) (yieldsIf_load_mid rfl 37 (.tmp 101) rfl b (o + k * 22) rfl MK _ (fun W hW => HRG.out W hW) Tryz.underlying37 rfl HINK.out) hS0 ?_
              simp only [List.getElem_toArray, List.getElem_cons_zero, List.getElem_cons_succ, Act.put, List.setIfInBounds_toArray, List.set_cons_zero, List.set_cons_succ]
              refine wpAnyH_take (i := 18) (v := .agg MI.toArray) rfl (by kernel_rfl) (by kernel_rfl) (by kernel_rfl) (fun _ _ _ h => h) (yieldsIf_load_mid rfl 37 (.tmp 5) rfl wi.heap.size 0 rfl MI _ (fun W hW => HLI.out W hW) Tryz.underlying37 rfl HINI.out) hS0 ?_
              simp only [List.getElem_toArray, List.getElem_cons_zero, List.getElem_cons_succ, Act.put, List.setIfInBounds_toArray, List.set_cons_zero, List.set_cons_succ]
              refine wpAnyH_ready (rs := [12]) (by kernel_rfl) (by simp) ?_
              refine AllReadyH.cons rfl (fun KK hKK => ?_) AllReadyH.nil
              refine step_callW rfl 13 #[.slice (EA k) LK LK, .slice ta L L] (by kernel_rfl) HEq.out ?_
              rintro e w9 ⟨rfl, hs9⟩
              have hS9 : w6.Since w6.heap.size w9 := hS0.trans (since_mono hs9 hS0.size)
              refine ⟨_, rfl, hKK.out _ _ hS9 fun _ => ?_⟩
              clear hKK HEq hs9
              simp only [List.getElem_toArray, List.getElem_cons_zero, List.getElem_cons_succ, Act.put, List.setIfInBounds_toArray, List.set_cons_zero, List.set_cons_succ]
              refine wpAnyH_ready (rs := [19]) (by kernel_rfl) (by simp) ?_
              refine AllReadyH.cons rfl (fun KK hKK => ?_) AllReadyH.nil
              refine step_callW rfl 12 #[.agg MK.toArray, .agg MI.toArray] (by kernel_rfl) (HEm.out _ hS9) ?_
              rintro e w10 ⟨rfl, hs10⟩
              have hS10 : w6.Since w6.heap.size w10 := hS9.trans (since_mono hs10 hS9.size)
              refine ⟨_, rfl, hKK.out _ _ hS10 fun _ => ?_⟩
              clear hKK HEm hs10
              simp only [List.getElem_toArray, List.getElem_cons_zero, List.getElem_cons_succ, Act.put, List.setIfInBounds_toArray, List.set_cons_zero, List.set_cons_succ]
              refine wpAnyH_take (i := 20) (v := .bool false) rfl (by kernel_rfl) (by kernel_rfl) (by kernel_rfl) (fun _ _ _ h => h) (.inl ⟨rfl, fun W hW => by cases B <;> kernel_rfl⟩) hS10 ?_
              simp only [List.getElem_toArray, List.getElem_cons_zero, List.getElem_cons_succ, Act.put, List.setIfInBounds_toArray, List.set_cons_zero, List.set_cons_succ]
              refine wpAnyH_take (i := 21) (v := .bool false) rfl (by kernel_rfl) (by kernel_rfl) (by kernel_rfl) (fun _ _ _ h => h) (.inl ⟨rfl, fun W hW => by kernel_rfl⟩) hS10 ?_
              simp only [List.getElem_toArray, List.getElem_cons_zero, List.getElem_cons_succ, Act.put, List.setIfInBounds_toArray, List.set_cons_zero, List.set_cons_succ]
              refine wpAnyH_done (by kernel_rfl) ?_ _
              have HS10 := hide hS10
              clear hS0 hS9 hS10 HCK HRG HINK HINI HLI HCM y1 y2 hL0
              go_wp2_with fail
              go_roundg (i - (k + 1))
              case measure => go_light; omega
              case rel => go_light; exact ⟨k + 1, by omega, rfl, by simp, HS10⟩
            · obtain ⟨LK, HLK⟩ : ∃ x, Hid ((encM (M k)).2.length = x) := ⟨_, rfl⟩
              have ck0 := HCK.out wr HSK.out
              rw [HLK.out] at ck0 hL0
              have e0 : LK = 0 := by omega
              subst e0
              have y1 : decide ((((0 : Nat) : Nat) : Int) > 0) = false := by decide
              clear HCK HK HEQ HPS HRK HLI HLK
              go_wp2_with fail
              go_quiet (fail)
              go_wp2_with fail
              go_roundg (i - (k + 1))
              case measure => go_light; omega
              case rel => go_light; exact ⟨k + 1, by omega, rfl, by simp, since_drewN' HSK.out _⟩
          · obtain rfl : k = i := by omega
            obtain ⟨pa, pc, w8, HP, HB8⟩ := HPS.out wr HSK.out
            clear HK HEQ HPS HRK HLI HCM
            go_wp2_with (at_builtin; refine wpList_append_eq rfl _ _ 23 rfl _ _ _ (by rfl) (by rfl) (unhide HP) ?_)
            go_roundg (mn - (k + 1))
            case measure => go_light; omega
            case rel => go_light; exact ⟨k + 1, _, pa, pc, _, by omega, rfl, rfl, rfl, by simp, HB8⟩
      · have hnil := enc_none hER
        obtain ⟨pa, pc, w4, HP, HB4⟩ := HB3.out.push (by omega) none (by rw [hnil]; exact .inl ⟨rfl, rfl⟩)
        rw [hnil] at HP ⊢
        have HP' : Hid ((Builtin.append_ #[23, 23] 23 #[.slice a' i c', .slice (some ⟨w3.heap.size, 0, none⟩) 1 1]).run Tryz.prog (w3.alloc (.cells #[.slice none 0 0] 32)) = .ok (.slice pa (i + 1) pc) w4) := HP
        obtain ⟨ER, HERR⟩ : ∃ x, Hid ((encM (M i)).1 = x) := ⟨_, rfl⟩
        rw [HERR.out] at hER ⊢
        have n0 : ((ER : Int) != (ER : Int)) = false := by simp
        have n1 : ((ER : Int) != 0) = true := bne_iff_ne.2 (by omega)
        have n2 : ¬ ((ER : Int) = 0) := by omega
        clear HP hnil HERR HB3 HTX
        go_wp2_with (first
          | (go_at_call 10; refine (HN.out _ _).mono ?_; rintro e w5 ⟨rfl, rfl⟩)
          | (at_builtin; refine wpList_append_eq rfl _ _ 23 rfl _ _ _ (by rfl) (by rfl) (unhide HP') ?_))
        go_roundg (mn - (i + 1))
        case measure => go_light; omega
        case rel => go_light; exact ⟨i + 1, _, pa, pc, _, by omega, rfl, rfl, rfl, by simp, HB4⟩
    · have hge : ¬ ((i : Int) < (mn : Int)) := by omega
      have HSI : Hid (W0.Since W0.heap.size wi) := HB.out.sin
      have HN : Hid (∀ (e : Int) (W : World), Calls Tryz.prog 10 #[.int .i64 e] W fun r w' => r = .returned (.int .i64 e) ∧ W = w') := fun e W => (num8_any e W).mono fun _ _ ⟨h1, h2⟩ => ⟨h1, h2.symm⟩
      clear HB HMR HMA HEB HC0
      go_wp2_with fail
      go_loopg [13] bn (fun q s13 wx => ∃ (j : Nat), j ≤ bn ∧ q = bn - j ∧ s13 = .int .i64 j ∧ Hid (W0.Since W0.heap.size wx))
      case atStart => exact ⟨0, Nat.zero_le _, rfl, rfl, HSI⟩
      case round =>
        obtain ⟨j, hj, rfl, rfl, HSJ⟩ := hrel
        have c1 := HC1.out wr HSJ.out
        by_cases hjl : j < bn
        · have hjl2 : (j : Int) < (bn : Int) := by omega
          obtain ⟨b, o, e1, hc⟩ := HBR.out wr j HSJ.out hjl
          subst e1
          obtain ⟨hby, hz, hcap, hcm⟩ := HBK.out wr j HSJ.out hjl
          have HZ := hide hz
          have HBY := hide hby
          have HCJ : Hid (∀ W, wr.Since wr.heap.size W → W.cell? ⟨b, o + j, none⟩ = some (.slice (xa j) (xl j) (xc j))) := fun W hW => cell_later hW hc
          have HC1J : Hid (∀ W, wr.Since wr.heap.size W → W.cell? ⟨w.heap.size, 1, none⟩ = some (.slice (some ⟨b, o, none⟩) bn bc)) := fun W hW => cell_later hW c1
          obtain ⟨D, HD⟩ : ∃ q, Hid (decM (x j) (xl j) = q) := ⟨_, rfl⟩
          have HRD := hide (refdec_any (xa j) (xl j) (xc j) (x j) wr hby hz (by omega) hcap (by omega))
          have HPD : Hid (∀ W g, wr.Since wr.heap.size W → W.rowIs g 5 (xl j) (fun q => .int .u8 (x j q : Nat)) → Calls Tryz.prog 11 #[.slice (some ⟨g, 0, none⟩) (xl j) (xl j)] W fun e w' => DecAns (x j) (xl j) W.heap.size e w' ∧ W.Since W.heap.size w') := fun W g hW hr => by
            have a := HSJ.out.trans (since_mono hW HSJ.out.size)
            exact dec_any (some ⟨g, 0, none⟩) (xl j) (xl j) (x j) W (fun q hq => ⟨g, 0, rfl, by rw [Nat.zero_add]; exact hr.cell hq⟩) HZ.out (Nat.le_refl _) (by omega) (HT0.out.since a) (HU0.out.since a)
          have HCP : Hid (∀ W, wr.Since wr.heap.size W → Calls Tryz.prog 15 #[.slice (xa j) (xl j) (xc j)] W fun e w' => ∃ g, e = .returned (.slice (some ⟨g, 0, none⟩) (xl j) (xl j)) ∧ W.Since W.heap.size w' ∧ w'.rowIs g 5 (xl j) (fun q => .int .u8 (x j q : Nat))) := fun W hW => (copy_any (xa j) (xl j) (xc j) (x j) W (by omega) (HBY.out.since hW)).mono fun e w' ⟨he, hs, _, hr⟩ => ⟨_, he, hs, hr⟩
          have HDF : Hid (D.1 = 0 → encM D.2 = (0, cutZ (x j) 0 (xl j))) := fun h0 => (dec_form (z := x j) hz (n := xl j) (m := D.2) (by rw [HD.out, ← h0])).1
          have HXL : Hid (xl j ≤ 140737488351232) := Nat.le_trans hcap hcm
          unfold DecAns at HRD HPD
          rw [HD.out] at HRD HPD
          obtain ⟨er, Mm⟩ := D
          have cj := HCJ.out wr (World.Since.refl _ _)
          clear hby hz hcap hcm hc HD
          go_wp2_with fail
          refine HRD.out.mono ?_
          rintro e w2 ⟨⟨vb, rfl, _, _, _⟩, hs2⟩
          obtain ⟨W3, MB, HMB, HT3, HW3, HIN3, HON3, HH3, HS3⟩ := mg_put w2 Mm vb (Mm.s 10).length
          rw [HMB.out]
          have HR3 : Hid (wr.Since wr.heap.size W3) := hs2.trans (since_mono HS3.out hs2.size)
          have cj3 := HCJ.out W3 HR3.out
          have c13 := HC1J.out W3 HR3.out
          have HQ1 := hide (HCP.out W3 HR3.out)
          clear HRD hs2 HMB HH3 HS3 cj c1 HCP
          go_wp2_with (refine wpList_store_mid rfl 37 _ _ rfl w2.heap.size 0 _ rfl rfl HT3.out HIN3.out HON3.out ?_; rw [HW3.out])
          refine HQ1.out.mono ?_
          rintro e w4 ⟨g, rfl, hs4, hr4⟩
          have HR4 : Hid (wr.Since wr.heap.size w4) := HR3.out.trans (since_mono hs4 HR3.out.size)
          have HQ2 := hide (HPD.out w4 g HR4.out hr4)
          clear HQ1 hs4 hr4 HPD cj3 c13 HT3 HW3 HIN3 HON3
          go_wp2_with fail
          refine HQ2.out.mono ?_
          rintro e w5 ⟨⟨vd, rfl, htx, hlen, hbt⟩, hs5⟩
          obtain ⟨W6, MD, HMD, HT6, HW6, HIN6, HON6, HH6, HS6⟩ := mg_put w5 Mm vd (Mm.s 10).length
          rw [HMD.out]
          have HR6 : Hid (wr.Since wr.heap.size W6) := by
            have a := HR4.out.trans (since_mono hs5 HR4.out.size)
            exact a.trans (since_mono HS6.out a.size)
          have S6 : W0.Since W0.heap.size W6 := HSJ.out.trans (since_mono HR6.out HSJ.out.size)
          have HSS6 := hide S6
          have q := encode_any W6 Mm vd (Mm.s 10).length (MgA.of_txt (htx.since HS6.out) hlen hbt) (HT0.out.since S6) (HU0.out.since S6)
          rw [HMD.out] at q
          have HQ3 := hide q
          have HL6 := hide (HH6.out W6 (World.Since.refl _ _))
          clear HQ2 htx hlen hbt hs5 HMD HH6 HS6 q S6
          have n0 : ((er : Int) != (er : Int)) = false := by simp
          by_cases hE : er = 0
          · subst hE
            have hdf := HDF.out rfl
            have hdf : encM Mm = (0, cutZ (x j) 0 (xl j)) := hdf
            unfold EncAns at HQ3
            rw [hdf] at HQ3
            have HQ4 : Hid (Calls Tryz.prog 9 #[.agg MD] W6 fun e w' => ∃ ta, e = .returned (.tuple #[.slice ta (xl j) (xl j), .int .i64 0]) ∧ Hid (Calls Tryz.prog 13 #[.slice ta (xl j) (xl j), .slice (xa j) (xl j) (xc j)] w' fun e w2 => e = .returned (.bool true) ∧ w'.Since w'.heap.size w2) ∧ W6.Since W6.heap.size w') := HQ3.out.mono fun e w' ⟨⟨ta, he, htx⟩, hs⟩ => by
              have he : e = .returned (.tuple #[.slice ta (cutZ (x j) 0 (xl j)).length (cutZ (x j) 0 (xl j)).length, .int .i64 0]) := he
              have htx : Txt _ w' ta (cutZ (x j) 0 (xl j)).length (fun q => (cutZ (x j) 0 (xl j)).getD q 0) := htx
              rw [cutZ_len] at he htx
              refine ⟨ta, he, ?_, hs⟩
              have hb2 : Byt w' ta (xl j) (x j) := fun q hq => by
                obtain ⟨b1, o1, e1, h1⟩ := htx.toByt q hq
                refine ⟨b1, o1, e1, ?_⟩
                have e3 : (cutZ (x j) 0 (xl j)).getD q 0 = x j q := by rw [cutZ_get _ _ _ _ hq, Nat.zero_add]
                rw [h1]
                show some (Value.int .u8 (((cutZ (x j) 0 (xl j)).getD q 0 : Nat) : Int)) = _
                rw [e3]
              have a := HR6.out.trans (since_mono hs HR6.out.size)
              exact (eq_same ta (xa j) (xl j) (xl j) (xc j) (x j) w' hb2 (HBY.out.since a) (by have := HXL.out; omega)).mono fun e w2 ⟨he, m, hm⟩ => ⟨he, by rw [hm]; exact drewN_since _ _⟩
            have n1 : ((((0 : Nat) : Nat) : Int) == 0) = true := by decide
            clear HQ3 hdf HDF
            go_wp2_with (first
              | (refine wpList_store_mid rfl 37 _ _ rfl w5.heap.size 0 _ rfl rfl HT6.out HIN6.out HON6.out ?_; rw [HW6.out])
              | (go_at_call 10; refine (HN.out _ _).mono ?_; rintro e w7 ⟨rfl, rfl⟩)
              | (refine wpList_load_row rfl 37 _ rfl w5.heap.size rfl _ _ (0, 0) _ HL6.out Tryz.underlying37 rfl HIN6.out ?_))
            refine HQ4.out.mono ?_
            rintro e w8 ⟨ta, rfl, HQ5, hs8⟩
            have HR8 : Hid (wr.Since wr.heap.size w8) := HR6.out.trans (since_mono hs8 HR6.out.size)
            have cj8 := HCJ.out w8 HR8.out
            have c18 := HC1J.out w8 HR8.out
            clear HQ4 hs8 HL6 HT6 HW6 HIN6 HON6
            go_wp2_with (go_at_call 10; refine (HN.out _ _).mono ?_; rintro e w9 ⟨rfl, rfl⟩)
            refine HQ5.out.mono ?_
            rintro e w10 ⟨rfl, hs10⟩
            have HSE : Hid (W0.Since W0.heap.size w10) := by
              have a := HSJ.out.trans (since_mono HR8.out HSJ.out.size)
              exact a.trans (since_mono hs10 a.size)
            clear HQ5 cj8 c18
            go_wp2_with fail
            go_roundg (bn - (j + 1))
            case measure => go_light; omega
            case rel => go_light; exact ⟨j + 1, by omega, rfl, by simp, HSE⟩
          · have n1 : ((er : Int) == 0) = false := by simpa using hE
            have n2 : ¬ ((er : Int) = 0) := by omega
            clear HQ3 HDF HL6
            go_wp2_with (first
              | (refine wpList_store_mid rfl 37 _ _ rfl w5.heap.size 0 _ rfl rfl HT6.out HIN6.out HON6.out ?_; rw [HW6.out])
              | (go_at_call 10; refine (HN.out _ _).mono ?_; rintro e w7 ⟨rfl, rfl⟩))
            go_roundg (bn - (j + 1))
            case measure => go_light; omega
            case rel => go_light; exact ⟨j + 1, by omega, rfl, by simp, HSS6⟩
        · have hjg : ¬ ((j : Int) < (bn : Int)) := by omega
          have HQ := hide (HBG.out wr HSJ.out)
          go_wp2_with fail
          refine HQ.out.mono ?_
          rintro e w2 ⟨rfl, hS2⟩
          go_wp2_with fail
          go_ret
          exact ⟨rfl, HS0.out.trans (since_mono hS2 HS0.out.size)⟩
end Go.Proofs.YtonpmabdjngdcaaGreatDoor

/- MessageBack and its kin: what they are handed. -/
namespace Go.Proofs.YtonpmabdjngdcaaGreatDoor
open Go.ChangeShapes Go.WideShapes Go.ChangeAt Go.RowKit Go.Deep Go.Joins
set_option maxRecDepth 100000

theorem bytesM : Tryz.prog.bytesOf 37 = 208 := by kernel_rfl
theorem bytesB : Tryz.prog.bytesOf 32 = 24 := by kernel_rfl
/-- A list of messages. -/
theorem open_msgs {H : Type} {enc : TypeId × Value → H} {W : World} {fuel : Nat} {v : Value} {y : DataW H × List MemPlace} (h : DataW.trod enc Tryz.prog W 0 (fun _ => true) true fuel 22 [v] = some y) (hf : Fits 22 y.1) :
    ∃ (ma : Option Addr) (mn mc : Nat) (M : Nat → Mg) (va : Nat → Option Addr) (vc : Nat → Nat), v = .slice ma mn mc ∧ MsgsIn W ma mn M va vc ∧ mn ≤ 1000000000000 := by
  rcases open_slice Tryz.underlying22 h with ⟨hcs, _⟩ | ⟨a, len, cap, m, n, D, Pl, hcs, _, hl, _, hm, hyx, hel⟩
  · exact ⟨none, 0, 0, fun _ => mg0, fun _ => none, fun _ => 0, by simpa using hcs, ⟨fun i hi => absurd hi (Nat.not_lt_zero i), fun i hi => absurd hi (Nat.not_lt_zero i)⟩, Nat.zero_le _⟩
  · simp only [if_true] at hm
    subst hm
    obtain ⟨b, o, sp⟩ := a
    rw [hyx] at hf
    have hcount : len ≤ 1000000000000 := by
      have := hf _ (by
        simp only [DataW.weights, Tryz.underlying22]
        exact List.mem_cons_self ..)
      simp only [List.length_map, List.length_range, bytesM, reach_eq] at this
      omega
    have hele : ∀ i, i < len → Fits 37 (D i) := fun i hi n hn => hf n (by
      simp only [DataW.weights, Tryz.underlying22]
      exact List.mem_cons_of_mem _ (List.mem_append_left _ (weightsAll_mem (List.mem_map.2 ⟨i, List.mem_range.2 hi, rfl⟩) n hn)))
    have hsp : 0 < len → sp = none := fun h0 => by
      obtain ⟨cs', hc, _⟩ := hel 0 (by omega)
      rw [cellsM] at hc
      obtain ⟨_, hl', hcell⟩ := World.cells?_some hc
      have := hcell 0 (by decide)
      rw [List.getElem?_eq_getElem (by rw [hl']; decide)] at this
      simpa [Addr.add] using World.cell?_spot this
    have hall : ∀ i, ∃ q : Mg × Option Addr × Nat, i < len → sp = none ∧ W.rangeAt b (o + i * 22) (mgL q.1 q.2.1 q.2.2) ∧ MgA W q.1 q.2.1 q.2.2 ∧ q.1.wf ∧ q.1.int := fun i => by
      by_cases hi : i < len
      · obtain ⟨cs', hc, ht⟩ := hel i (by omega)
        rw [cellsM] at hc
        obtain ⟨m, va, vc, rfl, hA, hwf, hint, _⟩ := open_msg ht (hele i hi)
        obtain ⟨_, _, hcell⟩ := World.cells?_some hc
        obtain rfl := hsp (by omega)
        refine ⟨(m, va, vc), fun _ => ⟨rfl, fun j v hv => ?_, hA, hwf, hint⟩⟩
        have hj := (List.getElem?_eq_some_iff.1 hv).1
        have := hcell j (by rw [mgL_len] at hj; exact hj)
        rw [add_at, add_at] at this
        rw [this]
        exact hv
      · exact ⟨(mg0, none, 0), fun h => absurd h hi⟩
    obtain ⟨Q, hQ⟩ := Classical.axiomOfChoice hall
    refine ⟨some ⟨b, o, sp⟩, len, m, fun i => (Q i).1, fun i => (Q i).2.1, fun i => (Q i).2.2, by simpa using hcs, ⟨fun i hi => ?_, fun i hi => ?_⟩, hcount⟩
    · obtain ⟨h1, h2, _⟩ := hQ i hi
      subst h1
      refine ⟨b, o, rfl, h2, ?_⟩
      have := h2 0 _ (List.getElem?_eq_getElem (by rw [mgL_len]; decide))
      exact World.block_lt_of_cell? _ _ this
    · obtain ⟨_, _, h3, h4, h5⟩ := hQ i hi
      exact ⟨h3, h4, fun c hc => (h5.1 c hc).1⟩
/-- A list of lists of bytes. -/
theorem open_lists {H : Type} {enc : TypeId × Value → H} {W : World} {fuel : Nat} {v : Value} {y : DataW H × List MemPlace} (h : DataW.trod enc Tryz.prog W 0 (fun _ => true) true fuel 23 [v] = some y) (hf : Fits 23 y.1) :
    ∃ (ba : Option Addr) (bn bc : Nat) (xa : Nat → Option Addr) (xl xc : Nat → Nat) (x : Nat → Nat → Nat), v = .slice ba bn bc ∧ BytsIn W ba bn xa xl xc x ∧ bn ≤ 281474976710656 := by
  rcases open_slice Tryz.underlying23 h with ⟨hcs, _⟩ | ⟨a, len, cap, m, n, D, Pl, hcs, _, hl, _, hm, hyx, hel⟩
  · exact ⟨none, 0, 0, fun _ => none, fun _ => 0, fun _ => 0, fun _ _ => 0, by simpa using hcs, ⟨fun i hi => absurd hi (Nat.not_lt_zero i), fun i hi => absurd hi (Nat.not_lt_zero i)⟩, Nat.zero_le _⟩
  · simp only [if_true] at hm
    subst hm
    obtain ⟨b, o, sp⟩ := a
    rw [hyx] at hf
    have hcount : len ≤ 281474976710656 := by
      have := hf _ (by
        simp only [DataW.weights, Tryz.underlying23]
        exact List.mem_cons_self ..)
      simp only [List.length_map, List.length_range, bytesB, reach_eq] at this
      omega
    have hele : ∀ i, i < len → Fits 32 (D i) := fun i hi n hn => hf n (by
      simp only [DataW.weights, Tryz.underlying23]
      exact List.mem_cons_of_mem _ (List.mem_append_left _ (weightsAll_mem (List.mem_map.2 ⟨i, List.mem_range.2 hi, rfl⟩) n hn)))
    have hsp : 0 < len → sp = none := fun h0 => by
      obtain ⟨cs', hc, _⟩ := hel 0 (by omega)
      rw [cellsB] at hc
      obtain ⟨_, hl', hcell⟩ := World.cells?_some hc
      have := hcell 0 (by decide)
      rw [List.getElem?_eq_getElem (by rw [hl']; decide)] at this
      simpa [Addr.add] using World.cell?_spot this
    have hall : ∀ i, ∃ q : Option Addr × Nat × Nat × (Nat → Nat), i < len → sp = none ∧ W.cell? ⟨b, o + i, none⟩ = some (.slice q.1 q.2.1 q.2.2.1) ∧ Byt W q.1 q.2.1 q.2.2.2 ∧ (∀ j, q.2.2.2 j < 256) ∧ q.2.1 ≤ q.2.2.1 ∧ q.2.2.1 ≤ 140737488351232 := fun i => by
      by_cases hi : i < len
      · obtain ⟨cs', hc, ht⟩ := hel i (by omega)
        rw [cellsB] at hc
        obtain ⟨_, hlen', hcell⟩ := World.cells?_some hc
        obtain ⟨v', rfl⟩ : ∃ v', cs' = [v'] := by
          match cs', hlen' with
          | [a], _ => exact ⟨a, rfl⟩
        obtain ⟨qa, ql, qc, qz, rfl, g1, g2, g3, g4, _⟩ := open_bytes ht (hele i hi)
        have h0 := hcell 0 (by decide)
        obtain rfl := hsp (by omega)
        rw [add_at, add_at, Nat.mul_one, Nat.add_zero] at h0
        exact ⟨(qa, ql, qc, qz), fun _ => ⟨rfl, h0, g4.le g1, g3, g1, g2⟩⟩
      · exact ⟨(none, 0, 0, fun _ => 0), fun h => absurd h hi⟩
    obtain ⟨Q, hQ⟩ := Classical.axiomOfChoice hall
    refine ⟨some ⟨b, o, sp⟩, len, m, fun i => (Q i).1, fun i => (Q i).2.1, fun i => (Q i).2.2.1, fun i => (Q i).2.2.2, by simpa using hcs, ⟨fun i hi => ?_, fun i hi => ?_⟩, hcount⟩
    · obtain ⟨h1, h2, _⟩ := hQ i hi
      subst h1
      exact ⟨b, o, rfl, h2⟩
    · exact (hQ i hi).2.2
theorem open_mail {H : Type} {enc : TypeId × Value → H} {W : World} {base : Nat} {v : Value} {d : DataW H} {p : List MemPlace} (hv : Value.okWide Tryz.prog W .any base 25 v) (h : DataW.Trod enc Tryz.prog W 0 (fun _ => true) true 25 v d p) (hf : Fits 25 d) :
    ∃ (ma : Option Addr) (mn mc : Nat) (M : Nat → Mg) (va : Nat → Option Addr) (vc : Nat → Nat) (ba : Option Addr) (bn bc : Nat) (xa : Nat → Option Addr) (xl xc : Nat → Nat) (x : Nat → Nat → Nat), v = .agg #[.slice ma mn mc, .slice ba bn bc] ∧ MsgsIn W ma mn M va vc ∧ mn ≤ 1000000000000 ∧ BytsIn W ba bn xa xl xc x ∧ bn ≤ 281474976710656 := by
  obtain ⟨cs, rfl, hcsz⟩ := okWide_struct Tryz.underlying25 hv
  rw [show Tryz.prog.cellsOf 25 = 2 by kernel_rfl] at hcsz
  obtain ⟨u0, u1, rfl⟩ : ∃ u0 u1, cs = #[u0, u1] := by
    rcases cs with ⟨l⟩
    match l, hcsz with
    | [a, b], _ => exact ⟨a, b, rfl⟩
  obtain ⟨fuel, hf0⟩ := h
  obtain ⟨xs, n, _, hx, _, hlen, hfs⟩ := DataW.trod_struct Tryz.underlying25 hf0
  obtain ⟨y0, y1, rfl⟩ : ∃ y0 y1, xs = [y0, y1] := by
    match xs, hlen with
    | [a, b], _ => exact ⟨a, b, rfl⟩
  have f0 : DataW.trod enc Tryz.prog W 0 (fun _ => true) true n 22 (([u0, u1].drop 0).take (Tryz.prog.cellsOf 22)) = some y0 := hfs 0 _ rfl
  have f1 : DataW.trod enc Tryz.prog W 0 (fun _ => true) true n 23 (([u0, u1].drop 1).take (Tryz.prog.cellsOf 23)) = some y1 := hfs 1 _ rfl
  rw [show Tryz.prog.cellsOf 22 = 1 by kernel_rfl] at f0
  rw [show Tryz.prog.cellsOf 23 = 1 by kernel_rfl] at f1
  have f0 : DataW.trod enc Tryz.prog W 0 (fun _ => true) true n 22 [u0] = some y0 := f0
  have f1 : DataW.trod enc Tryz.prog W 0 (fun _ => true) true n 23 [u1] = some y1 := f1
  have hd : d = (.agg (([y0, y1] : List (DataW H × List MemPlace)).map (·.1)) : DataW H) := congrArg Prod.fst hx
  have fit : ∀ (j : Nat) (t : TypeId) (x : DataW H), (([y0.1, y1.1] : List (DataW H)))[j]? = some x → ([22, 23] : List TypeId)[j]? = some t → Fits t x := fun j t x hx1 ht1 q hq => hf q (by
    rw [hd]
    simp only [DataW.weights, Tryz.underlying25]
    exact DataW.weights_mem_each (j := j) ht1 hx1 q hq)
  obtain ⟨ma, mn, mc, M, va, vc, rfl, h1, h2⟩ := open_msgs f0 (fit 0 _ _ rfl rfl)
  obtain ⟨ba, bn, bc, xa, xl, xc, x, rfl, h3, h4⟩ := open_lists f1 (fit 1 _ _ rfl rfl)
  exact ⟨ma, mn, mc, M, va, vc, ba, bn, bc, xa, xl, xc, x, rfl, h1, h2, h3, h4⟩
end Go.Proofs.YtonpmabdjngdcaaGreatDoor

/- MessageExact: the Book, what is lent, what is scrawled over. -/
namespace Go.Proofs.YtonpmabdjngdcaaGreatDoor
open Go.RowKit
set_option maxRecDepth 100000

/-- A Book in memory, F the blocks that are its, T how often it was told something. -/
def Bk (B : Nat) (w : World) (bk : Nat) (F : Nat → Prop) (T : Nat) : Prop := ∃ n A ln C M bv ov at' done used, BookOk w B bk n A ln C M bv ov at' T done used ∧ F = BF bk n A bv ov
theorem Bk.ge {B : Nat} {w : World} {bk : Nat} {F : Nat → Prop} {T : Nat} (h : Bk B w bk F T) {k : Nat} (hk : F k) : B ≤ k ∧ k < w.heap.size := by
  obtain ⟨n, A, ln, C, M, bv, ov, at', done, used, hb, rfl⟩ := h
  exact hb.is.ge k hk
theorem Bk.later {B : Nat} {w w' : World} {bk : Nat} {F : Nat → Prop} {T : Nat} (h : Bk B w bk F T) (hz : w.heap.size ≤ w'.heap.size) (hk : ∀ k, F k → w'.heap[k]? = w.heap[k]?) : Bk B w' bk F T := by
  obtain ⟨n, A, ln, C, M, bv, ov, at', done, used, hb, rfl⟩ := h
  exact ⟨n, A, ln, C, M, bv, ov, at', done, used, ⟨hb.is.later hz hk, hb.hat, hb.hU, hb.hu, hb.hl, hb.hl2⟩, rfl⟩
theorem Bk.since {B : Nat} {w w' : World} {bk : Nat} {F : Nat → Prop} {T : Nat} (h : Bk B w bk F T) (hs : w.Since w.heap.size w') : Bk B w' bk F T := h.later hs.size (fun _ hk => hs.block _ (h.ge hk).2)
theorem bk_bytes {B : Nat} {w : World} {bk : Nat} {F : Nat → Prop} {T : Nat} (h : Bk B w bk F T) (hB : B ≤ w.heap.size) (hT : T ≤ 9000000000000000) (a : Option Addr) (len cap : Nat) (x : Nat → Nat) (hl : Own w B (.slice a len cap) len x) (hfree : ∀ ad, a = some ad → ¬ F ad.block) (hlen : len ≤ 1099511627776) :
    Calls Tryz.prog 20 #[.pointer (some ⟨bk, 0, none⟩), .slice a len cap] w fun e w' => e = .returned (.tuple #[]) ∧ ∃ F', Bk B w' bk F' (T + 1) ∧ ∀ w0 : World, w0.Since B w → w0.heap.size = B → w0.Since B w' := by
  obtain ⟨n, A, ln, C, M, bv, ov, at', done, used, hb, rfl⟩ := h
  refine (bookBytes hb.is hB a len cap x hl hfree hb.hat hT hlen hb.hU hb.hu hb.hl hb.hl2).mono fun e w' ⟨he, n', A', ln', C', M', bv', ov', used', h1, h2, h3, h4, h5, h6, hm⟩ => ⟨he, _, ⟨n', A', ln', C', M', bv', ov', at', done, used', ⟨h1, h2, h3, h4, h5, h6⟩, rfl⟩, fun w0 h0 hz => ?_⟩
  refine Mv.since h0 hB (fun k hk => ?_) hm
  rcases hk with hk | ⟨ad, e1, rfl⟩
  · exact (hb.is.ge k hk).1
  · rcases hl.2 with ⟨e2, _⟩ | ⟨g, c, cur, e2, hg, _⟩
    · rw [e1] at e2; cases e2
    · rw [e1] at e2; cases e2; exact hg
theorem bk_look {B : Nat} {w : World} {bk : Nat} {F : Nat → Prop} {T : Nat} (h : Bk B w bk F T) (hB : B ≤ w.heap.size) (hT : T ≤ 10000000000000000) :
    Calls Tryz.prog 21 #[.pointer (some ⟨bk, 0, none⟩)] w fun e w' => e = .returned (.bool true) ∧ ∀ w0 : World, w0.Since B w → w0.heap.size = B → w0.Since B w' := by
  obtain ⟨n, A, ln, C, M, bv, ov, at', done, used, hb, rfl⟩ := h
  refine (book_look hb hB hT).mono fun e w' ⟨he, n', A', ln', C', M', bv', ov', at2, done2, h1, hm⟩ => ⟨he, fun w0 h0 _ => ?_⟩
  exact Mv.since h0 hB (fun k hk => (hb.is.ge k hk).1) hm
def bookZ8 : Array Value := #[.slice none 0 0, .slice none 0 0, .int .i64 0, .slice none 0 0, .slice none 0 0, .int .i64 0, .slice none 0 0, .slice none 0 0, .int .i64 0, .slice none 0 0, .slice none 0 0, .int .i64 0, .slice none 0 0, .slice none 0 0, .int .i64 0, .slice none 0 0, .slice none 0 0, .int .i64 0, .slice none 0 0, .slice none 0 0, .int .i64 0, .slice none 0 0, .slice none 0 0, .int .i64 0, .slice none 0 0, .slice none 0 0, .int .i64 0, .slice none 0 0, .slice none 0 0, .int .i64 0, .slice none 0 0, .slice none 0 0, .int .i64 0, .slice none 0 0, .slice none 0 0, .int .i64 0, .int .i64 0, .int .i64 0, .int .i64 0]
theorem bookZ8_at : ∀ i, i < 39 → bookZ8[i]? = some (bookCell (.slice none 0 0) (.slice none 0 0) 0 0 0 0 i)
  | 0, _ => rfl | 1, _ => rfl | 2, _ => rfl | 3, _ => rfl | 4, _ => rfl | 5, _ => rfl | 6, _ => rfl | 7, _ => rfl | 8, _ => rfl | 9, _ => rfl
  | 10, _ => rfl | 11, _ => rfl | 12, _ => rfl | 13, _ => rfl | 14, _ => rfl | 15, _ => rfl | 16, _ => rfl | 17, _ => rfl | 18, _ => rfl | 19, _ => rfl
  | 20, _ => rfl | 21, _ => rfl | 22, _ => rfl | 23, _ => rfl | 24, _ => rfl | 25, _ => rfl | 26, _ => rfl | 27, _ => rfl | 28, _ => rfl | 29, _ => rfl
  | 30, _ => rfl | 31, _ => rfl | 32, _ => rfl | 33, _ => rfl | 34, _ => rfl | 35, _ => rfl | 36, _ => rfl | 37, _ => rfl | 38, _ => rfl
  | n + 39, h => by omega
/-- A new Book. -/
theorem bk_new (w : World) {B : Nat} (hB : B ≤ w.heap.size) : Bk B (w.alloc (.cells bookZ8 70)) w.heap.size (fun k => k = w.heap.size ∨ False) 0 := by
  refine ⟨0, fun _ => none, fun _ => 0, fun _ => 0, fun _ => 0, .slice none 0 0, .slice none 0 0, 0, 0, 0, ⟨⟨World.rowIs_alloc w bookZ8 _ _ bookZ8_at, ⟨rfl, .inl ⟨rfl, rfl⟩⟩, ⟨rfl, .inl ⟨rfl, rfl⟩⟩, fun i hi => absurd hi (Nat.not_lt_zero i), fun i _ hi => absurd hi (Nat.not_lt_zero i), fun i a hi => absurd hi (Nat.not_lt_zero i), fun i j a a' _ hi => absurd hi (Nat.not_lt_zero i), ⟨(fun e => by cases e), (fun e => by cases e)⟩, (fun k e => by cases e), Nat.le_refl _, hB, fun i hi => absurd hi (Nat.not_lt_zero i)⟩, Nat.le_refl _, by omega, by omega, fun i hi => absurd hi (Nat.not_lt_zero i), fun i _ hi => absurd hi (Nat.not_lt_zero i)⟩, ?_⟩
  funext k
  unfold BF
  refine propext ⟨fun h => .inl (h.elim id False.elim), fun h => ?_⟩
  rcases h with h | h | h | ⟨i, a, hi, _⟩
  · exact .inl h
  · cases h
  · cases h
  · exact absurd hi (Nat.not_lt_zero i)
theorem txt_own {B : Nat} {w : World} {ta : Option Addr} {l : Nat} {x : Nat → Nat} (h : Txt B w ta l x) (hl : l ≤ 9223372036854775807) : Own w B (.slice ta l l) l x := by
  rcases h with ⟨rfl, rfl⟩ | ⟨t, rfl, ht, hr⟩
  · exact own_nil w B x
  · exact own_of_row hr ht (Nat.le_refl _) hl (fun j _ => rfl)
set_option maxHeartbeats 800000 in
/-- scrawl: nothing but the block that is handed in turns. -/
theorem scrawl_any (g len cap : Nat) (w : World) (f : Nat → Value) (hr : w.rowIs g 5 cap f) (hu : ∀ j, j < len → ∃ q : Int, f j = .int .u8 q) (hl : len ≤ cap) (hm : len ≤ 140737488351232) :
    Calls Tryz.prog 19 #[.slice (some ⟨g, 0, none⟩) len cap] w fun e w' => e = .returned (.tuple #[]) ∧ But g w w' := by
  go_enter Tryz.func19, Tryz.ntmps19
  go_wp2_with fail
  go_loopg [2] len (fun q s2 wx => ∃ (i : Nat) (f : Nat → Value), i ≤ len ∧ q = len - i ∧ s2 = .int .i64 i ∧ Hid (wx.rowIs g 5 cap f ∧ (∀ j, j < len → ∃ q : Int, f j = .int .u8 q) ∧ But g w wx))
  case atStart => exact ⟨0, f, Nat.zero_le _, rfl, rfl, hr, hu, But.of_since (World.Since.refl _ _)⟩
  case round =>
    obtain ⟨i, f, hi, rfl, rfl, HR⟩ := hrel
    by_cases hlt : i < len
    · have hlt2 : (i : Int) < (len : Int) := by omega
      obtain ⟨q, hq⟩ := HR.out.2.1 i hlt
      have c := HR.out.1.cell (i := i) (by omega)
      rw [hq] at c
      have fz := HR.out.1.frozen i
      have HE : Hid ((wr.setCell ⟨g, i, none⟩ (.int .u8 238)).rowIs g 5 cap (fun j => if j = i then .int .u8 238 else f j) ∧ (∀ j, j < len → ∃ q : Int, (fun j => if j = i then Value.int .u8 238 else f j) j = .int .u8 q) ∧ But g w (wr.setCell ⟨g, i, none⟩ (.int .u8 238))) := ⟨HR.out.1.set i _, fun j hj => by
        by_cases e : j = i
        · exact ⟨238, by simp [e]⟩
        · obtain ⟨q, hq⟩ := HR.out.2.1 j hj
          exact ⟨q, by simp [e, hq]⟩, HR.out.2.2.setCell i _⟩
      clear hr hu hq
      go_wp2_with fail
      go_roundg (len - (i + 1))
      case measure => go_light; omega
      case rel => go_light; exact ⟨i + 1, _, by omega, rfl, by simp, HE⟩
    · have hge : ¬ ((i : Int) < (len : Int)) := by omega
      clear hr hu
      go_wp2_with fail
      go_end0
      exact ⟨rfl, HR.out.2.2⟩
/-- A message with its Value lent anew. -/
theorem row_lend {W : World} {kb : Nat} {m : Mg} {va : Option Addr} {vc : Nat} (h : W.rowIs kb 37 22 (mgCell m va vc)) (ta : Option Addr) (k : Nat) : (W.setCell ⟨kb, 10, none⟩ (.slice ta (m.s 10).length k)).rowIs kb 37 22 (mgCell m ta k) :=
  (h.set 10 _).congr (fun i _ => by
    by_cases e : i = 10
    · subst e
      rw [if_pos rfl]
      rfl
    · rw [if_neg e]
      unfold mgCell
      rw [if_neg e, if_neg e])
end Go.Proofs.YtonpmabdjngdcaaGreatDoor
