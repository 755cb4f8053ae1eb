/- Own texts, joined: ExactL, ExactO. -/
import Derived.Test.YtonpmabdjngdcaaGreatDoorM19
import Derived.Deep.LoopGhost
import Derived.Test.YtonpmabdjngdcaaGreatDoorM18

/- MessageExact: its walk. -/
namespace Go.Proofs.YtonpmabdjngdcaaGreatDoor
open Go.RowKit
set_option maxRecDepth 100000

theorem own_but {w w' : World} {B g : Nat} {v : Value} {n : Nat} {x : Nat → Nat} (h : Own w B v n x) (hb : But g w w') (hg : g < B) : Own w' B v n x :=
  fown_block h (fun b e => hb.block b (h.lt b e).2 (fun e2 => by have := (h.lt b e).1; omega))
theorem txt_but {w w' : World} {B g : Nat} {ta : Option Addr} {l : Nat} {x : Nat → Nat} (h : Txt B w ta l x) (hb : But g w w') (hg : g < B) : Txt B w' ta l x :=
  h.keep (fun k hk hB => hb.block k hk (by omega))
theorem mg_cells {w : World} {kb : Nat} {m : Mg} {va : Option Addr} {vc : Nat} {MA : Array Value} (h : w.heap[kb]? = some (.cells MA 37 (0, 0))) (hv : mgV m va vc = .agg MA) : w.rowIs kb 37 22 (mgCell m va vc) := by
  have e : (mgL m va vc).toArray = MA := Value.agg.inj hv
  refine ⟨MA, h, by rw [← e, List.size_toArray, mgL_len], fun i hi => ?_⟩
  rw [← e, List.getElem?_toArray]
  unfold mgL
  rw [List.getElem?_map, List.getElem?_range hi]
  rfl
theorem dec_len {z : Nat → Nat} (hz : ∀ j, z j < 256) (n : Nat) : ((decM z n).2.s 10).length ≤ 17000 := by
  by_cases h : (decM z n).1 = 0
  · obtain ⟨h1, h2, _, h4⟩ := dec_form hz (n := n) (m := (decM z n).2) (by rw [← h])
    have h5 : (encM (decM z n).2).1 = 0 := by rw [h1]
    unfold encM at h5
    by_cases hk : kindB (decM z n).2 = false
    · rw [if_pos hk] at h5; exact absurd (show (80 : Nat) = 0 from h5) (by decide)
    · rw [if_neg hk] at h5
      by_cases hm : mayM (decM z n).2 = false
      · rw [if_pos hm] at h5; exact absurd (show (83 : Nat) = 0 from h5) (by decide)
      · have hm2 := (mayU_iff _ _ _).1 (Bool.and_eq_true_iff.1 (Bool.of_not_eq_false hm)).2 5 (by decide) (.text 10 16384) (List.mem_singleton.2 rfl)
        have := of_decide_eq_true (may_weak hm2)
        simp only [if_true] at this
        omega
  · unfold decM at h ⊢
    split
    · exact Nat.zero_le _
    · rename_i h1
      rw [if_neg h1] at h
      split
      · exact Nat.zero_le _
      · rename_i h2
        rw [if_neg h2] at h
        cases hr : readG z (n - 4) with
        | none => exact Nat.zero_le _
        | some m => rw [hr] at h; exact absurd rfl h
theorem bk_but {B g : Nat} {w w' : World} {bk : Nat} {F : Nat → Prop} {T : Nat} (h : Bk B w bk F T) (hb : But g w w') (hg : ¬ F g) : Bk B w' bk F T :=
  h.later hb.size (fun k hk => hb.block k (h.ge hk).2 (fun e => hg (e ▸ hk)))
set_option maxHeartbeats 16000000 in
theorem exact_walk (ma : Option Addr) (mn mc : Nat) (M : Nat → Mg) (va : Nat → Option Addr) (vc : Nat → Nat) (ba : Option Addr) (bn bc : Nat) (xa : Nat → Option Addr) (xl xc : Nat → Nat) (x : Nat → Nat → Nat) (w : World) (hM : MsgsIn w ma mn M va vc) (hB : BytsIn w ba bn xa xl xc x) (hmn : mn ≤ 1000000000000) (hbn : bn ≤ 281474976710656) (hnil : ∀ i, i < bn → xa i = none → xl i = 0 ∧ xc i = 0) (ht : Tb w) (hU : Us w) :
    Calls Tryz.prog 5 #[.agg #[.slice ma mn mc, .slice ba bn bc]] w fun e w' => e = .returned (.bool true) ∧ w.Since w.heap.size w' := by
  obtain ⟨W0, HW0⟩ : ∃ W, Hid (w.alloc (.cells #[.slice ma mn mc, .slice ba bn bc] 25) = W) := ⟨_, rfl⟩
  have s0 : w.Since w.heap.size W0 := by rw [← HW0.out]; exact (World.Since.refl _ _).alloc (Nat.le_refl _) _
  have z0 : w.heap.size < W0.heap.size := by rw [← HW0.out]; simp
  have hr0 : W0.rowIs w.heap.size 25 2 (fun i => if i = 0 then .slice ma mn mc else .slice ba bn bc) := by
    rw [← HW0.out]
    exact World.rowIs_alloc w _ _ _ (fun i hi => by
      have hi' : i < 2 := hi
      match i, hi' with
      | 0, _ => rfl
      | 1, _ => rfl)
  have HC0 : Hid (∀ W, W0.Since W0.heap.size W → W.cell? ⟨w.heap.size, 0, none⟩ = some (.slice ma mn mc)) := fun W hW => (row_since hr0 hW).cell (i := 0) (by decide)
  have HC1 : Hid (∀ W, W0.Since W0.heap.size W → W.cell? ⟨w.heap.size, 1, none⟩ = some (.slice ba bn bc)) := fun W hW => (row_since hr0 hW).cell (i := 1) (by decide)
  have ht0 := ht.since s0
  have hU0 := hU.since s0
  have HBG : Hid (∀ W, W0.Since W0.heap.size W → Calls Tryz.prog 7 #[] W fun e w' => e = .returned (.bool true) ∧ W0.Since W0.heap.size w') := fun W hW => (begun_any W (ht0.since hW) (hU0.since hW)).mono fun e w' ⟨he, hs⟩ => ⟨he, hW.trans (since_mono hs hW.size)⟩
  have HMA : Hid (∀ W i, W0.Since W0.heap.size W → i < mn → MgA W (M i) (va i) (vc i) ∧ (M i).wf ∧ ∀ c, isU c = true → 0 ≤ (M i).n c) := fun W i hW hi => ⟨((hM.ok i hi).1.since s0).since hW, (hM.ok i hi).2⟩
  have HMR : Hid (∀ W i, W0.Since W0.heap.size W → i < mn → ∃ b o, ma = some ⟨b, o, none⟩ ∧ W.rangeAt b (o + i * 22) (mgL (M i) (va i) (vc i))) := fun W i hW hi => by
    obtain ⟨b, o, e, hr, hl⟩ := hM.at' i hi
    exact ⟨b, o, e, range_since (range_since hr hl s0) (Nat.lt_of_lt_of_le hl s0.size) hW⟩
  have HBR : Hid (∀ W i, W0.Since W0.heap.size W → i < bn → ∃ b o, ba = some ⟨b, o, none⟩ ∧ W.cell? ⟨b, o + i, none⟩ = some (.slice (xa i) (xl i) (xc i))) := fun W i hW hi => by
    obtain ⟨b, o, e, hr⟩ := hB.at' i hi
    exact ⟨b, o, e, cell_later hW (cell_later s0 hr)⟩
  have HBK : Hid (∀ W i, W0.Since W0.heap.size W → i < bn → Byt W (xa i) (xl i) (x i) ∧ (∀ j, x i j < 256) ∧ xl i ≤ xc i ∧ xc i ≤ 140737488351232) := fun W i hW hi => ⟨((hB.ok i hi).1.since s0).since hW, (hB.ok i hi).2⟩
  have HNIL := hide hnil
  have HT0 := hide ht0
  have HU0 := hide hU0
  have HS0 := hide s0
  clear hM hB ht hU ht0 hU0 s0 hr0 z0 hnil
  go_enter Tryz.func5, Tryz.ntmps5
  go_upto_region 1 with fail
  rw [HW0.out]
  have HQ := hide (HBG.out W0 (World.Since.refl _ _))
  go_wp2_with fail
  refine HQ.out.mono ?_
  rintro e w1 ⟨rfl, hS1⟩
  have HS1 := hide hS1
  clear HQ hS1 HW0
  go_upto_region 3 with fail
  refine wp_region_lit ?_
  refine wpList_plain rfl fun _ hK => op_run (.agg bookZ8) (by unfold bookZ8; kernel_rfl) (hK _ _ ?_)
  obtain ⟨W2, HW2⟩ : ∃ W, Hid (w1.alloc (.cells bookZ8 70) = W) := ⟨_, rfl⟩
  have s12 : w1.Since w1.heap.size W2 := by rw [← HW2.out]; exact (World.Since.refl _ _).alloc (Nat.le_refl _) _
  have HK2 : Hid (Bk W0.heap.size W2 w1.heap.size (fun k => k = w1.heap.size ∨ False) 0 ∧ W0.Since W0.heap.size W2) := ⟨by rw [← HW2.out]; exact bk_new w1 HS1.out.size, HS1.out.trans (since_mono s12 HS1.out.size)⟩
  clear s12
  go_upto_region 4 with fail
  rw [HW2.out]
  clear HW2
  generalize w1.heap.size = bk at *
  go_wp2_with fail
  go_loopg [4] mn (fun q s4 wx => ∃ (i : Nat) (F : Nat → Prop), i ≤ mn ∧ q = mn - i ∧ s4 = .int .i64 i ∧ Hid (Bk W0.heap.size wx bk F i ∧ W0.Since W0.heap.size wx))
  case atStart => exact ⟨0, _, Nat.zero_le _, rfl, rfl, HK2⟩
  case round =>
    obtain ⟨i, F, hi, rfl, rfl, HB⟩ := hrel
    generalize wr = wi at *
    have c0 := HC0.out wi HB.out.2
    have HN : Hid (∀ (e : Int) (W : World), Calls Tryz.prog 10 #[.int .i64 e] W fun r w' => r = .returned (.int .i64 e) ∧ W = w') := fun e W => (num8_any e W).mono fun _ _ ⟨h1, h2⟩ => ⟨h1, h2.symm⟩
    by_cases hlt : i < mn
    · have hlt2 : (i : Int) < (mn : Int) := by omega
      obtain ⟨b, o, hma, hrg⟩ := HMR.out wi i HB.out.2 hlt
      subst hma
      have HRG := hide hrg
      have HRW : Hid (∀ W, W0.Since W0.heap.size W → W.rangeAt b (o + i * 22) (mgL (M i) (va i) (vc i))) := fun W hW => by
        obtain ⟨b2, o2, e2, hr⟩ := HMR.out W i hW hlt
        cases e2
        exact hr
      have HCV : Hid (∀ W, W0.Since W0.heap.size W → W.cell? ⟨b, o + i * 22 + 10, none⟩ = some (.slice (va i) ((M i).s 10).length (vc i))) := fun W hW => HRW.out W hW 10 _ rfl
      obtain ⟨W1, MA, HMV, HT1, HW1, HIN, HON, HH1, HS1'⟩ := mg_put wi (M i) (va i) (vc i)
      have HAG : Hid (Value.agg (mgL (M i) (va i) (vc i)).toArray = .agg MA) := HMV.out
      have HINM := hide (infoMg' (M i) (va i) (vc i))
      have HSi : Hid (W0.Since W0.heap.size W1) := HB.out.2.trans (since_mono HS1'.out HB.out.2.size)
      obtain ⟨hA1, hwf, hpos⟩ := HMA.out W1 i HSi.out hlt
      have HWF := hide hwf
      have HPOS := hide hpos
      have HA1 := hide hA1
      have hzi : wi.heap.size < W1.heap.size := by
        have := HH1.out W1 (World.Since.refl _ _)
        exact (Array.getElem?_eq_some_iff.1 this).1
      have HLE : Hid (Calls Tryz.prog 17 #[.slice (va i) ((M i).s 10).length (vc i)] W1 fun e w' => ∃ g cap' f, e = .returned (.slice (some ⟨g, 0, none⟩) ((M i).s 10).length cap') ∧ w'.cell? ⟨wi.heap.size, 10, none⟩ = some (.slice (va i) ((M i).s 10).length (vc i)) ∧ w'.frozen? ⟨wi.heap.size, 10, none⟩ = false ∧ Hid (W1.heap.size ≤ g ∧ W1.Since W1.heap.size w' ∧ Lent w' g ((M i).s 10).length cap' (fun j => ((M i).s 10).getD j 0) f ∧ w'.rowIs wi.heap.size 37 22 (mgCell (M i) (va i) (vc i)))) := (lend_any (va i) ((M i).s 10).length (vc i) (fun j => ((M i).s 10).getD j 0) W1 (hA1.len 10) hA1.val hA1.nil).mono fun e w' ⟨g, cap', f, he, hg, hs, hL⟩ => by
        have hr : w'.rowIs wi.heap.size 37 22 (mgCell (M i) (va i) (vc i)) := by
          have := mg_cells (HH1.out w' hs) HMV.out
          exact this
        exact ⟨g, cap', f, he, hr.cell (i := 10) (by decide), hr.frozen 10, hg, hs, hL, hr⟩
      have c10 := HCV.out W1 HSi.out
      have c01 := HC0.out W1 HSi.out
      clear hA1 hwf hpos hrg
      go_upto_region 8 with (first
        | (refine wpList_load_mid rfl 37 _ rfl b (o + i * 22) rfl _ _ HRG.out Tryz.underlying37 rfl HINM.out ?_; rw [HAG.out])
        | (refine wpList_store_mid rfl 37 _ _ rfl wi.heap.size 0 _ rfl rfl HT1.out HIN.out HON.out ?_; rw [HW1.out]))
      clear HRG HAG HT1 HW1 c0 HIN HON
      obtain ⟨LV, HLV⟩ : ∃ x, Hid (((M i).s 10).length = x) := ⟨_, rfl⟩
      rw [HLV.out] at HLE c10 HCV
      go_wp2_with fail
      refine HLE.out.mono ?_
      rintro e w3 ⟨g, cap', f, rfl, d10, z10, HLD⟩
      obtain ⟨W4, HW4⟩ : ∃ W, Hid (w3.setCell ⟨wi.heap.size, 10, none⟩ (.slice (some ⟨g, 0, none⟩) LV cap') = W) := ⟨_, rfl⟩
      go_upto_region 9 with fail
      rw [HW4.out]
      clear HLE c10 c01
      obtain ⟨hg, hs3, hL3, hr3⟩ := HLD.out
      have r4 : W4.rowIs wi.heap.size 37 22 (mgCell (M i) (some ⟨g, 0, none⟩) cap') := by rw [← HW4.out, ← HLV.out]; exact row_lend hr3 _ _
      have s14 : wi.Since wi.heap.size W4 := by
        rw [← HW4.out]
        exact (HS1'.out.trans (since_mono hs3 HS1'.out.size)).setCell (Nat.le_refl _) _
      have hgb : W4.heap[g]? = w3.heap[g]? := by rw [← HW4.out]; exact Below.heap_setCell _ _ _ _ (by show g ≠ wi.heap.size; omega)
      have hz4 : W4.heap.size = w3.heap.size := by rw [← HW4.out]; simp [World.setCell]
      have hL4 : Lent W4 g LV cap' (fun j => ((M i).s 10).getD j 0) f := ⟨hL3.row.of_block hgb, hL3.room, hL3.cap, hL3.byte, hL3.k0, hL3.k1, hL3.k2⟩
      have S4 : W0.Since W0.heap.size W4 := HB.out.2.trans (since_mono s14 HB.out.2.size)
      have hA4 : MgA W4 (M i) (some ⟨g, 0, none⟩) cap' := ⟨by rw [HLV.out]; exact hL4.byt, (fun e => by cases e), (fun q e _ => by cases e; exact hL4.row.lt), HA1.out.len, HA1.out.byte⟩
      obtain ⟨MB, HMB⟩ : ∃ x, Hid ((mgL (M i) (some ⟨g, 0, none⟩) cap').toArray = x) := ⟨_, rfl⟩
      have HH4 : Hid (W4.heap[wi.heap.size]? = some (.cells MB 37 (0, 0))) := by rw [← HMB.out]; exact row_heap r4
      have HINB : Hid ((Tryz.prog.info? 37).map (·.size) = some MB.size) := by rw [← HMB.out]; exact infoMgA _ _ _
      have HQE : Hid (Calls Tryz.prog 9 #[.agg MB] W4 fun e w' => ∃ ta, e = .returned (.tuple #[.slice ta (encM (M i)).2.length (encM (M i)).2.length, .int .i64 ((encM (M i)).1 : Nat)]) ∧ Txt W4.heap.size w' ta (encM (M i)).2.length (fun j => (encM (M i)).2.getD j 0) ∧ W4.Since W4.heap.size w') := by
        have q := encode_any W4 (M i) (some ⟨g, 0, none⟩) cap' hA4 (HT0.out.since S4) (HU0.out.since S4)
        unfold mgV at q
        rw [HMB.out] at q
        exact q.mono fun e w' ⟨⟨ta, he, htx⟩, hs⟩ => ⟨ta, he, htx, hs⟩
      have HRE : Hid (∀ W, W0.Since W0.heap.size W → Calls Tryz.prog 8 #[.agg (mgL (M i) (va i) (vc i)).toArray] W fun e w' => ∃ ya yc, e = .returned (.tuple #[.slice ya (encM (M i)).2.length yc, .int .i64 ((encM (M i)).1 : Nat)]) ∧ OwnL w' W.heap.size (.slice ya (encM (M i)).2.length yc) (encM (M i)).2 ∧ W.Since W.heap.size w') := fun W hW => by
        have q := refenc_any (M i) (va i) (vc i) W (HMA.out W i hW hlt).1 HWF.out HPOS.out
        refine q.mono fun e w' ⟨⟨v, he, ho⟩, hs⟩ => ?_
        obtain ⟨ya, yc, hv, _, _⟩ := own_byt ho
        subst hv
        exact ⟨ya, yc, he, ho, hs⟩
      have HBK4 : Hid (Bk W0.heap.size W4 bk F i ∧ W0.Since W0.heap.size W4) := ⟨HB.out.1.since s14, S4⟩
      have HFG : Hid (¬ F g ∧ wi.heap.size < g ∧ g < W4.heap.size ∧ W0.heap.size ≤ g) := ⟨fun e => by have := (HB.out.1.ge e).2; omega, by omega, hL4.row.lt, by have := HSi.out.size; omega⟩
      have HL4 := hide hL4
      have HCM : Hid (∀ W, W4.Since W4.heap.size W → W.cell? ⟨wi.heap.size, 10, none⟩ = some (.slice (some ⟨g, 0, none⟩) LV cap')) := fun W hW => by
        have := (row_since r4 hW).cell (i := 10) (by decide)
        rw [← HLV.out]
        exact this
      clear hg hs3 hL3 hr3 r4 s14 hgb hz4 hL4 S4 hA4 HMB HLD d10 z10 HW4 HB HH1 HS1' HMV hzi
      go_wp2_with (refine wpList_load_row rfl 37 _ rfl wi.heap.size rfl _ _ (0, 0) _ HH4.out Tryz.underlying37 rfl HINB.out ?_)
      refine HQE.out.mono ?_
      rintro e w5 ⟨ta, rfl, htx, hs5⟩
      have S5 : W0.Since W0.heap.size w5 := HBK4.out.2.trans (since_mono hs5 HBK4.out.2.size)
      have HS5 := hide S5
      have HR5 := hide hs5
      have HTX := hide htx
      have c05 := HC0.out w5 S5
      have HRG5 := hide (HRW.out w5 S5)
      have HQR := hide (HRE.out w5 S5)
      clear HQE htx hs5 HH4 HINB HRE S5
      obtain ⟨MI, HMI⟩ : ∃ x, Hid (mgL (M i) (va i) (vc i) = x) := ⟨_, rfl⟩
      rw [HMI.out] at HRG5 HQR HINM
      obtain ⟨L, HLL⟩ : ∃ x, Hid ((encM (M i)).2.length = x) := ⟨_, rfl⟩
      have hLb : L ≤ 600008 := by rw [← HLL.out]; exact enc_len (M i)
      rw [HLL.out] at HQR HTX ⊢
      go_wp2_with (refine wpList_load_mid rfl 37 _ rfl b (o + i * 22) rfl _ _ HRG5.out Tryz.underlying37 rfl HINM.out ?_)
      refine HQR.out.mono ?_
      rintro e w6 ⟨ya, yc, rfl, ho6, hs6⟩
      have ho6 : Own w6 w5.heap.size (.slice ya L yc) L (fun j => (encM (M i)).2.getD j 0) := by rw [← HLL.out]; rw [← HLL.out] at ho6; exact ho6
      have HO6 := hide ho6
      have HR6 : Hid (W4.Since W4.heap.size w6) := HR5.out.trans (since_mono hs6 HR5.out.size)
      have HTX6 := hide (HTX.out.since hs6)
      have HS6 : Hid (W0.Since W0.heap.size w6) := HS5.out.trans (since_mono hs6 HS5.out.size)
      clear HQR ho6 HRG5 HINM c05
      have hEB : ∀ j, (encM (M i)).2.getD j 0 < 256 := fun j => getD_byte (enc_byte HA1.out.byte) j
      obtain ⟨ER, HER⟩ : ∃ x, Hid ((encM (M i)).1 = x) := ⟨_, rfl⟩
      rw [HER.out]
      clear hEB
      have hz56 : W4.heap.size ≤ w5.heap.size := HR5.out.size
      have HEQ6 : Hid (∀ W, w6.Since w6.heap.size W → Calls Tryz.prog 13 #[.slice ta L L, .slice ya L yc] W fun e w' => e = .returned (.bool true) ∧ w6.Since w6.heap.size w' ∧ w'.cell? ⟨wi.heap.size, 10, none⟩ = some (.slice (some ⟨g, 0, none⟩) LV cap') ∧ w'.cell? ⟨w.heap.size, 0, none⟩ = some (.slice (some ⟨b, o, none⟩) mn mc) ∧ w'.cell? ⟨b, o + i * 22 + 10, none⟩ = some (.slice (va i) LV (vc i))) := fun W hW => by
        obtain ⟨_, _, e1, hby, _⟩ := own_byt (own_since HO6.out hW)
        cases e1
        refine (eq_same ta ya L L yc _ W (HTX6.out.since hW).toByt hby (by omega)).mono fun e w' ⟨he, k, hk⟩ => ?_
        have a : w6.Since w6.heap.size w' := by rw [hk]; exact since_drewN' hW k
        have a0 := HS6.out.trans (since_mono a HS6.out.size)
        exact ⟨he, a, HCM.out w' (HR6.out.trans (since_mono a HR6.out.size)), HC0.out w' a0, HCV.out w' a0⟩
      have HIT : Hid (∀ W, w6.Since w6.heap.size W → Calls Tryz.prog 18 #[.slice (some ⟨g, 0, none⟩) LV cap', .slice (va i) LV (vc i)] W fun e w' => e = .returned (.bool true) ∧ W = w') := fun W hW => by
        have a := HR6.out.trans (since_mono hW HR6.out.size)
        have a0 := HS6.out.trans (since_mono hW HS6.out.size)
        have hA := (HMA.out W i a0 hlt).1
        have hv := hA.val
        rw [HLV.out] at hv
        exact (intact_any g LV cap' _ f (va i) (vc i) W (HL4.out.since a) hv (fun e => by have := (hA.nil e).1; rw [HLV.out] at this; exact this) (by have := hA.len 10; rw [HLV.out] at this; exact this)).mono fun e w' ⟨h1, h2⟩ => ⟨h1, h2.symm⟩
      have hS0 : w6.Since w6.heap.size w6.drew := (World.Since.refl _ _).drew
      have c1d : w6.drew.cell? ⟨wi.heap.size, 10, none⟩ = some (.slice (some ⟨g, 0, none⟩) LV cap') := HCM.out _ (HR6.out.trans (since_mono hS0 HR6.out.size))
      have c2d : w6.drew.cell? ⟨w.heap.size, 0, none⟩ = some (.slice (some ⟨b, o, none⟩) mn mc) := HC0.out _ (HS6.out.trans (since_mono hS0 HS6.out.size))
      have c3d : w6.drew.cell? ⟨b, o + i * 22 + 10, none⟩ = some (.slice (va i) LV (vc i)) := HCV.out _ (HS6.out.trans (since_mono hS0 HS6.out.size))
      have n0 : ((ER : Int) != (ER : Int)) = false := by simp
      go_upto_region 11 with fail
      go_region_held3 (fun W => w6.Since w6.heap.size W ∧ W.cell? ⟨wi.heap.size, 10, none⟩ = some (.slice (some ⟨g, 0, none⟩) LV cap') ∧ W.cell? ⟨w.heap.size, 0, none⟩ = some (.slice (some ⟨b, o, none⟩) mn mc) ∧ W.cell? ⟨b, o + i * 22 + 10, none⟩ = some (.slice (va i) LV (vc i)))
        (first | exact ⟨hS0, c1d, c2d, c3d⟩ | exact ⟨hS1, x1, x2, x3⟩)
        (first
          | (go_at_call 10; refine (HN.out _ _).mono ?_; rintro e w7 ⟨rfl, rfl⟩)
          | (go_at_call 13; refine (HEQ6.out _ hS0).mono ?_; rintro e w8 ⟨rfl, hS1, x1, x2, x3⟩)
          | (go_at_call 18; refine (HIT.out _ hS1).mono ?_; rintro e w9 ⟨rfl, rfl⟩))
      all_goals
        have HS8 := hide hS1
        have HR8 : Hid (W4.Since W4.heap.size w8) := HR6.out.trans (since_mono hS1 HR6.out.size)
        have c18 := x1
        obtain ⟨hFg, hg1, hg2, hg3⟩ := HFG.out
        have HSC := hide (scrawl_any g LV cap' w8 f (HL4.out.since HR8.out).row (fun j hj => ⟨_, HL4.out.byte j hj⟩) (by have := HL4.out.room; omega) (by have := HA1.out.len 10; rw [HLV.out] at this; exact this))
        clear hS0 c1d c2d c3d hS1 x1 x2 x3 HIT n0
        go_wp2_with fail
        refine HSC.out.mono ?_
        rintro e w10 ⟨rfl, hb10⟩
        have hO10 : Own w10 w5.heap.size (.slice ya L yc) L (fun j => (encM (M i)).2.getD j 0) := own_but (own_since HO6.out HS8.out) hb10 (by omega)
        have hT10 : Txt W4.heap.size w10 ta L (fun j => (encM (M i)).2.getD j 0) := txt_but (HTX6.out.since HS8.out) hb10 hg2
        have hB10 : Bk W0.heap.size w10 bk F i := bk_but (HBK4.out.1.since HR8.out) hb10 hFg
        have hS10 : W0.Since W0.heap.size w10 := hb10.since (HBK4.out.2.trans (since_mono HR8.out HBK4.out.2.size)) hg3 (Nat.le_trans HBK4.out.2.size HR8.out.size)
        obtain ⟨_, _, e1, hby, _⟩ := own_byt hO10
        cases e1
        have HQ11 : Hid (Calls Tryz.prog 13 #[.slice ta L L, .slice ya L yc] w10 fun e w' => e = .returned (.bool true) ∧ ∃ m, w' = w10.drewN m) := eq_same ta ya L L yc _ w10 hT10.toByt hby (by omega)
        have HT10 := hide hT10
        have HB10 : Hid (Bk W0.heap.size w10 bk F i ∧ W0.Since W0.heap.size w10) := ⟨hB10, hS10⟩
        clear HSC hO10 hT10 hB10 hS10 hby hb10 HS8 HR8 c18
        go_wp2_with fail
        refine HQ11.out.mono ?_
        rintro e w11 ⟨rfl, m11, hm11⟩
        have s11 : w10.Since w10.heap.size w11 := by rw [hm11]; exact drewN_since _ _
        have HQ12 : Hid (Calls Tryz.prog 20 #[.pointer (some ⟨bk, 0, none⟩), .slice ta L L] w11 fun e w' => e = .returned (.tuple #[]) ∧ ∃ F', Hid (Bk W0.heap.size w' bk F' (i + 1) ∧ W0.Since W0.heap.size w')) := by
          have hB11 := HB10.out.1.since s11
          have S11 := HB10.out.2.trans (since_mono s11 HB10.out.2.size)
          have hown := own_lower (txt_own (HT10.out.since s11) (by omega)) HBK4.out.2.size
          refine (bk_bytes hB11 S11.size (by omega) ta L L _ hown (fun ad e hF => ?_) (by omega)).mono fun e w' ⟨he, F', h1, h2⟩ => ⟨he, F', h1, h2 W0 S11 rfl⟩
          have h1 := (HBK4.out.1.ge hF).2
          rcases HT10.out with ⟨e2, _⟩ | ⟨t, e2, ht, _⟩
          · rw [e] at e2; cases e2
          · rw [e] at e2
            cases e2
            have ht : W4.heap.size ≤ t := ht
            have h1 : t < W4.heap.size := h1
            omega
        clear HQ11 hm11 s11 HB10 HT10
        go_wp2_with fail
        refine HQ12.out.mono ?_
        rintro e w12 ⟨rfl, F', HB12⟩
        clear HQ12
        go_wp2_with fail
        go_roundg (mn - (i + 1))
        case measure => go_light; omega
        case rel => go_light; exact ⟨i + 1, F', by omega, rfl, by simp, HB12⟩
    · have hge : ¬ ((i : Int) < (mn : Int)) := by omega
      obtain rfl : i = mn := by omega
      have HB0 : Hid (Bk W0.heap.size wi bk F (i + 0) ∧ W0.Since W0.heap.size wi) := HB.out
      clear HB HMR HMA HC0 HK2
      go_wp2_with fail
      go_loopg [10] bn (fun q s10 wx => ∃ (j : Nat) (F : Nat → Prop), j ≤ bn ∧ q = bn - j ∧ s10 = .int .i64 j ∧ Hid (Bk W0.heap.size wx bk F (i + j) ∧ W0.Since W0.heap.size wx))
      case atStart => exact ⟨0, F, Nat.zero_le _, rfl, rfl, HB0⟩
      case round =>
        obtain ⟨j, FF, hj, rfl, rfl, HB⟩ := hrel
        have c1 := HC1.out wr HB.out.2
        by_cases hjl : j < bn
        · have hjl2 : (j : Int) < (bn : Int) := by omega
          obtain ⟨b, o, e1, hc⟩ := HBR.out wr j HB.out.2 hjl
          subst e1
          obtain ⟨hby, hz, hcap, hcm⟩ := HBK.out wr j HB.out.2 hjl
          have HZ := hide hz
          have HBY := hide hby
          have HCJ : Hid (∀ W, wr.Since wr.heap.size W → W.cell? ⟨b, o + j, none⟩ = some (.slice (xa j) (xl j) (xc j))) := fun W hW => cell_later hW hc
          have HC1J : Hid (∀ W, wr.Since wr.heap.size W → W.cell? ⟨w.heap.size, 1, none⟩ = some (.slice (some ⟨b, o, none⟩) bn bc)) := fun W hW => cell_later hW c1
          have HSR : Hid (∀ W, wr.Since wr.heap.size W → W0.Since W0.heap.size W) := fun W hW => HB.out.2.trans (since_mono hW HB.out.2.size)
          have HXL : Hid (xl j ≤ 140737488351232) := Nat.le_trans hcap hcm
          have HCAP := hide hcap
          have HXC := hide hcm
          have HNJ := hide (HNIL.out j hjl)
          have HLE := hide (lend_any (xa j) (xl j) (xc j) (x j) wr (Nat.le_trans hcap hcm) hby (HNIL.out j hjl))
          obtain ⟨D, HD⟩ : ∃ q, Hid (decM (x j) (xl j) = q) := ⟨_, rfl⟩
          have HWF := hide (dec_wf hz (xl j))
          have HVL := hide (dec_len hz (xl j))
          rw [HD.out] at HWF HVL
          clear hby hz hcm
          go_wp2_with fail
          refine HLE.out.mono ?_
          rintro e w2 ⟨g, cap', f, rfl, hg, hs2, hL2⟩
          have HR2 := hide hs2
          have HL2 := hide hL2
          have hgl : g < w2.heap.size := hL2.row.lt
          have q := dec_any (some ⟨g, 0, none⟩) (xl j) cap' (x j) w2 hL2.byt HZ.out (by have := hL2.room; omega) (by have := HXL.out; omega) (HT0.out.since (HSR.out w2 hs2)) (HU0.out.since (HSR.out w2 hs2))
          unfold DecAns at q
          rw [HD.out] at q
          have HQ3 := hide q
          have HRD : Hid (∀ W, wr.Since wr.heap.size W → Calls Tryz.prog 14 #[.slice (xa j) (xl j) (xc j)] W fun e w' => (∃ va, e = .returned (.tuple #[mgV D.2 va (D.2.s 10).length, .int .i64 (D.1 : Nat)]) ∧ Txt W.heap.size w' va (D.2.s 10).length (fun j => (D.2.s 10).getD j 0) ∧ (∀ c, (D.2.s c).length ≤ 140737488351232) ∧ ∀ c, ∀ v ∈ D.2.s c, v < 256) ∧ W.Since W.heap.size w') := fun W hW => by
            have q := refdec_any (xa j) (xl j) (xc j) (x j) W (HBY.out.since hW) HZ.out (by have := HXL.out; omega) HCAP.out (by have := HXC.out; omega)
            unfold DecAns at q
            rw [HD.out] at q
            exact q
          obtain ⟨er, Mm⟩ := D
          clear HLE q hs2 hL2 hc HD c1
          go_wp2_with fail
          refine HQ3.out.mono ?_
          rintro e w3 ⟨⟨vd, rfl, htx, hlen, hbt⟩, hs3⟩
          obtain ⟨W4, MA, HMA', HT4, HW4, HIN4, HON4, HH4, HS4⟩ := mg_put w3 Mm vd (Mm.s 10).length
          rw [HMA'.out]
          have HR24 : Hid (w2.Since w2.heap.size W4) := hs3.trans (since_mono HS4.out hs3.size)
          have HR4 : Hid (wr.Since wr.heap.size W4) := HR2.out.trans (since_mono HR24.out HR2.out.size)
          have HTX4 : Hid (Txt w2.heap.size W4 vd (Mm.s 10).length (fun j => (Mm.s 10).getD j 0)) := htx.since HS4.out
          have HLEN := hide hlen
          have HBT := hide hbt
          have HZ3 : Hid (w2.heap.size ≤ w3.heap.size) := hs3.size
          have cj4 := HCJ.out W4 HR4.out
          have c14 := HC1J.out W4 HR4.out
          have HQ5 := hide (HRD.out W4 HR4.out)
          clear HQ3 HRD htx hlen hbt hs3 HS4
          go_wp2_with (refine wpList_store_mid rfl 37 _ _ rfl w3.heap.size 0 _ rfl rfl HT4.out HIN4.out HON4.out ?_; rw [HW4.out])
          refine HQ5.out.mono ?_
          rintro e w5 ⟨⟨ve, rfl, htx, _, _⟩, hs5⟩
          obtain ⟨W6, MB, HMB, HT6, HW6, HIN6, HON6, HH6, HS6⟩ := mg_put w5 Mm ve (Mm.s 10).length
          rw [HMB.out]
          have HR46 : Hid (W4.Since W4.heap.size W6) := hs5.trans (since_mono HS6.out hs5.size)
          have HR26 : Hid (w2.Since w2.heap.size W6) := HR24.out.trans (since_mono HR46.out HR24.out.size)
          have HTX6 : Hid (Txt W4.heap.size W6 ve (Mm.s 10).length (fun j => (Mm.s 10).getD j 0)) := htx.since HS6.out
          have HZ5 : Hid (w2.heap.size ≤ w5.heap.size) := Nat.le_trans HR24.out.size hs5.size
          have HEM : Hid (∀ W, MgA W Mm vd (Mm.s 10).length → MgA W Mm ve (Mm.s 10).length → Calls Tryz.prog 12 #[.agg MA, .agg MB] W fun e w' => e = .returned (.bool true) ∧ W.Since W.heap.size w') := fun W h1 h2 => by
            have q := eqMsg_any Mm Mm vd ve (Mm.s 10).length (Mm.s 10).length W h1 h2 HWF.out HWF.out
            rw [eqG_refl, HMA'.out, HMB.out] at q
            exact q
          have HQ7 := hide (HEM.out W6 (MgA.of_txt (HTX4.out.since HR46.out) HLEN.out HBT.out) (MgA.of_txt HTX6.out HLEN.out HBT.out))
          have HLA := hide (HH4.out W6 HR46.out)
          have HLB := hide (HH6.out W6 (World.Since.refl _ _))
          have n0 : ((er : Int) != (er : Int)) = false := by simp
          clear HQ5 htx hs5 HS6 cj4 c14 HT4 HW4 HON4
          go_wp2_with (first
            | (refine wpList_store_mid rfl 37 _ _ rfl w5.heap.size 0 _ rfl rfl HT6.out HIN6.out HON6.out ?_; rw [HW6.out])
            | (go_at_call 10; refine (HN.out _ _).mono ?_; rintro e w6 ⟨rfl, rfl⟩)
            | (refine wpList_load_rowG rfl 37 _ rfl w3.heap.size rfl _ _ (0, 0) _ HLA.out Tryz.underlying37 rfl HIN4.out ?_)
            | (refine wpList_load_rowG rfl 37 _ rfl w5.heap.size rfl _ _ (0, 0) _ HLB.out Tryz.underlying37 rfl HIN6.out ?_))
          refine HQ7.out.mono ?_
          rintro e w7 ⟨rfl, hs7⟩
          have HR67 := hide hs7
          have HR27 : Hid (w2.Since w2.heap.size w7) := HR26.out.trans (since_mono hs7 HR26.out.size)
          have HR7 : Hid (wr.Since wr.heap.size w7) := HR2.out.trans (since_mono HR27.out HR2.out.size)
          have cj7 := HCJ.out w7 HR7.out
          have c17 := HC1J.out w7 HR7.out
          have HIT := hide (intact_any g (xl j) cap' (x j) f (xa j) (xc j) w7 (HL2.out.since HR27.out) (HBY.out.since HR7.out) (fun e => (HNJ.out e).1) HXL.out)
          have HSC := hide (scrawl_any g (xl j) cap' w7 f (HL2.out.since HR27.out).row (fun q hq => ⟨_, HL2.out.byte q hq⟩) (by have := HL2.out.room; omega) HXL.out)
          clear HQ7 hs7 HLA HLB n0 HT6 HW6 HON6
          go_wp2_with (go_at_call 18; refine HIT.out.mono ?_; rintro e w8 ⟨rfl, e8⟩; rw [e8]; clear e8)
          refine HSC.out.mono ?_
          rintro e w9 ⟨rfl, hb9⟩
          have hmb : w3.heap.size ≠ g := by have := HZ3.out; omega
          have hnb : w5.heap.size ≠ g := by have := HZ5.out; omega
          have HR47 : Hid (W4.Since W4.heap.size w7) := HR46.out.trans (since_mono HR67.out HR46.out.size)
          have hA7 := HH4.out w7 HR47.out
          have hB7 := HH6.out w7 HR67.out
          have HA9 : Hid (w9.heap[w3.heap.size]? = some (.cells MA 37 (0, 0))) := by
            show _ = _
            rw [hb9.block _ (Array.getElem?_eq_some_iff.1 hA7).1 hmb]
            exact hA7
          have HB9' : Hid (w9.heap[w5.heap.size]? = some (.cells MB 37 (0, 0))) := by
            show _ = _
            rw [hb9.block _ (Array.getElem?_eq_some_iff.1 hB7).1 hnb]
            exact hB7
          have hT9 : Txt w2.heap.size w9 vd (Mm.s 10).length (fun j => (Mm.s 10).getD j 0) := txt_but (HTX4.out.since HR47.out) hb9 hgl
          have hT9' : Txt W4.heap.size w9 ve (Mm.s 10).length (fun j => (Mm.s 10).getD j 0) := txt_but (HTX6.out.since HR67.out) hb9 (by have := HR24.out.size; omega)
          have HQ9 := hide (HEM.out w9 (MgA.of_txt hT9 HLEN.out HBT.out) (MgA.of_txt hT9' HLEN.out HBT.out))
          have HT9 := hide hT9
          have hFg : ¬ FF g := fun e => by have := (HB.out.1.ge e).2; omega
          have HK9 : Hid (Bk W0.heap.size w9 bk FF (i + j) ∧ W0.Since W0.heap.size w9) := ⟨bk_but (HB.out.1.since HR7.out) hb9 hFg, hb9.since (HSR.out w7 HR7.out) (Nat.le_trans HB.out.2.size hg) (HSR.out w7 HR7.out).size⟩
          clear HIT HSC hA7 hB7 hT9 hT9' hb9 cj7 c17
          go_wp2_with (first
            | (refine wpList_load_row rfl 37 _ rfl w3.heap.size rfl _ _ (0, 0) _ HA9.out Tryz.underlying37 rfl HIN4.out ?_)
            | (refine wpList_load_row rfl 37 _ rfl w5.heap.size rfl _ _ (0, 0) _ HB9'.out Tryz.underlying37 rfl HIN6.out ?_))
          refine HQ9.out.mono ?_
          rintro e w10 ⟨rfl, hs10⟩
          have c10 : w10.cell? ⟨w3.heap.size, 10, none⟩ = some (.slice vd (Mm.s 10).length (Mm.s 10).length) := by
            have hr := row_since (mg_cells HA9.out HMA'.out) hs10
            exact hr.cell (i := 10) (by decide)
          have hQ : Calls Tryz.prog 20 #[.pointer (some ⟨bk, 0, none⟩), .slice vd (Mm.s 10).length (Mm.s 10).length] w10 fun e w' => e = .returned (.tuple #[]) ∧ ∃ F', Hid (Bk W0.heap.size w' bk F' (i + j + 1) ∧ W0.Since W0.heap.size w') := by
            have hB10 := HK9.out.1.since hs10
            have S10 := HK9.out.2.trans (since_mono hs10 HK9.out.2.size)
            have hlen : (Mm.s 10).length ≤ 17000 := HVL.out
            have hown := own_lower (txt_own (HT9.out.since hs10) (by omega)) (Nat.le_trans HB.out.2.size HR2.out.size)
            refine (bk_bytes hB10 S10.size (by omega) vd (Mm.s 10).length (Mm.s 10).length _ hown (fun ad e hF => ?_) (by omega)).mono fun e w' ⟨he, F', h1, h2⟩ => ⟨he, F', h1, h2 W0 S10 rfl⟩
            have h1 := (HB.out.1.ge hF).2
            rcases HT9.out with ⟨e2, _⟩ | ⟨t, e2, ht, _⟩
            · rw [e] at e2; cases e2
            · rw [e] at e2
              cases e2
              have ht : w2.heap.size ≤ t := ht
              have h1 : t < wr.heap.size := h1
              have := HR2.out.size
              omega
          have HQ11 := hide hQ
          clear HQ9 hQ hs10 HA9 HB9' HK9 HT9
          generalize (Mm.s 10).length = LL at *
          go_wp2_with fail
          refine HQ11.out.mono ?_
          rintro e w12 ⟨rfl, F', HB12⟩
          clear HQ11
          go_wp2_with fail
          go_roundg (bn - (j + 1))
          case measure => go_light; omega
          case rel => go_light; exact ⟨j + 1, F', by omega, rfl, by simp, HB12⟩
        · have hjg : ¬ ((j : Int) < (bn : Int)) := by omega
          have HQ := hide (bk_look HB.out.1 HB.out.2.size (by omega))
          go_wp2_with fail
          refine HQ.out.mono ?_
          rintro e w2 ⟨rfl, h2⟩
          have HQ2 := hide (HBG.out w2 (h2 W0 HB.out.2 rfl))
          clear HQ h2
          go_wp2_with fail
          refine HQ2.out.mono ?_
          rintro e w3 ⟨rfl, hS3⟩
          go_wp2_with fail
          go_ret
          exact ⟨rfl, HS0.out.trans (since_mono hS3 HS0.out.size)⟩
end Go.Proofs.YtonpmabdjngdcaaGreatDoor

/- MessageExact: what it is handed. -/
namespace Go.Proofs.YtonpmabdjngdcaaGreatDoor
open Go.ChangeShapes Go.WideShapes Go.ChangeAt Go.RowKit Go.Deep Go.Joins
set_option maxRecDepth 100000

/-- A list of lists of bytes. -/
theorem open_lists2 {H : Type} {enc : TypeId × Value → H} {W : World} {fuel : Nat} {v : Value} {y : DataW H × List MemPlace} (h : DataW.trod enc Tryz.prog W 0 (fun _ => true) true fuel 23 [v] = some y) (hf : Fits 23 y.1) :
    ∃ (ba : Option Addr) (bn bc : Nat) (xa : Nat → Option Addr) (xl xc : Nat → Nat) (x : Nat → Nat → Nat), v = .slice ba bn bc ∧ BytsIn W ba bn xa xl xc x ∧ bn ≤ 281474976710656 ∧ ∀ i, i < bn → xa i = none → xl i = 0 ∧ xc i = 0 := by
  rcases open_slice Tryz.underlying23 h with ⟨hcs, _⟩ | ⟨a, len, cap, m, n, D, Pl, hcs, _, hl, _, hm, hyx, hel⟩
  · exact ⟨none, 0, 0, fun _ => none, fun _ => 0, fun _ => 0, fun _ _ => 0, by simpa using hcs, ⟨fun i hi => absurd hi (Nat.not_lt_zero i), fun i hi => absurd hi (Nat.not_lt_zero i)⟩, Nat.zero_le _, fun i hi => absurd hi (Nat.not_lt_zero i)⟩
  · simp only [if_true] at hm
    subst hm
    obtain ⟨b, o, sp⟩ := a
    rw [hyx] at hf
    have hcount : len ≤ 281474976710656 := by
      have := hf _ (by
        simp only [DataW.weights, Tryz.underlying23]
        exact List.mem_cons_self ..)
      simp only [List.length_map, List.length_range, bytesB, reach_eq] at this
      omega
    have hele : ∀ i, i < len → Fits 32 (D i) := fun i hi n hn => hf n (by
      simp only [DataW.weights, Tryz.underlying23]
      exact List.mem_cons_of_mem _ (List.mem_append_left _ (weightsAll_mem (List.mem_map.2 ⟨i, List.mem_range.2 hi, rfl⟩) n hn)))
    have hsp : 0 < len → sp = none := fun h0 => by
      obtain ⟨cs', hc, _⟩ := hel 0 (by omega)
      rw [cellsB] at hc
      obtain ⟨_, hl', hcell⟩ := World.cells?_some hc
      have := hcell 0 (by decide)
      rw [List.getElem?_eq_getElem (by rw [hl']; decide)] at this
      simpa [Addr.add] using World.cell?_spot this
    have hall : ∀ i, ∃ q : Option Addr × Nat × Nat × (Nat → Nat), i < len → sp = none ∧ W.cell? ⟨b, o + i, none⟩ = some (.slice q.1 q.2.1 q.2.2.1) ∧ Byt W q.1 q.2.1 q.2.2.2 ∧ (∀ j, q.2.2.2 j < 256) ∧ q.2.1 ≤ q.2.2.1 ∧ q.2.2.1 ≤ 140737488351232 ∧ (q.1 = none → q.2.1 = 0 ∧ q.2.2.1 = 0) := fun i => by
      by_cases hi : i < len
      · obtain ⟨cs', hc, ht⟩ := hel i (by omega)
        rw [cellsB] at hc
        obtain ⟨_, hlen', hcell⟩ := World.cells?_some hc
        obtain ⟨v', rfl⟩ : ∃ v', cs' = [v'] := by
          match cs', hlen' with
          | [a], _ => exact ⟨a, rfl⟩
        obtain ⟨qa, ql, qc, qz, rfl, g1, g2, g3, g4, g5⟩ := open_bytes ht (hele i hi)
        have h0 := hcell 0 (by decide)
        obtain rfl := hsp (by omega)
        rw [add_at, add_at, Nat.mul_one, Nat.add_zero] at h0
        exact ⟨(qa, ql, qc, qz), fun _ => ⟨rfl, h0, g4.le g1, g3, g1, g2, g5⟩⟩
      · exact ⟨(none, 0, 0, fun _ => 0), fun h => absurd h hi⟩
    obtain ⟨Q, hQ⟩ := Classical.axiomOfChoice hall
    refine ⟨some ⟨b, o, sp⟩, len, m, fun i => (Q i).1, fun i => (Q i).2.1, fun i => (Q i).2.2.1, fun i => (Q i).2.2.2, by simpa using hcs, ⟨fun i hi => ?_, fun i hi => ?_⟩, hcount, fun i hi => (hQ i hi).2.2.2.2.2.2⟩
    · obtain ⟨h1, h2, _⟩ := hQ i hi
      subst h1
      exact ⟨b, o, rfl, h2⟩
    · exact ⟨(hQ i hi).2.2.1, (hQ i hi).2.2.2.1, (hQ i hi).2.2.2.2.1, (hQ i hi).2.2.2.2.2.1⟩
theorem open_mail2 {H : Type} {enc : TypeId × Value → H} {W : World} {base : Nat} {v : Value} {d : DataW H} {p : List MemPlace} (hv : Value.okWide Tryz.prog W .any base 25 v) (h : DataW.Trod enc Tryz.prog W 0 (fun _ => true) true 25 v d p) (hf : Fits 25 d) :
    ∃ (ma : Option Addr) (mn mc : Nat) (M : Nat → Mg) (va : Nat → Option Addr) (vc : Nat → Nat) (ba : Option Addr) (bn bc : Nat) (xa : Nat → Option Addr) (xl xc : Nat → Nat) (x : Nat → Nat → Nat), v = .agg #[.slice ma mn mc, .slice ba bn bc] ∧ MsgsIn W ma mn M va vc ∧ mn ≤ 1000000000000 ∧ BytsIn W ba bn xa xl xc x ∧ bn ≤ 281474976710656 ∧ ∀ i, i < bn → xa i = none → xl i = 0 ∧ xc i = 0 := by
  obtain ⟨cs, rfl, hcsz⟩ := okWide_struct Tryz.underlying25 hv
  rw [show Tryz.prog.cellsOf 25 = 2 by kernel_rfl] at hcsz
  obtain ⟨u0, u1, rfl⟩ : ∃ u0 u1, cs = #[u0, u1] := by
    rcases cs with ⟨l⟩
    match l, hcsz with
    | [a, b], _ => exact ⟨a, b, rfl⟩
  obtain ⟨fuel, hf0⟩ := h
  obtain ⟨xs, n, _, hx, _, hlen, hfs⟩ := DataW.trod_struct Tryz.underlying25 hf0
  obtain ⟨y0, y1, rfl⟩ : ∃ y0 y1, xs = [y0, y1] := by
    match xs, hlen with
    | [a, b], _ => exact ⟨a, b, rfl⟩
  have f0 : DataW.trod enc Tryz.prog W 0 (fun _ => true) true n 22 (([u0, u1].drop 0).take (Tryz.prog.cellsOf 22)) = some y0 := hfs 0 _ rfl
  have f1 : DataW.trod enc Tryz.prog W 0 (fun _ => true) true n 23 (([u0, u1].drop 1).take (Tryz.prog.cellsOf 23)) = some y1 := hfs 1 _ rfl
  rw [show Tryz.prog.cellsOf 22 = 1 by kernel_rfl] at f0
  rw [show Tryz.prog.cellsOf 23 = 1 by kernel_rfl] at f1
  have f0 : DataW.trod enc Tryz.prog W 0 (fun _ => true) true n 22 [u0] = some y0 := f0
  have f1 : DataW.trod enc Tryz.prog W 0 (fun _ => true) true n 23 [u1] = some y1 := f1
  have hd : d = (.agg (([y0, y1] : List (DataW H × List MemPlace)).map (·.1)) : DataW H) := congrArg Prod.fst hx
  have fit : ∀ (j : Nat) (t : TypeId) (x : DataW H), (([y0.1, y1.1] : List (DataW H)))[j]? = some x → ([22, 23] : List TypeId)[j]? = some t → Fits t x := fun j t x hx1 ht1 q hq => hf q (by
    rw [hd]
    simp only [DataW.weights, Tryz.underlying25]
    exact DataW.weights_mem_each (j := j) ht1 hx1 q hq)
  obtain ⟨ma, mn, mc, M, va, vc, rfl, h1, h2⟩ := open_msgs f0 (fit 0 _ _ rfl rfl)
  obtain ⟨ba, bn, bc, xa, xl, xc, x, rfl, h3, h4, h5⟩ := open_lists2 f1 (fit 1 _ _ rfl rfl)
  exact ⟨ma, mn, mc, M, va, vc, ba, bn, bc, xa, xl, xc, x, rfl, h1, h2, h3, h4, h5⟩
end Go.Proofs.YtonpmabdjngdcaaGreatDoor
