/- Own texts, joined: RefO9, RefB9, RefO10, RefB10, RefO11, RefB11, RefY0, RefY1. -/
import Derived.Test.YtonpmabdjngdcaaGreatDoorM12
import Derived.Test.YtonpmabdjngdcaaGreatDoorM8
import Derived.Test.YtonpmabdjngdcaaGreatDoorM11
import Derived.Test.YtonpmabdjngdcaaGreatDoorM7
import Derived.Deep.CutBlock

/- The document's Only: kind 9. -/
namespace Go.Proofs.YtonpmabdjngdcaaGreatDoor
open Go.RowKit
set_option maxRecDepth 100000

set_option maxHeartbeats 8000000 in
theorem only9 (m : Mg) (va : Option Addr) (vc : Nat) (w : World) (hA : MgA w m va vc) (h0 : m.n 0 = 9) :
    Calls Tryz.prog 29 #[mgV m va vc] w fun e w' => e = .returned (mgV (onlyG m) none 0) ∧ w.Since w.heap.size w' := by
  have hkt : (m.n 0).toNat = 9 := by rw [h0]; rfl
  obtain ⟨MM, HMM⟩ : ∃ x, Hid ((mgL m va vc).toArray = x) := ⟨_, rfl⟩
  obtain ⟨W1, HW1⟩ : ∃ W, Hid (w.alloc (.cells MM 37) = W) := ⟨_, rfl⟩
  have s1 : w.Since w.heap.size W1 := by rw [← HW1.out]; exact (World.Since.refl _ _).alloc (Nat.le_refl _) _
  have z1 : W1.heap.size = w.heap.size + 1 := by rw [← HW1.out]; simp
  have hM1 : MsgIs W1 w.heap.size m va vc := by rw [← HW1.out, ← HMM.out]; exact hA.is
  obtain ⟨W2, HW2⟩ : ∃ W, Hid (W1.alloc mgZ = W) := ⟨_, rfl⟩
  have s2 : W1.Since W1.heap.size W2 := by rw [← HW2.out]; exact (World.Since.refl _ _).alloc (Nat.le_refl _) _
  have z2 : W2.heap.size = w.heap.size + 1 + 1 := by rw [← HW2.out, ← z1]; simp
  have r2 : W2.rowIs (w.heap.size + 1) 37 22 (mgCell mg0 none 0) := by rw [← z1, ← HW2.out]; exact mgZ_row W1
  have hM2 := hM1.since s2
  have c0 : W2.cell? ⟨w.heap.size, 0, none⟩ = some (.int .i64 (m.n 0)) := hM2.cell (i := 0) (by decide)
  have c1 : W2.cell? ⟨w.heap.size, 1, none⟩ = some (.int .i64 (m.n 1)) := hM2.cell (i := 1) (by decide)
  have c2 : W2.cell? ⟨w.heap.size, 2, none⟩ = some (.int .i64 (m.n 2)) := hM2.cell (i := 2) (by decide)
  have c3 : W2.cell? ⟨w.heap.size, 3, none⟩ = some (.int .i64 (m.n 3)) := hM2.cell (i := 3) (by decide)
  have s2z : W2.Since W2.heap.size (W2.alloc mgZ) := (World.Since.refl _ _).alloc (Nat.le_refl _) _
  obtain ⟨W3, HW3, r3, h3, z3', b3, o3, t3, p3⟩ := mg_stored (mgZ_row W2) (takeL m hds mg0) none 0
  have z3 : W3.heap.size = w.heap.size + 1 + 1 + 1 := by rw [z3', ← z2]; simp
  have s3 : W2.Since W2.heap.size W3 := ⟨o3.trans s2z.os, t3.trans s2z.tape, p3.trans s2z.output, by rw [z3']; exact s2z.size, fun k hk => (b3 k (by omega)).trans (s2z.block k hk)⟩
  have HT3 : Hid ((W2.alloc mgZ).there W2.heap.size 0 (mgL (takeL m hds mg0) none 0).toArray.size) := by
    have e : (mgL (takeL m hds mg0) none 0).toArray.size = 22 := by rw [List.size_toArray, mgL_len]
    show World.there _ _ _ _
    rw [e]
    exact row_there (mgZ_row W2)
  have HRG : Hid (W2.rangeAt w.heap.size 0 [.int .i64 (m.n 0), .int .i64 (m.n 1), .int .i64 (m.n 2), .int .i64 (m.n 3)]) := fun j v hv => by
    match j, hv with
    | 0, hv => rw [← Option.some.inj hv]; exact c0
    | 1, hv => rw [← Option.some.inj hv]; exact c1
    | 2, hv => rw [← Option.some.inj hv]; exact c2
    | 3, hv => rw [← Option.some.inj hv]; exact c3
    | n + 4, hv => simp at hv
  rw [z2] at r3
  obtain ⟨kb, Hkb⟩ : ∃ x, Hid (w.heap.size + 1 + 1 = x) := ⟨_, rfl⟩
  have hkb : kb = w.heap.size + 1 + 1 := Hkb.out.symm
  rw [Hkb.out] at r3
  have hM3 := hM2.since s3
  have hR3 := row_since r2 s3
  have sw3 : w.Since w.heap.size W3 := (s1.trans (since_mono s2 (by omega))).trans (since_mono s3 (by omega))
  have HMC : Hid (∀ X, But kb W3 X → MsgIs X w.heap.size m va vc) := fun X hX => hM3.keep (hX.block _ (by omega) (by omega)) (fun q e h0 => hX.block _ (hM3.lt q e h0) (by have := hA.lt q e h0; omega)) hX.size
  have HRR : Hid (∀ X, But kb W3 X → X.rowIs (w.heap.size + 1) 37 22 (mgCell mg0 none 0)) := fun X hX => hR3.of_block (hX.block _ (by omega) (by omega))
  have HSS : Hid (∀ X, But kb W3 X → w.Since w.heap.size X) := fun X hX => ⟨hX.os.trans sw3.os, hX.tape.trans sw3.tape, hX.output.trans sw3.output, Nat.le_trans sw3.size hX.size, fun q hq => (hX.block q (by omega) (by omega)).trans (sw3.block q hq)⟩
  have ck : W3.cell? ⟨w.heap.size, 0, none⟩ = some (.int .i64 9) := by
    have : W3.cell? ⟨w.heap.size, 0, none⟩ = some (.int .i64 (m.n 0)) := hM3.cell (i := 0) (by decide)
    rw [this, h0]
  have HB : Hid (But kb W3 W3) := But.of_since (World.Since.refl _ _)
  have HRW : Hid (W3.rowIs kb 37 22 (mgCell (takeL m hds mg0) none 0)) := r3
  have HTK : Hid ((((takeL m hds mg0).setN 11 (m.n 11)).setN 12 (m.n 12)) = onlyG m) := by
    have hfd : fdsK 9 = [.small 11 7, .var 12 1099511627776] := by kernel_rfl
    show _ = takeL m (fdsK (m.n 0).toNat) (takeL m hds mg0)
    rw [hkt, hfd]
    generalize takeL m hds mg0 = q
    rfl
  clear hA hM1 s1 s2 s3 hM2 hM3 r2 r3 hR3 sw3 h0 hkt h3 z3' b3 o3 t3 p3 s2z
  unfold mgZ at HW2
  unfold mgV
  rw [HMM.out]
  go_enter Tryz.func29, Tryz.ntmps29
  go_upto_region 1 with fail
  rw [HW1.out, HW2.out]
  try rw [z1]
  refine wp_region_lit ?_
  refine wpList_plain rfl fun _ hK => op_run (.pointer (some ⟨w.heap.size, 0, none⟩)) (by kernel_rfl) (hK _ _ ?_)
  refine wpList_load_mid rfl 28 (.tmp 4) rfl w.heap.size 0 rfl _ _ HRG.out Tryz.underlying28 rfl infoHd ?_
  refine wpList_plain rfl fun _ hK => op_run (mgV (takeL m hds mg0) none 0) (by rw [mgV_head]; kernel_rfl) (hK _ _ ?_)
  refine wpList_plain rfl fun _ hK => op_runW (w' := W2.alloc mgZ) (.pointer (some ⟨W2.heap.size, 0, none⟩)) (by kernel_rfl) (hK _ _ ?_)
  refine wpList_store_mid rfl 37 (.tmp 3) (.tmp 6) rfl W2.heap.size 0 (mgL (takeL m hds mg0) none 0).toArray rfl rfl HT3.out (infoMgA _ _ _) (mg_all _ _ _) ?_
  rw [show (mgL (takeL m hds mg0) none 0).toArray.toList = mgL (takeL m hds mg0) none 0 from rfl, HW3.out]
  rw [z2, Hkb.out]
  clear c0 c1 c2 c3 HW1 HW2 HW3 z1 z2 z3 hkb HT3 HRG
  go_upto_region 31 with fail
  clear ck
  have hM := HMC.out _ HB.out
  have c11 : W3.cell? ⟨w.heap.size, 11, none⟩ = some (.int .i64 (m.n 11)) := hM.cell (i := 11) (by decide)
  have d11 := HRW.out.cell (i := 11) (by decide)
  have f11 := HRW.out.frozen 11
  have d11' : ∃ v, W3.cell? ⟨kb, 11, none⟩ = some v := ⟨_, d11⟩
  obtain ⟨v11, g11⟩ := d11'
  clear d11
  obtain ⟨W4, HW4⟩ : ∃ W, Hid ((W3.setCell ⟨kb, 11, none⟩ (.int .i64 (m.n 11))) = W) := ⟨_, rfl⟩
  have HR4 : Hid (W4.rowIs kb 37 22 (mgCell ((takeL m hds mg0).setN 11 (m.n 11)) none 0)) := by rw [← HW4.out]; exact (row_setN HRW.out 11 (m.n 11) (by decide) (by decide) (by decide))
  have HB4 : Hid (But kb W3 W4) := by rw [← HW4.out]; exact (HB.out.setCell 11 _)
  clear hM HRW
  go_upto_region 32 with fail
  rw [HW4.out]
  clear HW4 c11 g11 f11
  go_upto_region 32 with fail
  have hM := HMC.out _ HB4.out
  have c12 : W4.cell? ⟨w.heap.size, 12, none⟩ = some (.int .u64 (m.n 12)) := hM.cell (i := 12) (by decide)
  have d12 := HR4.out.cell (i := 12) (by decide)
  have f12 := HR4.out.frozen 12
  have d12' : ∃ v, W4.cell? ⟨kb, 12, none⟩ = some v := ⟨_, d12⟩
  obtain ⟨v12, g12⟩ := d12'
  clear d12
  obtain ⟨W5, HW5⟩ : ∃ W, Hid ((W4.setCell ⟨kb, 12, none⟩ (.int .u64 (m.n 12))) = W) := ⟨_, rfl⟩
  have HR5 : Hid (W5.rowIs kb 37 22 (mgCell (((takeL m hds mg0).setN 11 (m.n 11)).setN 12 (m.n 12)) none 0)) := by rw [← HW5.out]; exact (row_setN HR4.out 12 (m.n 12) (by decide) (by decide) (by decide))
  have HB5 : Hid (But kb W3 W5) := by rw [← HW5.out]; exact (HB4.out.setCell 12 _)
  clear hM HR4 HB4
  go_upto_region 46 with fail
  rw [HW5.out]
  clear HW5 c12 g12 f12
  have HR9 : Hid (W5.rowIs kb 37 22 (mgCell (onlyG m) none 0)) := by rw [← HTK.out]; exact HR5.out
  have HH9 := hide (row_heap HR9.out)
  obtain ⟨Z, HZ, rZ, hZ, zZ, bZ, oZ, tZ, pZ⟩ := mg_stored (HRR.out _ HB5.out) (onlyG m) none 0
  have HT9 : Hid (W5.there (w.heap.size + 1) 0 (mgL (onlyG m) none 0).toArray.size) := by
    have e : (mgL (onlyG m) none 0).toArray.size = 22 := by rw [List.size_toArray, mgL_len]
    show World.there _ _ _ _
    rw [e]
    exact row_there (HRR.out _ HB5.out)
  have HE : Hid (w.Since w.heap.size Z) := by
    have a := HSS.out _ HB5.out
    exact ⟨oZ.trans a.os, tZ.trans a.tape, pZ.trans a.output, by rw [zZ]; exact a.size, fun q hq => (bZ q (by omega)).trans (a.block q hq)⟩
  have HHZ := hide hZ
  refine wp_region_lit ?_
  refine wpList_load_row rfl 37 _ rfl kb rfl _ (mgL (onlyG m) none 0).toArray (0, 0) _ HH9.out Tryz.underlying37 rfl (infoMgA _ _ _) ?_
  refine wpList_store_mid rfl 37 _ _ rfl (w.heap.size + 1) 0 (mgL (onlyG m) none 0).toArray rfl rfl HT9.out (infoMgA _ _ _) (mg_all _ _ _) ?_
  rw [show (mgL (onlyG m) none 0).toArray.toList = mgL (onlyG m) none 0 from rfl, HZ.out]
  clear HZ rZ hZ zZ bZ oZ tZ pZ HT9 HH9 HR9
  go_wp2_with fail
  exact bodyPost_ret_by (results_cell_row rfl _ _ (w.heap.size + 1) 37 _ (0, 0) _ rfl HHZ.out Tryz.underlying37 rfl (infoMgA _ _ _)) rfl ⟨rfl, HE.out⟩
end Go.Proofs.YtonpmabdjngdcaaGreatDoor

/- The document's Body. -/
namespace Go.Proofs.YtonpmabdjngdcaaGreatDoor
open Go.RowKit
set_option maxRecDepth 100000

set_option maxHeartbeats 8000000 in
theorem body9 (m : Mg) (va : Option Addr) (vc : Nat) (w : World) (hA : MgA w m va vc) (h0 : m.n 0 = 9) (hm : mayM m = true) :
    Calls Tryz.prog 31 #[mgV m va vc] w fun e w' => ∃ v, e = .returned v ∧ OwnL w' w.heap.size v (bodyG m) ∧ w.Since w.heap.size w' := by
  have hfd : fdsK 9 = [.small 11 7, .var 12 1099511627776] := by kernel_rfl
  have hmU := (Bool.and_eq_true_iff.1 hm).2
  have hkt : (m.n 0).toNat = 9 := by rw [h0]; rfl
  have hf := fdsK_fits hmU
  rw [hkt, hfd] at hf
  have hh := of_decide_eq_true (Bool.and_eq_true_iff.1 hm).1
  obtain ⟨n1, e1, l1⟩ : ∃ n : Nat, m.n 1 = (n : Int) ∧ n < 9 := ⟨(m.n 1).toNat, by omega, by omega⟩
  obtain ⟨n2, e2, l2⟩ : ∃ n : Nat, m.n 2 = (n : Int) ∧ n < 9 := ⟨(m.n 2).toNat, by omega, by omega⟩
  obtain ⟨n3, e3, l3⟩ : ∃ n : Nat, m.n 3 = (n : Int) ∧ n < 8 := ⟨(m.n 3).toNat, by omega, by omega⟩
  obtain ⟨N11, E11, L11⟩ : ∃ n : Nat, m.n 11 = (n : Int) ∧ n < 256 := by
    obtain ⟨f1, f2⟩ := hf (.small 11 7) (by simp)
    exact ⟨(m.n 11).toNat, by omega, by omega⟩
  obtain ⟨N12, E12, L12⟩ : ∃ n : Nat, m.n 12 = (n : Int) ∧ n < 18446744073709551616 := by
    obtain ⟨f1, f2, f3, f4⟩ := hf (.var 12 1099511627776) (by simp)
    exact ⟨(m.n 12).toNat, by omega, by omega⟩
  have HBD : Hid ((([9, n1, n2, n3] ++ [N11]) ++ vl 9 N12) = bodyG m) := by
    show _ = putL m hds ++ putL m (fdsK (m.n 0).toNat)
    rw [hkt, hfd]
    show _ = (fl 1 (m.n 0).toNat ++ (fl 1 (m.n 1).toNat ++ (fl 1 (m.n 2).toNat ++ (fl 1 (m.n 3).toNat ++ [])))) ++ putL m [.small 11 7, .var 12 1099511627776]
    rw [hkt, e1, e2, e3]
    simp only [putL, Fd.put, Int.toNat_natCast, E11, E12, List.append_nil]
    have f1 : ∀ x, x < 256 → fl 1 x = [x] := fun x hx => by
      show [x / 256 ^ (1 - 1 - 0) % 256] = [x]
      simp; omega
    rw [f1 9 (by decide), f1 n1 (by omega), f1 n2 (by omega), f1 n3 (by omega), f1 N11 L11]
    simp only [List.cons_append, List.nil_append]
  have y12 := vl_len 9 N12
  obtain ⟨MM, HMM⟩ : ∃ x, Hid ((mgL m va vc).toArray = x) := ⟨_, rfl⟩
  obtain ⟨W1, HW1⟩ : ∃ W, Hid (w.alloc (.cells MM 37) = W) := ⟨_, rfl⟩
  have s1 : w.Since w.heap.size W1 := by rw [← HW1.out]; exact (World.Since.refl _ _).alloc (Nat.le_refl _) _
  have z1 : W1.heap.size = w.heap.size + 1 := by rw [← HW1.out]; simp
  have hM1 : MsgIs W1 w.heap.size m va vc := by rw [← HW1.out, ← HMM.out]; exact hA.is
  have c0 : W1.cell? ⟨w.heap.size, 0, none⟩ = some (.int .i64 9) := by
    have : W1.cell? ⟨w.heap.size, 0, none⟩ = some (.int .i64 (m.n 0)) := hM1.cell (i := 0) (by decide)
    rw [this, h0]
  have c1 : W1.cell? ⟨w.heap.size, 1, none⟩ = some (.int .i64 (n1 : Nat)) := by
    have : W1.cell? ⟨w.heap.size, 1, none⟩ = some (.int .i64 (m.n 1)) := hM1.cell (i := 1) (by decide)
    rw [this, e1]
  have c2 : W1.cell? ⟨w.heap.size, 2, none⟩ = some (.int .i64 (n2 : Nat)) := by
    have : W1.cell? ⟨w.heap.size, 2, none⟩ = some (.int .i64 (m.n 2)) := hM1.cell (i := 2) (by decide)
    rw [this, e2]
  have c3 : W1.cell? ⟨w.heap.size, 3, none⟩ = some (.int .i64 (n3 : Nat)) := by
    have : W1.cell? ⟨w.heap.size, 3, none⟩ = some (.int .i64 (m.n 3)) := hM1.cell (i := 3) (by decide)
    rw [this, e3]
  have hu1 : IntKind.u8.wrap (n1 : Int) = (n1 : Int) := by rw [IntKind.wrap_u8]; omega
  have hu2 : IntKind.u8.wrap (n2 : Int) = (n2 : Int) := by rw [IntKind.wrap_u8]; omega
  have hu3 : IntKind.u8.wrap (n3 : Int) = (n3 : Int) := by rw [IntKind.wrap_u8]; omega
  obtain ⟨W2, HW2⟩ : ∃ W, Hid (W1.alloc (.cells #[.int .u8 9, .int .u8 (n1 : Nat), .int .u8 (n2 : Nat), .int .u8 (n3 : Nat)] 5) = W) := ⟨_, rfl⟩
  have s2 : W1.Since W1.heap.size W2 := by rw [← HW2.out]; exact (World.Since.refl _ _).alloc (Nat.le_refl _) _
  have z2 : W2.heap.size = W1.heap.size + 1 := by rw [← HW2.out]; simp
  have o2 : OwnL W2 W1.heap.size (.slice (some ⟨W1.heap.size, 0, none⟩) 4 4) [9, n1, n2, n3] := by rw [← HW2.out]; exact row4 W1 9 n1 n2 n3
  obtain ⟨W3, HW3⟩ : ∃ W, Hid (W2.alloc (.cells #[.slice (some ⟨W1.heap.size, 0, none⟩) 4 4] 113) = W) := ⟨_, rfl⟩
  have s3 : W2.Since W2.heap.size W3 := by rw [← HW3.out]; exact (World.Since.refl _ _).alloc (Nat.le_refl _) _
  have r3 : W3.rowIs W2.heap.size 113 1 (fun _ => .slice (some ⟨W1.heap.size, 0, none⟩) 4 4) := by rw [← HW3.out]; exact pen_new _ _
  obtain ⟨pb, Hpb⟩ : ∃ x, Hid (W2.heap.size = x) := ⟨_, rfl⟩
  have HP : Hid (Wp W1 W3 pb [9, n1, n2, n3]) := by
    rw [← Hpb.out]
    exact ⟨s2.size, s2.trans (since_mono s3 s2.size), W1.heap.size, _, Nat.le_refl _, r3, own_since o2 s3, by show some W1.heap.size ≠ some W2.heap.size; intro e; have := Option.some.inj e; omega, by have := s3.size; omega⟩
  have HMS : Hid (∀ X l, Wp W1 X pb l → MsgIs X w.heap.size m va vc) := fun X l hX => hM1.since hX.2.1
  have HSW := hide s1
  have c03 : W3.cell? ⟨w.heap.size, 0, none⟩ = some (.int .i64 9) := cell_later (s2.trans (since_mono s3 s2.size)) c0
  have Hz2 : Hid (w.heap.size + 1 + 1 = pb) := by show _ = _; rw [← Hpb.out, z2, z1]
  have HW3' : Hid (W2.alloc (.cells #[.slice (some ⟨w.heap.size + 1, 0, none⟩) 4 4] 113) = W3) := by rw [← z1]; exact HW3.out
  clear hA hm hfd hmU hkt hf hh s1 s2 s3 r3 o2 hM1 e1 e2 e3 HW3 Hpb z2
  unfold mgV
  rw [HMM.out]
  go_enter Tryz.func31, Tryz.ntmps31
  go_upto_region 1 with fail
  rw [HW1.out]
  go_upto_region 2 with fail
  try rw [z1]
  rw [HW2.out]
  try rw [z1]
  rw [HW3'.out]
  try simp only [Hz2.out]
  clear c0 c1 c2 c3 HW1 HW2 HW3' z1
  try rw [Hz2.out]
  have cc : W3.cell? ⟨w.heap.size, 11, none⟩ = some (.int .i64 (N11 : Nat)) := by
    have h : W3.cell? ⟨w.heap.size, 11, none⟩ = some (.int .i64 (m.n 11)) := (HMS.out _ _ HP.out).cell (i := 11) (by decide)
    rw [h, E11]
  have HQ := hide (pen_small HP.out N11 L11 (by (first | (simp only [List.length_cons, List.length_nil]; omega) | (simp only [List.length_append, List.length_cons, List.length_nil]; omega))))
  go_wp2_with fail
  refine HQ.out.mono ?_
  rintro e w10 ⟨rfl, hX⟩
  have HP10 : Hid (Wp W1 w10 pb ([9, n1, n2, n3] ++ [N11])) := hX
  clear HQ hX cc HP c03
  have cc : w10.cell? ⟨w.heap.size, 12, none⟩ = some (.int .u64 (N12 : Nat)) := by
    have h : w10.cell? ⟨w.heap.size, 12, none⟩ = some (.int .u64 (m.n 12)) := (HMS.out _ _ HP10.out).cell (i := 12) (by decide)
    rw [h, E12]
  have HQ := hide (pen_number HP10.out N12 (by omega) (by (first | (simp only [List.length_cons, List.length_nil]; omega) | (simp only [List.length_append, List.length_cons, List.length_nil]; omega))))
  go_wp2_with fail
  refine HQ.out.mono ?_
  rintro e w11 ⟨rfl, hX⟩
  have HP11 : Hid (Wp W1 w11 pb (([9, n1, n2, n3] ++ [N11]) ++ vl 9 N12)) := hX
  clear HQ hX cc HP10
  obtain ⟨B, v, hB, hI⟩ := HP11.out.2.2
  obtain ⟨xa, ln, xc, hv⟩ : ∃ xa ln xc, v = .slice xa ln xc := by
    obtain ⟨p, q, h⟩ := own_form hI.own
    exact ⟨p, _, q, h⟩
  have cc : w11.cell? ⟨pb, 0, none⟩ = some v := hI.cell.cell (i := 0) (by decide)
  have hz1 := HSW.out.size
  have HE : Hid (OwnL w11 w.heap.size v (bodyG m) ∧ w.Since w.heap.size w11) := by
    rw [← HBD.out]
    exact ⟨own_lower hI.own (by omega), HSW.out.trans (since_mono HP11.out.2.1 HSW.out.size)⟩
  subst hv
  clear hI hB HBD HMS HP11
  go_wp2_with fail
  go_ret
  exact ⟨_, rfl, HE.out⟩
end Go.Proofs.YtonpmabdjngdcaaGreatDoor

/- The document's Only: kind 10. -/
namespace Go.Proofs.YtonpmabdjngdcaaGreatDoor
open Go.RowKit
set_option maxRecDepth 100000

set_option maxHeartbeats 8000000 in
theorem only10 (m : Mg) (va : Option Addr) (vc : Nat) (w : World) (hA : MgA w m va vc) (h0 : m.n 0 = 10) :
    Calls Tryz.prog 29 #[mgV m va vc] w fun e w' => e = .returned (mgV (onlyG m) none 0) ∧ w.Since w.heap.size w' := by
  have hkt : (m.n 0).toNat = 10 := by rw [h0]; rfl
  obtain ⟨MM, HMM⟩ : ∃ x, Hid ((mgL m va vc).toArray = x) := ⟨_, rfl⟩
  obtain ⟨W1, HW1⟩ : ∃ W, Hid (w.alloc (.cells MM 37) = W) := ⟨_, rfl⟩
  have s1 : w.Since w.heap.size W1 := by rw [← HW1.out]; exact (World.Since.refl _ _).alloc (Nat.le_refl _) _
  have z1 : W1.heap.size = w.heap.size + 1 := by rw [← HW1.out]; simp
  have hM1 : MsgIs W1 w.heap.size m va vc := by rw [← HW1.out, ← HMM.out]; exact hA.is
  obtain ⟨W2, HW2⟩ : ∃ W, Hid (W1.alloc mgZ = W) := ⟨_, rfl⟩
  have s2 : W1.Since W1.heap.size W2 := by rw [← HW2.out]; exact (World.Since.refl _ _).alloc (Nat.le_refl _) _
  have z2 : W2.heap.size = w.heap.size + 1 + 1 := by rw [← HW2.out, ← z1]; simp
  have r2 : W2.rowIs (w.heap.size + 1) 37 22 (mgCell mg0 none 0) := by rw [← z1, ← HW2.out]; exact mgZ_row W1
  have hM2 := hM1.since s2
  have c0 : W2.cell? ⟨w.heap.size, 0, none⟩ = some (.int .i64 (m.n 0)) := hM2.cell (i := 0) (by decide)
  have c1 : W2.cell? ⟨w.heap.size, 1, none⟩ = some (.int .i64 (m.n 1)) := hM2.cell (i := 1) (by decide)
  have c2 : W2.cell? ⟨w.heap.size, 2, none⟩ = some (.int .i64 (m.n 2)) := hM2.cell (i := 2) (by decide)
  have c3 : W2.cell? ⟨w.heap.size, 3, none⟩ = some (.int .i64 (m.n 3)) := hM2.cell (i := 3) (by decide)
  have s2z : W2.Since W2.heap.size (W2.alloc mgZ) := (World.Since.refl _ _).alloc (Nat.le_refl _) _
  obtain ⟨W3, HW3, r3, h3, z3', b3, o3, t3, p3⟩ := mg_stored (mgZ_row W2) (takeL m hds mg0) none 0
  have z3 : W3.heap.size = w.heap.size + 1 + 1 + 1 := by rw [z3', ← z2]; simp
  have s3 : W2.Since W2.heap.size W3 := ⟨o3.trans s2z.os, t3.trans s2z.tape, p3.trans s2z.output, by rw [z3']; exact s2z.size, fun k hk => (b3 k (by omega)).trans (s2z.block k hk)⟩
  have HT3 : Hid ((W2.alloc mgZ).there W2.heap.size 0 (mgL (takeL m hds mg0) none 0).toArray.size) := by
    have e : (mgL (takeL m hds mg0) none 0).toArray.size = 22 := by rw [List.size_toArray, mgL_len]
    show World.there _ _ _ _
    rw [e]
    exact row_there (mgZ_row W2)
  have HRG : Hid (W2.rangeAt w.heap.size 0 [.int .i64 (m.n 0), .int .i64 (m.n 1), .int .i64 (m.n 2), .int .i64 (m.n 3)]) := fun j v hv => by
    match j, hv with
    | 0, hv => rw [← Option.some.inj hv]; exact c0
    | 1, hv => rw [← Option.some.inj hv]; exact c1
    | 2, hv => rw [← Option.some.inj hv]; exact c2
    | 3, hv => rw [← Option.some.inj hv]; exact c3
    | n + 4, hv => simp at hv
  rw [z2] at r3
  obtain ⟨kb, Hkb⟩ : ∃ x, Hid (w.heap.size + 1 + 1 = x) := ⟨_, rfl⟩
  have hkb : kb = w.heap.size + 1 + 1 := Hkb.out.symm
  rw [Hkb.out] at r3
  have hM3 := hM2.since s3
  have hR3 := row_since r2 s3
  have sw3 : w.Since w.heap.size W3 := (s1.trans (since_mono s2 (by omega))).trans (since_mono s3 (by omega))
  have HMC : Hid (∀ X, But kb W3 X → MsgIs X w.heap.size m va vc) := fun X hX => hM3.keep (hX.block _ (by omega) (by omega)) (fun q e h0 => hX.block _ (hM3.lt q e h0) (by have := hA.lt q e h0; omega)) hX.size
  have HRR : Hid (∀ X, But kb W3 X → X.rowIs (w.heap.size + 1) 37 22 (mgCell mg0 none 0)) := fun X hX => hR3.of_block (hX.block _ (by omega) (by omega))
  have HSS : Hid (∀ X, But kb W3 X → w.Since w.heap.size X) := fun X hX => ⟨hX.os.trans sw3.os, hX.tape.trans sw3.tape, hX.output.trans sw3.output, Nat.le_trans sw3.size hX.size, fun q hq => (hX.block q (by omega) (by omega)).trans (sw3.block q hq)⟩
  have ck : W3.cell? ⟨w.heap.size, 0, none⟩ = some (.int .i64 10) := by
    have : W3.cell? ⟨w.heap.size, 0, none⟩ = some (.int .i64 (m.n 0)) := hM3.cell (i := 0) (by decide)
    rw [this, h0]
  have HB : Hid (But kb W3 W3) := But.of_since (World.Since.refl _ _)
  have HRW : Hid (W3.rowIs kb 37 22 (mgCell (takeL m hds mg0) none 0)) := r3
  have HTK : Hid ((((((((((takeL m hds mg0).setN 12 (m.n 12)).setS 13 (m.s 13)).setS 14 (m.s 14)).setN 15 (m.n 15)).setN 16 (m.n 16)).setN 17 (m.n 17)).setN 18 (m.n 18)).setN 19 (m.n 19)) = onlyG m) := by
    have hfd : fdsK 10 = [.var 12 1099511627776, .text 13 64, .text 14 64, .var 15 9007199254740992, .var 16 1099511627776, .var 17 1099511627776, .small 18 3, .small 19 7] := by kernel_rfl
    show _ = takeL m (fdsK (m.n 0).toNat) (takeL m hds mg0)
    rw [hkt, hfd]
    generalize takeL m hds mg0 = q
    rfl
  clear hA hM1 s1 s2 s3 hM2 hM3 r2 r3 hR3 sw3 h0 hkt h3 z3' b3 o3 t3 p3 s2z
  unfold mgZ at HW2
  unfold mgV
  rw [HMM.out]
  go_enter Tryz.func29, Tryz.ntmps29
  go_upto_region 1 with fail
  rw [HW1.out, HW2.out]
  try rw [z1]
  refine wp_region_lit ?_
  refine wpList_plain rfl fun _ hK => op_run (.pointer (some ⟨w.heap.size, 0, none⟩)) (by kernel_rfl) (hK _ _ ?_)
  refine wpList_load_mid rfl 28 (.tmp 4) rfl w.heap.size 0 rfl _ _ HRG.out Tryz.underlying28 rfl infoHd ?_
  refine wpList_plain rfl fun _ hK => op_run (mgV (takeL m hds mg0) none 0) (by rw [mgV_head]; kernel_rfl) (hK _ _ ?_)
  refine wpList_plain rfl fun _ hK => op_runW (w' := W2.alloc mgZ) (.pointer (some ⟨W2.heap.size, 0, none⟩)) (by kernel_rfl) (hK _ _ ?_)
  refine wpList_store_mid rfl 37 (.tmp 3) (.tmp 6) rfl W2.heap.size 0 (mgL (takeL m hds mg0) none 0).toArray rfl rfl HT3.out (infoMgA _ _ _) (mg_all _ _ _) ?_
  rw [show (mgL (takeL m hds mg0) none 0).toArray.toList = mgL (takeL m hds mg0) none 0 from rfl, HW3.out]
  rw [z2, Hkb.out]
  clear c0 c1 c2 c3 HW1 HW2 HW3 z1 z2 z3 hkb HT3 HRG
  go_upto_region 34 with fail
  clear ck
  have hM := HMC.out _ HB.out
  have c12 : W3.cell? ⟨w.heap.size, 12, none⟩ = some (.int .u64 (m.n 12)) := hM.cell (i := 12) (by decide)
  have d12 := HRW.out.cell (i := 12) (by decide)
  have f12 := HRW.out.frozen 12
  have d12' : ∃ v, W3.cell? ⟨kb, 12, none⟩ = some v := ⟨_, d12⟩
  obtain ⟨v12, g12⟩ := d12'
  clear d12
  obtain ⟨W4, HW4⟩ : ∃ W, Hid ((W3.setCell ⟨kb, 12, none⟩ (.int .u64 (m.n 12))) = W) := ⟨_, rfl⟩
  have HR4 : Hid (W4.rowIs kb 37 22 (mgCell ((takeL m hds mg0).setN 12 (m.n 12)) none 0)) := by rw [← HW4.out]; exact (row_setN HRW.out 12 (m.n 12) (by decide) (by decide) (by decide))
  have HB4 : Hid (But kb W3 W4) := by rw [← HW4.out]; exact (HB.out.setCell 12 _)
  clear hM HRW
  go_upto_region 35 with fail
  rw [HW4.out]
  clear HW4 c12 g12 f12
  go_upto_region 35 with fail
  have hM := HMC.out _ HB4.out
  have c13 : W4.cell? ⟨w.heap.size, 13, none⟩ = some (.string (strL (m.s 13))) := hM.cell (i := 13) (by decide)
  have d13 := HR4.out.cell (i := 13) (by decide)
  have f13 := HR4.out.frozen 13
  have d13' : ∃ v, W4.cell? ⟨kb, 13, none⟩ = some v := ⟨_, d13⟩
  obtain ⟨v13, g13⟩ := d13'
  clear d13
  obtain ⟨W5, HW5⟩ : ∃ W, Hid ((W4.setCell ⟨kb, 13, none⟩ (.string (strL (m.s 13)))) = W) := ⟨_, rfl⟩
  have HR5 : Hid (W5.rowIs kb 37 22 (mgCell (((takeL m hds mg0).setN 12 (m.n 12)).setS 13 (m.s 13)) none 0)) := by rw [← HW5.out]; exact (row_setS HR4.out 13 (m.s 13) (.inl rfl))
  have HB5 : Hid (But kb W3 W5) := by rw [← HW5.out]; exact (HB4.out.setCell 13 _)
  clear hM HR4 HB4
  go_upto_region 36 with fail
  rw [HW5.out]
  clear HW5 c13 g13 f13
  go_upto_region 36 with fail
  have hM := HMC.out _ HB5.out
  have c14 : W5.cell? ⟨w.heap.size, 14, none⟩ = some (.string (strL (m.s 14))) := hM.cell (i := 14) (by decide)
  have d14 := HR5.out.cell (i := 14) (by decide)
  have f14 := HR5.out.frozen 14
  have d14' : ∃ v, W5.cell? ⟨kb, 14, none⟩ = some v := ⟨_, d14⟩
  obtain ⟨v14, g14⟩ := d14'
  clear d14
  obtain ⟨W6, HW6⟩ : ∃ W, Hid ((W5.setCell ⟨kb, 14, none⟩ (.string (strL (m.s 14)))) = W) := ⟨_, rfl⟩
  have HR6 : Hid (W6.rowIs kb 37 22 (mgCell ((((takeL m hds mg0).setN 12 (m.n 12)).setS 13 (m.s 13)).setS 14 (m.s 14)) none 0)) := by rw [← HW6.out]; exact (row_setS HR5.out 14 (m.s 14) (.inr rfl))
  have HB6 : Hid (But kb W3 W6) := by rw [← HW6.out]; exact (HB5.out.setCell 14 _)
  clear hM HR5 HB5
  go_upto_region 37 with fail
  rw [HW6.out]
  clear HW6 c14 g14 f14
  go_upto_region 37 with fail
  have hM := HMC.out _ HB6.out
  have c15 : W6.cell? ⟨w.heap.size, 15, none⟩ = some (.int .u64 (m.n 15)) := hM.cell (i := 15) (by decide)
  have d15 := HR6.out.cell (i := 15) (by decide)
  have f15 := HR6.out.frozen 15
  have d15' : ∃ v, W6.cell? ⟨kb, 15, none⟩ = some v := ⟨_, d15⟩
  obtain ⟨v15, g15⟩ := d15'
  clear d15
  obtain ⟨W7, HW7⟩ : ∃ W, Hid ((W6.setCell ⟨kb, 15, none⟩ (.int .u64 (m.n 15))) = W) := ⟨_, rfl⟩
  have HR7 : Hid (W7.rowIs kb 37 22 (mgCell (((((takeL m hds mg0).setN 12 (m.n 12)).setS 13 (m.s 13)).setS 14 (m.s 14)).setN 15 (m.n 15)) none 0)) := by rw [← HW7.out]; exact (row_setN HR6.out 15 (m.n 15) (by decide) (by decide) (by decide))
  have HB7 : Hid (But kb W3 W7) := by rw [← HW7.out]; exact (HB6.out.setCell 15 _)
  clear hM HR6 HB6
  go_upto_region 38 with fail
  rw [HW7.out]
  clear HW7 c15 g15 f15
  go_upto_region 38 with fail
  have hM := HMC.out _ HB7.out
  have c16 : W7.cell? ⟨w.heap.size, 16, none⟩ = some (.int .u64 (m.n 16)) := hM.cell (i := 16) (by decide)
  have d16 := HR7.out.cell (i := 16) (by decide)
  have f16 := HR7.out.frozen 16
  have d16' : ∃ v, W7.cell? ⟨kb, 16, none⟩ = some v := ⟨_, d16⟩
  obtain ⟨v16, g16⟩ := d16'
  clear d16
  have c17 : W7.cell? ⟨w.heap.size, 17, none⟩ = some (.int .u64 (m.n 17)) := hM.cell (i := 17) (by decide)
  have d17 := HR7.out.cell (i := 17) (by decide)
  have f17 := HR7.out.frozen 17
  have d17' : ∃ v, W7.cell? ⟨kb, 17, none⟩ = some v := ⟨_, d17⟩
  obtain ⟨v17, g17⟩ := d17'
  clear d17
  obtain ⟨W8, HW8⟩ : ∃ W, Hid (((W7.setCell ⟨kb, 16, none⟩ (.int .u64 (m.n 16))).setCell ⟨kb, 17, none⟩ (.int .u64 (m.n 17))) = W) := ⟨_, rfl⟩
  have HR8 : Hid (W8.rowIs kb 37 22 (mgCell (((((((takeL m hds mg0).setN 12 (m.n 12)).setS 13 (m.s 13)).setS 14 (m.s 14)).setN 15 (m.n 15)).setN 16 (m.n 16)).setN 17 (m.n 17)) none 0)) := by rw [← HW8.out]; exact (row_setN (row_setN HR7.out 16 (m.n 16) (by decide) (by decide) (by decide)) 17 (m.n 17) (by decide) (by decide) (by decide))
  have HB8 : Hid (But kb W3 W8) := by rw [← HW8.out]; exact ((HB7.out.setCell 16 _).setCell 17 _)
  clear hM HR7 HB7
  go_upto_region 39 with fail
  rw [HW8.out]
  clear HW8 c16 g16 f16 c17 g17 f17
  go_upto_region 39 with fail
  have hM := HMC.out _ HB8.out
  have c18 : W8.cell? ⟨w.heap.size, 18, none⟩ = some (.int .i64 (m.n 18)) := hM.cell (i := 18) (by decide)
  have d18 := HR8.out.cell (i := 18) (by decide)
  have f18 := HR8.out.frozen 18
  have d18' : ∃ v, W8.cell? ⟨kb, 18, none⟩ = some v := ⟨_, d18⟩
  obtain ⟨v18, g18⟩ := d18'
  clear d18
  obtain ⟨W9, HW9⟩ : ∃ W, Hid ((W8.setCell ⟨kb, 18, none⟩ (.int .i64 (m.n 18))) = W) := ⟨_, rfl⟩
  have HR9 : Hid (W9.rowIs kb 37 22 (mgCell ((((((((takeL m hds mg0).setN 12 (m.n 12)).setS 13 (m.s 13)).setS 14 (m.s 14)).setN 15 (m.n 15)).setN 16 (m.n 16)).setN 17 (m.n 17)).setN 18 (m.n 18)) none 0)) := by rw [← HW9.out]; exact (row_setN HR8.out 18 (m.n 18) (by decide) (by decide) (by decide))
  have HB9 : Hid (But kb W3 W9) := by rw [← HW9.out]; exact (HB8.out.setCell 18 _)
  clear hM HR8 HB8
  go_upto_region 40 with fail
  rw [HW9.out]
  clear HW9 c18 g18 f18
  go_upto_region 40 with fail
  have hM := HMC.out _ HB9.out
  have c19 : W9.cell? ⟨w.heap.size, 19, none⟩ = some (.int .i64 (m.n 19)) := hM.cell (i := 19) (by decide)
  have d19 := HR9.out.cell (i := 19) (by decide)
  have f19 := HR9.out.frozen 19
  have d19' : ∃ v, W9.cell? ⟨kb, 19, none⟩ = some v := ⟨_, d19⟩
  obtain ⟨v19, g19⟩ := d19'
  clear d19
  obtain ⟨W10, HW10⟩ : ∃ W, Hid ((W9.setCell ⟨kb, 19, none⟩ (.int .i64 (m.n 19))) = W) := ⟨_, rfl⟩
  have HR10 : Hid (W10.rowIs kb 37 22 (mgCell (((((((((takeL m hds mg0).setN 12 (m.n 12)).setS 13 (m.s 13)).setS 14 (m.s 14)).setN 15 (m.n 15)).setN 16 (m.n 16)).setN 17 (m.n 17)).setN 18 (m.n 18)).setN 19 (m.n 19)) none 0)) := by rw [← HW10.out]; exact (row_setN HR9.out 19 (m.n 19) (by decide) (by decide) (by decide))
  have HB10 : Hid (But kb W3 W10) := by rw [← HW10.out]; exact (HB9.out.setCell 19 _)
  clear hM HR9 HB9
  go_upto_region 46 with fail
  rw [HW10.out]
  clear HW10 c19 g19 f19
  have HR9 : Hid (W10.rowIs kb 37 22 (mgCell (onlyG m) none 0)) := by rw [← HTK.out]; exact HR10.out
  have HH9 := hide (row_heap HR9.out)
  obtain ⟨Z, HZ, rZ, hZ, zZ, bZ, oZ, tZ, pZ⟩ := mg_stored (HRR.out _ HB10.out) (onlyG m) none 0
  have HT9 : Hid (W10.there (w.heap.size + 1) 0 (mgL (onlyG m) none 0).toArray.size) := by
    have e : (mgL (onlyG m) none 0).toArray.size = 22 := by rw [List.size_toArray, mgL_len]
    show World.there _ _ _ _
    rw [e]
    exact row_there (HRR.out _ HB10.out)
  have HE : Hid (w.Since w.heap.size Z) := by
    have a := HSS.out _ HB10.out
    exact ⟨oZ.trans a.os, tZ.trans a.tape, pZ.trans a.output, by rw [zZ]; exact a.size, fun q hq => (bZ q (by omega)).trans (a.block q hq)⟩
  have HHZ := hide hZ
  refine wp_region_lit ?_
  refine wpList_load_row rfl 37 _ rfl kb rfl _ (mgL (onlyG m) none 0).toArray (0, 0) _ HH9.out Tryz.underlying37 rfl (infoMgA _ _ _) ?_
  refine wpList_store_mid rfl 37 _ _ rfl (w.heap.size + 1) 0 (mgL (onlyG m) none 0).toArray rfl rfl HT9.out (infoMgA _ _ _) (mg_all _ _ _) ?_
  rw [show (mgL (onlyG m) none 0).toArray.toList = mgL (onlyG m) none 0 from rfl, HZ.out]
  clear HZ rZ hZ zZ bZ oZ tZ pZ HT9 HH9 HR9
  go_wp2_with fail
  exact bodyPost_ret_by (results_cell_row rfl _ _ (w.heap.size + 1) 37 _ (0, 0) _ rfl HHZ.out Tryz.underlying37 rfl (infoMgA _ _ _)) rfl ⟨rfl, HE.out⟩
end Go.Proofs.YtonpmabdjngdcaaGreatDoor

/- The document's Body. -/
namespace Go.Proofs.YtonpmabdjngdcaaGreatDoor
open Go.RowKit
set_option maxRecDepth 100000

set_option maxHeartbeats 8000000 in
theorem body10 (m : Mg) (va : Option Addr) (vc : Nat) (w : World) (hA : MgA w m va vc) (h0 : m.n 0 = 10) (hm : mayM m = true) :
    Calls Tryz.prog 31 #[mgV m va vc] w fun e w' => ∃ v, e = .returned v ∧ OwnL w' w.heap.size v (bodyG m) ∧ w.Since w.heap.size w' := by
  have hfd : fdsK 10 = [.var 12 1099511627776, .text 13 64, .text 14 64, .var 15 9007199254740992, .var 16 1099511627776, .var 17 1099511627776, .small 18 3, .small 19 7] := by kernel_rfl
  have hmU := (Bool.and_eq_true_iff.1 hm).2
  have hkt : (m.n 0).toNat = 10 := by rw [h0]; rfl
  have hf := fdsK_fits hmU
  rw [hkt, hfd] at hf
  have hh := of_decide_eq_true (Bool.and_eq_true_iff.1 hm).1
  obtain ⟨n1, e1, l1⟩ : ∃ n : Nat, m.n 1 = (n : Int) ∧ n < 9 := ⟨(m.n 1).toNat, by omega, by omega⟩
  obtain ⟨n2, e2, l2⟩ : ∃ n : Nat, m.n 2 = (n : Int) ∧ n < 9 := ⟨(m.n 2).toNat, by omega, by omega⟩
  obtain ⟨n3, e3, l3⟩ : ∃ n : Nat, m.n 3 = (n : Int) ∧ n < 8 := ⟨(m.n 3).toNat, by omega, by omega⟩
  obtain ⟨N12, E12, L12⟩ : ∃ n : Nat, m.n 12 = (n : Int) ∧ n < 18446744073709551616 := by
    obtain ⟨f1, f2, f3, f4⟩ := hf (.var 12 1099511627776) (by simp)
    exact ⟨(m.n 12).toNat, by omega, by omega⟩
  have L13 : (m.s 13).length ≤ 64 := (hf (.text 13 64) (by simp)).1
  have L14 : (m.s 14).length ≤ 64 := (hf (.text 14 64) (by simp)).1
  obtain ⟨N15, E15, L15⟩ : ∃ n : Nat, m.n 15 = (n : Int) ∧ n < 18446744073709551616 := by
    obtain ⟨f1, f2, f3, f4⟩ := hf (.var 15 9007199254740992) (by simp)
    exact ⟨(m.n 15).toNat, by omega, by omega⟩
  obtain ⟨N16, E16, L16⟩ : ∃ n : Nat, m.n 16 = (n : Int) ∧ n < 18446744073709551616 := by
    obtain ⟨f1, f2, f3, f4⟩ := hf (.var 16 1099511627776) (by simp)
    exact ⟨(m.n 16).toNat, by omega, by omega⟩
  obtain ⟨N17, E17, L17⟩ : ∃ n : Nat, m.n 17 = (n : Int) ∧ n < 18446744073709551616 := by
    obtain ⟨f1, f2, f3, f4⟩ := hf (.var 17 1099511627776) (by simp)
    exact ⟨(m.n 17).toNat, by omega, by omega⟩
  obtain ⟨N18, E18, L18⟩ : ∃ n : Nat, m.n 18 = (n : Int) ∧ n < 256 := by
    obtain ⟨f1, f2⟩ := hf (.small 18 3) (by simp)
    exact ⟨(m.n 18).toNat, by omega, by omega⟩
  obtain ⟨N19, E19, L19⟩ : ∃ n : Nat, m.n 19 = (n : Int) ∧ n < 256 := by
    obtain ⟨f1, f2⟩ := hf (.small 19 7) (by simp)
    exact ⟨(m.n 19).toNat, by omega, by omega⟩
  have HBD : Hid ((((((((([10, n1, n2, n3] ++ vl 9 N12) ++ partL (m.s 13)) ++ partL (m.s 14)) ++ vl 9 N15) ++ vl 9 N16) ++ vl 9 N17) ++ [N18]) ++ [N19]) = bodyG m) := by
    show _ = putL m hds ++ putL m (fdsK (m.n 0).toNat)
    rw [hkt, hfd]
    show _ = (fl 1 (m.n 0).toNat ++ (fl 1 (m.n 1).toNat ++ (fl 1 (m.n 2).toNat ++ (fl 1 (m.n 3).toNat ++ [])))) ++ putL m [.var 12 1099511627776, .text 13 64, .text 14 64, .var 15 9007199254740992, .var 16 1099511627776, .var 17 1099511627776, .small 18 3, .small 19 7]
    rw [hkt, e1, e2, e3]
    simp only [putL, Fd.put, Int.toNat_natCast, E12, E15, E16, E17, E18, E19, List.append_nil]
    have f1 : ∀ x, x < 256 → fl 1 x = [x] := fun x hx => by
      show [x / 256 ^ (1 - 1 - 0) % 256] = [x]
      simp; omega
    rw [f1 10 (by decide), f1 n1 (by omega), f1 n2 (by omega), f1 n3 (by omega), f1 N18 L18, f1 N19 L19]
    simp only [List.append_assoc, List.cons_append, List.nil_append]
  have y12 := vl_len 9 N12
  have y15 := vl_len 9 N15
  have y16 := vl_len 9 N16
  have y17 := vl_len 9 N17
  have y13 : (partL (m.s 13)).length ≤ (m.s 13).length + 10 := by
    unfold partL
    rw [List.length_append]
    have := vl_len 9 (m.s 13).length
    omega
  have y14 : (partL (m.s 14)).length ≤ (m.s 14).length + 10 := by
    unfold partL
    rw [List.length_append]
    have := vl_len 9 (m.s 14).length
    omega
  obtain ⟨MM, HMM⟩ : ∃ x, Hid ((mgL m va vc).toArray = x) := ⟨_, rfl⟩
  obtain ⟨W1, HW1⟩ : ∃ W, Hid (w.alloc (.cells MM 37) = W) := ⟨_, rfl⟩
  have s1 : w.Since w.heap.size W1 := by rw [← HW1.out]; exact (World.Since.refl _ _).alloc (Nat.le_refl _) _
  have z1 : W1.heap.size = w.heap.size + 1 := by rw [← HW1.out]; simp
  have hM1 : MsgIs W1 w.heap.size m va vc := by rw [← HW1.out, ← HMM.out]; exact hA.is
  have c0 : W1.cell? ⟨w.heap.size, 0, none⟩ = some (.int .i64 10) := by
    have : W1.cell? ⟨w.heap.size, 0, none⟩ = some (.int .i64 (m.n 0)) := hM1.cell (i := 0) (by decide)
    rw [this, h0]
  have c1 : W1.cell? ⟨w.heap.size, 1, none⟩ = some (.int .i64 (n1 : Nat)) := by
    have : W1.cell? ⟨w.heap.size, 1, none⟩ = some (.int .i64 (m.n 1)) := hM1.cell (i := 1) (by decide)
    rw [this, e1]
  have c2 : W1.cell? ⟨w.heap.size, 2, none⟩ = some (.int .i64 (n2 : Nat)) := by
    have : W1.cell? ⟨w.heap.size, 2, none⟩ = some (.int .i64 (m.n 2)) := hM1.cell (i := 2) (by decide)
    rw [this, e2]
  have c3 : W1.cell? ⟨w.heap.size, 3, none⟩ = some (.int .i64 (n3 : Nat)) := by
    have : W1.cell? ⟨w.heap.size, 3, none⟩ = some (.int .i64 (m.n 3)) := hM1.cell (i := 3) (by decide)
    rw [this, e3]
  have hu1 : IntKind.u8.wrap (n1 : Int) = (n1 : Int) := by rw [IntKind.wrap_u8]; omega
  have hu2 : IntKind.u8.wrap (n2 : Int) = (n2 : Int) := by rw [IntKind.wrap_u8]; omega
  have hu3 : IntKind.u8.wrap (n3 : Int) = (n3 : Int) := by rw [IntKind.wrap_u8]; omega
  obtain ⟨W2, HW2⟩ : ∃ W, Hid (W1.alloc (.cells #[.int .u8 10, .int .u8 (n1 : Nat), .int .u8 (n2 : Nat), .int .u8 (n3 : Nat)] 5) = W) := ⟨_, rfl⟩
  have s2 : W1.Since W1.heap.size W2 := by rw [← HW2.out]; exact (World.Since.refl _ _).alloc (Nat.le_refl _) _
  have z2 : W2.heap.size = W1.heap.size + 1 := by rw [← HW2.out]; simp
  have o2 : OwnL W2 W1.heap.size (.slice (some ⟨W1.heap.size, 0, none⟩) 4 4) [10, n1, n2, n3] := by rw [← HW2.out]; exact row4 W1 10 n1 n2 n3
  obtain ⟨W3, HW3⟩ : ∃ W, Hid (W2.alloc (.cells #[.slice (some ⟨W1.heap.size, 0, none⟩) 4 4] 113) = W) := ⟨_, rfl⟩
  have s3 : W2.Since W2.heap.size W3 := by rw [← HW3.out]; exact (World.Since.refl _ _).alloc (Nat.le_refl _) _
  have r3 : W3.rowIs W2.heap.size 113 1 (fun _ => .slice (some ⟨W1.heap.size, 0, none⟩) 4 4) := by rw [← HW3.out]; exact pen_new _ _
  obtain ⟨pb, Hpb⟩ : ∃ x, Hid (W2.heap.size = x) := ⟨_, rfl⟩
  have HP : Hid (Wp W1 W3 pb [10, n1, n2, n3]) := by
    rw [← Hpb.out]
    exact ⟨s2.size, s2.trans (since_mono s3 s2.size), W1.heap.size, _, Nat.le_refl _, r3, own_since o2 s3, by show some W1.heap.size ≠ some W2.heap.size; intro e; have := Option.some.inj e; omega, by have := s3.size; omega⟩
  have HMS : Hid (∀ X l, Wp W1 X pb l → MsgIs X w.heap.size m va vc) := fun X l hX => hM1.since hX.2.1
  have HSW := hide s1
  have c03 : W3.cell? ⟨w.heap.size, 0, none⟩ = some (.int .i64 10) := cell_later (s2.trans (since_mono s3 s2.size)) c0
  have Hz2 : Hid (w.heap.size + 1 + 1 = pb) := by show _ = _; rw [← Hpb.out, z2, z1]
  have HW3' : Hid (W2.alloc (.cells #[.slice (some ⟨w.heap.size + 1, 0, none⟩) 4 4] 113) = W3) := by rw [← z1]; exact HW3.out
  clear hA hm hfd hmU hkt hf hh s1 s2 s3 r3 o2 hM1 e1 e2 e3 HW3 Hpb z2
  unfold mgV
  rw [HMM.out]
  go_enter Tryz.func31, Tryz.ntmps31
  go_upto_region 1 with fail
  rw [HW1.out]
  go_upto_region 2 with fail
  try rw [z1]
  rw [HW2.out]
  try rw [z1]
  rw [HW3'.out]
  try simp only [Hz2.out]
  clear c0 c1 c2 c3 HW1 HW2 HW3' z1
  try rw [Hz2.out]
  have cc : W3.cell? ⟨w.heap.size, 12, none⟩ = some (.int .u64 (N12 : Nat)) := by
    have h : W3.cell? ⟨w.heap.size, 12, none⟩ = some (.int .u64 (m.n 12)) := (HMS.out _ _ HP.out).cell (i := 12) (by decide)
    rw [h, E12]
  have HQ := hide (pen_number HP.out N12 (by omega) (by (first | (simp only [List.length_cons, List.length_nil]; omega) | (simp only [List.length_append, List.length_cons, List.length_nil]; omega))))
  go_wp2_with fail
  refine HQ.out.mono ?_
  rintro e w10 ⟨rfl, hX⟩
  have HP10 : Hid (Wp W1 w10 pb ([10, n1, n2, n3] ++ vl 9 N12)) := hX
  clear HQ hX cc HP c03
  have cc : w10.cell? ⟨w.heap.size, 13, none⟩ = some (.string (strL (m.s 13))) := (HMS.out _ _ HP10.out).cell (i := 13) (by decide)
  have hcv := Lib.run_convert_string_bytes (P := Tryz.prog) w10 9 32 5 (strL (m.s 13)) Tryz.underlying9 Tryz.underlying32 Tryz.underlying5
  have q0 := pen_text (HP10.out.later (since_bytes w10 (strL (m.s 13)))) (some ⟨w10.heap.size, 0, none⟩) (strL (m.s 13)).size (grownCap w10 (strL (m.s 13)).size 0 5) (bx (strL (m.s 13))) (flb_new w10 (strL (m.s 13))).byt (fun e => by simp at e) (by rw [strL_size]; (first | (simp only [List.length_cons, List.length_nil]; omega) | (simp only [List.length_append, List.length_cons, List.length_nil]; omega)))
  have hl : (List.range (strL (m.s 13)).size).map (bx (strL (m.s 13))) = m.s 13 := by
    rw [strL_size]
    have e : bx (strL (m.s 13)) = fun j => (m.s 13).getD j 0 := funext fun j => bx_strL ((HMS.out _ _ HP10.out).byte 13) j
    rw [e, range_getD]
  rw [hl] at q0
  have HQ := hide q0
  clear q0 hl
  generalize strL (m.s 13) = S13 at *
  generalize Lib.bytesWorld w10 5 S13 = X13 at *
  go_wp2_with fail
  refine HQ.out.mono ?_
  rintro e w11 ⟨rfl, hX⟩
  have HP11 : Hid (Wp W1 w11 pb (([10, n1, n2, n3] ++ vl 9 N12) ++ partL (m.s 13))) := hX
  clear HQ hX cc HP10 hcv
  have cc : w11.cell? ⟨w.heap.size, 14, none⟩ = some (.string (strL (m.s 14))) := (HMS.out _ _ HP11.out).cell (i := 14) (by decide)
  have hcv := Lib.run_convert_string_bytes (P := Tryz.prog) w11 9 32 5 (strL (m.s 14)) Tryz.underlying9 Tryz.underlying32 Tryz.underlying5
  have q0 := pen_text (HP11.out.later (since_bytes w11 (strL (m.s 14)))) (some ⟨w11.heap.size, 0, none⟩) (strL (m.s 14)).size (grownCap w11 (strL (m.s 14)).size 0 5) (bx (strL (m.s 14))) (flb_new w11 (strL (m.s 14))).byt (fun e => by simp at e) (by rw [strL_size]; (first | (simp only [List.length_cons, List.length_nil]; omega) | (simp only [List.length_append, List.length_cons, List.length_nil]; omega)))
  have hl : (List.range (strL (m.s 14)).size).map (bx (strL (m.s 14))) = m.s 14 := by
    rw [strL_size]
    have e : bx (strL (m.s 14)) = fun j => (m.s 14).getD j 0 := funext fun j => bx_strL ((HMS.out _ _ HP11.out).byte 14) j
    rw [e, range_getD]
  rw [hl] at q0
  have HQ := hide q0
  clear q0 hl
  generalize strL (m.s 14) = S14 at *
  generalize Lib.bytesWorld w11 5 S14 = X14 at *
  go_wp2_with fail
  refine HQ.out.mono ?_
  rintro e w12 ⟨rfl, hX⟩
  have HP12 : Hid (Wp W1 w12 pb ((([10, n1, n2, n3] ++ vl 9 N12) ++ partL (m.s 13)) ++ partL (m.s 14))) := hX
  clear HQ hX cc HP11 hcv
  have cc : w12.cell? ⟨w.heap.size, 15, none⟩ = some (.int .u64 (N15 : Nat)) := by
    have h : w12.cell? ⟨w.heap.size, 15, none⟩ = some (.int .u64 (m.n 15)) := (HMS.out _ _ HP12.out).cell (i := 15) (by decide)
    rw [h, E15]
  have HQ := hide (pen_number HP12.out N15 (by omega) (by (first | (simp only [List.length_cons, List.length_nil]; omega) | (simp only [List.length_append, List.length_cons, List.length_nil]; omega))))
  go_wp2_with fail
  refine HQ.out.mono ?_
  rintro e w13 ⟨rfl, hX⟩
  have HP13 : Hid (Wp W1 w13 pb (((([10, n1, n2, n3] ++ vl 9 N12) ++ partL (m.s 13)) ++ partL (m.s 14)) ++ vl 9 N15)) := hX
  clear HQ hX cc HP12
  have cc : w13.cell? ⟨w.heap.size, 16, none⟩ = some (.int .u64 (N16 : Nat)) := by
    have h : w13.cell? ⟨w.heap.size, 16, none⟩ = some (.int .u64 (m.n 16)) := (HMS.out _ _ HP13.out).cell (i := 16) (by decide)
    rw [h, E16]
  have HQ := hide (pen_number HP13.out N16 (by omega) (by (first | (simp only [List.length_cons, List.length_nil]; omega) | (simp only [List.length_append, List.length_cons, List.length_nil]; omega))))
  go_wp2_with fail
  refine HQ.out.mono ?_
  rintro e w14 ⟨rfl, hX⟩
  have HP14 : Hid (Wp W1 w14 pb ((((([10, n1, n2, n3] ++ vl 9 N12) ++ partL (m.s 13)) ++ partL (m.s 14)) ++ vl 9 N15) ++ vl 9 N16)) := hX
  clear HQ hX cc HP13
  have cc : w14.cell? ⟨w.heap.size, 17, none⟩ = some (.int .u64 (N17 : Nat)) := by
    have h : w14.cell? ⟨w.heap.size, 17, none⟩ = some (.int .u64 (m.n 17)) := (HMS.out _ _ HP14.out).cell (i := 17) (by decide)
    rw [h, E17]
  have HQ := hide (pen_number HP14.out N17 (by omega) (by (first | (simp only [List.length_cons, List.length_nil]; omega) | (simp only [List.length_append, List.length_cons, List.length_nil]; omega))))
  go_wp2_with fail
  refine HQ.out.mono ?_
  rintro e w15 ⟨rfl, hX⟩
  have HP15 : Hid (Wp W1 w15 pb (((((([10, n1, n2, n3] ++ vl 9 N12) ++ partL (m.s 13)) ++ partL (m.s 14)) ++ vl 9 N15) ++ vl 9 N16) ++ vl 9 N17)) := hX
  clear HQ hX cc HP14
  have cc : w15.cell? ⟨w.heap.size, 18, none⟩ = some (.int .i64 (N18 : Nat)) := by
    have h : w15.cell? ⟨w.heap.size, 18, none⟩ = some (.int .i64 (m.n 18)) := (HMS.out _ _ HP15.out).cell (i := 18) (by decide)
    rw [h, E18]
  have HQ := hide (pen_small HP15.out N18 L18 (by (first | (simp only [List.length_cons, List.length_nil]; omega) | (simp only [List.length_append, List.length_cons, List.length_nil]; omega))))
  go_wp2_with fail
  refine HQ.out.mono ?_
  rintro e w16 ⟨rfl, hX⟩
  have HP16 : Hid (Wp W1 w16 pb ((((((([10, n1, n2, n3] ++ vl 9 N12) ++ partL (m.s 13)) ++ partL (m.s 14)) ++ vl 9 N15) ++ vl 9 N16) ++ vl 9 N17) ++ [N18])) := hX
  clear HQ hX cc HP15
  have cc : w16.cell? ⟨w.heap.size, 19, none⟩ = some (.int .i64 (N19 : Nat)) := by
    have h : w16.cell? ⟨w.heap.size, 19, none⟩ = some (.int .i64 (m.n 19)) := (HMS.out _ _ HP16.out).cell (i := 19) (by decide)
    rw [h, E19]
  have HQ := hide (pen_small HP16.out N19 L19 (by (first | (simp only [List.length_cons, List.length_nil]; omega) | (simp only [List.length_append, List.length_cons, List.length_nil]; omega))))
  go_wp2_with fail
  refine HQ.out.mono ?_
  rintro e w17 ⟨rfl, hX⟩
  have HP17 : Hid (Wp W1 w17 pb (((((((([10, n1, n2, n3] ++ vl 9 N12) ++ partL (m.s 13)) ++ partL (m.s 14)) ++ vl 9 N15) ++ vl 9 N16) ++ vl 9 N17) ++ [N18]) ++ [N19])) := hX
  clear HQ hX cc HP16
  obtain ⟨B, v, hB, hI⟩ := HP17.out.2.2
  obtain ⟨xa, ln, xc, hv⟩ : ∃ xa ln xc, v = .slice xa ln xc := by
    obtain ⟨p, q, h⟩ := own_form hI.own
    exact ⟨p, _, q, h⟩
  have cc : w17.cell? ⟨pb, 0, none⟩ = some v := hI.cell.cell (i := 0) (by decide)
  have hz1 := HSW.out.size
  have HE : Hid (OwnL w17 w.heap.size v (bodyG m) ∧ w.Since w.heap.size w17) := by
    rw [← HBD.out]
    exact ⟨own_lower hI.own (by omega), HSW.out.trans (since_mono HP17.out.2.1 HSW.out.size)⟩
  subst hv
  clear hI hB HBD HMS HP17
  go_wp2_with fail
  go_ret
  exact ⟨_, rfl, HE.out⟩
end Go.Proofs.YtonpmabdjngdcaaGreatDoor

/- The document's Only: kind 11. -/
namespace Go.Proofs.YtonpmabdjngdcaaGreatDoor
open Go.RowKit
set_option maxRecDepth 100000

set_option maxHeartbeats 8000000 in
theorem only11 (m : Mg) (va : Option Addr) (vc : Nat) (w : World) (hA : MgA w m va vc) (h0 : m.n 0 = 11) :
    Calls Tryz.prog 29 #[mgV m va vc] w fun e w' => e = .returned (mgV (onlyG m) none 0) ∧ w.Since w.heap.size w' := by
  have hkt : (m.n 0).toNat = 11 := by rw [h0]; rfl
  obtain ⟨MM, HMM⟩ : ∃ x, Hid ((mgL m va vc).toArray = x) := ⟨_, rfl⟩
  obtain ⟨W1, HW1⟩ : ∃ W, Hid (w.alloc (.cells MM 37) = W) := ⟨_, rfl⟩
  have s1 : w.Since w.heap.size W1 := by rw [← HW1.out]; exact (World.Since.refl _ _).alloc (Nat.le_refl _) _
  have z1 : W1.heap.size = w.heap.size + 1 := by rw [← HW1.out]; simp
  have hM1 : MsgIs W1 w.heap.size m va vc := by rw [← HW1.out, ← HMM.out]; exact hA.is
  obtain ⟨W2, HW2⟩ : ∃ W, Hid (W1.alloc mgZ = W) := ⟨_, rfl⟩
  have s2 : W1.Since W1.heap.size W2 := by rw [← HW2.out]; exact (World.Since.refl _ _).alloc (Nat.le_refl _) _
  have z2 : W2.heap.size = w.heap.size + 1 + 1 := by rw [← HW2.out, ← z1]; simp
  have r2 : W2.rowIs (w.heap.size + 1) 37 22 (mgCell mg0 none 0) := by rw [← z1, ← HW2.out]; exact mgZ_row W1
  have hM2 := hM1.since s2
  have c0 : W2.cell? ⟨w.heap.size, 0, none⟩ = some (.int .i64 (m.n 0)) := hM2.cell (i := 0) (by decide)
  have c1 : W2.cell? ⟨w.heap.size, 1, none⟩ = some (.int .i64 (m.n 1)) := hM2.cell (i := 1) (by decide)
  have c2 : W2.cell? ⟨w.heap.size, 2, none⟩ = some (.int .i64 (m.n 2)) := hM2.cell (i := 2) (by decide)
  have c3 : W2.cell? ⟨w.heap.size, 3, none⟩ = some (.int .i64 (m.n 3)) := hM2.cell (i := 3) (by decide)
  have s2z : W2.Since W2.heap.size (W2.alloc mgZ) := (World.Since.refl _ _).alloc (Nat.le_refl _) _
  obtain ⟨W3, HW3, r3, h3, z3', b3, o3, t3, p3⟩ := mg_stored (mgZ_row W2) (takeL m hds mg0) none 0
  have z3 : W3.heap.size = w.heap.size + 1 + 1 + 1 := by rw [z3', ← z2]; simp
  have s3 : W2.Since W2.heap.size W3 := ⟨o3.trans s2z.os, t3.trans s2z.tape, p3.trans s2z.output, by rw [z3']; exact s2z.size, fun k hk => (b3 k (by omega)).trans (s2z.block k hk)⟩
  have HT3 : Hid ((W2.alloc mgZ).there W2.heap.size 0 (mgL (takeL m hds mg0) none 0).toArray.size) := by
    have e : (mgL (takeL m hds mg0) none 0).toArray.size = 22 := by rw [List.size_toArray, mgL_len]
    show World.there _ _ _ _
    rw [e]
    exact row_there (mgZ_row W2)
  have HRG : Hid (W2.rangeAt w.heap.size 0 [.int .i64 (m.n 0), .int .i64 (m.n 1), .int .i64 (m.n 2), .int .i64 (m.n 3)]) := fun j v hv => by
    match j, hv with
    | 0, hv => rw [← Option.some.inj hv]; exact c0
    | 1, hv => rw [← Option.some.inj hv]; exact c1
    | 2, hv => rw [← Option.some.inj hv]; exact c2
    | 3, hv => rw [← Option.some.inj hv]; exact c3
    | n + 4, hv => simp at hv
  rw [z2] at r3
  obtain ⟨kb, Hkb⟩ : ∃ x, Hid (w.heap.size + 1 + 1 = x) := ⟨_, rfl⟩
  have hkb : kb = w.heap.size + 1 + 1 := Hkb.out.symm
  rw [Hkb.out] at r3
  have hM3 := hM2.since s3
  have hR3 := row_since r2 s3
  have sw3 : w.Since w.heap.size W3 := (s1.trans (since_mono s2 (by omega))).trans (since_mono s3 (by omega))
  have HMC : Hid (∀ X, But kb W3 X → MsgIs X w.heap.size m va vc) := fun X hX => hM3.keep (hX.block _ (by omega) (by omega)) (fun q e h0 => hX.block _ (hM3.lt q e h0) (by have := hA.lt q e h0; omega)) hX.size
  have HRR : Hid (∀ X, But kb W3 X → X.rowIs (w.heap.size + 1) 37 22 (mgCell mg0 none 0)) := fun X hX => hR3.of_block (hX.block _ (by omega) (by omega))
  have HSS : Hid (∀ X, But kb W3 X → w.Since w.heap.size X) := fun X hX => ⟨hX.os.trans sw3.os, hX.tape.trans sw3.tape, hX.output.trans sw3.output, Nat.le_trans sw3.size hX.size, fun q hq => (hX.block q (by omega) (by omega)).trans (sw3.block q hq)⟩
  have ck : W3.cell? ⟨w.heap.size, 0, none⟩ = some (.int .i64 11) := by
    have : W3.cell? ⟨w.heap.size, 0, none⟩ = some (.int .i64 (m.n 0)) := hM3.cell (i := 0) (by decide)
    rw [this, h0]
  have HB : Hid (But kb W3 W3) := But.of_since (World.Since.refl _ _)
  have HRW : Hid (W3.rowIs kb 37 22 (mgCell (takeL m hds mg0) none 0)) := r3
  have HTK : Hid (((((((takeL m hds mg0).setN 15 (m.n 15)).setN 16 (m.n 16)).setN 17 (m.n 17)).setN 20 (m.n 20)).setN 21 (m.n 21)) = onlyG m) := by
    have hfd : fdsK 11 = [.var 15 9007199254740992, .var 16 1099511627776, .var 17 1099511627776, .small 20 4, .var 21 307] := by kernel_rfl
    show _ = takeL m (fdsK (m.n 0).toNat) (takeL m hds mg0)
    rw [hkt, hfd]
    generalize takeL m hds mg0 = q
    rfl
  clear hA hM1 s1 s2 s3 hM2 hM3 r2 r3 hR3 sw3 h0 hkt h3 z3' b3 o3 t3 p3 s2z
  unfold mgZ at HW2
  unfold mgV
  rw [HMM.out]
  go_enter Tryz.func29, Tryz.ntmps29
  go_upto_region 1 with fail
  rw [HW1.out, HW2.out]
  try rw [z1]
  refine wp_region_lit ?_
  refine wpList_plain rfl fun _ hK => op_run (.pointer (some ⟨w.heap.size, 0, none⟩)) (by kernel_rfl) (hK _ _ ?_)
  refine wpList_load_mid rfl 28 (.tmp 4) rfl w.heap.size 0 rfl _ _ HRG.out Tryz.underlying28 rfl infoHd ?_
  refine wpList_plain rfl fun _ hK => op_run (mgV (takeL m hds mg0) none 0) (by rw [mgV_head]; kernel_rfl) (hK _ _ ?_)
  refine wpList_plain rfl fun _ hK => op_runW (w' := W2.alloc mgZ) (.pointer (some ⟨W2.heap.size, 0, none⟩)) (by kernel_rfl) (hK _ _ ?_)
  refine wpList_store_mid rfl 37 (.tmp 3) (.tmp 6) rfl W2.heap.size 0 (mgL (takeL m hds mg0) none 0).toArray rfl rfl HT3.out (infoMgA _ _ _) (mg_all _ _ _) ?_
  rw [show (mgL (takeL m hds mg0) none 0).toArray.toList = mgL (takeL m hds mg0) none 0 from rfl, HW3.out]
  rw [z2, Hkb.out]
  clear c0 c1 c2 c3 HW1 HW2 HW3 z1 z2 z3 hkb HT3 HRG
  go_upto_region 42 with fail
  clear ck
  have hM := HMC.out _ HB.out
  have c15 : W3.cell? ⟨w.heap.size, 15, none⟩ = some (.int .u64 (m.n 15)) := hM.cell (i := 15) (by decide)
  have d15 := HRW.out.cell (i := 15) (by decide)
  have f15 := HRW.out.frozen 15
  have d15' : ∃ v, W3.cell? ⟨kb, 15, none⟩ = some v := ⟨_, d15⟩
  obtain ⟨v15, g15⟩ := d15'
  clear d15
  obtain ⟨W4, HW4⟩ : ∃ W, Hid ((W3.setCell ⟨kb, 15, none⟩ (.int .u64 (m.n 15))) = W) := ⟨_, rfl⟩
  have HR4 : Hid (W4.rowIs kb 37 22 (mgCell ((takeL m hds mg0).setN 15 (m.n 15)) none 0)) := by rw [← HW4.out]; exact (row_setN HRW.out 15 (m.n 15) (by decide) (by decide) (by decide))
  have HB4 : Hid (But kb W3 W4) := by rw [← HW4.out]; exact (HB.out.setCell 15 _)
  clear hM HRW
  go_upto_region 43 with fail
  rw [HW4.out]
  clear HW4 c15 g15 f15
  go_upto_region 43 with fail
  have hM := HMC.out _ HB4.out
  have c16 : W4.cell? ⟨w.heap.size, 16, none⟩ = some (.int .u64 (m.n 16)) := hM.cell (i := 16) (by decide)
  have d16 := HR4.out.cell (i := 16) (by decide)
  have f16 := HR4.out.frozen 16
  have d16' : ∃ v, W4.cell? ⟨kb, 16, none⟩ = some v := ⟨_, d16⟩
  obtain ⟨v16, g16⟩ := d16'
  clear d16
  have c17 : W4.cell? ⟨w.heap.size, 17, none⟩ = some (.int .u64 (m.n 17)) := hM.cell (i := 17) (by decide)
  have d17 := HR4.out.cell (i := 17) (by decide)
  have f17 := HR4.out.frozen 17
  have d17' : ∃ v, W4.cell? ⟨kb, 17, none⟩ = some v := ⟨_, d17⟩
  obtain ⟨v17, g17⟩ := d17'
  clear d17
  obtain ⟨W5, HW5⟩ : ∃ W, Hid (((W4.setCell ⟨kb, 16, none⟩ (.int .u64 (m.n 16))).setCell ⟨kb, 17, none⟩ (.int .u64 (m.n 17))) = W) := ⟨_, rfl⟩
  have HR5 : Hid (W5.rowIs kb 37 22 (mgCell ((((takeL m hds mg0).setN 15 (m.n 15)).setN 16 (m.n 16)).setN 17 (m.n 17)) none 0)) := by rw [← HW5.out]; exact (row_setN (row_setN HR4.out 16 (m.n 16) (by decide) (by decide) (by decide)) 17 (m.n 17) (by decide) (by decide) (by decide))
  have HB5 : Hid (But kb W3 W5) := by rw [← HW5.out]; exact ((HB4.out.setCell 16 _).setCell 17 _)
  clear hM HR4 HB4
  go_upto_region 44 with fail
  rw [HW5.out]
  clear HW5 c16 g16 f16 c17 g17 f17
  go_upto_region 44 with fail
  have hM := HMC.out _ HB5.out
  have c20 : W5.cell? ⟨w.heap.size, 20, none⟩ = some (.int .i64 (m.n 20)) := hM.cell (i := 20) (by decide)
  have d20 := HR5.out.cell (i := 20) (by decide)
  have f20 := HR5.out.frozen 20
  have d20' : ∃ v, W5.cell? ⟨kb, 20, none⟩ = some v := ⟨_, d20⟩
  obtain ⟨v20, g20⟩ := d20'
  clear d20
  obtain ⟨W6, HW6⟩ : ∃ W, Hid ((W5.setCell ⟨kb, 20, none⟩ (.int .i64 (m.n 20))) = W) := ⟨_, rfl⟩
  have HR6 : Hid (W6.rowIs kb 37 22 (mgCell (((((takeL m hds mg0).setN 15 (m.n 15)).setN 16 (m.n 16)).setN 17 (m.n 17)).setN 20 (m.n 20)) none 0)) := by rw [← HW6.out]; exact (row_setN HR5.out 20 (m.n 20) (by decide) (by decide) (by decide))
  have HB6 : Hid (But kb W3 W6) := by rw [← HW6.out]; exact (HB5.out.setCell 20 _)
  clear hM HR5 HB5
  go_upto_region 45 with fail
  rw [HW6.out]
  clear HW6 c20 g20 f20
  go_upto_region 45 with fail
  have hM := HMC.out _ HB6.out
  have c21 : W6.cell? ⟨w.heap.size, 21, none⟩ = some (.int .i64 (m.n 21)) := hM.cell (i := 21) (by decide)
  have d21 := HR6.out.cell (i := 21) (by decide)
  have f21 := HR6.out.frozen 21
  have d21' : ∃ v, W6.cell? ⟨kb, 21, none⟩ = some v := ⟨_, d21⟩
  obtain ⟨v21, g21⟩ := d21'
  clear d21
  obtain ⟨W7, HW7⟩ : ∃ W, Hid ((W6.setCell ⟨kb, 21, none⟩ (.int .i64 (m.n 21))) = W) := ⟨_, rfl⟩
  have HR7 : Hid (W7.rowIs kb 37 22 (mgCell ((((((takeL m hds mg0).setN 15 (m.n 15)).setN 16 (m.n 16)).setN 17 (m.n 17)).setN 20 (m.n 20)).setN 21 (m.n 21)) none 0)) := by rw [← HW7.out]; exact (row_setN HR6.out 21 (m.n 21) (by decide) (by decide) (by decide))
  have HB7 : Hid (But kb W3 W7) := by rw [← HW7.out]; exact (HB6.out.setCell 21 _)
  clear hM HR6 HB6
  go_upto_region 46 with fail
  rw [HW7.out]
  clear HW7 c21 g21 f21
  have HR9 : Hid (W7.rowIs kb 37 22 (mgCell (onlyG m) none 0)) := by rw [← HTK.out]; exact HR7.out
  have HH9 := hide (row_heap HR9.out)
  obtain ⟨Z, HZ, rZ, hZ, zZ, bZ, oZ, tZ, pZ⟩ := mg_stored (HRR.out _ HB7.out) (onlyG m) none 0
  have HT9 : Hid (W7.there (w.heap.size + 1) 0 (mgL (onlyG m) none 0).toArray.size) := by
    have e : (mgL (onlyG m) none 0).toArray.size = 22 := by rw [List.size_toArray, mgL_len]
    show World.there _ _ _ _
    rw [e]
    exact row_there (HRR.out _ HB7.out)
  have HE : Hid (w.Since w.heap.size Z) := by
    have a := HSS.out _ HB7.out
    exact ⟨oZ.trans a.os, tZ.trans a.tape, pZ.trans a.output, by rw [zZ]; exact a.size, fun q hq => (bZ q (by omega)).trans (a.block q hq)⟩
  have HHZ := hide hZ
  refine wp_region_lit ?_
  refine wpList_load_row rfl 37 _ rfl kb rfl _ (mgL (onlyG m) none 0).toArray (0, 0) _ HH9.out Tryz.underlying37 rfl (infoMgA _ _ _) ?_
  refine wpList_store_mid rfl 37 _ _ rfl (w.heap.size + 1) 0 (mgL (onlyG m) none 0).toArray rfl rfl HT9.out (infoMgA _ _ _) (mg_all _ _ _) ?_
  rw [show (mgL (onlyG m) none 0).toArray.toList = mgL (onlyG m) none 0 from rfl, HZ.out]
  clear HZ rZ hZ zZ bZ oZ tZ pZ HT9 HH9 HR9
  go_wp2_with fail
  exact bodyPost_ret_by (results_cell_row rfl _ _ (w.heap.size + 1) 37 _ (0, 0) _ rfl HHZ.out Tryz.underlying37 rfl (infoMgA _ _ _)) rfl ⟨rfl, HE.out⟩
end Go.Proofs.YtonpmabdjngdcaaGreatDoor

/- The document's Body. -/
namespace Go.Proofs.YtonpmabdjngdcaaGreatDoor
open Go.RowKit
set_option maxRecDepth 100000

set_option maxHeartbeats 8000000 in
theorem body11 (m : Mg) (va : Option Addr) (vc : Nat) (w : World) (hA : MgA w m va vc) (h0 : m.n 0 = 11) (hm : mayM m = true) :
    Calls Tryz.prog 31 #[mgV m va vc] w fun e w' => ∃ v, e = .returned v ∧ OwnL w' w.heap.size v (bodyG m) ∧ w.Since w.heap.size w' := by
  have hfd : fdsK 11 = [.var 15 9007199254740992, .var 16 1099511627776, .var 17 1099511627776, .small 20 4, .var 21 307] := by kernel_rfl
  have hmU := (Bool.and_eq_true_iff.1 hm).2
  have hkt : (m.n 0).toNat = 11 := by rw [h0]; rfl
  have hf := fdsK_fits hmU
  rw [hkt, hfd] at hf
  have hh := of_decide_eq_true (Bool.and_eq_true_iff.1 hm).1
  obtain ⟨n1, e1, l1⟩ : ∃ n : Nat, m.n 1 = (n : Int) ∧ n < 9 := ⟨(m.n 1).toNat, by omega, by omega⟩
  obtain ⟨n2, e2, l2⟩ : ∃ n : Nat, m.n 2 = (n : Int) ∧ n < 9 := ⟨(m.n 2).toNat, by omega, by omega⟩
  obtain ⟨n3, e3, l3⟩ : ∃ n : Nat, m.n 3 = (n : Int) ∧ n < 8 := ⟨(m.n 3).toNat, by omega, by omega⟩
  obtain ⟨N15, E15, L15⟩ : ∃ n : Nat, m.n 15 = (n : Int) ∧ n < 18446744073709551616 := by
    obtain ⟨f1, f2, f3, f4⟩ := hf (.var 15 9007199254740992) (by simp)
    exact ⟨(m.n 15).toNat, by omega, by omega⟩
  obtain ⟨N16, E16, L16⟩ : ∃ n : Nat, m.n 16 = (n : Int) ∧ n < 18446744073709551616 := by
    obtain ⟨f1, f2, f3, f4⟩ := hf (.var 16 1099511627776) (by simp)
    exact ⟨(m.n 16).toNat, by omega, by omega⟩
  obtain ⟨N17, E17, L17⟩ : ∃ n : Nat, m.n 17 = (n : Int) ∧ n < 18446744073709551616 := by
    obtain ⟨f1, f2, f3, f4⟩ := hf (.var 17 1099511627776) (by simp)
    exact ⟨(m.n 17).toNat, by omega, by omega⟩
  obtain ⟨N20, E20, L20⟩ : ∃ n : Nat, m.n 20 = (n : Int) ∧ n < 256 := by
    obtain ⟨f1, f2⟩ := hf (.small 20 4) (by simp)
    exact ⟨(m.n 20).toNat, by omega, by omega⟩
  obtain ⟨N21, E21, L21⟩ : ∃ n : Nat, m.n 21 = (n : Int) ∧ n < 9223372036854775808 := by
    obtain ⟨f1, f2, f3, f4⟩ := hf (.var 21 307) (by simp)
    exact ⟨(m.n 21).toNat, by omega, by omega⟩
  have HBD : Hid (((((([11, n1, n2, n3] ++ vl 9 N15) ++ vl 9 N16) ++ vl 9 N17) ++ [N20]) ++ vl 9 N21) = bodyG m) := by
    show _ = putL m hds ++ putL m (fdsK (m.n 0).toNat)
    rw [hkt, hfd]
    show _ = (fl 1 (m.n 0).toNat ++ (fl 1 (m.n 1).toNat ++ (fl 1 (m.n 2).toNat ++ (fl 1 (m.n 3).toNat ++ [])))) ++ putL m [.var 15 9007199254740992, .var 16 1099511627776, .var 17 1099511627776, .small 20 4, .var 21 307]
    rw [hkt, e1, e2, e3]
    simp only [putL, Fd.put, Int.toNat_natCast, E15, E16, E17, E20, E21, List.append_nil]
    have f1 : ∀ x, x < 256 → fl 1 x = [x] := fun x hx => by
      show [x / 256 ^ (1 - 1 - 0) % 256] = [x]
      simp; omega
    rw [f1 11 (by decide), f1 n1 (by omega), f1 n2 (by omega), f1 n3 (by omega), f1 N20 L20]
    simp only [List.append_assoc, List.cons_append, List.nil_append]
  have y15 := vl_len 9 N15
  have y16 := vl_len 9 N16
  have y17 := vl_len 9 N17
  have y21 := vl_len 9 N21
  obtain ⟨MM, HMM⟩ : ∃ x, Hid ((mgL m va vc).toArray = x) := ⟨_, rfl⟩
  obtain ⟨W1, HW1⟩ : ∃ W, Hid (w.alloc (.cells MM 37) = W) := ⟨_, rfl⟩
  have s1 : w.Since w.heap.size W1 := by rw [← HW1.out]; exact (World.Since.refl _ _).alloc (Nat.le_refl _) _
  have z1 : W1.heap.size = w.heap.size + 1 := by rw [← HW1.out]; simp
  have hM1 : MsgIs W1 w.heap.size m va vc := by rw [← HW1.out, ← HMM.out]; exact hA.is
  have c0 : W1.cell? ⟨w.heap.size, 0, none⟩ = some (.int .i64 11) := by
    have : W1.cell? ⟨w.heap.size, 0, none⟩ = some (.int .i64 (m.n 0)) := hM1.cell (i := 0) (by decide)
    rw [this, h0]
  have c1 : W1.cell? ⟨w.heap.size, 1, none⟩ = some (.int .i64 (n1 : Nat)) := by
    have : W1.cell? ⟨w.heap.size, 1, none⟩ = some (.int .i64 (m.n 1)) := hM1.cell (i := 1) (by decide)
    rw [this, e1]
  have c2 : W1.cell? ⟨w.heap.size, 2, none⟩ = some (.int .i64 (n2 : Nat)) := by
    have : W1.cell? ⟨w.heap.size, 2, none⟩ = some (.int .i64 (m.n 2)) := hM1.cell (i := 2) (by decide)
    rw [this, e2]
  have c3 : W1.cell? ⟨w.heap.size, 3, none⟩ = some (.int .i64 (n3 : Nat)) := by
    have : W1.cell? ⟨w.heap.size, 3, none⟩ = some (.int .i64 (m.n 3)) := hM1.cell (i := 3) (by decide)
    rw [this, e3]
  have hu1 : IntKind.u8.wrap (n1 : Int) = (n1 : Int) := by rw [IntKind.wrap_u8]; omega
  have hu2 : IntKind.u8.wrap (n2 : Int) = (n2 : Int) := by rw [IntKind.wrap_u8]; omega
  have hu3 : IntKind.u8.wrap (n3 : Int) = (n3 : Int) := by rw [IntKind.wrap_u8]; omega
  obtain ⟨W2, HW2⟩ : ∃ W, Hid (W1.alloc (.cells #[.int .u8 11, .int .u8 (n1 : Nat), .int .u8 (n2 : Nat), .int .u8 (n3 : Nat)] 5) = W) := ⟨_, rfl⟩
  have s2 : W1.Since W1.heap.size W2 := by rw [← HW2.out]; exact (World.Since.refl _ _).alloc (Nat.le_refl _) _
  have z2 : W2.heap.size = W1.heap.size + 1 := by rw [← HW2.out]; simp
  have o2 : OwnL W2 W1.heap.size (.slice (some ⟨W1.heap.size, 0, none⟩) 4 4) [11, n1, n2, n3] := by rw [← HW2.out]; exact row4 W1 11 n1 n2 n3
  obtain ⟨W3, HW3⟩ : ∃ W, Hid (W2.alloc (.cells #[.slice (some ⟨W1.heap.size, 0, none⟩) 4 4] 113) = W) := ⟨_, rfl⟩
  have s3 : W2.Since W2.heap.size W3 := by rw [← HW3.out]; exact (World.Since.refl _ _).alloc (Nat.le_refl _) _
  have r3 : W3.rowIs W2.heap.size 113 1 (fun _ => .slice (some ⟨W1.heap.size, 0, none⟩) 4 4) := by rw [← HW3.out]; exact pen_new _ _
  obtain ⟨pb, Hpb⟩ : ∃ x, Hid (W2.heap.size = x) := ⟨_, rfl⟩
  have HP : Hid (Wp W1 W3 pb [11, n1, n2, n3]) := by
    rw [← Hpb.out]
    exact ⟨s2.size, s2.trans (since_mono s3 s2.size), W1.heap.size, _, Nat.le_refl _, r3, own_since o2 s3, by show some W1.heap.size ≠ some W2.heap.size; intro e; have := Option.some.inj e; omega, by have := s3.size; omega⟩
  have HMS : Hid (∀ X l, Wp W1 X pb l → MsgIs X w.heap.size m va vc) := fun X l hX => hM1.since hX.2.1
  have HSW := hide s1
  have c03 : W3.cell? ⟨w.heap.size, 0, none⟩ = some (.int .i64 11) := cell_later (s2.trans (since_mono s3 s2.size)) c0
  have Hz2 : Hid (w.heap.size + 1 + 1 = pb) := by show _ = _; rw [← Hpb.out, z2, z1]
  have HW3' : Hid (W2.alloc (.cells #[.slice (some ⟨w.heap.size + 1, 0, none⟩) 4 4] 113) = W3) := by rw [← z1]; exact HW3.out
  clear hA hm hfd hmU hkt hf hh s1 s2 s3 r3 o2 hM1 e1 e2 e3 HW3 Hpb z2
  unfold mgV
  rw [HMM.out]
  go_enter Tryz.func31, Tryz.ntmps31
  go_upto_region 1 with fail
  rw [HW1.out]
  go_upto_region 2 with fail
  try rw [z1]
  rw [HW2.out]
  try rw [z1]
  rw [HW3'.out]
  try simp only [Hz2.out]
  clear c0 c1 c2 c3 HW1 HW2 HW3' z1
  try rw [Hz2.out]
  have cc : W3.cell? ⟨w.heap.size, 15, none⟩ = some (.int .u64 (N15 : Nat)) := by
    have h : W3.cell? ⟨w.heap.size, 15, none⟩ = some (.int .u64 (m.n 15)) := (HMS.out _ _ HP.out).cell (i := 15) (by decide)
    rw [h, E15]
  have HQ := hide (pen_number HP.out N15 (by omega) (by (first | (simp only [List.length_cons, List.length_nil]; omega) | (simp only [List.length_append, List.length_cons, List.length_nil]; omega))))
  go_wp2_with fail
  refine HQ.out.mono ?_
  rintro e w10 ⟨rfl, hX⟩
  have HP10 : Hid (Wp W1 w10 pb ([11, n1, n2, n3] ++ vl 9 N15)) := hX
  clear HQ hX cc HP c03
  have cc : w10.cell? ⟨w.heap.size, 16, none⟩ = some (.int .u64 (N16 : Nat)) := by
    have h : w10.cell? ⟨w.heap.size, 16, none⟩ = some (.int .u64 (m.n 16)) := (HMS.out _ _ HP10.out).cell (i := 16) (by decide)
    rw [h, E16]
  have HQ := hide (pen_number HP10.out N16 (by omega) (by (first | (simp only [List.length_cons, List.length_nil]; omega) | (simp only [List.length_append, List.length_cons, List.length_nil]; omega))))
  go_wp2_with fail
  refine HQ.out.mono ?_
  rintro e w11 ⟨rfl, hX⟩
  have HP11 : Hid (Wp W1 w11 pb (([11, n1, n2, n3] ++ vl 9 N15) ++ vl 9 N16)) := hX
  clear HQ hX cc HP10
  have cc : w11.cell? ⟨w.heap.size, 17, none⟩ = some (.int .u64 (N17 : Nat)) := by
    have h : w11.cell? ⟨w.heap.size, 17, none⟩ = some (.int .u64 (m.n 17)) := (HMS.out _ _ HP11.out).cell (i := 17) (by decide)
    rw [h, E17]
  have HQ := hide (pen_number HP11.out N17 (by omega) (by (first | (simp only [List.length_cons, List.length_nil]; omega) | (simp only [List.length_append, List.length_cons, List.length_nil]; omega))))
  go_wp2_with fail
  refine HQ.out.mono ?_
  rintro e w12 ⟨rfl, hX⟩
  have HP12 : Hid (Wp W1 w12 pb ((([11, n1, n2, n3] ++ vl 9 N15) ++ vl 9 N16) ++ vl 9 N17)) := hX
  clear HQ hX cc HP11
  have cc : w12.cell? ⟨w.heap.size, 20, none⟩ = some (.int .i64 (N20 : Nat)) := by
    have h : w12.cell? ⟨w.heap.size, 20, none⟩ = some (.int .i64 (m.n 20)) := (HMS.out _ _ HP12.out).cell (i := 20) (by decide)
    rw [h, E20]
  have HQ := hide (pen_small HP12.out N20 L20 (by (first | (simp only [List.length_cons, List.length_nil]; omega) | (simp only [List.length_append, List.length_cons, List.length_nil]; omega))))
  go_wp2_with fail
  refine HQ.out.mono ?_
  rintro e w13 ⟨rfl, hX⟩
  have HP13 : Hid (Wp W1 w13 pb (((([11, n1, n2, n3] ++ vl 9 N15) ++ vl 9 N16) ++ vl 9 N17) ++ [N20])) := hX
  clear HQ hX cc HP12
  have cc : w13.cell? ⟨w.heap.size, 21, none⟩ = some (.int .i64 (N21 : Nat)) := by
    have h : w13.cell? ⟨w.heap.size, 21, none⟩ = some (.int .i64 (m.n 21)) := (HMS.out _ _ HP13.out).cell (i := 21) (by decide)
    rw [h, E21]
  have hw21 : IntKind.u64.wrap (N21 : Int) = (N21 : Int) := by rw [IntKind.wrap_u64]; omega
  have hv21 : IntKind.i64.wrap (N21 : Int) = (N21 : Int) := by rw [IntKind.wrap_i64]; omega
  have HQ := hide (pen_number HP13.out N21 (by omega) (by (first | (simp only [List.length_cons, List.length_nil]; omega) | (simp only [List.length_append, List.length_cons, List.length_nil]; omega))))
  go_wp2_with fail
  refine HQ.out.mono ?_
  rintro e w14 ⟨rfl, hX⟩
  have HP14 : Hid (Wp W1 w14 pb ((((([11, n1, n2, n3] ++ vl 9 N15) ++ vl 9 N16) ++ vl 9 N17) ++ [N20]) ++ vl 9 N21)) := hX
  clear HQ hX cc HP13
  obtain ⟨B, v, hB, hI⟩ := HP14.out.2.2
  obtain ⟨xa, ln, xc, hv⟩ : ∃ xa ln xc, v = .slice xa ln xc := by
    obtain ⟨p, q, h⟩ := own_form hI.own
    exact ⟨p, _, q, h⟩
  have cc : w14.cell? ⟨pb, 0, none⟩ = some v := hI.cell.cell (i := 0) (by decide)
  have hz1 := HSW.out.size
  have HE : Hid (OwnL w14 w.heap.size v (bodyG m) ∧ w.Since w.heap.size w14) := by
    rw [← HBD.out]
    exact ⟨own_lower hI.own (by omega), HSW.out.trans (since_mono HP14.out.2.1 HSW.out.size)⟩
  subst hv
  clear hI hB HBD HMS HP14
  go_wp2_with fail
  go_ret
  exact ⟨_, rfl, HE.out⟩
end Go.Proofs.YtonpmabdjngdcaaGreatDoor

/- The document's upTo and May. -/
namespace Go.Proofs.YtonpmabdjngdcaaGreatDoor
open Go.RowKit
set_option maxRecDepth 100000

set_option maxHeartbeats 2000000 in
theorem upTo_any (most : Int) (b : Nat) (n : Nat) (x : Nat → Int) (w : World) (hn : n ≤ 1000) (hc : ∀ j, j < n → w.cell? ⟨b, j, none⟩ = some (.int .u64 (x j))) (R : Bool) (hR : R = true ↔ ∀ j, j < n → x j ≤ most) :
    Calls Tryz.prog 53 #[.int .u64 most, .slice (some ⟨b, 0, none⟩) n n] w fun e w' => e = .returned (.bool R) ∧ w' = w := by
  have HC := hide hc
  have HR := hide hR
  clear hc hR
  go_enter Tryz.func53, Tryz.ntmps53
  go_wp2_with fail
  go_loopg [5] n (fun q s5 wx => ∃ i : Nat, i ≤ n ∧ q = n - i ∧ s5 = .int .i64 (i : Nat) ∧ wx = w ∧ Hid (∀ j, j < i → x j ≤ most))
  case atStart => exact ⟨0, Nat.zero_le _, rfl, rfl, rfl, fun j hj => absurd hj (Nat.not_lt_zero _)⟩
  case round =>
    obtain ⟨i, hi, rfl, rfl, rfl, HX⟩ := hrel
    by_cases hlt : i < n
    · have z1 : (i : Int) < (n : Int) := by omega
      have z0 : (0 : Int) ≤ (i : Int) := by omega
      have hwi : IntKind.i64.wrap ((i : Int) + 1) = (i : Int) + 1 := by rw [IntKind.wrap_i64]; omega
      have cc := HC.out i hlt
      obtain ⟨xi, Hxi⟩ : ∃ y, Hid (x i = y) := ⟨_, rfl⟩
      rw [Hxi.out] at cc
      by_cases hg : xi > most
      · have hb : R = false := by
          cases hr : R with
          | false => rfl
          | true =>
            have h2 := HR.out.1 hr i hlt
            rw [Hxi.out] at h2
            omega
        subst hb
        go_wp2_with fail
        go_ret
        exact ⟨rfl, rfl⟩
      · have HX2 : Hid (∀ j, j < i + 1 → x j ≤ most) := fun j hj => by
          by_cases e : j = i
          · subst e; rw [Hxi.out]; omega
          · exact HX.out j (by omega)
        clear HX
        go_wp2_with fail
        go_roundg (n - (i + 1))
        case measure => go_light; omega
        case rel => go_light; exact ⟨i + 1, hlt, rfl, by simp, rfl, HX2⟩
    · obtain rfl : i = n := by omega
      have z1 : ¬ (i : Int) < (i : Int) := by omega
      have hb : R = true := HR.out.2 HX.out
      subst hb
      clear HX
      go_wp2_with fail
      go_ret
      exact ⟨rfl, rfl⟩
end Go.Proofs.YtonpmabdjngdcaaGreatDoor

/- The document's May. -/
namespace Go.Proofs.YtonpmabdjngdcaaGreatDoor
open Go.RowKit
set_option maxRecDepth 100000

theorem own8 (w : World) (a0 a1 a2 a3 a4 a5 a6 a7 : Int) : ∀ j, j < 8 → (w.alloc (.cells #[.int .u64 a0, .int .u64 a1, .int .u64 a2, .int .u64 a3, .int .u64 a4, .int .u64 a5, .int .u64 a6, .int .u64 a7] 29)).cell? ⟨w.heap.size, j, none⟩ = some (.int .u64 ([a0, a1, a2, a3, a4, a5, a6, a7].getD j 0)) := fun j hj => by
  have hr : (w.alloc (.cells #[.int .u64 a0, .int .u64 a1, .int .u64 a2, .int .u64 a3, .int .u64 a4, .int .u64 a5, .int .u64 a6, .int .u64 a7] 29)).rowIs w.heap.size 29 8 (fun j => .int .u64 ([a0, a1, a2, a3, a4, a5, a6, a7].getD j 0)) := World.rowIs_alloc w _ _ _ (fun i hi => by
    have hi' : i < 8 := hi
    match i, hi' with
    | 0, _ => rfl
    | 1, _ => rfl
    | 2, _ => rfl
    | 3, _ => rfl
    | 4, _ => rfl
    | 5, _ => rfl
    | 6, _ => rfl
    | 7, _ => rfl)
  exact hr.cell hj
set_option maxHeartbeats 8000000 in
theorem may_walk (m : Mg) (va : Option Addr) (vc : Nat) (w : World) (hA : MgA w m va vc) (B1 B2 B3 B4 B5 B6 B7 B8 : Bool)
    (b1 : B1 = decide (0 ≤ m.n 1 ∧ m.n 1 < 9 ∧ 0 ≤ m.n 2 ∧ m.n 2 < 9)) (b2 : B2 = decide (0 ≤ m.n 3 ∧ m.n 3 < 8 ∧ 0 ≤ m.n 11 ∧ m.n 11 < 8))
    (b3 : B3 = decide (m.n 4 ≤ 1099511627776 ∧ m.n 5 ≤ 1099511627776 ∧ m.n 6 ≤ 1099511627776 ∧ m.n 7 ≤ 1099511627776 ∧ m.n 9 ≤ 1099511627776 ∧ m.n 12 ≤ 1099511627776 ∧ m.n 16 ≤ 1099511627776 ∧ m.n 17 ≤ 1099511627776))
    (b4 : B4 = decide (0 ≤ m.n 8 ∧ m.n 8 ≤ 1025)) (b5 : B5 = decide ((m.s 10).length ≤ 16384 ∧ (m.s 13).length ≤ 64 ∧ (m.s 14).length ≤ 64)) (b6 : B6 = decide (0 ≤ m.n 18 ∧ m.n 18 ≤ 3 ∧ 0 ≤ m.n 19 ∧ m.n 19 < 8 ∧ 0 ≤ m.n 20 ∧ m.n 20 ≤ 4)) (b7 : B7 = decide (m.n 21 = 0 ∨ 300 ≤ m.n 21 ∧ m.n 21 ≤ 307)) (b8 : B8 = decide (m.n 15 ≤ 9007199254740992)) :
    Calls Tryz.prog 30 #[mgV m va vc] w fun e w' => e = .returned (.bool (B1 && (B2 && (B3 && (B4 && (B5 && (B6 && (B7 && B8)))))))) ∧ w.Since w.heap.size w' := by
  obtain ⟨MM, HMM⟩ : ∃ x, Hid ((mgL m va vc).toArray = x) := ⟨_, rfl⟩
  obtain ⟨W1, HW1⟩ : ∃ W, Hid (w.alloc (.cells MM 37) = W) := ⟨_, rfl⟩
  have s1 : w.Since w.heap.size W1 := by rw [← HW1.out]; exact (World.Since.refl _ _).alloc (Nat.le_refl _) _
  have hM1 : MsgIs W1 w.heap.size m va vc := by rw [← HW1.out, ← HMM.out]; exact hA.is
  have d1 : W1.cell? ⟨w.heap.size, 1, none⟩ = some (.int .i64 (m.n 1)) := hM1.cell (i := 1) (by decide)
  have d2 : W1.cell? ⟨w.heap.size, 2, none⟩ = some (.int .i64 (m.n 2)) := hM1.cell (i := 2) (by decide)
  have d3 : W1.cell? ⟨w.heap.size, 3, none⟩ = some (.int .i64 (m.n 3)) := hM1.cell (i := 3) (by decide)
  have d4 : W1.cell? ⟨w.heap.size, 4, none⟩ = some (.int .u64 (m.n 4)) := hM1.cell (i := 4) (by decide)
  have d5 : W1.cell? ⟨w.heap.size, 5, none⟩ = some (.int .u64 (m.n 5)) := hM1.cell (i := 5) (by decide)
  have d6 : W1.cell? ⟨w.heap.size, 6, none⟩ = some (.int .u64 (m.n 6)) := hM1.cell (i := 6) (by decide)
  have d7 : W1.cell? ⟨w.heap.size, 7, none⟩ = some (.int .u64 (m.n 7)) := hM1.cell (i := 7) (by decide)
  have d8 : W1.cell? ⟨w.heap.size, 8, none⟩ = some (.int .i64 (m.n 8)) := hM1.cell (i := 8) (by decide)
  have d9 : W1.cell? ⟨w.heap.size, 9, none⟩ = some (.int .u64 (m.n 9)) := hM1.cell (i := 9) (by decide)
  have d11 : W1.cell? ⟨w.heap.size, 11, none⟩ = some (.int .i64 (m.n 11)) := hM1.cell (i := 11) (by decide)
  have d12 : W1.cell? ⟨w.heap.size, 12, none⟩ = some (.int .u64 (m.n 12)) := hM1.cell (i := 12) (by decide)
  have d15 : W1.cell? ⟨w.heap.size, 15, none⟩ = some (.int .u64 (m.n 15)) := hM1.cell (i := 15) (by decide)
  have d16 : W1.cell? ⟨w.heap.size, 16, none⟩ = some (.int .u64 (m.n 16)) := hM1.cell (i := 16) (by decide)
  have d17 : W1.cell? ⟨w.heap.size, 17, none⟩ = some (.int .u64 (m.n 17)) := hM1.cell (i := 17) (by decide)
  have d18 : W1.cell? ⟨w.heap.size, 18, none⟩ = some (.int .i64 (m.n 18)) := hM1.cell (i := 18) (by decide)
  have d19 : W1.cell? ⟨w.heap.size, 19, none⟩ = some (.int .i64 (m.n 19)) := hM1.cell (i := 19) (by decide)
  have d20 : W1.cell? ⟨w.heap.size, 20, none⟩ = some (.int .i64 (m.n 20)) := hM1.cell (i := 20) (by decide)
  have d21 : W1.cell? ⟨w.heap.size, 21, none⟩ = some (.int .i64 (m.n 21)) := hM1.cell (i := 21) (by decide)
  have d10 : W1.cell? ⟨w.heap.size, 10, none⟩ = some (.slice va (m.s 10).length vc) := hM1.cell (i := 10) (by decide)
  have d13 : W1.cell? ⟨w.heap.size, 13, none⟩ = some (.string (strL (m.s 13))) := hM1.cell (i := 13) (by decide)
  have d14 : W1.cell? ⟨w.heap.size, 14, none⟩ = some (.string (strL (m.s 14))) := hM1.cell (i := 14) (by decide)
  have hs13 : (strL (m.s 13)).size = (m.s 13).length := strL_size _
  have hs14 : (strL (m.s 14)).size = (m.s 14).length := strL_size _
  have hl10 := hA.len 10
  generalize m.n 1 = n1 at *
  generalize m.n 2 = n2 at *
  generalize m.n 3 = n3 at *
  generalize m.n 4 = n4 at *
  generalize m.n 5 = n5 at *
  generalize m.n 6 = n6 at *
  generalize m.n 7 = n7 at *
  generalize m.n 8 = n8 at *
  generalize m.n 9 = n9 at *
  generalize m.n 11 = n11 at *
  generalize m.n 12 = n12 at *
  generalize m.n 15 = n15 at *
  generalize m.n 16 = n16 at *
  generalize m.n 17 = n17 at *
  generalize m.n 18 = n18 at *
  generalize m.n 19 = n19 at *
  generalize m.n 20 = n20 at *
  generalize m.n 21 = n21 at *
  generalize (m.s 10).length = l10 at *
  generalize (m.s 13).length = l13 at *
  generalize (m.s 14).length = l14 at *
  generalize strL (m.s 13) = S13 at *
  generalize strL (m.s 14) = S14 at *
  obtain ⟨W2, HW2⟩ : ∃ W, Hid (W1.alloc (.cells #[.int .u64 n4, .int .u64 n5, .int .u64 n6, .int .u64 n7, .int .u64 n9, .int .u64 n12, .int .u64 n16, .int .u64 n17] 29) = W) := ⟨_, rfl⟩
  have s2 : W1.Since W1.heap.size W2 := by rw [← HW2.out]; exact (World.Since.refl _ _).alloc (Nat.le_refl _) _
  have HUP : Hid (Calls Tryz.prog 53 #[.int .u64 1099511627776, .slice (some ⟨W1.heap.size, 0, none⟩) 8 8] W2 fun e w' => e = .returned (.bool B3) ∧ w' = W2) := by
    refine upTo_any 1099511627776 W1.heap.size 8 (fun j => [n4, n5, n6, n7, n9, n12, n16, n17].getD j 0) W2 (by decide) (by rw [← HW2.out]; exact own8 W1 _ _ _ _ _ _ _ _) B3 ?_
    rw [b3, decide_eq_true_iff]
    constructor
    · rintro ⟨h0, h1, h2, h3, h4, h5, h6, h7⟩ j hj
      match j, hj with
      | 0, _ => exact h0
      | 1, _ => exact h1
      | 2, _ => exact h2
      | 3, _ => exact h3
      | 4, _ => exact h4
      | 5, _ => exact h5
      | 6, _ => exact h6
      | 7, _ => exact h7
    · intro h
      exact ⟨h 0 (by decide), h 1 (by decide), h 2 (by decide), h 3 (by decide), h 4 (by decide), h 5 (by decide), h 6 (by decide), h 7 (by decide)⟩
  have HS2 : Hid (w.Since w.heap.size W2) := s1.trans (since_mono s2 s1.size)
  have g8 := cell_later s2 d8
  have g10 := cell_later s2 d10
  have g13 := cell_later s2 d13
  have g14 := cell_later s2 d14
  have g15 := cell_later s2 d15
  have g18 := cell_later s2 d18
  have g19 := cell_later s2 d19
  have g20 := cell_later s2 d20
  have g21 := cell_later s2 d21
  have HB1 := hide b1
  have HB2 := hide b2
  have HB4 := hide b4
  have HB5 := hide b5
  have HB6 := hide b6
  have HB7 := hide b7
  have HB8 := hide b8
  clear b1 b2 b3 b4 b5 b6 b7 b8 s1 s2 hM1 hA
  unfold mgV
  rw [HMM.out]
  go_enter Tryz.func30, Tryz.ntmps30
  go_upto_region 1 with fail
  rw [HW1.out]
  go_cut [3] from 10 to 31 (fun s wx => s = .bool B1 ∧ W1 = wx)
  case first =>
    by_cases h0 : 0 ≤ n1
    · have x0 : n1 ≥ 0 := by omega
      have y0 : decide (0 ≤ n1) = true := by simp; omega
      by_cases h1 : n1 < 9
      · have x1 : n1 < 9 := by omega
        have y1 : decide (n1 < 9) = true := by simp; omega
        by_cases h2 : 0 ≤ n2
        · have x2 : n2 ≥ 0 := by omega
          have y2 : decide (0 ≤ n2) = true := by simp; omega
          by_cases h3 : n2 < 9
          · have x3 : n2 < 9 := by omega
            have y3 : decide (n2 < 9) = true := by simp; omega
            have e : B1 = true := by rw [HB1.out]; exact decide_eq_true ⟨h0, h1, h2, h3⟩
            subst e
            go_wp2_with fail
            go_meet
            case rel => go_light; exact ⟨rfl, rfl⟩
          · have x3 : ¬ n2 < 9 := by omega
            have y3 : decide (n2 < 9) = false := by simp; omega
            have e : B1 = false := by rw [HB1.out]; exact decide_eq_false (fun hh => by omega)
            subst e
            go_wp2_with fail
            go_meet
            case rel => go_light; exact ⟨rfl, rfl⟩
        · have x2 : ¬ n2 ≥ 0 := by omega
          have y2 : decide (0 ≤ n2) = false := by simp; omega
          have e : B1 = false := by rw [HB1.out]; exact decide_eq_false (fun hh => by omega)
          subst e
          go_wp2_with fail
          go_meet
          case rel => go_light; exact ⟨rfl, rfl⟩
      · have x1 : ¬ n1 < 9 := by omega
        have y1 : decide (n1 < 9) = false := by simp; omega
        have e : B1 = false := by rw [HB1.out]; exact decide_eq_false (fun hh => by omega)
        subst e
        go_wp2_with fail
        go_meet
        case rel => go_light; exact ⟨rfl, rfl⟩
    · have x0 : ¬ n1 ≥ 0 := by omega
      have y0 : decide (0 ≤ n1) = false := by simp; omega
      have e : B1 = false := by rw [HB1.out]; exact decide_eq_false (fun hh => by omega)
      subst e
      go_wp2_with fail
      go_meet
      case rel => go_light; exact ⟨rfl, rfl⟩
  obtain ⟨rfl, rfl⟩ := hcut
  go_upto_region 2 with fail
  go_cut [4] from 32 to 51 (fun s wx => s = .bool B2 ∧ W1 = wx)
  case first =>
    by_cases h0 : 0 ≤ n3
    · have x0 : n3 ≥ 0 := by omega
      have y0 : decide (0 ≤ n3) = true := by simp; omega
      by_cases h1 : n3 < 8
      · have x1 : n3 < 8 := by omega
        have y1 : decide (n3 < 8) = true := by simp; omega
        by_cases h2 : 0 ≤ n11
        · have x2 : n11 ≥ 0 := by omega
          have y2 : decide (0 ≤ n11) = true := by simp; omega
          by_cases h3 : n11 < 8
          · have x3 : n11 < 8 := by omega
            have y3 : decide (n11 < 8) = true := by simp; omega
            have e : B2 = true := by rw [HB2.out]; exact decide_eq_true ⟨h0, h1, h2, h3⟩
            subst e
            go_wp2_with fail
            go_meet
            case rel => go_light; exact ⟨rfl, rfl⟩
          · have x3 : ¬ n11 < 8 := by omega
            have y3 : decide (n11 < 8) = false := by simp; omega
            have e : B2 = false := by rw [HB2.out]; exact decide_eq_false (fun hh => by omega)
            subst e
            go_wp2_with fail
            go_meet
            case rel => go_light; exact ⟨rfl, rfl⟩
        · have x2 : ¬ n11 ≥ 0 := by omega
          have y2 : decide (0 ≤ n11) = false := by simp; omega
          have e : B2 = false := by rw [HB2.out]; exact decide_eq_false (fun hh => by omega)
          subst e
          go_wp2_with fail
          go_meet
          case rel => go_light; exact ⟨rfl, rfl⟩
      · have x1 : ¬ n3 < 8 := by omega
        have y1 : decide (n3 < 8) = false := by simp; omega
        have e : B2 = false := by rw [HB2.out]; exact decide_eq_false (fun hh => by omega)
        subst e
        go_wp2_with fail
        go_meet
        case rel => go_light; exact ⟨rfl, rfl⟩
    · have x0 : ¬ n3 ≥ 0 := by omega
      have y0 : decide (0 ≤ n3) = false := by simp; omega
      have e : B2 = false := by rw [HB2.out]; exact decide_eq_false (fun hh => by omega)
      subst e
      go_wp2_with fail
      go_meet
      case rel => go_light; exact ⟨rfl, rfl⟩
  obtain ⟨rfl, rfl⟩ := hcut
  go_upto_region 3 with fail
  go_wp2_with fail
  rw [HW2.out]
  refine HUP.out.mono ?_
  rintro e w3 ⟨rfl, e3⟩
  rw [e3]
  clear e3 HUP d1 d2 d3 d4 d5 d6 d7 d8 d9 d10 d11 d12 d13 d14 d15 d16 d17 d18 d19 d20 d21
  go_upto_region 4 with fail
  go_cut [6] from 74 to 81 (fun s wx => s = .bool B4 ∧ W2 = wx)
  case first =>
    by_cases h0 : 0 ≤ n8
    · have x0 : n8 ≥ 0 := by omega
      have y0 : decide (0 ≤ n8) = true := by simp; omega
      by_cases h1 : n8 ≤ 1025
      · have x1 : n8 ≤ 1025 := by omega
        have y1 : decide (n8 ≤ 1025) = true := by simp; omega
        have e : B4 = true := by rw [HB4.out]; exact decide_eq_true ⟨h0, h1⟩
        subst e
        go_wp2_with fail
        go_meet
        case rel => go_light; exact ⟨rfl, rfl⟩
      · have x1 : ¬ n8 ≤ 1025 := by omega
        have y1 : decide (n8 ≤ 1025) = false := by simp; omega
        have e : B4 = false := by rw [HB4.out]; exact decide_eq_false (fun hh => by omega)
        subst e
        go_wp2_with fail
        go_meet
        case rel => go_light; exact ⟨rfl, rfl⟩
    · have x0 : ¬ n8 ≥ 0 := by omega
      have y0 : decide (0 ≤ n8) = false := by simp; omega
      have e : B4 = false := by rw [HB4.out]; exact decide_eq_false (fun hh => by omega)
      subst e
      go_wp2_with fail
      go_meet
      case rel => go_light; exact ⟨rfl, rfl⟩
  obtain ⟨rfl, rfl⟩ := hcut
  go_upto_region 5 with fail
  go_cut [7] from 82 to 97 (fun s wx => s = .bool B5 ∧ W2 = wx)
  case first =>
    by_cases h0 : l10 ≤ 16384
    · have x0 : (l10 : Int) ≤ 16384 := by omega
      have y0 : decide ((l10 : Int) ≤ 16384) = true := by simp; omega
      by_cases h1 : l13 ≤ 64
      · have x1 : (l13 : Int) ≤ 64 := by omega
        have y1 : decide ((l13 : Int) ≤ 64) = true := by simp; omega
        by_cases h2 : l14 ≤ 64
        · have x2 : (l14 : Int) ≤ 64 := by omega
          have y2 : decide ((l14 : Int) ≤ 64) = true := by simp; omega
          have e : B5 = true := by rw [HB5.out]; exact decide_eq_true ⟨h0, h1, h2⟩
          subst e
          go_wp2_with fail
          go_meet
          case rel => go_light; exact ⟨rfl, rfl⟩
        · have x2 : ¬ (l14 : Int) ≤ 64 := by omega
          have y2 : decide ((l14 : Int) ≤ 64) = false := by simp; omega
          have e : B5 = false := by rw [HB5.out]; exact decide_eq_false (fun hh => by omega)
          subst e
          go_wp2_with fail
          go_meet
          case rel => go_light; exact ⟨rfl, rfl⟩
      · have x1 : ¬ (l13 : Int) ≤ 64 := by omega
        have y1 : decide ((l13 : Int) ≤ 64) = false := by simp; omega
        have e : B5 = false := by rw [HB5.out]; exact decide_eq_false (fun hh => by omega)
        subst e
        go_wp2_with fail
        go_meet
        case rel => go_light; exact ⟨rfl, rfl⟩
    · have x0 : ¬ (l10 : Int) ≤ 16384 := by omega
      have y0 : decide ((l10 : Int) ≤ 16384) = false := by simp; omega
      have e : B5 = false := by rw [HB5.out]; exact decide_eq_false (fun hh => by omega)
      subst e
      go_wp2_with fail
      go_meet
      case rel => go_light; exact ⟨rfl, rfl⟩
  obtain ⟨rfl, rfl⟩ := hcut
  go_upto_region 6 with fail
  go_cut [8] from 98 to 125 (fun s wx => s = .bool B6 ∧ W2 = wx)
  case first =>
    by_cases h0 : 0 ≤ n18
    · have x0 : n18 ≥ 0 := by omega
      have y0 : decide (0 ≤ n18) = true := by simp; omega
      by_cases h1 : n18 ≤ 3
      · have x1 : n18 ≤ 3 := by omega
        have y1 : decide (n18 ≤ 3) = true := by simp; omega
        by_cases h2 : 0 ≤ n19
        · have x2 : n19 ≥ 0 := by omega
          have y2 : decide (0 ≤ n19) = true := by simp; omega
          by_cases h3 : n19 < 8
          · have x3 : n19 < 8 := by omega
            have y3 : decide (n19 < 8) = true := by simp; omega
            by_cases h4 : 0 ≤ n20
            · have x4 : n20 ≥ 0 := by omega
              have y4 : decide (0 ≤ n20) = true := by simp; omega
              by_cases h5 : n20 ≤ 4
              · have x5 : n20 ≤ 4 := by omega
                have y5 : decide (n20 ≤ 4) = true := by simp; omega
                have e : B6 = true := by rw [HB6.out]; exact decide_eq_true ⟨h0, h1, h2, h3, h4, h5⟩
                subst e
                go_wp2_with fail
                go_meet
                case rel => go_light; exact ⟨rfl, rfl⟩
              · have x5 : ¬ n20 ≤ 4 := by omega
                have y5 : decide (n20 ≤ 4) = false := by simp; omega
                have e : B6 = false := by rw [HB6.out]; exact decide_eq_false (fun hh => by omega)
                subst e
                go_wp2_with fail
                go_meet
                case rel => go_light; exact ⟨rfl, rfl⟩
            · have x4 : ¬ n20 ≥ 0 := by omega
              have y4 : decide (0 ≤ n20) = false := by simp; omega
              have e : B6 = false := by rw [HB6.out]; exact decide_eq_false (fun hh => by omega)
              subst e
              go_wp2_with fail
              go_meet
              case rel => go_light; exact ⟨rfl, rfl⟩
          · have x3 : ¬ n19 < 8 := by omega
            have y3 : decide (n19 < 8) = false := by simp; omega
            have e : B6 = false := by rw [HB6.out]; exact decide_eq_false (fun hh => by omega)
            subst e
            go_wp2_with fail
            go_meet
            case rel => go_light; exact ⟨rfl, rfl⟩
        · have x2 : ¬ n19 ≥ 0 := by omega
          have y2 : decide (0 ≤ n19) = false := by simp; omega
          have e : B6 = false := by rw [HB6.out]; exact decide_eq_false (fun hh => by omega)
          subst e
          go_wp2_with fail
          go_meet
          case rel => go_light; exact ⟨rfl, rfl⟩
      · have x1 : ¬ n18 ≤ 3 := by omega
        have y1 : decide (n18 ≤ 3) = false := by simp; omega
        have e : B6 = false := by rw [HB6.out]; exact decide_eq_false (fun hh => by omega)
        subst e
        go_wp2_with fail
        go_meet
        case rel => go_light; exact ⟨rfl, rfl⟩
    · have x0 : ¬ n18 ≥ 0 := by omega
      have y0 : decide (0 ≤ n18) = false := by simp; omega
      have e : B6 = false := by rw [HB6.out]; exact decide_eq_false (fun hh => by omega)
      subst e
      go_wp2_with fail
      go_meet
      case rel => go_light; exact ⟨rfl, rfl⟩
  obtain ⟨rfl, rfl⟩ := hcut
  go_upto_region 7 with fail
  go_cut [9] from 126 to 138 (fun s wx => s = .bool B7 ∧ W2 = wx)
  case first =>
    by_cases h0 : n21 = 0
    · have e : B7 = true := by rw [HB7.out]; exact decide_eq_true (.inl h0)
      subst e
      subst h0
      go_wp2_with fail
      go_meet
      case rel => go_light; exact ⟨rfl, rfl⟩
    · have x0 : (n21 == 0) = false := by simp [h0]
      by_cases h1 : 300 ≤ n21
      · have x1 : n21 ≥ 300 := h1
        have y1 : decide (300 ≤ n21) = true := by simp [h1]
        by_cases h2 : n21 ≤ 307
        · have y2 : decide (n21 ≤ 307) = true := by simp [h2]
          have e : B7 = true := by rw [HB7.out]; exact decide_eq_true (.inr ⟨h1, h2⟩)
          subst e
          go_wp2_with fail
          go_meet
          case rel => go_light; exact ⟨rfl, rfl⟩
        · have y2 : decide (n21 ≤ 307) = false := by simp [h2]
          have e : B7 = false := by rw [HB7.out]; exact decide_eq_false (fun hh => by omega)
          subst e
          go_wp2_with fail
          go_meet
          case rel => go_light; exact ⟨rfl, rfl⟩
      · have x1 : ¬ n21 ≥ 300 := h1
        have y1 : decide (300 ≤ n21) = false := by simp [h1]
        have e : B7 = false := by rw [HB7.out]; exact decide_eq_false (fun hh => by omega)
        subst e
        go_wp2_with fail
        go_meet
        case rel => go_light; exact ⟨rfl, rfl⟩
  obtain ⟨rfl, rfl⟩ := hcut
  clear HB1 HB2 HB4 HB5 HB6 HB7
  go_upto_region 8 with fail
  cases B1 with
  | false =>
    go_wp2_with fail
    go_ret
    exact ⟨rfl, HS2.out⟩
  | true =>
    cases B2 with
    | false =>
      go_wp2_with fail
      go_ret
      exact ⟨rfl, HS2.out⟩
    | true =>
      cases B3 with
      | false =>
        go_wp2_with fail
        go_ret
        exact ⟨rfl, HS2.out⟩
      | true =>
        cases B4 with
        | false =>
          go_wp2_with fail
          go_ret
          exact ⟨rfl, HS2.out⟩
        | true =>
          cases B5 with
          | false =>
            go_wp2_with fail
            go_ret
            exact ⟨rfl, HS2.out⟩
          | true =>
            cases B6 with
            | false =>
              go_wp2_with fail
              go_ret
              exact ⟨rfl, HS2.out⟩
            | true =>
              cases B7 with
              | false =>
                go_wp2_with fail
                go_ret
                exact ⟨rfl, HS2.out⟩
              | true =>
                by_cases h8 : n15 ≤ 9007199254740992
                · have y8 : decide (n15 ≤ 9007199254740992) = true := by simp [h8]
                  have e : B8 = true := by rw [HB8.out]; exact decide_eq_true h8
                  subst e
                  go_wp2_with fail
                  go_ret
                  exact ⟨rfl, HS2.out⟩
                · have y8 : decide (n15 ≤ 9007199254740992) = false := by simp [h8]
                  have e : B8 = false := by rw [HB8.out]; exact decide_eq_false h8
                  subst e
                  go_wp2_with fail
                  go_ret
                  exact ⟨rfl, HS2.out⟩
end Go.Proofs.YtonpmabdjngdcaaGreatDoor
