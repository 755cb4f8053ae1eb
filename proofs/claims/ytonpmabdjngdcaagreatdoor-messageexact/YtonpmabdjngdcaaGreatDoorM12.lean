/- Own texts, joined: RefO5, RefB5, RefO6, RefB6, RefO7, RefB7, RefO8, RefB8. -/
import Derived.Test.YtonpmabdjngdcaaGreatDoorM8
import Derived.Test.YtonpmabdjngdcaaGreatDoorM11

/- The document's Only: kind 5. -/
namespace Go.Proofs.YtonpmabdjngdcaaGreatDoor
open Go.RowKit
set_option maxRecDepth 100000

set_option maxHeartbeats 8000000 in
theorem only5 (m : Mg) (va : Option Addr) (vc : Nat) (w : World) (hA : MgA w m va vc) (h0 : m.n 0 = 5) :
    Calls Tryz.prog 29 #[mgV m va vc] w fun e w' => e = .returned (mgV (onlyG m) none 0) ∧ w.Since w.heap.size w' := by
  have hkt : (m.n 0).toNat = 5 := by rw [h0]; rfl
  obtain ⟨MM, HMM⟩ : ∃ x, Hid ((mgL m va vc).toArray = x) := ⟨_, rfl⟩
  obtain ⟨W1, HW1⟩ : ∃ W, Hid (w.alloc (.cells MM 37) = W) := ⟨_, rfl⟩
  have s1 : w.Since w.heap.size W1 := by rw [← HW1.out]; exact (World.Since.refl _ _).alloc (Nat.le_refl _) _
  have z1 : W1.heap.size = w.heap.size + 1 := by rw [← HW1.out]; simp
  have hM1 : MsgIs W1 w.heap.size m va vc := by rw [← HW1.out, ← HMM.out]; exact hA.is
  obtain ⟨W2, HW2⟩ : ∃ W, Hid (W1.alloc mgZ = W) := ⟨_, rfl⟩
  have s2 : W1.Since W1.heap.size W2 := by rw [← HW2.out]; exact (World.Since.refl _ _).alloc (Nat.le_refl _) _
  have z2 : W2.heap.size = w.heap.size + 1 + 1 := by rw [← HW2.out, ← z1]; simp
  have r2 : W2.rowIs (w.heap.size + 1) 37 22 (mgCell mg0 none 0) := by rw [← z1, ← HW2.out]; exact mgZ_row W1
  have hM2 := hM1.since s2
  have c0 : W2.cell? ⟨w.heap.size, 0, none⟩ = some (.int .i64 (m.n 0)) := hM2.cell (i := 0) (by decide)
  have c1 : W2.cell? ⟨w.heap.size, 1, none⟩ = some (.int .i64 (m.n 1)) := hM2.cell (i := 1) (by decide)
  have c2 : W2.cell? ⟨w.heap.size, 2, none⟩ = some (.int .i64 (m.n 2)) := hM2.cell (i := 2) (by decide)
  have c3 : W2.cell? ⟨w.heap.size, 3, none⟩ = some (.int .i64 (m.n 3)) := hM2.cell (i := 3) (by decide)
  have s2z : W2.Since W2.heap.size (W2.alloc mgZ) := (World.Since.refl _ _).alloc (Nat.le_refl _) _
  obtain ⟨W3, HW3, r3, h3, z3', b3, o3, t3, p3⟩ := mg_stored (mgZ_row W2) (takeL m hds mg0) none 0
  have z3 : W3.heap.size = w.heap.size + 1 + 1 + 1 := by rw [z3', ← z2]; simp
  have s3 : W2.Since W2.heap.size W3 := ⟨o3.trans s2z.os, t3.trans s2z.tape, p3.trans s2z.output, by rw [z3']; exact s2z.size, fun k hk => (b3 k (by omega)).trans (s2z.block k hk)⟩
  have HT3 : Hid ((W2.alloc mgZ).there W2.heap.size 0 (mgL (takeL m hds mg0) none 0).toArray.size) := by
    have e : (mgL (takeL m hds mg0) none 0).toArray.size = 22 := by rw [List.size_toArray, mgL_len]
    show World.there _ _ _ _
    rw [e]
    exact row_there (mgZ_row W2)
  have HRG : Hid (W2.rangeAt w.heap.size 0 [.int .i64 (m.n 0), .int .i64 (m.n 1), .int .i64 (m.n 2), .int .i64 (m.n 3)]) := fun j v hv => by
    match j, hv with
    | 0, hv => rw [← Option.some.inj hv]; exact c0
    | 1, hv => rw [← Option.some.inj hv]; exact c1
    | 2, hv => rw [← Option.some.inj hv]; exact c2
    | 3, hv => rw [← Option.some.inj hv]; exact c3
    | n + 4, hv => simp at hv
  rw [z2] at r3
  obtain ⟨kb, Hkb⟩ : ∃ x, Hid (w.heap.size + 1 + 1 = x) := ⟨_, rfl⟩
  have hkb : kb = w.heap.size + 1 + 1 := Hkb.out.symm
  rw [Hkb.out] at r3
  have hM3 := hM2.since s3
  have hR3 := row_since r2 s3
  have sw3 : w.Since w.heap.size W3 := (s1.trans (since_mono s2 (by omega))).trans (since_mono s3 (by omega))
  have HMC : Hid (∀ X, But kb W3 X → MsgIs X w.heap.size m va vc) := fun X hX => hM3.keep (hX.block _ (by omega) (by omega)) (fun q e h0 => hX.block _ (hM3.lt q e h0) (by have := hA.lt q e h0; omega)) hX.size
  have HRR : Hid (∀ X, But kb W3 X → X.rowIs (w.heap.size + 1) 37 22 (mgCell mg0 none 0)) := fun X hX => hR3.of_block (hX.block _ (by omega) (by omega))
  have HSS : Hid (∀ X, But kb W3 X → w.Since w.heap.size X) := fun X hX => ⟨hX.os.trans sw3.os, hX.tape.trans sw3.tape, hX.output.trans sw3.output, Nat.le_trans sw3.size hX.size, fun q hq => (hX.block q (by omega) (by omega)).trans (sw3.block q hq)⟩
  have ck : W3.cell? ⟨w.heap.size, 0, none⟩ = some (.int .i64 5) := by
    have : W3.cell? ⟨w.heap.size, 0, none⟩ = some (.int .i64 (m.n 0)) := hM3.cell (i := 0) (by decide)
    rw [this, h0]
  have HB : Hid (But kb W3 W3) := But.of_since (World.Since.refl _ _)
  have HRW : Hid (W3.rowIs kb 37 22 (mgCell (takeL m hds mg0) none 0)) := r3
  have HTK : Hid ((((takeL m hds mg0).setN 5 (m.n 5)).setN 6 (m.n 6)) = onlyG m) := by
    have hfd : fdsK 5 = [.var 5 1099511627776, .var 6 1099511627776] := by kernel_rfl
    show _ = takeL m (fdsK (m.n 0).toNat) (takeL m hds mg0)
    rw [hkt, hfd]
    generalize takeL m hds mg0 = q
    rfl
  clear hA hM1 s1 s2 s3 hM2 hM3 r2 r3 hR3 sw3 h0 hkt h3 z3' b3 o3 t3 p3 s2z
  unfold mgZ at HW2
  unfold mgV
  rw [HMM.out]
  go_enter Tryz.func29, Tryz.ntmps29
  go_upto_region 1 with fail
  rw [HW1.out, HW2.out]
  try rw [z1]
  refine wp_region_lit ?_
  refine wpList_plain rfl fun _ hK => op_run (.pointer (some ⟨w.heap.size, 0, none⟩)) (by kernel_rfl) (hK _ _ ?_)
  refine wpList_load_mid rfl 28 (.tmp 4) rfl w.heap.size 0 rfl _ _ HRG.out Tryz.underlying28 rfl infoHd ?_
  refine wpList_plain rfl fun _ hK => op_run (mgV (takeL m hds mg0) none 0) (by rw [mgV_head]; kernel_rfl) (hK _ _ ?_)
  refine wpList_plain rfl fun _ hK => op_runW (w' := W2.alloc mgZ) (.pointer (some ⟨W2.heap.size, 0, none⟩)) (by kernel_rfl) (hK _ _ ?_)
  refine wpList_store_mid rfl 37 (.tmp 3) (.tmp 6) rfl W2.heap.size 0 (mgL (takeL m hds mg0) none 0).toArray rfl rfl HT3.out (infoMgA _ _ _) (mg_all _ _ _) ?_
  rw [show (mgL (takeL m hds mg0) none 0).toArray.toList = mgL (takeL m hds mg0) none 0 from rfl, HW3.out]
  rw [z2, Hkb.out]
  clear c0 c1 c2 c3 HW1 HW2 HW3 z1 z2 z3 hkb HT3 HRG
  go_upto_region 17 with fail
  clear ck
  have hM := HMC.out _ HB.out
  have c5 : W3.cell? ⟨w.heap.size, 5, none⟩ = some (.int .u64 (m.n 5)) := hM.cell (i := 5) (by decide)
  have d5 := HRW.out.cell (i := 5) (by decide)
  have f5 := HRW.out.frozen 5
  have d5' : ∃ v, W3.cell? ⟨kb, 5, none⟩ = some v := ⟨_, d5⟩
  obtain ⟨v5, g5⟩ := d5'
  clear d5
  have c6 : W3.cell? ⟨w.heap.size, 6, none⟩ = some (.int .u64 (m.n 6)) := hM.cell (i := 6) (by decide)
  have d6 := HRW.out.cell (i := 6) (by decide)
  have f6 := HRW.out.frozen 6
  have d6' : ∃ v, W3.cell? ⟨kb, 6, none⟩ = some v := ⟨_, d6⟩
  obtain ⟨v6, g6⟩ := d6'
  clear d6
  obtain ⟨W4, HW4⟩ : ∃ W, Hid (((W3.setCell ⟨kb, 5, none⟩ (.int .u64 (m.n 5))).setCell ⟨kb, 6, none⟩ (.int .u64 (m.n 6))) = W) := ⟨_, rfl⟩
  have HR4 : Hid (W4.rowIs kb 37 22 (mgCell (((takeL m hds mg0).setN 5 (m.n 5)).setN 6 (m.n 6)) none 0)) := by rw [← HW4.out]; exact (row_setN (row_setN HRW.out 5 (m.n 5) (by decide) (by decide) (by decide)) 6 (m.n 6) (by decide) (by decide) (by decide))
  have HB4 : Hid (But kb W3 W4) := by rw [← HW4.out]; exact ((HB.out.setCell 5 _).setCell 6 _)
  clear hM HRW
  go_upto_region 46 with fail
  rw [HW4.out]
  clear HW4 c5 g5 f5 c6 g6 f6
  have HR9 : Hid (W4.rowIs kb 37 22 (mgCell (onlyG m) none 0)) := by rw [← HTK.out]; exact HR4.out
  have HH9 := hide (row_heap HR9.out)
  obtain ⟨Z, HZ, rZ, hZ, zZ, bZ, oZ, tZ, pZ⟩ := mg_stored (HRR.out _ HB4.out) (onlyG m) none 0
  have HT9 : Hid (W4.there (w.heap.size + 1) 0 (mgL (onlyG m) none 0).toArray.size) := by
    have e : (mgL (onlyG m) none 0).toArray.size = 22 := by rw [List.size_toArray, mgL_len]
    show World.there _ _ _ _
    rw [e]
    exact row_there (HRR.out _ HB4.out)
  have HE : Hid (w.Since w.heap.size Z) := by
    have a := HSS.out _ HB4.out
    exact ⟨oZ.trans a.os, tZ.trans a.tape, pZ.trans a.output, by rw [zZ]; exact a.size, fun q hq => (bZ q (by omega)).trans (a.block q hq)⟩
  have HHZ := hide hZ
  refine wp_region_lit ?_
  refine wpList_load_row rfl 37 _ rfl kb rfl _ (mgL (onlyG m) none 0).toArray (0, 0) _ HH9.out Tryz.underlying37 rfl (infoMgA _ _ _) ?_
  refine wpList_store_mid rfl 37 _ _ rfl (w.heap.size + 1) 0 (mgL (onlyG m) none 0).toArray rfl rfl HT9.out (infoMgA _ _ _) (mg_all _ _ _) ?_
  rw [show (mgL (onlyG m) none 0).toArray.toList = mgL (onlyG m) none 0 from rfl, HZ.out]
  clear HZ rZ hZ zZ bZ oZ tZ pZ HT9 HH9 HR9
  go_wp2_with fail
  exact bodyPost_ret_by (results_cell_row rfl _ _ (w.heap.size + 1) 37 _ (0, 0) _ rfl HHZ.out Tryz.underlying37 rfl (infoMgA _ _ _)) rfl ⟨rfl, HE.out⟩
end Go.Proofs.YtonpmabdjngdcaaGreatDoor

/- The document's Body. -/
namespace Go.Proofs.YtonpmabdjngdcaaGreatDoor
open Go.RowKit
set_option maxRecDepth 100000

set_option maxHeartbeats 8000000 in
theorem body5 (m : Mg) (va : Option Addr) (vc : Nat) (w : World) (hA : MgA w m va vc) (h0 : m.n 0 = 5) (hm : mayM m = true) :
    Calls Tryz.prog 31 #[mgV m va vc] w fun e w' => ∃ v, e = .returned v ∧ OwnL w' w.heap.size v (bodyG m) ∧ w.Since w.heap.size w' := by
  have hfd : fdsK 5 = [.var 5 1099511627776, .var 6 1099511627776] := by kernel_rfl
  have hmU := (Bool.and_eq_true_iff.1 hm).2
  have hkt : (m.n 0).toNat = 5 := by rw [h0]; rfl
  have hf := fdsK_fits hmU
  rw [hkt, hfd] at hf
  have hh := of_decide_eq_true (Bool.and_eq_true_iff.1 hm).1
  obtain ⟨n1, e1, l1⟩ : ∃ n : Nat, m.n 1 = (n : Int) ∧ n < 9 := ⟨(m.n 1).toNat, by omega, by omega⟩
  obtain ⟨n2, e2, l2⟩ : ∃ n : Nat, m.n 2 = (n : Int) ∧ n < 9 := ⟨(m.n 2).toNat, by omega, by omega⟩
  obtain ⟨n3, e3, l3⟩ : ∃ n : Nat, m.n 3 = (n : Int) ∧ n < 8 := ⟨(m.n 3).toNat, by omega, by omega⟩
  obtain ⟨N5, E5, L5⟩ : ∃ n : Nat, m.n 5 = (n : Int) ∧ n < 18446744073709551616 := by
    obtain ⟨f1, f2, f3, f4⟩ := hf (.var 5 1099511627776) (by simp)
    exact ⟨(m.n 5).toNat, by omega, by omega⟩
  obtain ⟨N6, E6, L6⟩ : ∃ n : Nat, m.n 6 = (n : Int) ∧ n < 18446744073709551616 := by
    obtain ⟨f1, f2, f3, f4⟩ := hf (.var 6 1099511627776) (by simp)
    exact ⟨(m.n 6).toNat, by omega, by omega⟩
  have HBD : Hid ((([5, n1, n2, n3] ++ vl 9 N5) ++ vl 9 N6) = bodyG m) := by
    show _ = putL m hds ++ putL m (fdsK (m.n 0).toNat)
    rw [hkt, hfd]
    show _ = (fl 1 (m.n 0).toNat ++ (fl 1 (m.n 1).toNat ++ (fl 1 (m.n 2).toNat ++ (fl 1 (m.n 3).toNat ++ [])))) ++ putL m [.var 5 1099511627776, .var 6 1099511627776]
    rw [hkt, e1, e2, e3]
    simp only [putL, Fd.put, Int.toNat_natCast, E5, E6, List.append_nil]
    have f1 : ∀ x, x < 256 → fl 1 x = [x] := fun x hx => by
      show [x / 256 ^ (1 - 1 - 0) % 256] = [x]
      simp; omega
    rw [f1 5 (by decide), f1 n1 (by omega), f1 n2 (by omega), f1 n3 (by omega)]
    simp only [List.cons_append, List.nil_append]
  have y5 := vl_len 9 N5
  have y6 := vl_len 9 N6
  obtain ⟨MM, HMM⟩ : ∃ x, Hid ((mgL m va vc).toArray = x) := ⟨_, rfl⟩
  obtain ⟨W1, HW1⟩ : ∃ W, Hid (w.alloc (.cells MM 37) = W) := ⟨_, rfl⟩
  have s1 : w.Since w.heap.size W1 := by rw [← HW1.out]; exact (World.Since.refl _ _).alloc (Nat.le_refl _) _
  have z1 : W1.heap.size = w.heap.size + 1 := by rw [← HW1.out]; simp
  have hM1 : MsgIs W1 w.heap.size m va vc := by rw [← HW1.out, ← HMM.out]; exact hA.is
  have c0 : W1.cell? ⟨w.heap.size, 0, none⟩ = some (.int .i64 5) := by
    have : W1.cell? ⟨w.heap.size, 0, none⟩ = some (.int .i64 (m.n 0)) := hM1.cell (i := 0) (by decide)
    rw [this, h0]
  have c1 : W1.cell? ⟨w.heap.size, 1, none⟩ = some (.int .i64 (n1 : Nat)) := by
    have : W1.cell? ⟨w.heap.size, 1, none⟩ = some (.int .i64 (m.n 1)) := hM1.cell (i := 1) (by decide)
    rw [this, e1]
  have c2 : W1.cell? ⟨w.heap.size, 2, none⟩ = some (.int .i64 (n2 : Nat)) := by
    have : W1.cell? ⟨w.heap.size, 2, none⟩ = some (.int .i64 (m.n 2)) := hM1.cell (i := 2) (by decide)
    rw [this, e2]
  have c3 : W1.cell? ⟨w.heap.size, 3, none⟩ = some (.int .i64 (n3 : Nat)) := by
    have : W1.cell? ⟨w.heap.size, 3, none⟩ = some (.int .i64 (m.n 3)) := hM1.cell (i := 3) (by decide)
    rw [this, e3]
  have hu1 : IntKind.u8.wrap (n1 : Int) = (n1 : Int) := by rw [IntKind.wrap_u8]; omega
  have hu2 : IntKind.u8.wrap (n2 : Int) = (n2 : Int) := by rw [IntKind.wrap_u8]; omega
  have hu3 : IntKind.u8.wrap (n3 : Int) = (n3 : Int) := by rw [IntKind.wrap_u8]; omega
  obtain ⟨W2, HW2⟩ : ∃ W, Hid (W1.alloc (.cells #[.int .u8 5, .int .u8 (n1 : Nat), .int .u8 (n2 : Nat), .int .u8 (n3 : Nat)] 5) = W) := ⟨_, rfl⟩
  have s2 : W1.Since W1.heap.size W2 := by rw [← HW2.out]; exact (World.Since.refl _ _).alloc (Nat.le_refl _) _
  have z2 : W2.heap.size = W1.heap.size + 1 := by rw [← HW2.out]; simp
  have o2 : OwnL W2 W1.heap.size (.slice (some ⟨W1.heap.size, 0, none⟩) 4 4) [5, n1, n2, n3] := by rw [← HW2.out]; exact row4 W1 5 n1 n2 n3
  obtain ⟨W3, HW3⟩ : ∃ W, Hid (W2.alloc (.cells #[.slice (some ⟨W1.heap.size, 0, none⟩) 4 4] 113) = W) := ⟨_, rfl⟩
  have s3 : W2.Since W2.heap.size W3 := by rw [← HW3.out]; exact (World.Since.refl _ _).alloc (Nat.le_refl _) _
  have r3 : W3.rowIs W2.heap.size 113 1 (fun _ => .slice (some ⟨W1.heap.size, 0, none⟩) 4 4) := by rw [← HW3.out]; exact pen_new _ _
  obtain ⟨pb, Hpb⟩ : ∃ x, Hid (W2.heap.size = x) := ⟨_, rfl⟩
  have HP : Hid (Wp W1 W3 pb [5, n1, n2, n3]) := by
    rw [← Hpb.out]
    exact ⟨s2.size, s2.trans (since_mono s3 s2.size), W1.heap.size, _, Nat.le_refl _, r3, own_since o2 s3, by show some W1.heap.size ≠ some W2.heap.size; intro e; have := Option.some.inj e; omega, by have := s3.size; omega⟩
  have HMS : Hid (∀ X l, Wp W1 X pb l → MsgIs X w.heap.size m va vc) := fun X l hX => hM1.since hX.2.1
  have HSW := hide s1
  have c03 : W3.cell? ⟨w.heap.size, 0, none⟩ = some (.int .i64 5) := cell_later (s2.trans (since_mono s3 s2.size)) c0
  have Hz2 : Hid (w.heap.size + 1 + 1 = pb) := by show _ = _; rw [← Hpb.out, z2, z1]
  have HW3' : Hid (W2.alloc (.cells #[.slice (some ⟨w.heap.size + 1, 0, none⟩) 4 4] 113) = W3) := by rw [← z1]; exact HW3.out
  clear hA hm hfd hmU hkt hf hh s1 s2 s3 r3 o2 hM1 e1 e2 e3 HW3 Hpb z2
  unfold mgV
  rw [HMM.out]
  go_enter Tryz.func31, Tryz.ntmps31
  go_upto_region 1 with fail
  rw [HW1.out]
  go_upto_region 2 with fail
  try rw [z1]
  rw [HW2.out]
  try rw [z1]
  rw [HW3'.out]
  try simp only [Hz2.out]
  clear c0 c1 c2 c3 HW1 HW2 HW3' z1
  try rw [Hz2.out]
  have cc : W3.cell? ⟨w.heap.size, 5, none⟩ = some (.int .u64 (N5 : Nat)) := by
    have h : W3.cell? ⟨w.heap.size, 5, none⟩ = some (.int .u64 (m.n 5)) := (HMS.out _ _ HP.out).cell (i := 5) (by decide)
    rw [h, E5]
  have HQ := hide (pen_number HP.out N5 (by omega) (by (first | (simp only [List.length_cons, List.length_nil]; omega) | (simp only [List.length_append, List.length_cons, List.length_nil]; omega))))
  go_wp2_with fail
  refine HQ.out.mono ?_
  rintro e w10 ⟨rfl, hX⟩
  have HP10 : Hid (Wp W1 w10 pb ([5, n1, n2, n3] ++ vl 9 N5)) := hX
  clear HQ hX cc HP c03
  have cc : w10.cell? ⟨w.heap.size, 6, none⟩ = some (.int .u64 (N6 : Nat)) := by
    have h : w10.cell? ⟨w.heap.size, 6, none⟩ = some (.int .u64 (m.n 6)) := (HMS.out _ _ HP10.out).cell (i := 6) (by decide)
    rw [h, E6]
  have HQ := hide (pen_number HP10.out N6 (by omega) (by (first | (simp only [List.length_cons, List.length_nil]; omega) | (simp only [List.length_append, List.length_cons, List.length_nil]; omega))))
  go_wp2_with fail
  refine HQ.out.mono ?_
  rintro e w11 ⟨rfl, hX⟩
  have HP11 : Hid (Wp W1 w11 pb (([5, n1, n2, n3] ++ vl 9 N5) ++ vl 9 N6)) := hX
  clear HQ hX cc HP10
  obtain ⟨B, v, hB, hI⟩ := HP11.out.2.2
  obtain ⟨xa, ln, xc, hv⟩ : ∃ xa ln xc, v = .slice xa ln xc := by
    obtain ⟨p, q, h⟩ := own_form hI.own
    exact ⟨p, _, q, h⟩
  have cc : w11.cell? ⟨pb, 0, none⟩ = some v := hI.cell.cell (i := 0) (by decide)
  have hz1 := HSW.out.size
  have HE : Hid (OwnL w11 w.heap.size v (bodyG m) ∧ w.Since w.heap.size w11) := by
    rw [← HBD.out]
    exact ⟨own_lower hI.own (by omega), HSW.out.trans (since_mono HP11.out.2.1 HSW.out.size)⟩
  subst hv
  clear hI hB HBD HMS HP11
  go_wp2_with fail
  go_ret
  exact ⟨_, rfl, HE.out⟩
end Go.Proofs.YtonpmabdjngdcaaGreatDoor

/- The document's Only: kind 6. -/
namespace Go.Proofs.YtonpmabdjngdcaaGreatDoor
open Go.RowKit
set_option maxRecDepth 100000

set_option maxHeartbeats 8000000 in
theorem only6 (m : Mg) (va : Option Addr) (vc : Nat) (w : World) (hA : MgA w m va vc) (h0 : m.n 0 = 6) :
    Calls Tryz.prog 29 #[mgV m va vc] w fun e w' => e = .returned (mgV (onlyG m) none 0) ∧ w.Since w.heap.size w' := by
  have hkt : (m.n 0).toNat = 6 := by rw [h0]; rfl
  obtain ⟨MM, HMM⟩ : ∃ x, Hid ((mgL m va vc).toArray = x) := ⟨_, rfl⟩
  obtain ⟨W1, HW1⟩ : ∃ W, Hid (w.alloc (.cells MM 37) = W) := ⟨_, rfl⟩
  have s1 : w.Since w.heap.size W1 := by rw [← HW1.out]; exact (World.Since.refl _ _).alloc (Nat.le_refl _) _
  have z1 : W1.heap.size = w.heap.size + 1 := by rw [← HW1.out]; simp
  have hM1 : MsgIs W1 w.heap.size m va vc := by rw [← HW1.out, ← HMM.out]; exact hA.is
  obtain ⟨W2, HW2⟩ : ∃ W, Hid (W1.alloc mgZ = W) := ⟨_, rfl⟩
  have s2 : W1.Since W1.heap.size W2 := by rw [← HW2.out]; exact (World.Since.refl _ _).alloc (Nat.le_refl _) _
  have z2 : W2.heap.size = w.heap.size + 1 + 1 := by rw [← HW2.out, ← z1]; simp
  have r2 : W2.rowIs (w.heap.size + 1) 37 22 (mgCell mg0 none 0) := by rw [← z1, ← HW2.out]; exact mgZ_row W1
  have hM2 := hM1.since s2
  have c0 : W2.cell? ⟨w.heap.size, 0, none⟩ = some (.int .i64 (m.n 0)) := hM2.cell (i := 0) (by decide)
  have c1 : W2.cell? ⟨w.heap.size, 1, none⟩ = some (.int .i64 (m.n 1)) := hM2.cell (i := 1) (by decide)
  have c2 : W2.cell? ⟨w.heap.size, 2, none⟩ = some (.int .i64 (m.n 2)) := hM2.cell (i := 2) (by decide)
  have c3 : W2.cell? ⟨w.heap.size, 3, none⟩ = some (.int .i64 (m.n 3)) := hM2.cell (i := 3) (by decide)
  have s2z : W2.Since W2.heap.size (W2.alloc mgZ) := (World.Since.refl _ _).alloc (Nat.le_refl _) _
  obtain ⟨W3, HW3, r3, h3, z3', b3, o3, t3, p3⟩ := mg_stored (mgZ_row W2) (takeL m hds mg0) none 0
  have z3 : W3.heap.size = w.heap.size + 1 + 1 + 1 := by rw [z3', ← z2]; simp
  have s3 : W2.Since W2.heap.size W3 := ⟨o3.trans s2z.os, t3.trans s2z.tape, p3.trans s2z.output, by rw [z3']; exact s2z.size, fun k hk => (b3 k (by omega)).trans (s2z.block k hk)⟩
  have HT3 : Hid ((W2.alloc mgZ).there W2.heap.size 0 (mgL (takeL m hds mg0) none 0).toArray.size) := by
    have e : (mgL (takeL m hds mg0) none 0).toArray.size = 22 := by rw [List.size_toArray, mgL_len]
    show World.there _ _ _ _
    rw [e]
    exact row_there (mgZ_row W2)
  have HRG : Hid (W2.rangeAt w.heap.size 0 [.int .i64 (m.n 0), .int .i64 (m.n 1), .int .i64 (m.n 2), .int .i64 (m.n 3)]) := fun j v hv => by
    match j, hv with
    | 0, hv => rw [← Option.some.inj hv]; exact c0
    | 1, hv => rw [← Option.some.inj hv]; exact c1
    | 2, hv => rw [← Option.some.inj hv]; exact c2
    | 3, hv => rw [← Option.some.inj hv]; exact c3
    | n + 4, hv => simp at hv
  rw [z2] at r3
  obtain ⟨kb, Hkb⟩ : ∃ x, Hid (w.heap.size + 1 + 1 = x) := ⟨_, rfl⟩
  have hkb : kb = w.heap.size + 1 + 1 := Hkb.out.symm
  rw [Hkb.out] at r3
  have hM3 := hM2.since s3
  have hR3 := row_since r2 s3
  have sw3 : w.Since w.heap.size W3 := (s1.trans (since_mono s2 (by omega))).trans (since_mono s3 (by omega))
  have HMC : Hid (∀ X, But kb W3 X → MsgIs X w.heap.size m va vc) := fun X hX => hM3.keep (hX.block _ (by omega) (by omega)) (fun q e h0 => hX.block _ (hM3.lt q e h0) (by have := hA.lt q e h0; omega)) hX.size
  have HRR : Hid (∀ X, But kb W3 X → X.rowIs (w.heap.size + 1) 37 22 (mgCell mg0 none 0)) := fun X hX => hR3.of_block (hX.block _ (by omega) (by omega))
  have HSS : Hid (∀ X, But kb W3 X → w.Since w.heap.size X) := fun X hX => ⟨hX.os.trans sw3.os, hX.tape.trans sw3.tape, hX.output.trans sw3.output, Nat.le_trans sw3.size hX.size, fun q hq => (hX.block q (by omega) (by omega)).trans (sw3.block q hq)⟩
  have ck : W3.cell? ⟨w.heap.size, 0, none⟩ = some (.int .i64 6) := by
    have : W3.cell? ⟨w.heap.size, 0, none⟩ = some (.int .i64 (m.n 0)) := hM3.cell (i := 0) (by decide)
    rw [this, h0]
  have HB : Hid (But kb W3 W3) := But.of_since (World.Since.refl _ _)
  have HRW : Hid (W3.rowIs kb 37 22 (mgCell (takeL m hds mg0) none 0)) := r3
  have HTK : Hid (((((takeL m hds mg0).setN 4 (m.n 4)).setN 7 (m.n 7)).setN 8 (m.n 8)) = onlyG m) := by
    have hfd : fdsK 6 = [.var 4 1099511627776, .var 7 1099511627776, .var 8 1025] := by kernel_rfl
    show _ = takeL m (fdsK (m.n 0).toNat) (takeL m hds mg0)
    rw [hkt, hfd]
    generalize takeL m hds mg0 = q
    rfl
  clear hA hM1 s1 s2 s3 hM2 hM3 r2 r3 hR3 sw3 h0 hkt h3 z3' b3 o3 t3 p3 s2z
  unfold mgZ at HW2
  unfold mgV
  rw [HMM.out]
  go_enter Tryz.func29, Tryz.ntmps29
  go_upto_region 1 with fail
  rw [HW1.out, HW2.out]
  try rw [z1]
  refine wp_region_lit ?_
  refine wpList_plain rfl fun _ hK => op_run (.pointer (some ⟨w.heap.size, 0, none⟩)) (by kernel_rfl) (hK _ _ ?_)
  refine wpList_load_mid rfl 28 (.tmp 4) rfl w.heap.size 0 rfl _ _ HRG.out Tryz.underlying28 rfl infoHd ?_
  refine wpList_plain rfl fun _ hK => op_run (mgV (takeL m hds mg0) none 0) (by rw [mgV_head]; kernel_rfl) (hK _ _ ?_)
  refine wpList_plain rfl fun _ hK => op_runW (w' := W2.alloc mgZ) (.pointer (some ⟨W2.heap.size, 0, none⟩)) (by kernel_rfl) (hK _ _ ?_)
  refine wpList_store_mid rfl 37 (.tmp 3) (.tmp 6) rfl W2.heap.size 0 (mgL (takeL m hds mg0) none 0).toArray rfl rfl HT3.out (infoMgA _ _ _) (mg_all _ _ _) ?_
  rw [show (mgL (takeL m hds mg0) none 0).toArray.toList = mgL (takeL m hds mg0) none 0 from rfl, HW3.out]
  rw [z2, Hkb.out]
  clear c0 c1 c2 c3 HW1 HW2 HW3 z1 z2 z3 hkb HT3 HRG
  go_upto_region 19 with fail
  clear ck
  have hM := HMC.out _ HB.out
  have c4 : W3.cell? ⟨w.heap.size, 4, none⟩ = some (.int .u64 (m.n 4)) := hM.cell (i := 4) (by decide)
  have d4 := HRW.out.cell (i := 4) (by decide)
  have f4 := HRW.out.frozen 4
  have d4' : ∃ v, W3.cell? ⟨kb, 4, none⟩ = some v := ⟨_, d4⟩
  obtain ⟨v4, g4⟩ := d4'
  clear d4
  obtain ⟨W4, HW4⟩ : ∃ W, Hid ((W3.setCell ⟨kb, 4, none⟩ (.int .u64 (m.n 4))) = W) := ⟨_, rfl⟩
  have HR4 : Hid (W4.rowIs kb 37 22 (mgCell ((takeL m hds mg0).setN 4 (m.n 4)) none 0)) := by rw [← HW4.out]; exact (row_setN HRW.out 4 (m.n 4) (by decide) (by decide) (by decide))
  have HB4 : Hid (But kb W3 W4) := by rw [← HW4.out]; exact (HB.out.setCell 4 _)
  clear hM HRW
  go_upto_region 20 with fail
  rw [HW4.out]
  clear HW4 c4 g4 f4
  go_upto_region 20 with fail
  have hM := HMC.out _ HB4.out
  have c7 : W4.cell? ⟨w.heap.size, 7, none⟩ = some (.int .u64 (m.n 7)) := hM.cell (i := 7) (by decide)
  have d7 := HR4.out.cell (i := 7) (by decide)
  have f7 := HR4.out.frozen 7
  have d7' : ∃ v, W4.cell? ⟨kb, 7, none⟩ = some v := ⟨_, d7⟩
  obtain ⟨v7, g7⟩ := d7'
  clear d7
  obtain ⟨W5, HW5⟩ : ∃ W, Hid ((W4.setCell ⟨kb, 7, none⟩ (.int .u64 (m.n 7))) = W) := ⟨_, rfl⟩
  have HR5 : Hid (W5.rowIs kb 37 22 (mgCell (((takeL m hds mg0).setN 4 (m.n 4)).setN 7 (m.n 7)) none 0)) := by rw [← HW5.out]; exact (row_setN HR4.out 7 (m.n 7) (by decide) (by decide) (by decide))
  have HB5 : Hid (But kb W3 W5) := by rw [← HW5.out]; exact (HB4.out.setCell 7 _)
  clear hM HR4 HB4
  go_upto_region 21 with fail
  rw [HW5.out]
  clear HW5 c7 g7 f7
  go_upto_region 21 with fail
  have hM := HMC.out _ HB5.out
  have c8 : W5.cell? ⟨w.heap.size, 8, none⟩ = some (.int .i64 (m.n 8)) := hM.cell (i := 8) (by decide)
  have d8 := HR5.out.cell (i := 8) (by decide)
  have f8 := HR5.out.frozen 8
  have d8' : ∃ v, W5.cell? ⟨kb, 8, none⟩ = some v := ⟨_, d8⟩
  obtain ⟨v8, g8⟩ := d8'
  clear d8
  obtain ⟨W6, HW6⟩ : ∃ W, Hid ((W5.setCell ⟨kb, 8, none⟩ (.int .i64 (m.n 8))) = W) := ⟨_, rfl⟩
  have HR6 : Hid (W6.rowIs kb 37 22 (mgCell ((((takeL m hds mg0).setN 4 (m.n 4)).setN 7 (m.n 7)).setN 8 (m.n 8)) none 0)) := by rw [← HW6.out]; exact (row_setN HR5.out 8 (m.n 8) (by decide) (by decide) (by decide))
  have HB6 : Hid (But kb W3 W6) := by rw [← HW6.out]; exact (HB5.out.setCell 8 _)
  clear hM HR5 HB5
  go_upto_region 46 with fail
  rw [HW6.out]
  clear HW6 c8 g8 f8
  have HR9 : Hid (W6.rowIs kb 37 22 (mgCell (onlyG m) none 0)) := by rw [← HTK.out]; exact HR6.out
  have HH9 := hide (row_heap HR9.out)
  obtain ⟨Z, HZ, rZ, hZ, zZ, bZ, oZ, tZ, pZ⟩ := mg_stored (HRR.out _ HB6.out) (onlyG m) none 0
  have HT9 : Hid (W6.there (w.heap.size + 1) 0 (mgL (onlyG m) none 0).toArray.size) := by
    have e : (mgL (onlyG m) none 0).toArray.size = 22 := by rw [List.size_toArray, mgL_len]
    show World.there _ _ _ _
    rw [e]
    exact row_there (HRR.out _ HB6.out)
  have HE : Hid (w.Since w.heap.size Z) := by
    have a := HSS.out _ HB6.out
    exact ⟨oZ.trans a.os, tZ.trans a.tape, pZ.trans a.output, by rw [zZ]; exact a.size, fun q hq => (bZ q (by omega)).trans (a.block q hq)⟩
  have HHZ := hide hZ
  refine wp_region_lit ?_
  refine wpList_load_row rfl 37 _ rfl kb rfl _ (mgL (onlyG m) none 0).toArray (0, 0) _ HH9.out Tryz.underlying37 rfl (infoMgA _ _ _) ?_
  refine wpList_store_mid rfl 37 _ _ rfl (w.heap.size + 1) 0 (mgL (onlyG m) none 0).toArray rfl rfl HT9.out (infoMgA _ _ _) (mg_all _ _ _) ?_
  rw [show (mgL (onlyG m) none 0).toArray.toList = mgL (onlyG m) none 0 from rfl, HZ.out]
  clear HZ rZ hZ zZ bZ oZ tZ pZ HT9 HH9 HR9
  go_wp2_with fail
  exact bodyPost_ret_by (results_cell_row rfl _ _ (w.heap.size + 1) 37 _ (0, 0) _ rfl HHZ.out Tryz.underlying37 rfl (infoMgA _ _ _)) rfl ⟨rfl, HE.out⟩
end Go.Proofs.YtonpmabdjngdcaaGreatDoor

/- The document's Body. -/
namespace Go.Proofs.YtonpmabdjngdcaaGreatDoor
open Go.RowKit
set_option maxRecDepth 100000

set_option maxHeartbeats 8000000 in
theorem body6 (m : Mg) (va : Option Addr) (vc : Nat) (w : World) (hA : MgA w m va vc) (h0 : m.n 0 = 6) (hm : mayM m = true) :
    Calls Tryz.prog 31 #[mgV m va vc] w fun e w' => ∃ v, e = .returned v ∧ OwnL w' w.heap.size v (bodyG m) ∧ w.Since w.heap.size w' := by
  have hfd : fdsK 6 = [.var 4 1099511627776, .var 7 1099511627776, .var 8 1025] := by kernel_rfl
  have hmU := (Bool.and_eq_true_iff.1 hm).2
  have hkt : (m.n 0).toNat = 6 := by rw [h0]; rfl
  have hf := fdsK_fits hmU
  rw [hkt, hfd] at hf
  have hh := of_decide_eq_true (Bool.and_eq_true_iff.1 hm).1
  obtain ⟨n1, e1, l1⟩ : ∃ n : Nat, m.n 1 = (n : Int) ∧ n < 9 := ⟨(m.n 1).toNat, by omega, by omega⟩
  obtain ⟨n2, e2, l2⟩ : ∃ n : Nat, m.n 2 = (n : Int) ∧ n < 9 := ⟨(m.n 2).toNat, by omega, by omega⟩
  obtain ⟨n3, e3, l3⟩ : ∃ n : Nat, m.n 3 = (n : Int) ∧ n < 8 := ⟨(m.n 3).toNat, by omega, by omega⟩
  obtain ⟨N4, E4, L4⟩ : ∃ n : Nat, m.n 4 = (n : Int) ∧ n < 18446744073709551616 := by
    obtain ⟨f1, f2, f3, f4⟩ := hf (.var 4 1099511627776) (by simp)
    exact ⟨(m.n 4).toNat, by omega, by omega⟩
  obtain ⟨N7, E7, L7⟩ : ∃ n : Nat, m.n 7 = (n : Int) ∧ n < 18446744073709551616 := by
    obtain ⟨f1, f2, f3, f4⟩ := hf (.var 7 1099511627776) (by simp)
    exact ⟨(m.n 7).toNat, by omega, by omega⟩
  obtain ⟨N8, E8, L8⟩ : ∃ n : Nat, m.n 8 = (n : Int) ∧ n < 9223372036854775808 := by
    obtain ⟨f1, f2, f3, f4⟩ := hf (.var 8 1025) (by simp)
    exact ⟨(m.n 8).toNat, by omega, by omega⟩
  have HBD : Hid (((([6, n1, n2, n3] ++ vl 9 N4) ++ vl 9 N7) ++ vl 9 N8) = bodyG m) := by
    show _ = putL m hds ++ putL m (fdsK (m.n 0).toNat)
    rw [hkt, hfd]
    show _ = (fl 1 (m.n 0).toNat ++ (fl 1 (m.n 1).toNat ++ (fl 1 (m.n 2).toNat ++ (fl 1 (m.n 3).toNat ++ [])))) ++ putL m [.var 4 1099511627776, .var 7 1099511627776, .var 8 1025]
    rw [hkt, e1, e2, e3]
    simp only [putL, Fd.put, Int.toNat_natCast, E4, E7, E8, List.append_nil]
    have f1 : ∀ x, x < 256 → fl 1 x = [x] := fun x hx => by
      show [x / 256 ^ (1 - 1 - 0) % 256] = [x]
      simp; omega
    rw [f1 6 (by decide), f1 n1 (by omega), f1 n2 (by omega), f1 n3 (by omega)]
    simp only [List.append_assoc, List.cons_append, List.nil_append]
  have y4 := vl_len 9 N4
  have y7 := vl_len 9 N7
  have y8 := vl_len 9 N8
  obtain ⟨MM, HMM⟩ : ∃ x, Hid ((mgL m va vc).toArray = x) := ⟨_, rfl⟩
  obtain ⟨W1, HW1⟩ : ∃ W, Hid (w.alloc (.cells MM 37) = W) := ⟨_, rfl⟩
  have s1 : w.Since w.heap.size W1 := by rw [← HW1.out]; exact (World.Since.refl _ _).alloc (Nat.le_refl _) _
  have z1 : W1.heap.size = w.heap.size + 1 := by rw [← HW1.out]; simp
  have hM1 : MsgIs W1 w.heap.size m va vc := by rw [← HW1.out, ← HMM.out]; exact hA.is
  have c0 : W1.cell? ⟨w.heap.size, 0, none⟩ = some (.int .i64 6) := by
    have : W1.cell? ⟨w.heap.size, 0, none⟩ = some (.int .i64 (m.n 0)) := hM1.cell (i := 0) (by decide)
    rw [this, h0]
  have c1 : W1.cell? ⟨w.heap.size, 1, none⟩ = some (.int .i64 (n1 : Nat)) := by
    have : W1.cell? ⟨w.heap.size, 1, none⟩ = some (.int .i64 (m.n 1)) := hM1.cell (i := 1) (by decide)
    rw [this, e1]
  have c2 : W1.cell? ⟨w.heap.size, 2, none⟩ = some (.int .i64 (n2 : Nat)) := by
    have : W1.cell? ⟨w.heap.size, 2, none⟩ = some (.int .i64 (m.n 2)) := hM1.cell (i := 2) (by decide)
    rw [this, e2]
  have c3 : W1.cell? ⟨w.heap.size, 3, none⟩ = some (.int .i64 (n3 : Nat)) := by
    have : W1.cell? ⟨w.heap.size, 3, none⟩ = some (.int .i64 (m.n 3)) := hM1.cell (i := 3) (by decide)
    rw [this, e3]
  have hu1 : IntKind.u8.wrap (n1 : Int) = (n1 : Int) := by rw [IntKind.wrap_u8]; omega
  have hu2 : IntKind.u8.wrap (n2 : Int) = (n2 : Int) := by rw [IntKind.wrap_u8]; omega
  have hu3 : IntKind.u8.wrap (n3 : Int) = (n3 : Int) := by rw [IntKind.wrap_u8]; omega
  obtain ⟨W2, HW2⟩ : ∃ W, Hid (W1.alloc (.cells #[.int .u8 6, .int .u8 (n1 : Nat), .int .u8 (n2 : Nat), .int .u8 (n3 : Nat)] 5) = W) := ⟨_, rfl⟩
  have s2 : W1.Since W1.heap.size W2 := by rw [← HW2.out]; exact (World.Since.refl _ _).alloc (Nat.le_refl _) _
  have z2 : W2.heap.size = W1.heap.size + 1 := by rw [← HW2.out]; simp
  have o2 : OwnL W2 W1.heap.size (.slice (some ⟨W1.heap.size, 0, none⟩) 4 4) [6, n1, n2, n3] := by rw [← HW2.out]; exact row4 W1 6 n1 n2 n3
  obtain ⟨W3, HW3⟩ : ∃ W, Hid (W2.alloc (.cells #[.slice (some ⟨W1.heap.size, 0, none⟩) 4 4] 113) = W) := ⟨_, rfl⟩
  have s3 : W2.Since W2.heap.size W3 := by rw [← HW3.out]; exact (World.Since.refl _ _).alloc (Nat.le_refl _) _
  have r3 : W3.rowIs W2.heap.size 113 1 (fun _ => .slice (some ⟨W1.heap.size, 0, none⟩) 4 4) := by rw [← HW3.out]; exact pen_new _ _
  obtain ⟨pb, Hpb⟩ : ∃ x, Hid (W2.heap.size = x) := ⟨_, rfl⟩
  have HP : Hid (Wp W1 W3 pb [6, n1, n2, n3]) := by
    rw [← Hpb.out]
    exact ⟨s2.size, s2.trans (since_mono s3 s2.size), W1.heap.size, _, Nat.le_refl _, r3, own_since o2 s3, by show some W1.heap.size ≠ some W2.heap.size; intro e; have := Option.some.inj e; omega, by have := s3.size; omega⟩
  have HMS : Hid (∀ X l, Wp W1 X pb l → MsgIs X w.heap.size m va vc) := fun X l hX => hM1.since hX.2.1
  have HSW := hide s1
  have c03 : W3.cell? ⟨w.heap.size, 0, none⟩ = some (.int .i64 6) := cell_later (s2.trans (since_mono s3 s2.size)) c0
  have Hz2 : Hid (w.heap.size + 1 + 1 = pb) := by show _ = _; rw [← Hpb.out, z2, z1]
  have HW3' : Hid (W2.alloc (.cells #[.slice (some ⟨w.heap.size + 1, 0, none⟩) 4 4] 113) = W3) := by rw [← z1]; exact HW3.out
  clear hA hm hfd hmU hkt hf hh s1 s2 s3 r3 o2 hM1 e1 e2 e3 HW3 Hpb z2
  unfold mgV
  rw [HMM.out]
  go_enter Tryz.func31, Tryz.ntmps31
  go_upto_region 1 with fail
  rw [HW1.out]
  go_upto_region 2 with fail
  try rw [z1]
  rw [HW2.out]
  try rw [z1]
  rw [HW3'.out]
  try simp only [Hz2.out]
  clear c0 c1 c2 c3 HW1 HW2 HW3' z1
  try rw [Hz2.out]
  have cc : W3.cell? ⟨w.heap.size, 4, none⟩ = some (.int .u64 (N4 : Nat)) := by
    have h : W3.cell? ⟨w.heap.size, 4, none⟩ = some (.int .u64 (m.n 4)) := (HMS.out _ _ HP.out).cell (i := 4) (by decide)
    rw [h, E4]
  have HQ := hide (pen_number HP.out N4 (by omega) (by (first | (simp only [List.length_cons, List.length_nil]; omega) | (simp only [List.length_append, List.length_cons, List.length_nil]; omega))))
  go_wp2_with fail
  refine HQ.out.mono ?_
  rintro e w10 ⟨rfl, hX⟩
  have HP10 : Hid (Wp W1 w10 pb ([6, n1, n2, n3] ++ vl 9 N4)) := hX
  clear HQ hX cc HP c03
  have cc : w10.cell? ⟨w.heap.size, 7, none⟩ = some (.int .u64 (N7 : Nat)) := by
    have h : w10.cell? ⟨w.heap.size, 7, none⟩ = some (.int .u64 (m.n 7)) := (HMS.out _ _ HP10.out).cell (i := 7) (by decide)
    rw [h, E7]
  have HQ := hide (pen_number HP10.out N7 (by omega) (by (first | (simp only [List.length_cons, List.length_nil]; omega) | (simp only [List.length_append, List.length_cons, List.length_nil]; omega))))
  go_wp2_with fail
  refine HQ.out.mono ?_
  rintro e w11 ⟨rfl, hX⟩
  have HP11 : Hid (Wp W1 w11 pb (([6, n1, n2, n3] ++ vl 9 N4) ++ vl 9 N7)) := hX
  clear HQ hX cc HP10
  have cc : w11.cell? ⟨w.heap.size, 8, none⟩ = some (.int .i64 (N8 : Nat)) := by
    have h : w11.cell? ⟨w.heap.size, 8, none⟩ = some (.int .i64 (m.n 8)) := (HMS.out _ _ HP11.out).cell (i := 8) (by decide)
    rw [h, E8]
  have hw8 : IntKind.u64.wrap (N8 : Int) = (N8 : Int) := by rw [IntKind.wrap_u64]; omega
  have HQ := hide (pen_number HP11.out N8 (by omega) (by (first | (simp only [List.length_cons, List.length_nil]; omega) | (simp only [List.length_append, List.length_cons, List.length_nil]; omega))))
  go_wp2_with fail
  refine HQ.out.mono ?_
  rintro e w12 ⟨rfl, hX⟩
  have HP12 : Hid (Wp W1 w12 pb ((([6, n1, n2, n3] ++ vl 9 N4) ++ vl 9 N7) ++ vl 9 N8)) := hX
  clear HQ hX cc HP11
  obtain ⟨B, v, hB, hI⟩ := HP12.out.2.2
  obtain ⟨xa, ln, xc, hv⟩ : ∃ xa ln xc, v = .slice xa ln xc := by
    obtain ⟨p, q, h⟩ := own_form hI.own
    exact ⟨p, _, q, h⟩
  have cc : w12.cell? ⟨pb, 0, none⟩ = some v := hI.cell.cell (i := 0) (by decide)
  have hz1 := HSW.out.size
  have HE : Hid (OwnL w12 w.heap.size v (bodyG m) ∧ w.Since w.heap.size w12) := by
    rw [← HBD.out]
    exact ⟨own_lower hI.own (by omega), HSW.out.trans (since_mono HP12.out.2.1 HSW.out.size)⟩
  subst hv
  clear hI hB HBD HMS HP12
  go_wp2_with fail
  go_ret
  exact ⟨_, rfl, HE.out⟩
end Go.Proofs.YtonpmabdjngdcaaGreatDoor

/- The document's Only: kind 7. -/
namespace Go.Proofs.YtonpmabdjngdcaaGreatDoor
open Go.RowKit
set_option maxRecDepth 100000

set_option maxHeartbeats 8000000 in
theorem only7 (m : Mg) (va : Option Addr) (vc : Nat) (w : World) (hA : MgA w m va vc) (h0 : m.n 0 = 7) :
    Calls Tryz.prog 29 #[mgV m va vc] w fun e w' => e = .returned (mgV (onlyG m) none 0) ∧ w.Since w.heap.size w' := by
  have hkt : (m.n 0).toNat = 7 := by rw [h0]; rfl
  obtain ⟨MM, HMM⟩ : ∃ x, Hid ((mgL m va vc).toArray = x) := ⟨_, rfl⟩
  obtain ⟨W1, HW1⟩ : ∃ W, Hid (w.alloc (.cells MM 37) = W) := ⟨_, rfl⟩
  have s1 : w.Since w.heap.size W1 := by rw [← HW1.out]; exact (World.Since.refl _ _).alloc (Nat.le_refl _) _
  have z1 : W1.heap.size = w.heap.size + 1 := by rw [← HW1.out]; simp
  have hM1 : MsgIs W1 w.heap.size m va vc := by rw [← HW1.out, ← HMM.out]; exact hA.is
  obtain ⟨W2, HW2⟩ : ∃ W, Hid (W1.alloc mgZ = W) := ⟨_, rfl⟩
  have s2 : W1.Since W1.heap.size W2 := by rw [← HW2.out]; exact (World.Since.refl _ _).alloc (Nat.le_refl _) _
  have z2 : W2.heap.size = w.heap.size + 1 + 1 := by rw [← HW2.out, ← z1]; simp
  have r2 : W2.rowIs (w.heap.size + 1) 37 22 (mgCell mg0 none 0) := by rw [← z1, ← HW2.out]; exact mgZ_row W1
  have hM2 := hM1.since s2
  have c0 : W2.cell? ⟨w.heap.size, 0, none⟩ = some (.int .i64 (m.n 0)) := hM2.cell (i := 0) (by decide)
  have c1 : W2.cell? ⟨w.heap.size, 1, none⟩ = some (.int .i64 (m.n 1)) := hM2.cell (i := 1) (by decide)
  have c2 : W2.cell? ⟨w.heap.size, 2, none⟩ = some (.int .i64 (m.n 2)) := hM2.cell (i := 2) (by decide)
  have c3 : W2.cell? ⟨w.heap.size, 3, none⟩ = some (.int .i64 (m.n 3)) := hM2.cell (i := 3) (by decide)
  have s2z : W2.Since W2.heap.size (W2.alloc mgZ) := (World.Since.refl _ _).alloc (Nat.le_refl _) _
  obtain ⟨W3, HW3, r3, h3, z3', b3, o3, t3, p3⟩ := mg_stored (mgZ_row W2) (takeL m hds mg0) none 0
  have z3 : W3.heap.size = w.heap.size + 1 + 1 + 1 := by rw [z3', ← z2]; simp
  have s3 : W2.Since W2.heap.size W3 := ⟨o3.trans s2z.os, t3.trans s2z.tape, p3.trans s2z.output, by rw [z3']; exact s2z.size, fun k hk => (b3 k (by omega)).trans (s2z.block k hk)⟩
  have HT3 : Hid ((W2.alloc mgZ).there W2.heap.size 0 (mgL (takeL m hds mg0) none 0).toArray.size) := by
    have e : (mgL (takeL m hds mg0) none 0).toArray.size = 22 := by rw [List.size_toArray, mgL_len]
    show World.there _ _ _ _
    rw [e]
    exact row_there (mgZ_row W2)
  have HRG : Hid (W2.rangeAt w.heap.size 0 [.int .i64 (m.n 0), .int .i64 (m.n 1), .int .i64 (m.n 2), .int .i64 (m.n 3)]) := fun j v hv => by
    match j, hv with
    | 0, hv => rw [← Option.some.inj hv]; exact c0
    | 1, hv => rw [← Option.some.inj hv]; exact c1
    | 2, hv => rw [← Option.some.inj hv]; exact c2
    | 3, hv => rw [← Option.some.inj hv]; exact c3
    | n + 4, hv => simp at hv
  rw [z2] at r3
  obtain ⟨kb, Hkb⟩ : ∃ x, Hid (w.heap.size + 1 + 1 = x) := ⟨_, rfl⟩
  have hkb : kb = w.heap.size + 1 + 1 := Hkb.out.symm
  rw [Hkb.out] at r3
  have hM3 := hM2.since s3
  have hR3 := row_since r2 s3
  have sw3 : w.Since w.heap.size W3 := (s1.trans (since_mono s2 (by omega))).trans (since_mono s3 (by omega))
  have HMC : Hid (∀ X, But kb W3 X → MsgIs X w.heap.size m va vc) := fun X hX => hM3.keep (hX.block _ (by omega) (by omega)) (fun q e h0 => hX.block _ (hM3.lt q e h0) (by have := hA.lt q e h0; omega)) hX.size
  have HRR : Hid (∀ X, But kb W3 X → X.rowIs (w.heap.size + 1) 37 22 (mgCell mg0 none 0)) := fun X hX => hR3.of_block (hX.block _ (by omega) (by omega))
  have HSS : Hid (∀ X, But kb W3 X → w.Since w.heap.size X) := fun X hX => ⟨hX.os.trans sw3.os, hX.tape.trans sw3.tape, hX.output.trans sw3.output, Nat.le_trans sw3.size hX.size, fun q hq => (hX.block q (by omega) (by omega)).trans (sw3.block q hq)⟩
  have ck : W3.cell? ⟨w.heap.size, 0, none⟩ = some (.int .i64 7) := by
    have : W3.cell? ⟨w.heap.size, 0, none⟩ = some (.int .i64 (m.n 0)) := hM3.cell (i := 0) (by decide)
    rw [this, h0]
  have HB : Hid (But kb W3 W3) := But.of_since (World.Since.refl _ _)
  have HRW : Hid (W3.rowIs kb 37 22 (mgCell (takeL m hds mg0) none 0)) := r3
  have HTK : Hid ((((takeL m hds mg0).setN 4 (m.n 4)).setN 7 (m.n 7)) = onlyG m) := by
    have hfd : fdsK 7 = [.var 4 1099511627776, .var 7 1099511627776] := by kernel_rfl
    show _ = takeL m (fdsK (m.n 0).toNat) (takeL m hds mg0)
    rw [hkt, hfd]
    generalize takeL m hds mg0 = q
    rfl
  clear hA hM1 s1 s2 s3 hM2 hM3 r2 r3 hR3 sw3 h0 hkt h3 z3' b3 o3 t3 p3 s2z
  unfold mgZ at HW2
  unfold mgV
  rw [HMM.out]
  go_enter Tryz.func29, Tryz.ntmps29
  go_upto_region 1 with fail
  rw [HW1.out, HW2.out]
  try rw [z1]
  refine wp_region_lit ?_
  refine wpList_plain rfl fun _ hK => op_run (.pointer (some ⟨w.heap.size, 0, none⟩)) (by kernel_rfl) (hK _ _ ?_)
  refine wpList_load_mid rfl 28 (.tmp 4) rfl w.heap.size 0 rfl _ _ HRG.out Tryz.underlying28 rfl infoHd ?_
  refine wpList_plain rfl fun _ hK => op_run (mgV (takeL m hds mg0) none 0) (by rw [mgV_head]; kernel_rfl) (hK _ _ ?_)
  refine wpList_plain rfl fun _ hK => op_runW (w' := W2.alloc mgZ) (.pointer (some ⟨W2.heap.size, 0, none⟩)) (by kernel_rfl) (hK _ _ ?_)
  refine wpList_store_mid rfl 37 (.tmp 3) (.tmp 6) rfl W2.heap.size 0 (mgL (takeL m hds mg0) none 0).toArray rfl rfl HT3.out (infoMgA _ _ _) (mg_all _ _ _) ?_
  rw [show (mgL (takeL m hds mg0) none 0).toArray.toList = mgL (takeL m hds mg0) none 0 from rfl, HW3.out]
  rw [z2, Hkb.out]
  clear c0 c1 c2 c3 HW1 HW2 HW3 z1 z2 z3 hkb HT3 HRG
  go_upto_region 23 with fail
  clear ck
  have hM := HMC.out _ HB.out
  have c4 : W3.cell? ⟨w.heap.size, 4, none⟩ = some (.int .u64 (m.n 4)) := hM.cell (i := 4) (by decide)
  have d4 := HRW.out.cell (i := 4) (by decide)
  have f4 := HRW.out.frozen 4
  have d4' : ∃ v, W3.cell? ⟨kb, 4, none⟩ = some v := ⟨_, d4⟩
  obtain ⟨v4, g4⟩ := d4'
  clear d4
  obtain ⟨W4, HW4⟩ : ∃ W, Hid ((W3.setCell ⟨kb, 4, none⟩ (.int .u64 (m.n 4))) = W) := ⟨_, rfl⟩
  have HR4 : Hid (W4.rowIs kb 37 22 (mgCell ((takeL m hds mg0).setN 4 (m.n 4)) none 0)) := by rw [← HW4.out]; exact (row_setN HRW.out 4 (m.n 4) (by decide) (by decide) (by decide))
  have HB4 : Hid (But kb W3 W4) := by rw [← HW4.out]; exact (HB.out.setCell 4 _)
  clear hM HRW
  go_upto_region 24 with fail
  rw [HW4.out]
  clear HW4 c4 g4 f4
  go_upto_region 24 with fail
  have hM := HMC.out _ HB4.out
  have c7 : W4.cell? ⟨w.heap.size, 7, none⟩ = some (.int .u64 (m.n 7)) := hM.cell (i := 7) (by decide)
  have d7 := HR4.out.cell (i := 7) (by decide)
  have f7 := HR4.out.frozen 7
  have d7' : ∃ v, W4.cell? ⟨kb, 7, none⟩ = some v := ⟨_, d7⟩
  obtain ⟨v7, g7⟩ := d7'
  clear d7
  obtain ⟨W5, HW5⟩ : ∃ W, Hid ((W4.setCell ⟨kb, 7, none⟩ (.int .u64 (m.n 7))) = W) := ⟨_, rfl⟩
  have HR5 : Hid (W5.rowIs kb 37 22 (mgCell (((takeL m hds mg0).setN 4 (m.n 4)).setN 7 (m.n 7)) none 0)) := by rw [← HW5.out]; exact (row_setN HR4.out 7 (m.n 7) (by decide) (by decide) (by decide))
  have HB5 : Hid (But kb W3 W5) := by rw [← HW5.out]; exact (HB4.out.setCell 7 _)
  clear hM HR4 HB4
  go_upto_region 46 with fail
  rw [HW5.out]
  clear HW5 c7 g7 f7
  have HR9 : Hid (W5.rowIs kb 37 22 (mgCell (onlyG m) none 0)) := by rw [← HTK.out]; exact HR5.out
  have HH9 := hide (row_heap HR9.out)
  obtain ⟨Z, HZ, rZ, hZ, zZ, bZ, oZ, tZ, pZ⟩ := mg_stored (HRR.out _ HB5.out) (onlyG m) none 0
  have HT9 : Hid (W5.there (w.heap.size + 1) 0 (mgL (onlyG m) none 0).toArray.size) := by
    have e : (mgL (onlyG m) none 0).toArray.size = 22 := by rw [List.size_toArray, mgL_len]
    show World.there _ _ _ _
    rw [e]
    exact row_there (HRR.out _ HB5.out)
  have HE : Hid (w.Since w.heap.size Z) := by
    have a := HSS.out _ HB5.out
    exact ⟨oZ.trans a.os, tZ.trans a.tape, pZ.trans a.output, by rw [zZ]; exact a.size, fun q hq => (bZ q (by omega)).trans (a.block q hq)⟩
  have HHZ := hide hZ
  refine wp_region_lit ?_
  refine wpList_load_row rfl 37 _ rfl kb rfl _ (mgL (onlyG m) none 0).toArray (0, 0) _ HH9.out Tryz.underlying37 rfl (infoMgA _ _ _) ?_
  refine wpList_store_mid rfl 37 _ _ rfl (w.heap.size + 1) 0 (mgL (onlyG m) none 0).toArray rfl rfl HT9.out (infoMgA _ _ _) (mg_all _ _ _) ?_
  rw [show (mgL (onlyG m) none 0).toArray.toList = mgL (onlyG m) none 0 from rfl, HZ.out]
  clear HZ rZ hZ zZ bZ oZ tZ pZ HT9 HH9 HR9
  go_wp2_with fail
  exact bodyPost_ret_by (results_cell_row rfl _ _ (w.heap.size + 1) 37 _ (0, 0) _ rfl HHZ.out Tryz.underlying37 rfl (infoMgA _ _ _)) rfl ⟨rfl, HE.out⟩
end Go.Proofs.YtonpmabdjngdcaaGreatDoor

/- The document's Body. -/
namespace Go.Proofs.YtonpmabdjngdcaaGreatDoor
open Go.RowKit
set_option maxRecDepth 100000

set_option maxHeartbeats 8000000 in
theorem body7 (m : Mg) (va : Option Addr) (vc : Nat) (w : World) (hA : MgA w m va vc) (h0 : m.n 0 = 7) (hm : mayM m = true) :
    Calls Tryz.prog 31 #[mgV m va vc] w fun e w' => ∃ v, e = .returned v ∧ OwnL w' w.heap.size v (bodyG m) ∧ w.Since w.heap.size w' := by
  have hfd : fdsK 7 = [.var 4 1099511627776, .var 7 1099511627776] := by kernel_rfl
  have hmU := (Bool.and_eq_true_iff.1 hm).2
  have hkt : (m.n 0).toNat = 7 := by rw [h0]; rfl
  have hf := fdsK_fits hmU
  rw [hkt, hfd] at hf
  have hh := of_decide_eq_true (Bool.and_eq_true_iff.1 hm).1
  obtain ⟨n1, e1, l1⟩ : ∃ n : Nat, m.n 1 = (n : Int) ∧ n < 9 := ⟨(m.n 1).toNat, by omega, by omega⟩
  obtain ⟨n2, e2, l2⟩ : ∃ n : Nat, m.n 2 = (n : Int) ∧ n < 9 := ⟨(m.n 2).toNat, by omega, by omega⟩
  obtain ⟨n3, e3, l3⟩ : ∃ n : Nat, m.n 3 = (n : Int) ∧ n < 8 := ⟨(m.n 3).toNat, by omega, by omega⟩
  obtain ⟨N4, E4, L4⟩ : ∃ n : Nat, m.n 4 = (n : Int) ∧ n < 18446744073709551616 := by
    obtain ⟨f1, f2, f3, f4⟩ := hf (.var 4 1099511627776) (by simp)
    exact ⟨(m.n 4).toNat, by omega, by omega⟩
  obtain ⟨N7, E7, L7⟩ : ∃ n : Nat, m.n 7 = (n : Int) ∧ n < 18446744073709551616 := by
    obtain ⟨f1, f2, f3, f4⟩ := hf (.var 7 1099511627776) (by simp)
    exact ⟨(m.n 7).toNat, by omega, by omega⟩
  have HBD : Hid ((([7, n1, n2, n3] ++ vl 9 N4) ++ vl 9 N7) = bodyG m) := by
    show _ = putL m hds ++ putL m (fdsK (m.n 0).toNat)
    rw [hkt, hfd]
    show _ = (fl 1 (m.n 0).toNat ++ (fl 1 (m.n 1).toNat ++ (fl 1 (m.n 2).toNat ++ (fl 1 (m.n 3).toNat ++ [])))) ++ putL m [.var 4 1099511627776, .var 7 1099511627776]
    rw [hkt, e1, e2, e3]
    simp only [putL, Fd.put, Int.toNat_natCast, E4, E7, List.append_nil]
    have f1 : ∀ x, x < 256 → fl 1 x = [x] := fun x hx => by
      show [x / 256 ^ (1 - 1 - 0) % 256] = [x]
      simp; omega
    rw [f1 7 (by decide), f1 n1 (by omega), f1 n2 (by omega), f1 n3 (by omega)]
    simp only [List.cons_append, List.nil_append]
  have y4 := vl_len 9 N4
  have y7 := vl_len 9 N7
  obtain ⟨MM, HMM⟩ : ∃ x, Hid ((mgL m va vc).toArray = x) := ⟨_, rfl⟩
  obtain ⟨W1, HW1⟩ : ∃ W, Hid (w.alloc (.cells MM 37) = W) := ⟨_, rfl⟩
  have s1 : w.Since w.heap.size W1 := by rw [← HW1.out]; exact (World.Since.refl _ _).alloc (Nat.le_refl _) _
  have z1 : W1.heap.size = w.heap.size + 1 := by rw [← HW1.out]; simp
  have hM1 : MsgIs W1 w.heap.size m va vc := by rw [← HW1.out, ← HMM.out]; exact hA.is
  have c0 : W1.cell? ⟨w.heap.size, 0, none⟩ = some (.int .i64 7) := by
    have : W1.cell? ⟨w.heap.size, 0, none⟩ = some (.int .i64 (m.n 0)) := hM1.cell (i := 0) (by decide)
    rw [this, h0]
  have c1 : W1.cell? ⟨w.heap.size, 1, none⟩ = some (.int .i64 (n1 : Nat)) := by
    have : W1.cell? ⟨w.heap.size, 1, none⟩ = some (.int .i64 (m.n 1)) := hM1.cell (i := 1) (by decide)
    rw [this, e1]
  have c2 : W1.cell? ⟨w.heap.size, 2, none⟩ = some (.int .i64 (n2 : Nat)) := by
    have : W1.cell? ⟨w.heap.size, 2, none⟩ = some (.int .i64 (m.n 2)) := hM1.cell (i := 2) (by decide)
    rw [this, e2]
  have c3 : W1.cell? ⟨w.heap.size, 3, none⟩ = some (.int .i64 (n3 : Nat)) := by
    have : W1.cell? ⟨w.heap.size, 3, none⟩ = some (.int .i64 (m.n 3)) := hM1.cell (i := 3) (by decide)
    rw [this, e3]
  have hu1 : IntKind.u8.wrap (n1 : Int) = (n1 : Int) := by rw [IntKind.wrap_u8]; omega
  have hu2 : IntKind.u8.wrap (n2 : Int) = (n2 : Int) := by rw [IntKind.wrap_u8]; omega
  have hu3 : IntKind.u8.wrap (n3 : Int) = (n3 : Int) := by rw [IntKind.wrap_u8]; omega
  obtain ⟨W2, HW2⟩ : ∃ W, Hid (W1.alloc (.cells #[.int .u8 7, .int .u8 (n1 : Nat), .int .u8 (n2 : Nat), .int .u8 (n3 : Nat)] 5) = W) := ⟨_, rfl⟩
  have s2 : W1.Since W1.heap.size W2 := by rw [← HW2.out]; exact (World.Since.refl _ _).alloc (Nat.le_refl _) _
  have z2 : W2.heap.size = W1.heap.size + 1 := by rw [← HW2.out]; simp
  have o2 : OwnL W2 W1.heap.size (.slice (some ⟨W1.heap.size, 0, none⟩) 4 4) [7, n1, n2, n3] := by rw [← HW2.out]; exact row4 W1 7 n1 n2 n3
  obtain ⟨W3, HW3⟩ : ∃ W, Hid (W2.alloc (.cells #[.slice (some ⟨W1.heap.size, 0, none⟩) 4 4] 113) = W) := ⟨_, rfl⟩
  have s3 : W2.Since W2.heap.size W3 := by rw [← HW3.out]; exact (World.Since.refl _ _).alloc (Nat.le_refl _) _
  have r3 : W3.rowIs W2.heap.size 113 1 (fun _ => .slice (some ⟨W1.heap.size, 0, none⟩) 4 4) := by rw [← HW3.out]; exact pen_new _ _
  obtain ⟨pb, Hpb⟩ : ∃ x, Hid (W2.heap.size = x) := ⟨_, rfl⟩
  have HP : Hid (Wp W1 W3 pb [7, n1, n2, n3]) := by
    rw [← Hpb.out]
    exact ⟨s2.size, s2.trans (since_mono s3 s2.size), W1.heap.size, _, Nat.le_refl _, r3, own_since o2 s3, by show some W1.heap.size ≠ some W2.heap.size; intro e; have := Option.some.inj e; omega, by have := s3.size; omega⟩
  have HMS : Hid (∀ X l, Wp W1 X pb l → MsgIs X w.heap.size m va vc) := fun X l hX => hM1.since hX.2.1
  have HSW := hide s1
  have c03 : W3.cell? ⟨w.heap.size, 0, none⟩ = some (.int .i64 7) := cell_later (s2.trans (since_mono s3 s2.size)) c0
  have Hz2 : Hid (w.heap.size + 1 + 1 = pb) := by show _ = _; rw [← Hpb.out, z2, z1]
  have HW3' : Hid (W2.alloc (.cells #[.slice (some ⟨w.heap.size + 1, 0, none⟩) 4 4] 113) = W3) := by rw [← z1]; exact HW3.out
  clear hA hm hfd hmU hkt hf hh s1 s2 s3 r3 o2 hM1 e1 e2 e3 HW3 Hpb z2
  unfold mgV
  rw [HMM.out]
  go_enter Tryz.func31, Tryz.ntmps31
  go_upto_region 1 with fail
  rw [HW1.out]
  go_upto_region 2 with fail
  try rw [z1]
  rw [HW2.out]
  try rw [z1]
  rw [HW3'.out]
  try simp only [Hz2.out]
  clear c0 c1 c2 c3 HW1 HW2 HW3' z1
  try rw [Hz2.out]
  have cc : W3.cell? ⟨w.heap.size, 4, none⟩ = some (.int .u64 (N4 : Nat)) := by
    have h : W3.cell? ⟨w.heap.size, 4, none⟩ = some (.int .u64 (m.n 4)) := (HMS.out _ _ HP.out).cell (i := 4) (by decide)
    rw [h, E4]
  have HQ := hide (pen_number HP.out N4 (by omega) (by (first | (simp only [List.length_cons, List.length_nil]; omega) | (simp only [List.length_append, List.length_cons, List.length_nil]; omega))))
  go_wp2_with fail
  refine HQ.out.mono ?_
  rintro e w10 ⟨rfl, hX⟩
  have HP10 : Hid (Wp W1 w10 pb ([7, n1, n2, n3] ++ vl 9 N4)) := hX
  clear HQ hX cc HP c03
  have cc : w10.cell? ⟨w.heap.size, 7, none⟩ = some (.int .u64 (N7 : Nat)) := by
    have h : w10.cell? ⟨w.heap.size, 7, none⟩ = some (.int .u64 (m.n 7)) := (HMS.out _ _ HP10.out).cell (i := 7) (by decide)
    rw [h, E7]
  have HQ := hide (pen_number HP10.out N7 (by omega) (by (first | (simp only [List.length_cons, List.length_nil]; omega) | (simp only [List.length_append, List.length_cons, List.length_nil]; omega))))
  go_wp2_with fail
  refine HQ.out.mono ?_
  rintro e w11 ⟨rfl, hX⟩
  have HP11 : Hid (Wp W1 w11 pb (([7, n1, n2, n3] ++ vl 9 N4) ++ vl 9 N7)) := hX
  clear HQ hX cc HP10
  obtain ⟨B, v, hB, hI⟩ := HP11.out.2.2
  obtain ⟨xa, ln, xc, hv⟩ : ∃ xa ln xc, v = .slice xa ln xc := by
    obtain ⟨p, q, h⟩ := own_form hI.own
    exact ⟨p, _, q, h⟩
  have cc : w11.cell? ⟨pb, 0, none⟩ = some v := hI.cell.cell (i := 0) (by decide)
  have hz1 := HSW.out.size
  have HE : Hid (OwnL w11 w.heap.size v (bodyG m) ∧ w.Since w.heap.size w11) := by
    rw [← HBD.out]
    exact ⟨own_lower hI.own (by omega), HSW.out.trans (since_mono HP11.out.2.1 HSW.out.size)⟩
  subst hv
  clear hI hB HBD HMS HP11
  go_wp2_with fail
  go_ret
  exact ⟨_, rfl, HE.out⟩
end Go.Proofs.YtonpmabdjngdcaaGreatDoor

/- The document's Only: kind 8. -/
namespace Go.Proofs.YtonpmabdjngdcaaGreatDoor
open Go.RowKit
set_option maxRecDepth 100000

set_option maxHeartbeats 8000000 in
theorem only8 (m : Mg) (va : Option Addr) (vc : Nat) (w : World) (hA : MgA w m va vc) (h0 : m.n 0 = 8) :
    Calls Tryz.prog 29 #[mgV m va vc] w fun e w' => e = .returned (mgV (onlyG m) none 0) ∧ w.Since w.heap.size w' := by
  have hkt : (m.n 0).toNat = 8 := by rw [h0]; rfl
  obtain ⟨MM, HMM⟩ : ∃ x, Hid ((mgL m va vc).toArray = x) := ⟨_, rfl⟩
  obtain ⟨W1, HW1⟩ : ∃ W, Hid (w.alloc (.cells MM 37) = W) := ⟨_, rfl⟩
  have s1 : w.Since w.heap.size W1 := by rw [← HW1.out]; exact (World.Since.refl _ _).alloc (Nat.le_refl _) _
  have z1 : W1.heap.size = w.heap.size + 1 := by rw [← HW1.out]; simp
  have hM1 : MsgIs W1 w.heap.size m va vc := by rw [← HW1.out, ← HMM.out]; exact hA.is
  obtain ⟨W2, HW2⟩ : ∃ W, Hid (W1.alloc mgZ = W) := ⟨_, rfl⟩
  have s2 : W1.Since W1.heap.size W2 := by rw [← HW2.out]; exact (World.Since.refl _ _).alloc (Nat.le_refl _) _
  have z2 : W2.heap.size = w.heap.size + 1 + 1 := by rw [← HW2.out, ← z1]; simp
  have r2 : W2.rowIs (w.heap.size + 1) 37 22 (mgCell mg0 none 0) := by rw [← z1, ← HW2.out]; exact mgZ_row W1
  have hM2 := hM1.since s2
  have c0 : W2.cell? ⟨w.heap.size, 0, none⟩ = some (.int .i64 (m.n 0)) := hM2.cell (i := 0) (by decide)
  have c1 : W2.cell? ⟨w.heap.size, 1, none⟩ = some (.int .i64 (m.n 1)) := hM2.cell (i := 1) (by decide)
  have c2 : W2.cell? ⟨w.heap.size, 2, none⟩ = some (.int .i64 (m.n 2)) := hM2.cell (i := 2) (by decide)
  have c3 : W2.cell? ⟨w.heap.size, 3, none⟩ = some (.int .i64 (m.n 3)) := hM2.cell (i := 3) (by decide)
  have s2z : W2.Since W2.heap.size (W2.alloc mgZ) := (World.Since.refl _ _).alloc (Nat.le_refl _) _
  obtain ⟨W3, HW3, r3, h3, z3', b3, o3, t3, p3⟩ := mg_stored (mgZ_row W2) (takeL m hds mg0) none 0
  have z3 : W3.heap.size = w.heap.size + 1 + 1 + 1 := by rw [z3', ← z2]; simp
  have s3 : W2.Since W2.heap.size W3 := ⟨o3.trans s2z.os, t3.trans s2z.tape, p3.trans s2z.output, by rw [z3']; exact s2z.size, fun k hk => (b3 k (by omega)).trans (s2z.block k hk)⟩
  have HT3 : Hid ((W2.alloc mgZ).there W2.heap.size 0 (mgL (takeL m hds mg0) none 0).toArray.size) := by
    have e : (mgL (takeL m hds mg0) none 0).toArray.size = 22 := by rw [List.size_toArray, mgL_len]
    show World.there _ _ _ _
    rw [e]
    exact row_there (mgZ_row W2)
  have HRG : Hid (W2.rangeAt w.heap.size 0 [.int .i64 (m.n 0), .int .i64 (m.n 1), .int .i64 (m.n 2), .int .i64 (m.n 3)]) := fun j v hv => by
    match j, hv with
    | 0, hv => rw [← Option.some.inj hv]; exact c0
    | 1, hv => rw [← Option.some.inj hv]; exact c1
    | 2, hv => rw [← Option.some.inj hv]; exact c2
    | 3, hv => rw [← Option.some.inj hv]; exact c3
    | n + 4, hv => simp at hv
  rw [z2] at r3
  obtain ⟨kb, Hkb⟩ : ∃ x, Hid (w.heap.size + 1 + 1 = x) := ⟨_, rfl⟩
  have hkb : kb = w.heap.size + 1 + 1 := Hkb.out.symm
  rw [Hkb.out] at r3
  have hM3 := hM2.since s3
  have hR3 := row_since r2 s3
  have sw3 : w.Since w.heap.size W3 := (s1.trans (since_mono s2 (by omega))).trans (since_mono s3 (by omega))
  have HMC : Hid (∀ X, But kb W3 X → MsgIs X w.heap.size m va vc) := fun X hX => hM3.keep (hX.block _ (by omega) (by omega)) (fun q e h0 => hX.block _ (hM3.lt q e h0) (by have := hA.lt q e h0; omega)) hX.size
  have HRR : Hid (∀ X, But kb W3 X → X.rowIs (w.heap.size + 1) 37 22 (mgCell mg0 none 0)) := fun X hX => hR3.of_block (hX.block _ (by omega) (by omega))
  have HSS : Hid (∀ X, But kb W3 X → w.Since w.heap.size X) := fun X hX => ⟨hX.os.trans sw3.os, hX.tape.trans sw3.tape, hX.output.trans sw3.output, Nat.le_trans sw3.size hX.size, fun q hq => (hX.block q (by omega) (by omega)).trans (sw3.block q hq)⟩
  have ck : W3.cell? ⟨w.heap.size, 0, none⟩ = some (.int .i64 8) := by
    have : W3.cell? ⟨w.heap.size, 0, none⟩ = some (.int .i64 (m.n 0)) := hM3.cell (i := 0) (by decide)
    rw [this, h0]
  have HB : Hid (But kb W3 W3) := But.of_since (World.Since.refl _ _)
  have HRW : Hid (W3.rowIs kb 37 22 (mgCell (takeL m hds mg0) none 0)) := r3
  have HTK : Hid ((((((takeL m hds mg0).setN 11 (m.n 11)).setN 12 (m.n 12)).setS 13 (m.s 13)).setN 15 (m.n 15)) = onlyG m) := by
    have hfd : fdsK 8 = [.small 11 7, .var 12 1099511627776, .text 13 64, .var 15 9007199254740992] := by kernel_rfl
    show _ = takeL m (fdsK (m.n 0).toNat) (takeL m hds mg0)
    rw [hkt, hfd]
    generalize takeL m hds mg0 = q
    rfl
  clear hA hM1 s1 s2 s3 hM2 hM3 r2 r3 hR3 sw3 h0 hkt h3 z3' b3 o3 t3 p3 s2z
  unfold mgZ at HW2
  unfold mgV
  rw [HMM.out]
  go_enter Tryz.func29, Tryz.ntmps29
  go_upto_region 1 with fail
  rw [HW1.out, HW2.out]
  try rw [z1]
  refine wp_region_lit ?_
  refine wpList_plain rfl fun _ hK => op_run (.pointer (some ⟨w.heap.size, 0, none⟩)) (by kernel_rfl) (hK _ _ ?_)
  refine wpList_load_mid rfl 28 (.tmp 4) rfl w.heap.size 0 rfl _ _ HRG.out Tryz.underlying28 rfl infoHd ?_
  refine wpList_plain rfl fun _ hK => op_run (mgV (takeL m hds mg0) none 0) (by rw [mgV_head]; kernel_rfl) (hK _ _ ?_)
  refine wpList_plain rfl fun _ hK => op_runW (w' := W2.alloc mgZ) (.pointer (some ⟨W2.heap.size, 0, none⟩)) (by kernel_rfl) (hK _ _ ?_)
  refine wpList_store_mid rfl 37 (.tmp 3) (.tmp 6) rfl W2.heap.size 0 (mgL (takeL m hds mg0) none 0).toArray rfl rfl HT3.out (infoMgA _ _ _) (mg_all _ _ _) ?_
  rw [show (mgL (takeL m hds mg0) none 0).toArray.toList = mgL (takeL m hds mg0) none 0 from rfl, HW3.out]
  rw [z2, Hkb.out]
  clear c0 c1 c2 c3 HW1 HW2 HW3 z1 z2 z3 hkb HT3 HRG
  go_upto_region 26 with fail
  clear ck
  have hM := HMC.out _ HB.out
  have c11 : W3.cell? ⟨w.heap.size, 11, none⟩ = some (.int .i64 (m.n 11)) := hM.cell (i := 11) (by decide)
  have d11 := HRW.out.cell (i := 11) (by decide)
  have f11 := HRW.out.frozen 11
  have d11' : ∃ v, W3.cell? ⟨kb, 11, none⟩ = some v := ⟨_, d11⟩
  obtain ⟨v11, g11⟩ := d11'
  clear d11
  obtain ⟨W4, HW4⟩ : ∃ W, Hid ((W3.setCell ⟨kb, 11, none⟩ (.int .i64 (m.n 11))) = W) := ⟨_, rfl⟩
  have HR4 : Hid (W4.rowIs kb 37 22 (mgCell ((takeL m hds mg0).setN 11 (m.n 11)) none 0)) := by rw [← HW4.out]; exact (row_setN HRW.out 11 (m.n 11) (by decide) (by decide) (by decide))
  have HB4 : Hid (But kb W3 W4) := by rw [← HW4.out]; exact (HB.out.setCell 11 _)
  clear hM HRW
  go_upto_region 27 with fail
  rw [HW4.out]
  clear HW4 c11 g11 f11
  go_upto_region 27 with fail
  have hM := HMC.out _ HB4.out
  have c12 : W4.cell? ⟨w.heap.size, 12, none⟩ = some (.int .u64 (m.n 12)) := hM.cell (i := 12) (by decide)
  have d12 := HR4.out.cell (i := 12) (by decide)
  have f12 := HR4.out.frozen 12
  have d12' : ∃ v, W4.cell? ⟨kb, 12, none⟩ = some v := ⟨_, d12⟩
  obtain ⟨v12, g12⟩ := d12'
  clear d12
  obtain ⟨W5, HW5⟩ : ∃ W, Hid ((W4.setCell ⟨kb, 12, none⟩ (.int .u64 (m.n 12))) = W) := ⟨_, rfl⟩
  have HR5 : Hid (W5.rowIs kb 37 22 (mgCell (((takeL m hds mg0).setN 11 (m.n 11)).setN 12 (m.n 12)) none 0)) := by rw [← HW5.out]; exact (row_setN HR4.out 12 (m.n 12) (by decide) (by decide) (by decide))
  have HB5 : Hid (But kb W3 W5) := by rw [← HW5.out]; exact (HB4.out.setCell 12 _)
  clear hM HR4 HB4
  go_upto_region 28 with fail
  rw [HW5.out]
  clear HW5 c12 g12 f12
  go_upto_region 28 with fail
  have hM := HMC.out _ HB5.out
  have c13 : W5.cell? ⟨w.heap.size, 13, none⟩ = some (.string (strL (m.s 13))) := hM.cell (i := 13) (by decide)
  have d13 := HR5.out.cell (i := 13) (by decide)
  have f13 := HR5.out.frozen 13
  have d13' : ∃ v, W5.cell? ⟨kb, 13, none⟩ = some v := ⟨_, d13⟩
  obtain ⟨v13, g13⟩ := d13'
  clear d13
  obtain ⟨W6, HW6⟩ : ∃ W, Hid ((W5.setCell ⟨kb, 13, none⟩ (.string (strL (m.s 13)))) = W) := ⟨_, rfl⟩
  have HR6 : Hid (W6.rowIs kb 37 22 (mgCell ((((takeL m hds mg0).setN 11 (m.n 11)).setN 12 (m.n 12)).setS 13 (m.s 13)) none 0)) := by rw [← HW6.out]; exact (row_setS HR5.out 13 (m.s 13) (.inl rfl))
  have HB6 : Hid (But kb W3 W6) := by rw [← HW6.out]; exact (HB5.out.setCell 13 _)
  clear hM HR5 HB5
  go_upto_region 29 with fail
  rw [HW6.out]
  clear HW6 c13 g13 f13
  go_upto_region 29 with fail
  have hM := HMC.out _ HB6.out
  have c15 : W6.cell? ⟨w.heap.size, 15, none⟩ = some (.int .u64 (m.n 15)) := hM.cell (i := 15) (by decide)
  have d15 := HR6.out.cell (i := 15) (by decide)
  have f15 := HR6.out.frozen 15
  have d15' : ∃ v, W6.cell? ⟨kb, 15, none⟩ = some v := ⟨_, d15⟩
  obtain ⟨v15, g15⟩ := d15'
  clear d15
  obtain ⟨W7, HW7⟩ : ∃ W, Hid ((W6.setCell ⟨kb, 15, none⟩ (.int .u64 (m.n 15))) = W) := ⟨_, rfl⟩
  have HR7 : Hid (W7.rowIs kb 37 22 (mgCell (((((takeL m hds mg0).setN 11 (m.n 11)).setN 12 (m.n 12)).setS 13 (m.s 13)).setN 15 (m.n 15)) none 0)) := by rw [← HW7.out]; exact (row_setN HR6.out 15 (m.n 15) (by decide) (by decide) (by decide))
  have HB7 : Hid (But kb W3 W7) := by rw [← HW7.out]; exact (HB6.out.setCell 15 _)
  clear hM HR6 HB6
  go_upto_region 46 with fail
  rw [HW7.out]
  clear HW7 c15 g15 f15
  have HR9 : Hid (W7.rowIs kb 37 22 (mgCell (onlyG m) none 0)) := by rw [← HTK.out]; exact HR7.out
  have HH9 := hide (row_heap HR9.out)
  obtain ⟨Z, HZ, rZ, hZ, zZ, bZ, oZ, tZ, pZ⟩ := mg_stored (HRR.out _ HB7.out) (onlyG m) none 0
  have HT9 : Hid (W7.there (w.heap.size + 1) 0 (mgL (onlyG m) none 0).toArray.size) := by
    have e : (mgL (onlyG m) none 0).toArray.size = 22 := by rw [List.size_toArray, mgL_len]
    show World.there _ _ _ _
    rw [e]
    exact row_there (HRR.out _ HB7.out)
  have HE : Hid (w.Since w.heap.size Z) := by
    have a := HSS.out _ HB7.out
    exact ⟨oZ.trans a.os, tZ.trans a.tape, pZ.trans a.output, by rw [zZ]; exact a.size, fun q hq => (bZ q (by omega)).trans (a.block q hq)⟩
  have HHZ := hide hZ
  refine wp_region_lit ?_
  refine wpList_load_row rfl 37 _ rfl kb rfl _ (mgL (onlyG m) none 0).toArray (0, 0) _ HH9.out Tryz.underlying37 rfl (infoMgA _ _ _) ?_
  refine wpList_store_mid rfl 37 _ _ rfl (w.heap.size + 1) 0 (mgL (onlyG m) none 0).toArray rfl rfl HT9.out (infoMgA _ _ _) (mg_all _ _ _) ?_
  rw [show (mgL (onlyG m) none 0).toArray.toList = mgL (onlyG m) none 0 from rfl, HZ.out]
  clear HZ rZ hZ zZ bZ oZ tZ pZ HT9 HH9 HR9
  go_wp2_with fail
  exact bodyPost_ret_by (results_cell_row rfl _ _ (w.heap.size + 1) 37 _ (0, 0) _ rfl HHZ.out Tryz.underlying37 rfl (infoMgA _ _ _)) rfl ⟨rfl, HE.out⟩
end Go.Proofs.YtonpmabdjngdcaaGreatDoor

/- The document's Body. -/
namespace Go.Proofs.YtonpmabdjngdcaaGreatDoor
open Go.RowKit
set_option maxRecDepth 100000

set_option maxHeartbeats 8000000 in
theorem body8 (m : Mg) (va : Option Addr) (vc : Nat) (w : World) (hA : MgA w m va vc) (h0 : m.n 0 = 8) (hm : mayM m = true) :
    Calls Tryz.prog 31 #[mgV m va vc] w fun e w' => ∃ v, e = .returned v ∧ OwnL w' w.heap.size v (bodyG m) ∧ w.Since w.heap.size w' := by
  have hfd : fdsK 8 = [.small 11 7, .var 12 1099511627776, .text 13 64, .var 15 9007199254740992] := by kernel_rfl
  have hmU := (Bool.and_eq_true_iff.1 hm).2
  have hkt : (m.n 0).toNat = 8 := by rw [h0]; rfl
  have hf := fdsK_fits hmU
  rw [hkt, hfd] at hf
  have hh := of_decide_eq_true (Bool.and_eq_true_iff.1 hm).1
  obtain ⟨n1, e1, l1⟩ : ∃ n : Nat, m.n 1 = (n : Int) ∧ n < 9 := ⟨(m.n 1).toNat, by omega, by omega⟩
  obtain ⟨n2, e2, l2⟩ : ∃ n : Nat, m.n 2 = (n : Int) ∧ n < 9 := ⟨(m.n 2).toNat, by omega, by omega⟩
  obtain ⟨n3, e3, l3⟩ : ∃ n : Nat, m.n 3 = (n : Int) ∧ n < 8 := ⟨(m.n 3).toNat, by omega, by omega⟩
  obtain ⟨N11, E11, L11⟩ : ∃ n : Nat, m.n 11 = (n : Int) ∧ n < 256 := by
    obtain ⟨f1, f2⟩ := hf (.small 11 7) (by simp)
    exact ⟨(m.n 11).toNat, by omega, by omega⟩
  obtain ⟨N12, E12, L12⟩ : ∃ n : Nat, m.n 12 = (n : Int) ∧ n < 18446744073709551616 := by
    obtain ⟨f1, f2, f3, f4⟩ := hf (.var 12 1099511627776) (by simp)
    exact ⟨(m.n 12).toNat, by omega, by omega⟩
  have L13 : (m.s 13).length ≤ 64 := (hf (.text 13 64) (by simp)).1
  obtain ⟨N15, E15, L15⟩ : ∃ n : Nat, m.n 15 = (n : Int) ∧ n < 18446744073709551616 := by
    obtain ⟨f1, f2, f3, f4⟩ := hf (.var 15 9007199254740992) (by simp)
    exact ⟨(m.n 15).toNat, by omega, by omega⟩
  have HBD : Hid ((((([8, n1, n2, n3] ++ [N11]) ++ vl 9 N12) ++ partL (m.s 13)) ++ vl 9 N15) = bodyG m) := by
    show _ = putL m hds ++ putL m (fdsK (m.n 0).toNat)
    rw [hkt, hfd]
    show _ = (fl 1 (m.n 0).toNat ++ (fl 1 (m.n 1).toNat ++ (fl 1 (m.n 2).toNat ++ (fl 1 (m.n 3).toNat ++ [])))) ++ putL m [.small 11 7, .var 12 1099511627776, .text 13 64, .var 15 9007199254740992]
    rw [hkt, e1, e2, e3]
    simp only [putL, Fd.put, Int.toNat_natCast, E11, E12, E15, List.append_nil]
    have f1 : ∀ x, x < 256 → fl 1 x = [x] := fun x hx => by
      show [x / 256 ^ (1 - 1 - 0) % 256] = [x]
      simp; omega
    rw [f1 8 (by decide), f1 n1 (by omega), f1 n2 (by omega), f1 n3 (by omega), f1 N11 L11]
    simp only [List.append_assoc, List.cons_append, List.nil_append]
  have y12 := vl_len 9 N12
  have y15 := vl_len 9 N15
  have y13 : (partL (m.s 13)).length ≤ (m.s 13).length + 10 := by
    unfold partL
    rw [List.length_append]
    have := vl_len 9 (m.s 13).length
    omega
  obtain ⟨MM, HMM⟩ : ∃ x, Hid ((mgL m va vc).toArray = x) := ⟨_, rfl⟩
  obtain ⟨W1, HW1⟩ : ∃ W, Hid (w.alloc (.cells MM 37) = W) := ⟨_, rfl⟩
  have s1 : w.Since w.heap.size W1 := by rw [← HW1.out]; exact (World.Since.refl _ _).alloc (Nat.le_refl _) _
  have z1 : W1.heap.size = w.heap.size + 1 := by rw [← HW1.out]; simp
  have hM1 : MsgIs W1 w.heap.size m va vc := by rw [← HW1.out, ← HMM.out]; exact hA.is
  have c0 : W1.cell? ⟨w.heap.size, 0, none⟩ = some (.int .i64 8) := by
    have : W1.cell? ⟨w.heap.size, 0, none⟩ = some (.int .i64 (m.n 0)) := hM1.cell (i := 0) (by decide)
    rw [this, h0]
  have c1 : W1.cell? ⟨w.heap.size, 1, none⟩ = some (.int .i64 (n1 : Nat)) := by
    have : W1.cell? ⟨w.heap.size, 1, none⟩ = some (.int .i64 (m.n 1)) := hM1.cell (i := 1) (by decide)
    rw [this, e1]
  have c2 : W1.cell? ⟨w.heap.size, 2, none⟩ = some (.int .i64 (n2 : Nat)) := by
    have : W1.cell? ⟨w.heap.size, 2, none⟩ = some (.int .i64 (m.n 2)) := hM1.cell (i := 2) (by decide)
    rw [this, e2]
  have c3 : W1.cell? ⟨w.heap.size, 3, none⟩ = some (.int .i64 (n3 : Nat)) := by
    have : W1.cell? ⟨w.heap.size, 3, none⟩ = some (.int .i64 (m.n 3)) := hM1.cell (i := 3) (by decide)
    rw [this, e3]
  have hu1 : IntKind.u8.wrap (n1 : Int) = (n1 : Int) := by rw [IntKind.wrap_u8]; omega
  have hu2 : IntKind.u8.wrap (n2 : Int) = (n2 : Int) := by rw [IntKind.wrap_u8]; omega
  have hu3 : IntKind.u8.wrap (n3 : Int) = (n3 : Int) := by rw [IntKind.wrap_u8]; omega
  obtain ⟨W2, HW2⟩ : ∃ W, Hid (W1.alloc (.cells #[.int .u8 8, .int .u8 (n1 : Nat), .int .u8 (n2 : Nat), .int .u8 (n3 : Nat)] 5) = W) := ⟨_, rfl⟩
  have s2 : W1.Since W1.heap.size W2 := by rw [← HW2.out]; exact (World.Since.refl _ _).alloc (Nat.le_refl _) _
  have z2 : W2.heap.size = W1.heap.size + 1 := by rw [← HW2.out]; simp
  have o2 : OwnL W2 W1.heap.size (.slice (some ⟨W1.heap.size, 0, none⟩) 4 4) [8, n1, n2, n3] := by rw [← HW2.out]; exact row4 W1 8 n1 n2 n3
  obtain ⟨W3, HW3⟩ : ∃ W, Hid (W2.alloc (.cells #[.slice (some ⟨W1.heap.size, 0, none⟩) 4 4] 113) = W) := ⟨_, rfl⟩
  have s3 : W2.Since W2.heap.size W3 := by rw [← HW3.out]; exact (World.Since.refl _ _).alloc (Nat.le_refl _) _
  have r3 : W3.rowIs W2.heap.size 113 1 (fun _ => .slice (some ⟨W1.heap.size, 0, none⟩) 4 4) := by rw [← HW3.out]; exact pen_new _ _
  obtain ⟨pb, Hpb⟩ : ∃ x, Hid (W2.heap.size = x) := ⟨_, rfl⟩
  have HP : Hid (Wp W1 W3 pb [8, n1, n2, n3]) := by
    rw [← Hpb.out]
    exact ⟨s2.size, s2.trans (since_mono s3 s2.size), W1.heap.size, _, Nat.le_refl _, r3, own_since o2 s3, by show some W1.heap.size ≠ some W2.heap.size; intro e; have := Option.some.inj e; omega, by have := s3.size; omega⟩
  have HMS : Hid (∀ X l, Wp W1 X pb l → MsgIs X w.heap.size m va vc) := fun X l hX => hM1.since hX.2.1
  have HSW := hide s1
  have c03 : W3.cell? ⟨w.heap.size, 0, none⟩ = some (.int .i64 8) := cell_later (s2.trans (since_mono s3 s2.size)) c0
  have Hz2 : Hid (w.heap.size + 1 + 1 = pb) := by show _ = _; rw [← Hpb.out, z2, z1]
  have HW3' : Hid (W2.alloc (.cells #[.slice (some ⟨w.heap.size + 1, 0, none⟩) 4 4] 113) = W3) := by rw [← z1]; exact HW3.out
  clear hA hm hfd hmU hkt hf hh s1 s2 s3 r3 o2 hM1 e1 e2 e3 HW3 Hpb z2
  unfold mgV
  rw [HMM.out]
  go_enter Tryz.func31, Tryz.ntmps31
  go_upto_region 1 with fail
  rw [HW1.out]
  go_upto_region 2 with fail
  try rw [z1]
  rw [HW2.out]
  try rw [z1]
  rw [HW3'.out]
  try simp only [Hz2.out]
  clear c0 c1 c2 c3 HW1 HW2 HW3' z1
  try rw [Hz2.out]
  have cc : W3.cell? ⟨w.heap.size, 11, none⟩ = some (.int .i64 (N11 : Nat)) := by
    have h : W3.cell? ⟨w.heap.size, 11, none⟩ = some (.int .i64 (m.n 11)) := (HMS.out _ _ HP.out).cell (i := 11) (by decide)
    rw [h, E11]
  have HQ := hide (pen_small HP.out N11 L11 (by (first | (simp only [List.length_cons, List.length_nil]; omega) | (simp only [List.length_append, List.length_cons, List.length_nil]; omega))))
  go_wp2_with fail
  refine HQ.out.mono ?_
  rintro e w10 ⟨rfl, hX⟩
  have HP10 : Hid (Wp W1 w10 pb ([8, n1, n2, n3] ++ [N11])) := hX
  clear HQ hX cc HP c03
  have cc : w10.cell? ⟨w.heap.size, 12, none⟩ = some (.int .u64 (N12 : Nat)) := by
    have h : w10.cell? ⟨w.heap.size, 12, none⟩ = some (.int .u64 (m.n 12)) := (HMS.out _ _ HP10.out).cell (i := 12) (by decide)
    rw [h, E12]
  have HQ := hide (pen_number HP10.out N12 (by omega) (by (first | (simp only [List.length_cons, List.length_nil]; omega) | (simp only [List.length_append, List.length_cons, List.length_nil]; omega))))
  go_wp2_with fail
  refine HQ.out.mono ?_
  rintro e w11 ⟨rfl, hX⟩
  have HP11 : Hid (Wp W1 w11 pb (([8, n1, n2, n3] ++ [N11]) ++ vl 9 N12)) := hX
  clear HQ hX cc HP10
  have cc : w11.cell? ⟨w.heap.size, 13, none⟩ = some (.string (strL (m.s 13))) := (HMS.out _ _ HP11.out).cell (i := 13) (by decide)
  have hcv := Lib.run_convert_string_bytes (P := Tryz.prog) w11 9 32 5 (strL (m.s 13)) Tryz.underlying9 Tryz.underlying32 Tryz.underlying5
  have q0 := pen_text (HP11.out.later (since_bytes w11 (strL (m.s 13)))) (some ⟨w11.heap.size, 0, none⟩) (strL (m.s 13)).size (grownCap w11 (strL (m.s 13)).size 0 5) (bx (strL (m.s 13))) (flb_new w11 (strL (m.s 13))).byt (fun e => by simp at e) (by rw [strL_size]; (first | (simp only [List.length_cons, List.length_nil]; omega) | (simp only [List.length_append, List.length_cons, List.length_nil]; omega)))
  have hl : (List.range (strL (m.s 13)).size).map (bx (strL (m.s 13))) = m.s 13 := by
    rw [strL_size]
    have e : bx (strL (m.s 13)) = fun j => (m.s 13).getD j 0 := funext fun j => bx_strL ((HMS.out _ _ HP11.out).byte 13) j
    rw [e, range_getD]
  rw [hl] at q0
  have HQ := hide q0
  clear q0 hl
  generalize strL (m.s 13) = S13 at *
  generalize Lib.bytesWorld w11 5 S13 = X13 at *
  go_wp2_with fail
  refine HQ.out.mono ?_
  rintro e w12 ⟨rfl, hX⟩
  have HP12 : Hid (Wp W1 w12 pb ((([8, n1, n2, n3] ++ [N11]) ++ vl 9 N12) ++ partL (m.s 13))) := hX
  clear HQ hX cc HP11 hcv
  have cc : w12.cell? ⟨w.heap.size, 15, none⟩ = some (.int .u64 (N15 : Nat)) := by
    have h : w12.cell? ⟨w.heap.size, 15, none⟩ = some (.int .u64 (m.n 15)) := (HMS.out _ _ HP12.out).cell (i := 15) (by decide)
    rw [h, E15]
  have HQ := hide (pen_number HP12.out N15 (by omega) (by (first | (simp only [List.length_cons, List.length_nil]; omega) | (simp only [List.length_append, List.length_cons, List.length_nil]; omega))))
  go_wp2_with fail
  refine HQ.out.mono ?_
  rintro e w13 ⟨rfl, hX⟩
  have HP13 : Hid (Wp W1 w13 pb (((([8, n1, n2, n3] ++ [N11]) ++ vl 9 N12) ++ partL (m.s 13)) ++ vl 9 N15)) := hX
  clear HQ hX cc HP12
  obtain ⟨B, v, hB, hI⟩ := HP13.out.2.2
  obtain ⟨xa, ln, xc, hv⟩ : ∃ xa ln xc, v = .slice xa ln xc := by
    obtain ⟨p, q, h⟩ := own_form hI.own
    exact ⟨p, _, q, h⟩
  have cc : w13.cell? ⟨pb, 0, none⟩ = some v := hI.cell.cell (i := 0) (by decide)
  have hz1 := HSW.out.size
  have HE : Hid (OwnL w13 w.heap.size v (bodyG m) ∧ w.Since w.heap.size w13) := by
    rw [← HBD.out]
    exact ⟨own_lower hI.own (by omega), HSW.out.trans (since_mono HP13.out.2.1 HSW.out.size)⟩
  subst hv
  clear hI hB HBD HMS HP13
  go_wp2_with fail
  go_ret
  exact ⟨_, rfl, HE.out⟩
end Go.Proofs.YtonpmabdjngdcaaGreatDoor
