/- Own texts, joined: RefK7, RefO1, Bits, Order, Mirror, RefSum, RefS, RefP. -/
import Derived.Test.YtonpmabdjngdcaaGreatDoorM9
import Derived.Test.YtonpmabdjngdcaaGreatDoorM8
import Derived.Test.YtonpmabdjngdcaaGreatDoorM1
import Derived.Test.YtonpmabdjngdcaaGreatDoorM7
import Derived.Deep.RegionLaw

/- The document's look: 7. -/
namespace Go.Proofs.YtonpmabdjngdcaaGreatDoor
open Go.RowKit
set_option maxRecDepth 100000

set_option maxHeartbeats 8000000 in
theorem look7 (hb ho n hc : Nat) (z : Nat → Nat) (w : World) (hcel : ∀ j, j < n → w.cell? ⟨hb, ho + j, none⟩ = some (.int .u8 (z j : Nat))) (hlt : hb < w.heap.size) (hz : ∀ j, z j < 256) (hn : n ≤ 140737488351232) (hcap : n ≤ hc) (hcm : hc ≤ 9223372036854775807) (hk : (headG z n).1.n 0 = 7) :
    Calls Tryz.prog 44 #[.slice (some ⟨hb, ho, none⟩) n hc] w fun e w' => LookAns z n w.heap.size e w' ∧ w.Since w.heap.size w' := by
  obtain ⟨W0, HW0⟩ : ∃ W, Hid (w.alloc mgZ = W) := ⟨_, rfl⟩
  have s0 : w.Since w.heap.size W0 := by rw [← HW0.out]; exact (World.Since.refl _ _).alloc (Nat.le_refl _) _
  have z0 : W0.heap.size = w.heap.size + 1 := by rw [← HW0.out]; simp
  have r0 : W0.rowIs w.heap.size 37 22 (mgCell mg0 none 0) := by rw [← HW0.out]; exact mgZ_row w
  obtain ⟨W1, HW1⟩ : ∃ W, Hid (W0.alloc (.cells #[.slice (some ⟨hb, ho, none⟩) n hc, .int .i64 0, .int .i64 0] 144) = W) := ⟨_, rfl⟩
  have s1 : W0.Since W0.heap.size W1 := by rw [← HW1.out]; exact (World.Since.refl _ _).alloc (Nat.le_refl _) _
  have z1 : W1.heap.size = w.heap.size + 1 + 1 := by rw [← HW1.out, ← z0]; simp
  have r1 : W1.rowIs (w.heap.size + 1) 144 3 (gCell hb ho hc n 0 0) := by rw [← z0, ← HW1.out]; exact eyeZ_row W0 hb ho hc n
  obtain ⟨W2, HW2⟩ : ∃ W, Hid (W1.alloc (.cells #[.pointer (some ⟨w.heap.size + 1, 0, none⟩), .int .i64 (n : Nat)] 146) = W) := ⟨_, rfl⟩
  have s2 : W1.Since W1.heap.size W2 := by rw [← HW2.out]; exact (World.Since.refl _ _).alloc (Nat.le_refl _) _
  have z2 : W2.heap.size = w.heap.size + 1 + 1 + 1 := by rw [← HW2.out, ← z1]; simp
  have r2 : W2.rowIs (w.heap.size + 1 + 1) 146 2 (eyCell (w.heap.size + 1) n) := by rw [← z1, ← HW2.out]; exact eyZ_row W1 _ n
  obtain ⟨W3, HW3⟩ : ∃ W, Hid (W2.alloc mgZ = W) := ⟨_, rfl⟩
  have s3 : W2.Since W2.heap.size W3 := by rw [← HW3.out]; exact (World.Since.refl _ _).alloc (Nat.le_refl _) _
  have z3 : W3.heap.size = w.heap.size + 1 + 1 + 1 + 1 := by rw [← HW3.out, ← z2]; simp
  have r3 : W3.rowIs (w.heap.size + 1 + 1 + 1) 37 22 (mgCell mg0 none 0) := by rw [← z2, ← HW3.out]; exact mgZ_row W2
  have s03 : W0.Since W0.heap.size W3 := (s1.trans (since_mono s2 s1.size)).trans (since_mono s3 (Nat.le_trans s1.size s2.size))
  have s13 : W1.Since W1.heap.size W3 := s2.trans (since_mono s3 s2.size)
  have sw3 : w.Since w.heap.size W3 := s0.trans (since_mono s03 s0.size)
  have HL : Hid (Lk (w.heap.size + 1 + 1 + 1 + 1) W3 (w.heap.size + 1 + 1) (w.heap.size + 1) hb ho hc n z (w.heap.size + 1 + 1 + 1) (mg0, 0, 0) none ∧ But2 (w.heap.size + 1) (w.heap.size + 1 + 1 + 1) W3 W3) :=
    ⟨⟨⟨row_since r2 s3, by omega⟩, ⟨row_since r1 s13, fun j hj => by rw [World.cell?_of_block (w := w) (sw3.block _ hlt)]; exact hcel j hj, fun _ => by omega, hz, Nat.zero_le _, by omega, hcap, hcm⟩, r3, .inl ⟨rfl, rfl⟩, fun c => Nat.zero_le _, fun c v hv => absurd hv (List.not_mem_nil), by omega, by omega, by omega, by omega, by omega, by omega, by omega⟩, But2.of_since (World.Since.refl _ _)⟩
  have HSR : Hid (w.Since w.heap.size W3 ∧ W3.rowIs w.heap.size 37 22 (mgCell mg0 none 0)) := ⟨sw3, row_since r0 s03⟩
  have HHK := hide hk
  clear s0 r0 s1 r1 s2 r2 s3 r3 s03 s13 sw3 hcel hz hcap hcm hlt hk
  unfold mgZ at HW0 HW3
  have Hz : Hid (w.heap.size + 1 + 1 + 1 + 1 ≤ W3.heap.size) := by show _ ≤ _; omega
  go_enter Tryz.func44, Tryz.ntmps44
  go_upto_region 1 with fail
  rw [HW0.out]
  go_upto_region 2 with fail
  try rw [z0]
  rw [HW1.out]
  try rw [z0]
  try rw [z1]
  rw [HW2.out]
  go_upto_region 3 with fail
  try rw [z2]
  rw [HW3.out]
  try rw [z2]
  clear HW0 HW1 HW2 HW3 z0 z1 z2 z3
  obtain ⟨eb, Heb⟩ : ∃ x, Hid (w.heap.size + 1 = x) := ⟨_, rfl⟩
  have hle : w.heap.size < eb := by rw [← Heb.out]; omega
  rw [Heb.out] at HL
  try rw [Heb.out] at Hz
  try simp only [Heb.out]
  obtain ⟨yb, Hyb⟩ : ∃ x, Hid (eb + 1 = x) := ⟨_, rfl⟩
  rw [Hyb.out] at HL
  try rw [Hyb.out] at Hz
  try simp only [Hyb.out]
  obtain ⟨kb, Hkb⟩ : ∃ x, Hid (yb + 1 = x) := ⟨_, rfl⟩
  have hlk : w.heap.size < kb := by rw [← Hkb.out, ← Hyb.out]; omega
  rw [Hkb.out] at HL
  try simp only [Hkb.out]
  obtain ⟨BB, HBB⟩ : ∃ x, Hid (kb + 1 = x) := ⟨_, rfl⟩
  have hlB : w.heap.size ≤ BB := by rw [← HBB.out]; omega
  rw [HBB.out] at HL
  have HLT : Hid (w.heap.size < eb ∧ w.heap.size < kb ∧ w.heap.size ≤ BB) := ⟨hle, hlk, hlB⟩
  clear hle hlk hlB Heb Hyb Hkb HBB Hz
  have HQ := hide (lk_small HL.out.1 0 11 (by decide) (by decide))
  go_wp2_with fail
  refine HQ.out.mono ?_
  rintro e w10 ⟨X, rfl, ⟨y, cy⟩, fz, HN⟩
  obtain ⟨m10, a10, b10, HG10⟩ : ∃ x y t, Hid ((Fd.small 0 11).get z n mg0 0 0 = (x, y, t)) := ⟨_, _, _, rfl⟩
  rw [HG10.out] at HN
  have HL10 := hide (And.intro HN.out.1 (HL.out.2.trans HN.out.2))
  clear HQ HN HL
  go_upto_region 4 with fail
  clear cy fz
  have HQ := hide (lk_small HL10.out.1 1 8 (by decide) (by decide))
  go_wp2_with fail
  refine HQ.out.mono ?_
  rintro e w11 ⟨X, rfl, ⟨y, cy⟩, fz, HN⟩
  obtain ⟨m11, a11, b11, HG11⟩ : ∃ x y t, Hid ((Fd.small 1 8).get z n m10 a10 b10 = (x, y, t)) := ⟨_, _, _, rfl⟩
  rw [HG11.out] at HN
  have HL11 := hide (And.intro HN.out.1 (HL10.out.2.trans HN.out.2))
  clear HQ HN HL10
  go_upto_region 5 with fail
  clear cy fz
  have HQ := hide (lk_small HL11.out.1 2 8 (by decide) (by decide))
  go_wp2_with fail
  refine HQ.out.mono ?_
  rintro e w12 ⟨X, rfl, ⟨y, cy⟩, fz, HN⟩
  obtain ⟨m12, a12, b12, HG12⟩ : ∃ x y t, Hid ((Fd.small 2 8).get z n m11 a11 b11 = (x, y, t)) := ⟨_, _, _, rfl⟩
  rw [HG12.out] at HN
  have HL12 := hide (And.intro HN.out.1 (HL11.out.2.trans HN.out.2))
  clear HQ HN HL11
  go_upto_region 6 with fail
  clear cy fz
  have HQ := hide (lk_small HL12.out.1 3 7 (by decide) (by decide))
  go_wp2_with fail
  refine HQ.out.mono ?_
  rintro e w13 ⟨X, rfl, ⟨y, cy⟩, fz, HN⟩
  obtain ⟨m13, a13, b13, HG13⟩ : ∃ x y t, Hid ((Fd.small 3 7).get z n m12 a12 b12 = (x, y, t)) := ⟨_, _, _, rfl⟩
  rw [HG13.out] at HN
  have HL13 := hide (And.intro HN.out.1 (HL12.out.2.trans HN.out.2))
  clear HQ HN HL12
  go_upto_region 7 with fail
  clear cy fz
  have HHD : Hid (headG z n = (m13, a13, b13)) := by
    show getL z n [Fd.small 0 11, Fd.small 1 8, Fd.small 2 8, Fd.small 3 7] mg0 0 0 = _
    rw [getL_cons, HG10.out]
    dsimp only
    rw [getL_cons, HG11.out]
    dsimp only
    rw [getL_cons, HG12.out]
    dsimp only
    rw [getL_cons, HG13.out]
    dsimp only
    rfl
  rw [HHD.out] at HHK
  obtain ⟨V, HV⟩ : ∃ W, Hid (w13.setCell ⟨kb, 3, none⟩ (.int .i64 (X : Nat)) = W) := ⟨_, rfl⟩
  rw [HV.out] at HL13 ⊢
  clear HV
  have c0 : V.cell? ⟨kb, 0, none⟩ = some (.int .i64 (m13.n 0)) := HL13.out.1.row.cell (i := 0) (by decide)
  have hkk : m13.n 0 = 7 := HHK.out
  rw [hkk] at c0
  have HKK := hide hkk
  clear hkk HHK
  have HQ := hide (lk_number HL13.out.1 hn 4 1099511627776 (by decide) (by decide))
  go_wp2_with fail
  refine HQ.out.mono ?_
  rintro e w14 ⟨X, rfl, ⟨y, cy⟩, fz, HN⟩
  obtain ⟨m14, a14, b14, HG14⟩ : ∃ x y t, Hid ((wide n (.var 4 1099511627776)).get z n m13 a13 b13 = (x, y, t)) := ⟨_, _, _, rfl⟩
  rw [HG14.out] at HN
  have HL14 := hide (And.intro HN.out.1 (HL13.out.2.trans HN.out.2))
  clear HQ HN HL13 c0
  go_upto_region 33 with fail
  clear cy fz
  have HQ := hide (lk_number HL14.out.1 hn 7 1099511627776 (by decide) (by decide))
  go_wp2_with fail
  refine HQ.out.mono ?_
  rintro e w15 ⟨X, rfl, ⟨y, cy⟩, fz, HN⟩
  obtain ⟨m15, a15, b15, HG15⟩ : ∃ x y t, Hid ((wide n (.var 7 1099511627776)).get z n m14 a14 b14 = (x, y, t)) := ⟨_, _, _, rfl⟩
  rw [HG15.out] at HN
  have HL15 := hide (And.intro HN.out.1 (HL14.out.2.trans HN.out.2))
  clear HQ HN HL14
  go_upto_region 34 with fail
  clear cy fz
  have HLQ : Hid ((m15, a15, b15).1 = lookG z n) := by
    show _ = (getL z n _ _ _ _).1
    rw [HHD.out]
    show _ = (getL z n ((fdsK (m13.n 0).toNat).map (wide n)) m13 a13 b13).1
    rw [HKK.out, show fdsK ((7 : Int).toNat) = [.var 4 1099511627776, .var 7 1099511627776] by kernel_rfl]
    show _ = (getL z n [wide n (.var 4 1099511627776), wide n (.var 7 1099511627776)] m13 a13 b13).1
    have e : getL z n [wide n (.var 4 1099511627776), wide n (.var 7 1099511627776)] m13 a13 b13 = (m15, a15, b15) := by
      rw [getL_cons, HG14.out]
      dsimp only
      rw [getL_cons, HG15.out]
      dsimp only
      rfl
    rw [e]
  have HH9 := hide (row_heap HL15.out.1.row)
  obtain ⟨ZW, HZ, HT9, HHZ, HE⟩ := look_end HL15.out.1 HL15.out.2 HLQ.out HSR.out.1 HSR.out.2 HLT.out.2.2 HLT.out.1 HLT.out.2.1
  have HH9' : Hid (_ = some (Obj.cells (mgL m15 none (m15.s 10).length).toArray 37 (0, 0))) := HH9
  clear HH9 HLQ HSR HLT HL15 HHD
  have HIN := hide (infoMgA m15 none (m15.s 10).length)
  have HON := hide (mg_all m15 none (m15.s 10).length)
  have HZ' : Hid (World.setCells _ w.heap.size 0 (mgL m15 none (m15.s 10).length).toArray.toList = ZW) := HZ
  clear HZ
  generalize (mgL m15 none (m15.s 10).length).toArray = MA at *
  refine wp_region_lit ?_
  refine wpList_load_row rfl 37 _ rfl kb rfl _ MA (0, 0) _ HH9'.out Tryz.underlying37 rfl HIN.out ?_
  refine wpList_store_mid rfl 37 _ _ rfl w.heap.size 0 MA rfl rfl HT9.out HIN.out HON.out ?_
  rw [HZ'.out]
  go_wp2_with fail
  exact bodyPost_ret_by (results_cell_row rfl _ _ w.heap.size 37 _ (0, 0) _ rfl HHZ.out Tryz.underlying37 rfl HIN.out) rfl HE.out
end Go.Proofs.YtonpmabdjngdcaaGreatDoor

/- The document's Only: kind 1. -/
namespace Go.Proofs.YtonpmabdjngdcaaGreatDoor
open Go.RowKit
set_option maxRecDepth 100000

set_option maxHeartbeats 8000000 in
theorem only1 (m : Mg) (va : Option Addr) (vc : Nat) (w : World) (hA : MgA w m va vc) (h0 : m.n 0 = 1) :
    Calls Tryz.prog 29 #[mgV m va vc] w fun e w' => e = .returned (mgV (onlyG m) none 0) ∧ w.Since w.heap.size w' := by
  have hkt : (m.n 0).toNat = 1 := by rw [h0]; rfl
  obtain ⟨MM, HMM⟩ : ∃ x, Hid ((mgL m va vc).toArray = x) := ⟨_, rfl⟩
  obtain ⟨W1, HW1⟩ : ∃ W, Hid (w.alloc (.cells MM 37) = W) := ⟨_, rfl⟩
  have s1 : w.Since w.heap.size W1 := by rw [← HW1.out]; exact (World.Since.refl _ _).alloc (Nat.le_refl _) _
  have z1 : W1.heap.size = w.heap.size + 1 := by rw [← HW1.out]; simp
  have hM1 : MsgIs W1 w.heap.size m va vc := by rw [← HW1.out, ← HMM.out]; exact hA.is
  obtain ⟨W2, HW2⟩ : ∃ W, Hid (W1.alloc mgZ = W) := ⟨_, rfl⟩
  have s2 : W1.Since W1.heap.size W2 := by rw [← HW2.out]; exact (World.Since.refl _ _).alloc (Nat.le_refl _) _
  have z2 : W2.heap.size = w.heap.size + 1 + 1 := by rw [← HW2.out, ← z1]; simp
  have r2 : W2.rowIs (w.heap.size + 1) 37 22 (mgCell mg0 none 0) := by rw [← z1, ← HW2.out]; exact mgZ_row W1
  have hM2 := hM1.since s2
  have c0 : W2.cell? ⟨w.heap.size, 0, none⟩ = some (.int .i64 (m.n 0)) := hM2.cell (i := 0) (by decide)
  have c1 : W2.cell? ⟨w.heap.size, 1, none⟩ = some (.int .i64 (m.n 1)) := hM2.cell (i := 1) (by decide)
  have c2 : W2.cell? ⟨w.heap.size, 2, none⟩ = some (.int .i64 (m.n 2)) := hM2.cell (i := 2) (by decide)
  have c3 : W2.cell? ⟨w.heap.size, 3, none⟩ = some (.int .i64 (m.n 3)) := hM2.cell (i := 3) (by decide)
  have s2z : W2.Since W2.heap.size (W2.alloc mgZ) := (World.Since.refl _ _).alloc (Nat.le_refl _) _
  obtain ⟨W3, HW3, r3, h3, z3', b3, o3, t3, p3⟩ := mg_stored (mgZ_row W2) (takeL m hds mg0) none 0
  have z3 : W3.heap.size = w.heap.size + 1 + 1 + 1 := by rw [z3', ← z2]; simp
  have s3 : W2.Since W2.heap.size W3 := ⟨o3.trans s2z.os, t3.trans s2z.tape, p3.trans s2z.output, by rw [z3']; exact s2z.size, fun k hk => (b3 k (by omega)).trans (s2z.block k hk)⟩
  have HT3 : Hid ((W2.alloc mgZ).there W2.heap.size 0 (mgL (takeL m hds mg0) none 0).toArray.size) := by
    have e : (mgL (takeL m hds mg0) none 0).toArray.size = 22 := by rw [List.size_toArray, mgL_len]
    show World.there _ _ _ _
    rw [e]
    exact row_there (mgZ_row W2)
  have HRG : Hid (W2.rangeAt w.heap.size 0 [.int .i64 (m.n 0), .int .i64 (m.n 1), .int .i64 (m.n 2), .int .i64 (m.n 3)]) := fun j v hv => by
    match j, hv with
    | 0, hv => rw [← Option.some.inj hv]; exact c0
    | 1, hv => rw [← Option.some.inj hv]; exact c1
    | 2, hv => rw [← Option.some.inj hv]; exact c2
    | 3, hv => rw [← Option.some.inj hv]; exact c3
    | n + 4, hv => simp at hv
  rw [z2] at r3
  obtain ⟨kb, Hkb⟩ : ∃ x, Hid (w.heap.size + 1 + 1 = x) := ⟨_, rfl⟩
  have hkb : kb = w.heap.size + 1 + 1 := Hkb.out.symm
  rw [Hkb.out] at r3
  have hM3 := hM2.since s3
  have hR3 := row_since r2 s3
  have sw3 : w.Since w.heap.size W3 := (s1.trans (since_mono s2 (by omega))).trans (since_mono s3 (by omega))
  have HMC : Hid (∀ X, But kb W3 X → MsgIs X w.heap.size m va vc) := fun X hX => hM3.keep (hX.block _ (by omega) (by omega)) (fun q e h0 => hX.block _ (hM3.lt q e h0) (by have := hA.lt q e h0; omega)) hX.size
  have HRR : Hid (∀ X, But kb W3 X → X.rowIs (w.heap.size + 1) 37 22 (mgCell mg0 none 0)) := fun X hX => hR3.of_block (hX.block _ (by omega) (by omega))
  have HSS : Hid (∀ X, But kb W3 X → w.Since w.heap.size X) := fun X hX => ⟨hX.os.trans sw3.os, hX.tape.trans sw3.tape, hX.output.trans sw3.output, Nat.le_trans sw3.size hX.size, fun q hq => (hX.block q (by omega) (by omega)).trans (sw3.block q hq)⟩
  have ck : W3.cell? ⟨w.heap.size, 0, none⟩ = some (.int .i64 1) := by
    have : W3.cell? ⟨w.heap.size, 0, none⟩ = some (.int .i64 (m.n 0)) := hM3.cell (i := 0) (by decide)
    rw [this, h0]
  have HB : Hid (But kb W3 W3) := But.of_since (World.Since.refl _ _)
  have HRW : Hid (W3.rowIs kb 37 22 (mgCell (takeL m hds mg0) none 0)) := r3
  have HTK : Hid (((takeL m hds mg0).setN 4 (m.n 4)) = onlyG m) := by
    have hfd : fdsK 1 = [.var 4 1099511627776] := by kernel_rfl
    show _ = takeL m (fdsK (m.n 0).toNat) (takeL m hds mg0)
    rw [hkt, hfd]
    generalize takeL m hds mg0 = q
    rfl
  clear hA hM1 s1 s2 s3 hM2 hM3 r2 r3 hR3 sw3 h0 hkt h3 z3' b3 o3 t3 p3 s2z
  unfold mgZ at HW2
  unfold mgV
  rw [HMM.out]
  go_enter Tryz.func29, Tryz.ntmps29
  go_upto_region 1 with fail
  rw [HW1.out, HW2.out]
  try rw [z1]
  refine wp_region_lit ?_
  refine wpList_plain rfl fun _ hK => op_run (.pointer (some ⟨w.heap.size, 0, none⟩)) (by kernel_rfl) (hK _ _ ?_)
  refine wpList_load_mid rfl 28 (.tmp 4) rfl w.heap.size 0 rfl _ _ HRG.out Tryz.underlying28 rfl infoHd ?_
  refine wpList_plain rfl fun _ hK => op_run (mgV (takeL m hds mg0) none 0) (by rw [mgV_head]; kernel_rfl) (hK _ _ ?_)
  refine wpList_plain rfl fun _ hK => op_runW (w' := W2.alloc mgZ) (.pointer (some ⟨W2.heap.size, 0, none⟩)) (by kernel_rfl) (hK _ _ ?_)
  refine wpList_store_mid rfl 37 (.tmp 3) (.tmp 6) rfl W2.heap.size 0 (mgL (takeL m hds mg0) none 0).toArray rfl rfl HT3.out (infoMgA _ _ _) (mg_all _ _ _) ?_
  rw [show (mgL (takeL m hds mg0) none 0).toArray.toList = mgL (takeL m hds mg0) none 0 from rfl, HW3.out]
  rw [z2, Hkb.out]
  clear c0 c1 c2 c3 HW1 HW2 HW3 z1 z2 z3 hkb HT3 HRG
  go_upto_region 4 with fail
  clear ck
  have hM := HMC.out _ HB.out
  have c4 : W3.cell? ⟨w.heap.size, 4, none⟩ = some (.int .u64 (m.n 4)) := hM.cell (i := 4) (by decide)
  have d4 := HRW.out.cell (i := 4) (by decide)
  have f4 := HRW.out.frozen 4
  have d4' : ∃ v, W3.cell? ⟨kb, 4, none⟩ = some v := ⟨_, d4⟩
  obtain ⟨v4, g4⟩ := d4'
  clear d4
  obtain ⟨W4, HW4⟩ : ∃ W, Hid ((W3.setCell ⟨kb, 4, none⟩ (.int .u64 (m.n 4))) = W) := ⟨_, rfl⟩
  have HR4 : Hid (W4.rowIs kb 37 22 (mgCell ((takeL m hds mg0).setN 4 (m.n 4)) none 0)) := by rw [← HW4.out]; exact (row_setN HRW.out 4 (m.n 4) (by decide) (by decide) (by decide))
  have HB4 : Hid (But kb W3 W4) := by rw [← HW4.out]; exact (HB.out.setCell 4 _)
  clear hM HRW
  go_upto_region 46 with fail
  rw [HW4.out]
  clear HW4 c4 g4 f4
  have HR9 : Hid (W4.rowIs kb 37 22 (mgCell (onlyG m) none 0)) := by rw [← HTK.out]; exact HR4.out
  have HH9 := hide (row_heap HR9.out)
  obtain ⟨Z, HZ, rZ, hZ, zZ, bZ, oZ, tZ, pZ⟩ := mg_stored (HRR.out _ HB4.out) (onlyG m) none 0
  have HT9 : Hid (W4.there (w.heap.size + 1) 0 (mgL (onlyG m) none 0).toArray.size) := by
    have e : (mgL (onlyG m) none 0).toArray.size = 22 := by rw [List.size_toArray, mgL_len]
    show World.there _ _ _ _
    rw [e]
    exact row_there (HRR.out _ HB4.out)
  have HE : Hid (w.Since w.heap.size Z) := by
    have a := HSS.out _ HB4.out
    exact ⟨oZ.trans a.os, tZ.trans a.tape, pZ.trans a.output, by rw [zZ]; exact a.size, fun q hq => (bZ q (by omega)).trans (a.block q hq)⟩
  have HHZ := hide hZ
  refine wp_region_lit ?_
  refine wpList_load_row rfl 37 _ rfl kb rfl _ (mgL (onlyG m) none 0).toArray (0, 0) _ HH9.out Tryz.underlying37 rfl (infoMgA _ _ _) ?_
  refine wpList_store_mid rfl 37 _ _ rfl (w.heap.size + 1) 0 (mgL (onlyG m) none 0).toArray rfl rfl HT9.out (infoMgA _ _ _) (mg_all _ _ _) ?_
  rw [show (mgL (onlyG m) none 0).toArray.toList = mgL (onlyG m) none 0 from rfl, HZ.out]
  clear HZ rZ hZ zZ bZ oZ tZ pZ HT9 HH9 HR9
  go_wp2_with fail
  exact bodyPost_ret_by (results_cell_row rfl _ _ (w.heap.size + 1) 37 _ (0, 0) _ rfl HHZ.out Tryz.underlying37 rfl (infoMgA _ _ _)) rfl ⟨rfl, HE.out⟩
end Go.Proofs.YtonpmabdjngdcaaGreatDoor

/- Plain facts on the check sum bit by bit: one step of the register, its order, and what a text's turned bits do to the sum. -/
namespace Go.Proofs.YtonpmabdjngdcaaGreatDoor.Crc

def poly : Nat := 3988292384
def step (s : Nat) : Nat := (s / 2) ^^^ (if s % 2 = 1 then poly else 0)
def it : Nat → Nat → Nat
  | 0, s => s
  | k + 1, s => step (it k s)

theorem eq_of_xor {a b : Nat} (h : a ^^^ b = 0) : a = b := by
  have : (a ^^^ b) ^^^ b = b := by rw [h, Nat.zero_xor]
  rwa [Nat.xor_assoc, Nat.xor_self, Nat.xor_zero] at this

theorem it_add (a b s : Nat) : it (a + b) s = it a (it b s) := by
  induction a with
  | zero => simp [it]
  | succ a ih => rw [show a + 1 + b = (a + b) + 1 by omega]; show step _ = step _; rw [ih]
theorem xor_div2 (a b : Nat) : (a ^^^ b) / 2 = (a / 2) ^^^ (b / 2) := by
  have := Nat.shiftRight_xor_distrib (a := a) (b := b) (i := 1)
  simpa [Nat.shiftRight_eq_div_pow] using this
theorem xor_mod2 (a b : Nat) : (a ^^^ b) % 2 = (a % 2) ^^^ (b % 2) := by
  simpa using Nat.xor_mod_two_pow (a := a) (b := b) (n := 1)
theorem step_xor (a b : Nat) : step (a ^^^ b) = step a ^^^ step b := by
  unfold step
  rw [xor_div2, xor_mod2, xor4]
  congr 1
  rcases Nat.mod_two_eq_zero_or_one a with ha | ha <;> rcases Nat.mod_two_eq_zero_or_one b with hb | hb <;> rw [ha, hb] <;> simp
theorem it_xor (k a b : Nat) : it k (a ^^^ b) = it k a ^^^ it k b := by
  induction k with
  | zero => rfl
  | succ k ih => show step _ = step _ ^^^ step _; rw [ih, step_xor]
theorem step_zero : step 0 = 0 := by decide
theorem it_zero (k : Nat) : it k 0 = 0 := by
  induction k with
  | zero => rfl
  | succ k ih => show step _ = _; rw [ih, step_zero]
theorem step_lt (s : Nat) (h : s < 4294967296) : step s < 4294967296 := by
  unfold step
  refine Nat.xor_lt_two_pow (n := 32) ?_ ?_
  · show s / 2 < 4294967296; omega
  · split <;> decide
theorem it_lt (k s : Nat) (h : s < 4294967296) : it k s < 4294967296 := by
  induction k with
  | zero => exact h
  | succ k ih => exact step_lt _ ih
/-- The register's step loses nothing. -/
theorem step_eq_zero (s : Nat) (h : s < 4294967296) (e : step s = 0) : s = 0 := by
  unfold step at e
  split at e
  · have h2 : s / 2 = poly := eq_of_xor e
    have : poly = 3988292384 := rfl
    omega
  · have h2 : s / 2 = 0 := eq_of_xor e
    omega
theorem it_eq_zero (k s : Nat) (h : s < 4294967296) (e : it k s = 0) : s = 0 := by
  induction k with
  | zero => exact e
  | succ k ih => exact ih (step_eq_zero _ (it_lt k s h) e)
theorem it_inj (k a b : Nat) (ha : a < 4294967296) (hb : b < 4294967296) (e : it k a = it k b) : a = b := by
  have h := it_eq_zero k (a ^^^ b) (Nat.xor_lt_two_pow (n := 32) ha hb) (by rw [it_xor, e, Nat.xor_self])
  exact eq_of_xor h
theorem step_double (q : Nat) : step (2 * q) = q := by
  unfold step
  rw [if_neg (by omega)]; simp
theorem it_shift (t q : Nat) : it t (2 ^ t * q) = q := by
  induction t generalizing q with
  | zero => simp [it]
  | succ t ih => show step (it t _) = _; rw [Nat.pow_succ, Nat.mul_assoc, ih, step_double]
theorem it_pow (t : Nat) : it t (2 ^ t) = 1 := by have := it_shift t 1; simpa using this

/-- Four steps at once. -/
theorem split16 (s : Nat) : s = (16 * (s / 16)) ^^^ (s % 16) := by
  have h : 2 ^ 4 * (s / 16) ||| s % 16 = 2 ^ 4 * (s / 16) + s % 16 := (Nat.two_pow_add_eq_or_of_lt (by exact Nat.mod_lt s (by decide)) (s / 16)).symm
  apply Nat.eq_of_testBit_eq
  intro i
  rw [Nat.testBit_xor]
  by_cases hi : i < 4
  · have h1 : (16 * (s / 16)).testBit i = false := by
      rw [show 16 * (s / 16) = 2 ^ 4 * (s / 16) by rfl, Nat.testBit_two_pow_mul]; simp; omega
    have h2 : (s % 16).testBit i = s.testBit i := by
      rw [show s % 16 = s % 2 ^ 4 by rfl, Nat.testBit_mod_two_pow]; simp [hi]
    rw [h1, h2]; simp
  · have h1 : (16 * (s / 16)).testBit i = s.testBit i := by
      rw [show 16 * (s / 16) = 2 ^ 4 * (s / 16) by rfl, Nat.testBit_two_pow_mul, show s / 16 = s / 2 ^ 4 by rfl, Nat.testBit_div_two_pow]
      simp [show 4 ≤ i by omega]
    have h2 : (s % 16).testBit i = false := by
      rw [show s % 16 = s % 2 ^ 4 by rfl, Nat.testBit_mod_two_pow]; simp [hi]
    rw [h1, h2]; simp
theorem T_it16 : ∀ r : Fin 16, T r.val = it 4 r.val := by decide +kernel
theorem half_it (s : Nat) : half s = it 4 s := by
  have e : half s = (s / 16) ^^^ T (s % 16) := rfl
  rw [e, T_it16 ⟨s % 16, Nat.mod_lt _ (by decide)⟩]
  have h : it 4 s = it 4 ((16 * (s / 16)) ^^^ (s % 16)) := by rw [← split16]
  rw [h, it_xor]
  have : it 4 (16 * (s / 16)) = s / 16 := it_shift 4 (s / 16)
  rw [this]
theorem byte_it (s c : Nat) : byte s c = it 8 (s ^^^ c) := by
  show half (half _) = _
  rw [half_it, half_it, ← it_add]

/-- The text in which bit number i alone is set. -/
def bitAt (i j : Nat) : Nat := if j = i / 8 then 2 ^ (i % 8) else 0
theorem fold_map_xor (n s t : Nat) (x y : Nat → Nat) : fold (s ^^^ t) ((List.range n).map fun j => x j ^^^ y j) = fold s ((List.range n).map x) ^^^ fold t ((List.range n).map y) := by
  induction n with
  | zero => rfl
  | succ n ih => simp only [List.range_succ, List.map_append, List.map_cons, List.map_nil, fold_snoc]; rw [ih, byte_xor]
theorem fold_zeros (n : Nat) : fold 0 ((List.range n).map fun _ => 0) = 0 := by
  induction n with
  | zero => rfl
  | succ n ih => simp only [List.range_succ, List.map_append, List.map_cons, List.map_nil, fold_snoc]; rw [ih]; decide
theorem fold_bit (n i : Nat) : (8 * n ≤ i → fold 0 ((List.range n).map (bitAt i)) = 0) ∧ (i < 8 * n → fold 0 ((List.range n).map (bitAt i)) = it (8 * n - i) 1) := by
  induction n with
  | zero => exact ⟨fun _ => rfl, fun h => by omega⟩
  | succ n ih =>
    simp only [List.range_succ, List.map_append, List.map_cons, List.map_nil, fold_snoc, byte_it]
    refine ⟨fun h => ?_, fun h => ?_⟩
    · rw [ih.1 (by omega)]
      have : bitAt i n = 0 := by unfold bitAt; rw [if_neg (by omega)]
      rw [this]; exact it_zero 8
    · by_cases hi : i < 8 * n
      · have : bitAt i n = 0 := by unfold bitAt; rw [if_neg (by omega)]
        rw [this, Nat.xor_zero, ih.2 hi, ← it_add]
        congr 1; omega
      · have hb : bitAt i n = 2 ^ (i % 8) := by unfold bitAt; rw [if_pos (by omega)]
        rw [ih.1 (by omega), hb, Nat.zero_xor]
        have e : it 8 (2 ^ (i % 8)) = it (8 - i % 8) (it (i % 8) (2 ^ (i % 8))) := by rw [← it_add]; congr 1; omega
        rw [e, it_pow]
        congr 1; omega
/-- THE SUM OF A TEXT, SOME OF ITS BITS TURNED: what the turned bits alone make of the register. -/
theorem sum_turned (n : Nat) (x d : Nat → Nat) : sum ((List.range n).map fun j => x j ^^^ d j) = sum ((List.range n).map x) ^^^ fold 0 ((List.range n).map d) := by
  unfold sum
  have := fold_map_xor n 4294967295 0 x d
  rw [Nat.xor_zero] at this
  rw [this, Nat.xor_assoc, Nat.xor_assoc]; congr 1; exact Nat.xor_comm _ _

/-- The bits from 'at' on, k of them, as the word says. -/
def burst (at' word : Nat) : Nat → Nat → Nat
  | 0, _ => 0
  | k + 1, j => burst at' word k j ^^^ (if word / 2 ^ k % 2 = 1 then bitAt (at' + k) j else 0)
theorem mod_succ (w k : Nat) : w % 2 ^ (k + 1) = (w % 2 ^ k) ^^^ (if w / 2 ^ k % 2 = 1 then 2 ^ k else 0) := by
  apply Nat.eq_of_testBit_eq
  intro i
  have hw : w.testBit k = decide (w / 2 ^ k % 2 = 1) := Nat.testBit_eq_decide_div_mod_eq
  rw [Nat.testBit_xor, Nat.testBit_mod_two_pow, Nat.testBit_mod_two_pow]
  by_cases hb : w / 2 ^ k % 2 = 1
  · rw [if_pos hb, Nat.testBit_two_pow]
    by_cases e : k = i
    · subst e; rw [hw]; simp [hb]
    · have : decide (i < k + 1) = decide (i < k) := by simp; omega
      rw [this]; simp [e]
  · rw [if_neg hb, Nat.zero_testBit]
    by_cases e : k = i
    · subst e; rw [hw]; simp [hb]
    · have : decide (i < k + 1) = decide (i < k) := by simp; omega
      rw [this]; simp
theorem fold_burst (n at' word k : Nat) (h : at' + k ≤ 8 * n) : fold 0 ((List.range n).map (burst at' word k)) = it (8 * n - at') (word % 2 ^ k) := by
  induction k with
  | zero => rw [Nat.pow_zero, Nat.mod_one, it_zero]; exact fold_zeros n
  | succ k ih =>
    have e : burst at' word (k + 1) = fun j => burst at' word k j ^^^ (if word / 2 ^ k % 2 = 1 then bitAt (at' + k) j else 0) := rfl
    have hx := fold_map_xor n 0 0 (burst at' word k) (fun j => if word / 2 ^ k % 2 = 1 then bitAt (at' + k) j else 0)
    rw [Nat.xor_self] at hx
    rw [e, hx, ih (by omega), mod_succ, it_xor]
    congr 1
    by_cases hb : word / 2 ^ k % 2 = 1
    · simp only [if_pos hb]
      rw [show (fun j => bitAt (at' + k) j) = bitAt (at' + k) from rfl, (fold_bit n (at' + k)).2 (by omega)]
      have : it (8 * n - at') (2 ^ k) = it (8 * n - (at' + k)) (it k (2 ^ k)) := by rw [← it_add]; congr 1; omega
      rw [this, it_pow]
    · simp only [if_neg hb]
      rw [fold_zeros, it_zero]
/-- A BURST IS TOLD. -/
theorem burst_told (n at' word k : Nat) (h : at' + k ≤ 8 * n) (hk : k ≤ 32) (e : fold 0 ((List.range n).map (burst at' word k)) = 0) : word % 2 ^ k = 0 := by
  rw [fold_burst n at' word k h] at e
  refine it_eq_zero _ _ ?_ e
  exact Nat.lt_of_lt_of_le (Nat.mod_lt _ (Nat.two_pow_pos k)) (Nat.pow_le_pow_right (by decide) hk)
end Go.Proofs.YtonpmabdjngdcaaGreatDoor.Crc

/- Plain facts on the order of the register's step: behind fewer than 2 to the 32 less one steps a lone bit does not come back. -/
namespace Go.Proofs.YtonpmabdjngdcaaGreatDoor.Crc

/-- A linear map by what it makes of the powers of two. -/
def app : List Nat → Nat → Nat
  | [], _ => 0
  | m :: r, v => (if v % 2 = 1 then m else 0) ^^^ app r (v / 2)
def sq (M : List Nat) : List Nat := M.map (app M)
/-- e rounds of the map, by squaring. -/
def pw : Nat → List Nat → Nat → Nat → Nat
  | 0, _, _, v => v
  | f + 1, M, e, v => pw f (sq M) (e / 2) (if e % 2 = 1 then app M v else v)
def cols : List Nat := [poly, 1, 2, 4, 8, 16, 32, 64, 128, 256, 512, 1024, 2048, 4096, 8192, 16384, 32768, 65536, 131072, 262144, 524288, 1048576, 2097152, 4194304, 8388608, 16777216, 33554432, 67108864, 134217728, 268435456, 536870912, 1073741824]

def Rep (M : List Nat) (d : Nat) : Prop := M = (List.range 32).map fun i => it d (2 ^ i)
theorem rep_cols : Rep cols 1 := by unfold Rep; decide +kernel
theorem split2 (v : Nat) : v = (2 * (v / 2)) ^^^ (v % 2) := by
  apply Nat.eq_of_testBit_eq
  intro i
  rw [Nat.testBit_xor]
  cases i with
  | zero => simp [Nat.testBit_zero]
  | succ i =>
    have h1 : (2 * (v / 2)).testBit (i + 1) = v.testBit (i + 1) := by
      rw [Nat.testBit_succ, Nat.testBit_succ]; congr 1; omega
    have h2 : (v % 2).testBit (i + 1) = false := by
      rw [Nat.testBit_succ]; have : v % 2 / 2 = 0 := by omega
      rw [this, Nat.zero_testBit]
    rw [h1, h2]; simp
theorem app_gen (d : Nat) : ∀ (n a v : Nat), v < 2 ^ n → app ((List.range n).map fun i => it d (2 ^ (a + i))) v = it d (2 ^ a * v) := by
  intro n
  induction n with
  | zero => intro a v h; obtain rfl : v = 0 := by simpa using h
            simp [app, it_zero]
  | succ n ih =>
    intro a v h
    rw [List.range_succ_eq_map, List.map_cons, List.map_map]
    show (if v % 2 = 1 then it d (2 ^ (a + 0)) else 0) ^^^ app _ (v / 2) = _
    have hm : ((fun i => it d (2 ^ (a + i))) ∘ Nat.succ) = fun i => it d (2 ^ ((a + 1) + i)) := by
      funext i; show it d (2 ^ (a + (i + 1))) = _; congr 2; omega
    rw [hm, ih (a + 1) (v / 2) (by rw [Nat.pow_succ] at h; omega)]
    have hv : 2 ^ a * v = (2 ^ (a + 1) * (v / 2)) ^^^ (2 ^ a * (v % 2)) := by
      have h2 : v <<< a = ((2 * (v / 2)) <<< a) ^^^ ((v % 2) <<< a) := by rw [← Nat.shiftLeft_xor_distrib, ← split2]
      rw [Nat.shiftLeft_eq, Nat.shiftLeft_eq, Nat.shiftLeft_eq] at h2
      rw [Nat.mul_comm, h2, Nat.pow_succ, show 2 * (v / 2) * 2 ^ a = 2 ^ a * 2 * (v / 2) by ac_rfl, Nat.mul_comm (v % 2)]
    rw [hv, it_xor, Nat.xor_comm]
    congr 1
    rcases Nat.mod_two_eq_zero_or_one v with e | e <;> rw [e]
    · simp [it_zero]
    · simp
theorem app_rep {M : List Nat} {d : Nat} (h : Rep M d) (v : Nat) (hv : v < 4294967296) : app M v = it d v := by
  rw [h]
  have := app_gen d 32 0 v hv
  simpa using this
theorem rep_sq {M : List Nat} {d : Nat} (h : Rep M d) : Rep (sq M) (d + d) := by
  unfold Rep sq
  conv => lhs; arg 2; rw [h]
  rw [List.map_map]
  apply List.map_congr_left
  intro i hi
  have hi' := List.mem_range.1 hi
  show app M (it d (2 ^ i)) = _
  rw [app_rep h _ (it_lt d _ (Nat.pow_lt_pow_right (by decide) hi')), it_add]
theorem pw_rep : ∀ (f : Nat) (M : List Nat) (d e v : Nat), Rep M d → e < 2 ^ f → v < 4294967296 → pw f M e v = it (d * e) v := by
  intro f
  induction f with
  | zero => intro M d e v _ he _; obtain rfl : e = 0 := by simpa using he
            rfl
  | succ f ih =>
    intro M d e v h he hv
    show pw f (sq M) (e / 2) _ = _
    rw [ih (sq M) (d + d) (e / 2) _ (rep_sq h) (by rw [Nat.pow_succ] at he; omega) (by
      split
      · rw [app_rep h v hv]; exact it_lt d v hv
      · exact hv)]
    by_cases hb : e % 2 = 1
    · rw [if_pos hb, app_rep h v hv, ← it_add]
      congr 1
      have : e = 2 * (e / 2) + 1 := by omega
      conv => rhs; rw [this]
      rw [Nat.mul_add, Nat.mul_one, ← Nat.mul_assoc, Nat.mul_comm d 2, Nat.two_mul]
    · rw [if_neg hb]
      congr 1
      have : e = 2 * (e / 2) := by omega
      conv => rhs; rw [this]
      rw [← Nat.mul_assoc, Nat.mul_comm d 2, Nat.two_mul]
theorem it_pw (e : Nat) (he : e < 2 ^ 32) : it e 1 = pw 32 cols e 1 := by
  have := pw_rep 32 cols 1 e 1 rep_cols he (by decide)
  rw [Nat.one_mul] at this
  exact this.symm
theorem full : it 4294967295 1 = 1 := by rw [it_pw _ (by decide)]; decide +kernel
theorem part3 : it 1431655765 1 ≠ 1 := by rw [it_pw _ (by decide)]; decide +kernel
theorem part5 : it 858993459 1 ≠ 1 := by rw [it_pw _ (by decide)]; decide +kernel
theorem part17 : it 252645135 1 ≠ 1 := by rw [it_pw _ (by decide)]; decide +kernel
theorem part257 : it 16711935 1 ≠ 1 := by rw [it_pw _ (by decide)]; decide +kernel
theorem part65537 : it 65535 1 ≠ 1 := by rw [it_pw _ (by decide)]; decide +kernel

/-- What brings a lone bit back: closed under remainders, so under gcd. -/
theorem it_mul (d k : Nat) (h : it d 1 = 1) : it (d * k) 1 = 1 := by
  induction k with
  | zero => rfl
  | succ k ih => rw [Nat.mul_succ, it_add, h, ih]
theorem it_mod (a b : Nat) (ha : it a 1 = 1) (hb : it b 1 = 1) : it (a % b) 1 = 1 := by
  have e : a = b * (a / b) + a % b := (Nat.div_add_mod a b).symm
  have hx : it (b * (a / b)) (it (a % b) 1) = 1 := by rw [← it_add, ← e]; exact ha
  refine it_inj (b * (a / b)) _ _ (it_lt _ _ (by decide)) (by decide) ?_
  rw [hx, it_mul b _ hb]
theorem it_gcd (a b : Nat) (ha : it a 1 = 1) (hb : it b 1 = 1) : it (Nat.gcd a b) 1 = 1 := by
  induction a, b using Nat.gcd.induction with
  | H0 n => simpa using hb
  | H1 m n hm ih => rw [Nat.gcd_rec]; exact ih (it_mod n m hb ha) ha

/-- A number that divides a prime. -/
theorem div_prime (p r : Nat) (hr : p < (r + 1) * (r + 1)) (hs : ∀ k : Fin (r + 1), 2 ≤ k.val → p % k.val ≠ 0) (hp : 1 < p) (d : Nat) (h : d ∣ p) : d = 1 ∨ d = p := by
  obtain ⟨e, he⟩ := h
  have hd0 : d ≠ 0 := by rintro rfl; simp at he; omega
  have he0 : e ≠ 0 := by rintro rfl; simp at he; omega
  rcases Nat.lt_or_ge d (r + 1) with h1 | h1
  · rcases Nat.lt_or_ge d 2 with h2 | h2
    · left; omega
    · exact absurd (by rw [he]; simp) (hs ⟨d, h1⟩ h2)
  · have h3 : e < r + 1 := by
      rcases Nat.lt_or_ge e (r + 1) with h4 | h4
      · exact h4
      · have := Nat.mul_le_mul h1 h4; omega
    rcases Nat.lt_or_ge e 2 with h2 | h2
    · right; obtain rfl : e = 1 := by omega
      omega
    · exact absurd (by rw [he]; simp) (hs ⟨e, h3⟩ h2)
theorem gcd_prime (p m : Nat) (hp : ∀ d, d ∣ p → d = 1 ∨ d = p) (h : ¬ p ∣ m) : Nat.Coprime m p := by
  rcases hp _ (Nat.gcd_dvd_right m p) with e | e
  · exact e
  · exact absurd (e ▸ Nat.gcd_dvd_left m p) h
theorem parts (m : Nat) (h : m ∣ 4294967295) (h1 : m ≠ 1) : 3 ∣ m ∨ 5 ∣ m ∨ 17 ∣ m ∨ 257 ∣ m ∨ 65537 ∣ m := by
  by_cases a : 3 ∣ m
  · exact Or.inl a
  by_cases b : 5 ∣ m
  · exact Or.inr (Or.inl b)
  by_cases c : 17 ∣ m
  · exact Or.inr (Or.inr (Or.inl c))
  by_cases d : 257 ∣ m
  · exact Or.inr (Or.inr (Or.inr (Or.inl d)))
  by_cases e : 65537 ∣ m
  · exact Or.inr (Or.inr (Or.inr (Or.inr e)))
  exfalso
  have ca := gcd_prime 3 m (div_prime 3 1 (by decide) (by decide) (by decide)) a
  have cb := gcd_prime 5 m (div_prime 5 2 (by decide) (by decide) (by decide)) b
  have cc := gcd_prime 17 m (div_prime 17 4 (by decide) (by decide) (by decide)) c
  have cd := gcd_prime 257 m (div_prime 257 16 (by decide) (by decide +kernel) (by decide)) d
  have ce := gcd_prime 65537 m (div_prime 65537 256 (by decide) (by decide +kernel) (by decide)) e
  have call : Nat.Coprime m (3 * (5 * (17 * (257 * 65537)))) := ca.mul_right (cb.mul_right (cc.mul_right (cd.mul_right ce)))
  have : m ∣ 3 * (5 * (17 * (257 * 65537))) := h
  exact h1 (call.eq_one_of_dvd this)
/-- TWO BITS ARE TOLD. -/
theorem no_return (d : Nat) (h0 : 0 < d) (hd : d < 4294967295) : it d 1 ≠ 1 := by
  intro h
  have hg := it_gcd d 4294967295 h full
  obtain ⟨m, hm⟩ := Nat.gcd_dvd_right d 4294967295
  have hle : Nat.gcd d 4294967295 ≤ d := Nat.gcd_le_left _ h0
  generalize Nat.gcd d 4294967295 = g at *
  have hm1 : m ≠ 1 := by rintro rfl; omega
  have key : ∀ p q, p * q = 4294967295 → 0 < p → p ∣ m → it q 1 = 1 := by
    intro p q hpq hp0 hp
    obtain ⟨k, rfl⟩ := hp
    have : q = g * k := by
      have : p * q = p * (g * k) := by rw [hpq, hm]; ac_rfl
      exact Nat.eq_of_mul_eq_mul_left hp0 this
    rw [this]; exact it_mul g k hg
  rcases parts m ⟨g, by rw [hm, Nat.mul_comm]⟩ hm1 with a | a | a | a | a
  · exact part3 (key 3 _ (by decide) (by decide) a)
  · exact part5 (key 5 _ (by decide) (by decide) a)
  · exact part17 (key 17 _ (by decide) (by decide) a)
  · exact part257 (key 257 _ (by decide) (by decide) a)
  · exact part65537 (key 65537 _ (by decide) (by decide) a)
end Go.Proofs.YtonpmabdjngdcaaGreatDoor.Crc

/- Plain facts: the sum by long division from the highest bit is the sum by the mirrored register. -/
namespace Go.Proofs.YtonpmabdjngdcaaGreatDoor.Crc

def mirGo : Nat → Nat → Nat → Nat
  | 0, _, m => m
  | k + 1, n, m => mirGo k (n / 2) (m * 2 + n % 2)
def mir (n : Nat) : Nat := mirGo 32 n 0
def mstep (r b : Nat) : Nat := ((2 * r + b) % 4294967296) ^^^ (if r / 2147483648 = 1 then 79764919 else 0)

theorem add_xor (a x : Nat) (hx : x < 2) : 2 * a + x = (2 * a) ^^^ x := by
  have h := split2 (2 * a + x)
  rw [show (2 * a + x) / 2 = a by omega, show (2 * a + x) % 2 = x by omega] at h
  exact h
theorem xor_two (a b : Nat) : 2 * (a ^^^ b) = (2 * a) ^^^ (2 * b) := by
  have h := Nat.shiftLeft_xor_distrib (a := a) (b := b) (i := 1)
  simp only [Nat.shiftLeft_eq] at h
  rw [Nat.mul_comm 2, Nat.mul_comm 2, Nat.mul_comm 2]; simpa using h
theorem join_xor (a b x y : Nat) (hx : x < 2) (hy : y < 2) : (a ^^^ b) * 2 + (x ^^^ y) = (a * 2 + x) ^^^ (b * 2 + y) := by
  have hxy : x ^^^ y < 2 := Nat.xor_lt_two_pow (n := 1) hx hy
  rw [Nat.mul_comm _ 2, Nat.mul_comm a 2, Nat.mul_comm b 2, add_xor _ _ hxy, add_xor _ _ hx, add_xor _ _ hy, xor_two, xor4]
theorem mirGo_xor : ∀ (k a b m n : Nat), mirGo k (a ^^^ b) (m ^^^ n) = mirGo k a m ^^^ mirGo k b n
  | 0, _, _, _, _ => rfl
  | k + 1, a, b, m, n => by
    show mirGo k ((a ^^^ b) / 2) ((m ^^^ n) * 2 + (a ^^^ b) % 2) = _
    rw [xor_div2, xor_mod2, join_xor _ _ _ _ (by omega) (by omega), mirGo_xor k]; rfl
theorem mir_xor (a b : Nat) : mir (a ^^^ b) = mir a ^^^ mir b := mirGo_xor 32 a b 0 0
theorem mstep_bit (r b : Nat) (hb : b < 2) : mstep r b = mstep r 0 ^^^ b := by
  unfold mstep
  have h1 : (2 * r + b) % 4294967296 = ((2 * r + 0) % 4294967296) ^^^ b := by
    have h := add_xor (r % 2147483648) b hb
    rw [show (2 * r + b) % 4294967296 = 2 * (r % 2147483648) + b by omega, show (2 * r + 0) % 4294967296 = 2 * (r % 2147483648) by omega]
    exact h
  rw [h1, Nat.xor_assoc, Nat.xor_assoc]; congr 1; exact Nat.xor_comm _ _
theorem div31_xor (a b : Nat) : (a ^^^ b) / 2147483648 = (a / 2147483648) ^^^ (b / 2147483648) := by
  have := Nat.shiftRight_xor_distrib (a := a) (b := b) (i := 31)
  simpa [Nat.shiftRight_eq_div_pow] using this
theorem mstep_xor (a b : Nat) (ha : a < 4294967296) (hb : b < 4294967296) : mstep (a ^^^ b) 0 = mstep a 0 ^^^ mstep b 0 := by
  unfold mstep
  have h1 : (2 * (a ^^^ b) + 0) % 4294967296 = ((2 * a + 0) % 4294967296) ^^^ ((2 * b + 0) % 4294967296) := by
    rw [Nat.add_zero, Nat.add_zero, Nat.add_zero, xor_two]
    exact Nat.xor_mod_two_pow (a := 2 * a) (b := 2 * b) (n := 32)
  rw [h1, div31_xor, xor4]
  congr 1
  have ha' : a / 2147483648 = 0 ∨ a / 2147483648 = 1 := by omega
  have hb' : b / 2147483648 = 0 ∨ b / 2147483648 = 1 := by omega
  rcases ha' with h | h <;> rcases hb' with g | g <;> rw [h, g] <;> simp
/-- Two linear maps that agree at the powers of two. -/
theorem lin_app (F : Nat → Nat) (hF : ∀ a b, a < 4294967296 → b < 4294967296 → F (a ^^^ b) = F a ^^^ F b) (h0 : F 0 = 0) : ∀ (n a v : Nat), a + n ≤ 32 → v < 2 ^ n → app ((List.range n).map fun i => F (2 ^ (a + i))) v = F (2 ^ a * v) := by
  intro n
  induction n with
  | zero => intro a v _ h; obtain rfl : v = 0 := by simpa using h
            simp [app, h0]
  | succ n ih =>
    intro a v ha h
    rw [List.range_succ_eq_map, List.map_cons, List.map_map]
    show (if v % 2 = 1 then F (2 ^ (a + 0)) else 0) ^^^ app _ (v / 2) = _
    have hm : ((fun i => F (2 ^ (a + i))) ∘ Nat.succ) = fun i => F (2 ^ ((a + 1) + i)) := by
      funext i; show F (2 ^ (a + (i + 1))) = _; congr 2; omega
    rw [hm, ih (a + 1) (v / 2) (by omega) (by rw [Nat.pow_succ] at h; omega)]
    have hv : 2 ^ a * v = (2 ^ (a + 1) * (v / 2)) ^^^ (2 ^ a * (v % 2)) := by
      have h2 : v <<< a = ((2 * (v / 2)) <<< a) ^^^ ((v % 2) <<< a) := by rw [← Nat.shiftLeft_xor_distrib, ← split2]
      rw [Nat.shiftLeft_eq, Nat.shiftLeft_eq, Nat.shiftLeft_eq] at h2
      rw [Nat.mul_comm, h2, Nat.pow_succ, show 2 * (v / 2) * 2 ^ a = 2 ^ a * 2 * (v / 2) by ac_rfl, Nat.mul_comm (v % 2)]
    have hbig : 2 ^ (a + 1) * (v / 2) < 4294967296 := by
      have h3 : v / 2 < 2 ^ n := by rw [Nat.pow_succ] at h; omega
      have h4 : 2 ^ (a + 1) * (v / 2) < 2 ^ (a + 1) * 2 ^ n := Nat.mul_lt_mul_of_pos_left h3 (Nat.two_pow_pos _)
      rw [← Nat.pow_add] at h4
      have h5 : 2 ^ (a + 1 + n) ≤ 2 ^ 32 := Nat.pow_le_pow_right (by decide) (by omega)
      exact Nat.lt_of_lt_of_le h4 h5
    have hsm : 2 ^ a * (v % 2) < 4294967296 := by
      have h5 : 2 ^ a < 2 ^ 32 := Nat.pow_lt_pow_right (by decide) (by omega)
      rcases Nat.mod_two_eq_zero_or_one v with e | e <;> rw [e]
      · simp
      · rw [Nat.mul_one]; exact h5
    rw [hv, hF _ _ hbig hsm, Nat.xor_comm]
    congr 1
    rcases Nat.mod_two_eq_zero_or_one v with e | e <;> rw [e]
    · simp [h0]
    · simp
theorem lin_ext (F G : Nat → Nat) (hF : ∀ a b, a < 4294967296 → b < 4294967296 → F (a ^^^ b) = F a ^^^ F b) (hG : ∀ a b, a < 4294967296 → b < 4294967296 → G (a ^^^ b) = G a ^^^ G b) (h0 : F 0 = 0) (g0 : G 0 = 0)
    (h : ∀ i : Fin 32, F (2 ^ i.val) = G (2 ^ i.val)) (v : Nat) (hv : v < 4294967296) : F v = G v := by
  have a := lin_app F hF h0 32 0 v (by decide) hv
  have b := lin_app G hG g0 32 0 v (by decide) hv
  have e : ((List.range 32).map fun i => F (2 ^ (0 + i))) = (List.range 32).map fun i => G (2 ^ (0 + i)) := List.map_congr_left (fun i hi => by
    have := h ⟨i, List.mem_range.1 hi⟩
    simpa using this)
  rw [Nat.pow_zero, Nat.one_mul] at a b
  rw [← a, ← b, e]
theorem mstep_lt (r b : Nat) : mstep r b < 4294967296 := by
  unfold mstep
  refine Nat.xor_lt_two_pow (n := 32) (Nat.mod_lt _ (by decide)) ?_
  split <;> decide
theorem mir_step0 (r : Nat) (hr : r < 4294967296) : mir (mstep r 0) = step (mir r) :=
  lin_ext (fun r => mir (mstep r 0)) (fun r => step (mir r)) (fun a b ha hb => by rw [mstep_xor a b ha hb, mir_xor]) (fun a b _ _ => by rw [mir_xor, step_xor]) (by decide +kernel) (by decide +kernel) (by decide +kernel) r hr
theorem mir_step (r b : Nat) (hr : r < 4294967296) (hb : b < 2) : mir (mstep r b) = step (mir r) ^^^ (2147483648 * b) := by
  rw [mstep_bit r b hb, mir_xor, mir_step0 r hr]
  congr 1
  have : b = 0 ∨ b = 1 := by omega
  rcases this with rfl | rfl <;> decide +kernel

/-- The register that takes its bits in at the top; the one that takes them in below. -/
def ms (b : Nat → Nat) : Nat → Nat
  | 0 => 0
  | q + 1 => step (ms b q) ^^^ (2147483648 * b q)
def dsr (b : Nat → Nat) : Nat → Nat
  | 0 => 0
  | q + 1 => step (dsr b q ^^^ b q)
theorem it_step (k s : Nat) : it k (step s) = step (it k s) := by
  have h1 : it (k + 1) s = it k (it 1 s) := it_add k 1 s
  exact h1.symm
theorem it_top (b : Nat) : it 32 (2147483648 * b) = step b := by
  have h1 := it_shift 31 b
  have h2 : it (1 + 31) (2 ^ 31 * b) = it 1 (it 31 (2 ^ 31 * b)) := it_add 1 31 _
  rw [h1] at h2
  exact h2
theorem ms_ds (b : Nat → Nat) : ∀ q, it 32 (ms b q) = dsr b q
  | 0 => by rw [ms, dsr]; exact it_zero 32
  | q + 1 => by
    rw [ms, dsr, it_xor, step_xor, it_step, it_top, ms_ds b q]
theorem ms_xor (b c : Nat → Nat) (hb : ∀ q, b q < 2) (hc : ∀ q, c q < 2) : ∀ q, ms (fun k => b k ^^^ c k) q = ms b q ^^^ ms c q
  | 0 => by simp [ms]
  | q + 1 => by
    show step (ms _ q) ^^^ (2147483648 * (b q ^^^ c q)) = (step (ms b q) ^^^ _) ^^^ (step (ms c q) ^^^ _)
    rw [ms_xor b c hb hc q, step_xor, xor4]
    congr 1
    have h1 : b q = 0 ∨ b q = 1 := by have := hb q; omega
    have h2 : c q = 0 ∨ c q = 1 := by have := hc q; omega
    rcases h1 with h | h <;> rcases h2 with g | g <;> rw [h, g] <;> decide
theorem ms_zero (b : Nat → Nat) (q0 : Nat) (h : ∀ q, q0 ≤ q → b q = 0) : ∀ d, ms b (q0 + d) = it d (ms b q0)
  | 0 => rfl
  | d + 1 => by
    show step (ms b (q0 + d)) ^^^ (2147483648 * b (q0 + d)) = step (it d (ms b q0))
    rw [h _ (by omega), Nat.mul_zero, Nat.xor_zero, ms_zero b q0 h d]

/-- The bits of a text. -/
def bitOf (len : Nat) (x : Nat → Nat) (q : Nat) : Nat := if q / 8 < len then x (q / 8) / 2 ^ (q % 8) % 2 else 0
def inv (q : Nat) : Nat := if q < 32 then 1 else 0
theorem bitOf_lt (len : Nat) (x : Nat → Nat) (q : Nat) : bitOf len x q < 2 := by unfold bitOf; split <;> omega
theorem inv_lt (q : Nat) : inv q < 2 := by unfold inv; split <;> decide
theorem dsr_bits (len : Nat) (x : Nat → Nat) (i : Nat) (hi : i < len) (h : dsr (bitOf len x) (8 * i) = fold 0 ((List.range i).map x)) : ∀ j, j ≤ 8 → dsr (bitOf len x) (8 * i + j) = it j (fold 0 ((List.range i).map x) ^^^ (x i % 2 ^ j))
  | 0, _ => by rw [Nat.pow_zero, Nat.mod_one, Nat.xor_zero]; exact h
  | j + 1, hj => by
    show step (dsr (bitOf len x) (8 * i + j) ^^^ bitOf len x (8 * i + j)) = step (it j _)
    rw [dsr_bits len x i hi h j (by omega), mod_succ, ← Nat.xor_assoc, it_xor j (_ ^^^ _)]
    congr 2
    unfold bitOf
    rw [show (8 * i + j) / 8 = i by omega, show (8 * i + j) % 8 = j by omega, if_pos hi]
    rcases Nat.mod_two_eq_zero_or_one (x i / 2 ^ j) with e | e <;> rw [e]
    · simp [it_zero]
    · simp [it_pow]
theorem dsr_fold (len : Nat) (x : Nat → Nat) (hx : ∀ j, x j < 256) : ∀ i, i ≤ len → dsr (bitOf len x) (8 * i) = fold 0 ((List.range i).map x)
  | 0, _ => rfl
  | i + 1, hi => by
    have h := dsr_bits len x i (by omega) (dsr_fold len x hx i (by omega)) 8 (Nat.le_refl _)
    rw [show 8 * (i + 1) = 8 * i + 8 by omega, h, List.range_succ, List.map_append, List.map_cons, List.map_nil, fold_snoc, byte_it, Nat.mod_eq_of_lt (hx i)]
theorem fold_zero_bytes (s : Nat) : ∀ n, fold s ((List.range n).map fun _ => 0) = it (8 * n) s
  | 0 => rfl
  | n + 1 => by
    rw [List.range_succ, List.map_append, List.map_cons, List.map_nil, fold_snoc, fold_zero_bytes s n, byte_it, Nat.xor_zero, ← it_add, show 8 + 8 * n = 8 * (n + 1) by omega]
/-- THE LONG DIVISION's REST, MIRRORED. -/
theorem ms_sum (len : Nat) (x : Nat → Nat) (hx : ∀ j, x j < 256) : ms (fun q => bitOf len x q ^^^ inv q) (8 * (len + 4)) = fold 4294967295 ((List.range len).map x) := by
  rw [ms_xor _ _ (bitOf_lt len x) inv_lt]
  have h1 : ms (bitOf len x) (8 * (len + 4)) = fold 0 ((List.range len).map x) := by
    rw [show 8 * (len + 4) = 8 * len + 32 by omega, ms_zero (bitOf len x) (8 * len) (fun q hq => by unfold bitOf; rw [if_neg (by omega)]) 32, ms_ds, dsr_fold len x hx len (Nat.le_refl _)]
  have h2 : ms inv (8 * (len + 4)) = it (8 * len) 4294967295 := by
    rw [show 8 * (len + 4) = 32 + 8 * len by omega, ms_zero inv 32 (fun q hq => by unfold inv; rw [if_neg (by omega)]), show ms inv 32 = 4294967295 by decide +kernel]
  have h3 := fold_map_xor len 4294967295 0 (fun _ => 0) x
  rw [Nat.xor_zero, fold_zero_bytes] at h3
  simp only [Nat.zero_xor] at h3
  rw [h1, h2, h3, Nat.xor_comm]
end Go.Proofs.YtonpmabdjngdcaaGreatDoor.Crc

/- The walks of tallyref1's power, mirrored and Sum. -/
namespace Go.Proofs.YtonpmabdjngdcaaGreatDoor
open Go.RowKit
set_option maxRecDepth 100000

theorem power_any (k Q : Nat) (w : World) (hk : k < 8) (hQ : Hid (Q = 2 ^ k)) : Calls Tryz.prog 109 #[.int .i64 k] w fun e w' => e = .returned (.int .u32 (Q : Nat)) ∧ w' = w := by
  go_enter Tryz.func109, Tryz.ntmps109
  go_wp2
  go_loop [3, 4] (fun n i => ∃ j P : Nat, j ≤ k ∧ i = .int .i64 j ∧ n = .int .u32 P ∧ P < 256 ∧ P = 2 ^ j) (fun _ i => k - (intOf i).toNat)
  case atStart => exact ⟨0, 1, Nat.zero_le _, rfl, rfl, by decide, rfl⟩
  case round =>
    obtain ⟨j, P, hj, rfl, rfl, hb, hP⟩ := hrel
    have HP := hide hP
    clear hP
    by_cases hlt : j < k
    · have HE : Hid (P * 2 = 2 ^ (j + 1)) := by show _ = _; rw [Nat.pow_succ, ← unhide HP]
      have HB : Hid (P * 2 < 256) := by
        show _ < _
        rw [unhide HE]
        have : 2 ^ (j + 1) < 2 ^ 8 := Nat.pow_lt_pow_right (by decide) (by omega)
        exact this
      go_wp2
      go_round
      case rel => exact ⟨j + 1, P * 2, by omega, by go_num, by go_num, unhide HB, unhide HE⟩
      case measure => simp [intOf]; omega
    · have HF : Hid (Q = P) := by show _ = _; rw [unhide HP, unhide hQ, show j = k by omega]
      go_wp2
      go_ret
      exact ⟨by rw [unhide HF]; rfl, rfl⟩
theorem mirrored_any (n : Nat) (w : World) (hn : n < 4294967296) : Calls Tryz.prog 110 #[.int .u32 n] w fun e w' => e = .returned (.int .u32 (Crc.mir n : Nat)) ∧ w' = w := by
  go_enter Tryz.func110, Tryz.ntmps110
  go_wp2
  go_loop [0, 3, 4] (fun a m i => ∃ (j A M : Nat), j ≤ 32 ∧ i = .int .i64 j ∧ a = .int .u32 A ∧ m = .int .u32 M ∧ A < 4294967296 ∧ M < 2 ^ j ∧ Crc.mirGo (32 - j) A M = Crc.mir n) (fun _ _ i => 32 - (intOf i).toNat)
  case atStart => exact ⟨0, n, 0, by omega, rfl, rfl, rfl, hn, by decide, rfl⟩
  case round =>
    obtain ⟨j, A, M, hj, rfl, rfl, rfl, hA, hM, hgo⟩ := hrel
    have HG := hide hgo
    clear hgo
    by_cases hlt : j < 32
    · have hb : M < 2147483648 := by
        have : 2 ^ j ≤ 2 ^ 31 := Nat.pow_le_pow_right (by decide) (by omega)
        exact Nat.lt_of_lt_of_le hM this
      have HM : Hid (M * 2 + A % 2 < 2 ^ (j + 1)) := by show _ < _; rw [Nat.pow_succ]; omega
      clear hM
      go_wp2
      go_round
      case rel => exact ⟨j + 1, A / 2, M * 2 + A % 2, by omega, by go_num, by go_num, by go_num, by omega, unhide HM, by have h := unhide HG; rw [show 32 - j = (32 - (j + 1)) + 1 by omega] at h; exact h⟩
      case measure => simp [intOf]; omega
    · obtain rfl : j = 32 := by omega
      clear hM
      go_wp2
      go_ret
      exact ⟨by have h := unhide HG; rw [← h]; rfl, rfl⟩

set_option maxHeartbeats 1600000 in
theorem refsum_any (a : Option Addr) (len cap : Nat) (x : Nat → Nat) (w : World) (hmax : len ≤ 281474976710656) (hc : Byt w a len x) (hr : ∀ j, x j < 256) :
    Calls Tryz.prog 52 #[.slice a len cap] w fun e w' => e = .returned (.int .u32 (Crc.sum ((List.range len).map x) : Nat)) ∧ ∃ m, w' = w.drewN m := by
  go_enter Tryz.func52, Tryz.ntmps52
  go_wp2
  go_loopg [3, 4] (len + 4) (fun g s3 s4 wx => ∃ (i R m : Nat), i ≤ len + 4 ∧ g = len + 4 - i ∧ s4 = .int .i64 i ∧ s3 = .int .u32 R ∧ R < 4294967296 ∧ Crc.mir R = Crc.ms (fun q => Crc.bitOf len x q ^^^ Crc.inv q) (8 * i) ∧ wx = w.drewN m)
  case atStart => exact ⟨0, 0, 0, Nat.zero_le _, rfl, rfl, rfl, by decide, (by decide +kernel : Crc.mir 0 = 0), rfl⟩
  case round =>
    obtain ⟨i, R, m, hi, rfl, rfl, rfl, hR, hms, rfl⟩ := hrel
    have HM := hide hms
    clear hms
    by_cases hlt : i < len + 4
    · have hiz : (i : Int) < (len : Int) + 4 := by omega
      go_wp2_with fail
      go_loopg [3, 5] 8 (fun g s3 s5 wx => ∃ (k R m : Nat), k ≤ 8 ∧ g = 8 - k ∧ s5 = .int .i64 k ∧ s3 = .int .u32 R ∧ R < 4294967296 ∧ Crc.mir R = Crc.ms (fun q => Crc.bitOf len x q ^^^ Crc.inv q) (8 * i + k) ∧ wx = w.drewN m)
      case atStart => exact ⟨0, R, m, Nat.zero_le _, rfl, rfl, rfl, hR, unhide HM, rfl⟩
      case round =>
        obtain ⟨k, R', m', hk, rfl, rfl, rfl, hR', hms', rfl⟩ := hrel
        have HM' := hide hms'
        clear hms'
        by_cases hk8 : k < 8
        · go_upto_if 22 with fail
          go_cut [6] from 15 to 45 (fun s6 wx => s6 = .int .u32 (Crc.bitOf len x (8 * i + k) : Nat) ∧ ∃ m, wx = w.drewN m)
          case first =>
            by_cases hil : i < len
            · obtain ⟨b, off, rfl, hcell⟩ := hc i hil
              have hilz : (i : Int) < (len : Int) := by omega
              have hbo : Crc.bitOf len x (8 * i + k) = x i / 2 ^ k % 2 := by unfold Crc.bitOf; rw [show (8 * i + k) / 8 = i by omega, show (8 * i + k) % 8 = k by omega, if_pos hil]
              have hpk : 0 < 2 ^ k := Nat.two_pow_pos k
              have hp8 : 2 ^ k < 256 := by
                have : 2 ^ k < 2 ^ 8 := Nat.pow_lt_pow_right (by decide) hk8
                exact this
              have hxi := hr i
              obtain ⟨P, hPe⟩ : ∃ P, P = 2 ^ k := ⟨_, rfl⟩
              rw [← hPe] at hbo hpk hp8
              have Hbo := hide hbo
              have hpw := fun W => power_any k P W hk8 hPe
              have HW := hide hpw
              clear hbo hpw hPe
              have hP0 : ((P : Int) == 0) = false := by simp; omega
              have hcd : (w.drewN m').cell? ⟨b, off + i, none⟩ = some (.int .u8 (x i : Nat)) := hcell
              have HD : Hid (∀ n, (w.drewN m').drewN n = w.drewN (m' + n)) := fun n => World.drewN_drewN _ _ _
              generalize w.drewN m' = wd at *
              clear hcell
              go_wp2_with fail
              go_quiet ((go_at_call 109; exact Calls.quiet_of_same ((unhide HW) _)))
              go_wp2_with fail
              go_meet
              case rel => go_light; exact ⟨by rw [unhide Hbo]; go_num, _, (unhide HD) nq⟩
            · have hbo : Crc.bitOf len x (8 * i + k) = 0 := by unfold Crc.bitOf; rw [if_neg (by omega)]
              have hilz : ¬ (i : Int) < (len : Int) := by omega
              have Hbo := hide hbo
              clear hbo
              go_wp2_with fail
              go_meet
              case rel => go_light; exact ⟨by rw [unhide Hbo]; rfl, m', rfl⟩
          case rest =>
            obtain ⟨rfl, m2, rfl⟩ := hcut
            have hbl := Crc.bitOf_lt len x (8 * i + k)
            go_upto_if 33 with fail
            go_cut [6] from 15 to 45 (fun s6 wx => s6 = .int .u32 (Crc.bitOf len x (8 * i + k) ^^^ Crc.inv (8 * i + k) : Nat) ∧ wx = w.drewN m2)
            case first =>
              by_cases hi4 : i < 4
              · have hinv : Crc.inv (8 * i + k) = 1 := by unfold Crc.inv; rw [if_pos (by omega)]
                have Hb : Hid (Crc.bitOf len x (8 * i + k) ^^^ Crc.inv (8 * i + k) = 1 - Crc.bitOf len x (8 * i + k)) := by
                  show _ = _
                  rw [hinv]
                  have hx1 : ∀ b : Nat, b < 2 → b ^^^ 1 = 1 - b := by decide
                  exact hx1 _ hbl
                clear hinv
                go_wp2_with fail
                go_meet
                case rel => go_light; exact ⟨by rw [unhide Hb]; go_num, rfl⟩
              · have hinv : Crc.inv (8 * i + k) = 0 := by unfold Crc.inv; rw [if_neg (by omega)]
                have Hb : Hid (Crc.bitOf len x (8 * i + k) ^^^ Crc.inv (8 * i + k) = Crc.bitOf len x (8 * i + k)) := by show _ = _; rw [hinv, Nat.xor_zero]
                clear hinv
                go_wp2_with fail
                go_meet
                case rel => go_light; exact ⟨by rw [unhide Hb], rfl⟩
            case rest =>
              obtain ⟨rfl, rfl⟩ := hcut
              have hbl2 : Crc.bitOf len x (8 * i + k) ^^^ Crc.inv (8 * i + k) < 2 := Nat.xor_lt_two_pow (n := 1) hbl (Crc.inv_lt _)
              have hnext : Hid (Crc.mir (Crc.mstep R' (Crc.bitOf len x (8 * i + k) ^^^ Crc.inv (8 * i + k))) = Crc.ms (fun q => Crc.bitOf len x q ^^^ Crc.inv q) (8 * i + (k + 1))) := by
                show _ = _
                rw [Crc.mir_step R' _ hR' hbl2, unhide HM']; rfl
              clear hbl
              generalize Crc.bitOf len x (8 * i + k) ^^^ Crc.inv (8 * i + k) = B at *
              by_cases htop : R' / 2147483648 = 1
              · have hms : Crc.mstep R' B = ((2 * R' + B) % 4294967296) ^^^ 79764919 := by unfold Crc.mstep; rw [if_pos htop]
                have htz : ((R' : Int) / 2147483648 == 1) = true := by simp; omega
                have hxr : bits .xor .u32 ((R' : Int) * 2 % 4294967296 + (B : Int)) 79764919 = ((Crc.mstep R' B : Nat) : Int) := by
                  rw [hms, show ((R' : Int) * 2 % 4294967296 + (B : Int)) = (((2 * R' + B) % 4294967296 : Nat) : Int) by omega]
                  exact u32_xor_nat _ 79764919 (Nat.mod_lt _ (by decide)) (by decide)
                have hlt3 := Crc.mstep_lt R' B
                clear hms
                generalize Crc.mstep R' B = M at *
                go_wp2_with fail
                go_roundg (8 - (k + 1))
                case measure => go_light; omega
                case rel => go_light; exact ⟨k + 1, M, m2, by omega, rfl, by simp, rfl, hlt3, unhide hnext, rfl⟩
              · have hms : Crc.mstep R' B = ((2 * R' + B) % 4294967296) := by unfold Crc.mstep; rw [if_neg htop, Nat.xor_zero]
                have htz : ((R' : Int) / 2147483648 == 1) = false := by simp; omega
                have hlt3 := Crc.mstep_lt R' B
                have HMS := hide hms
                clear hms
                go_wp2_with fail
                go_roundg (8 - (k + 1))
                case measure => go_light; omega
                case rel => go_light; exact ⟨k + 1, Crc.mstep R' B, m2, by omega, rfl, by simp, by rw [unhide HMS, show (2 * R' + B) % 4294967296 = R' * 2 + B by omega]; go_num, hlt3, unhide hnext, rfl⟩
        · obtain rfl : k = 8 := by omega
          go_wp2_with fail
          go_roundg (len + 4 - (i + 1))
          case measure => go_light; omega
          case rel => go_light; exact ⟨i + 1, R', m', by omega, rfl, by simp, rfl, hR', unhide HM', rfl⟩
    · obtain rfl : i = len + 4 := by omega
      have hfin := unhide HM
      rw [Crc.ms_sum len x hr] at hfin
      have HF : Hid (Crc.mir R = Crc.fold 4294967295 ((List.range len).map x)) := hfin
      have hfl : Crc.fold 4294967295 ((List.range len).map x) < 4294967296 := Crc.fold_lt _ _ (by decide) (fun c hc => by obtain ⟨j, _, rfl⟩ := List.mem_map.1 hc; exact hr j)
      clear hfin
      go_wp2_with fail
      refine (mirrored_any R _ hR).mono ?_
      rintro e w' ⟨rfl, rfl⟩
      rw [unhide HF]
      go_wp2
      go_ret
      exact ⟨ret_u32 (flip_sum _ hfl), m, rfl⟩
end Go.Proofs.YtonpmabdjngdcaaGreatDoor

/- The document's Seal. -/
namespace Go.Proofs.YtonpmabdjngdcaaGreatDoor
open Go.RowKit
set_option maxRecDepth 100000

set_option maxHeartbeats 1000000 in
theorem seal_any (a : Option Addr) (n c : Nat) (x : Nat → Nat) (w : World) (hb : Byt w a n x) (ha : a = none → n = 0 ∧ c = 0) (hx : ∀ j, x j < 256) (hn : n ≤ 1000000) :
    Calls Tryz.prog 28 #[.slice a n c] w fun e w' => ∃ v, e = .returned v ∧ OwnL w' w.heap.size v (sealG ((List.range n).map x)) ∧ w.Since w.heap.size w' := by
  have h0 : OwnL w w.heap.size (.slice none 0 0) [] := own_nil w _ _
  obtain ⟨v1, w1, hr1, ho1, hg1, _⟩ := app_l h0 a n c x hb ha (by simp; omega) (Nat.le_refl _)
  have hs1 : w.Since w.heap.size w1 := grown_since (World.Since.refl _ _) hg1 (Nat.le_refl _) (own_block h0)
  rw [List.nil_append] at ho1
  have hsl : Crc.sum ((List.range n).map x) < 4294967296 := Crc.sum_lt _ (fun v hv => by obtain ⟨j, _, rfl⟩ := List.mem_map.1 hv; exact hx j)
  have q1 := refsum_any a n c x w1 (by omega) (hb.since hs1) hx
  obtain ⟨L, HL⟩ : ∃ x', Hid ((List.range n).map x = x') := ⟨_, rfl⟩
  have hll : L.length = n := by rw [← HL.out]; simp
  rw [HL.out] at ho1 q1 hsl ⊢
  have H1 := hide hr1
  clear hr1 hg1 h0 hb ha hx
  go_enter Tryz.func28, Tryz.ntmps28
  go_wp2_with (at_builtin; refine wpList_append_eq rfl _ _ 32 rfl _ _ _ (by rfl) (by rfl) (unhide H1) ?_)
  refine q1.mono ?_
  rintro e w2 ⟨rfl, q, e2⟩
  subst e2
  have q2 := refu32 (Crc.sum L) (w1.drewN q) hsl
  have HQ : Hid (Calls Tryz.prog 51 #[.int .u32 (Crc.sum L : Nat)] (w1.drewN q) fun e w' => ∃ v, e = .returned v ∧ ∃ v2 w3, Hid ((Builtin.append_ #[32, 32] 32 #[v1, v]).run Tryz.prog w' = .ok v2 w3) ∧ Hid (OwnL w3 w.heap.size v2 (sealG L) ∧ w.Since w.heap.size w3)) := q2.mono fun e w' ⟨v, he, hs, ho⟩ => by
    have hs' : w1.Since w1.heap.size w' := (drewN_since w1 q).trans hs
    have ho1' := own_since ho1 hs'
    have hsw : w.Since w.heap.size w' := hs1.trans (since_mono hs' hs1.size)
    obtain ⟨v2, w3, hr2, ho2, hg2, _⟩ := app_ll ho1' ho (by rw [fl_len]; omega) hsw.size
    exact ⟨v, he, v2, w3, hr2, ho2, grown_since hsw hg2 hsw.size (own_block ho1')⟩
  clear q1 q2 H1 ho1 hs1
  obtain ⟨aa, cc, hv1⟩ : ∃ aa cc, v1 = v1 ∧ aa = cc := ⟨0, 0, rfl, rfl⟩
  clear hv1 aa cc
  go_wp2_with fail
  refine HQ.out.mono ?_
  rintro e w4 ⟨v, rfl, v2, w3, H2, HE⟩
  clear HQ
  go_wp2_with (at_builtin; refine wpList_append_eq rfl _ _ 32 rfl _ _ _ (by rfl) (by rfl) (unhide H2) ?_)
  go_ret
  exact ⟨_, rfl, HE.out⟩
end Go.Proofs.YtonpmabdjngdcaaGreatDoor

/- The document's pens. -/
namespace Go.Proofs.YtonpmabdjngdcaaGreatDoor
open Go.RowKit
set_option maxRecDepth 100000

structure IsP (w : World) (wb B : Nat) (v : Value) (n : Nat) (x : Nat → Nat) : Prop where
  cell : w.rowIs wb 113 1 (fun _ => v)
  own : Own w B v n x
  ne : v.ownBlock ≠ some wb
  lo : B ≤ w.heap.size
/-- The append of a pen: in a world that has a block more (the bytes to be appended), then the store into the pen's cell. -/
theorem pen_step {w wx : World} {wb B : Nat} {v : Value} {n : Nat} {x : Nat → Nat} (h : IsP w wb B v n x) (hx : w.Since w.heap.size wx) (a : Option Addr) (m c : Nat) (y : Nat → Nat) (hb : Byt wx a m y) (ha : a = none → m = 0 ∧ c = 0) (hmax : n + m ≤ 140737488355328) :
    ∃ v' w', (Builtin.append_ #[32, 32] 32 #[v, .slice a m c]).run Tryz.prog wx = .ok v' w' ∧ IsP (w'.setCell ⟨wb, 0, none⟩ v') wb B v' (n + m) (cat x n y) ∧ Ext wb v v' w (w'.setCell ⟨wb, 0, none⟩ v') ∧ w'.cell? ⟨wb, 0, none⟩ = some v ∧ w'.frozen? ⟨wb, 0, none⟩ = false := by
  have hown : Own wx B v n x := by
    have h0 := h.own
    refine ⟨h0.1, ?_⟩
    rcases h0.2 with h1 | ⟨g, cap, cur, e, hb, hh, r⟩
    · exact Or.inl h1
    · exact Or.inr ⟨g, cap, cur, e, hb, by rw [hx.block g (by
        rcases Nat.lt_or_ge g w.heap.size with h | h
        · exact h
        · rw [Array.getElem?_eq_none h] at hh; cases hh)]; exact hh, r⟩
  obtain ⟨v', w', hr, ho, hg, hl⟩ := app_at wx B v n x hown a m c y hb ha hmax (Nat.le_trans h.lo hx.size)
  have hwb : wb < w.heap.size := h.cell.lt
  have hcell : w'.rowIs wb 113 1 (fun _ => v) := h.cell.of_block ((hg.block wb (Nat.lt_of_lt_of_le hwb hx.size) (fun e => h.ne e.symm)).trans (hx.block wb hwb))
  have hne' : v'.ownBlock ≠ some wb := by
    rcases hl with e | e
    · rw [e]; exact h.ne
    · rw [e]; intro e2
      have := hx.size
      cases e2; omega
  refine ⟨v', w', hr, ⟨(hcell.set 0 v').congr one_cell, ?_, hne', by rw [show (w'.setCell ⟨wb, 0, none⟩ v').heap.size = w'.heap.size by simp [World.setCell]]; exact Nat.le_trans h.lo (Nat.le_trans hx.size hg.size)⟩, ?_, hcell.cell (by decide), hcell.frozen 0⟩
  · refine ⟨ho.1, ?_⟩
    rcases ho.2 with h1 | ⟨g, cap, cur, e, hb, hh, r⟩
    · exact Or.inl h1
    · refine Or.inr ⟨g, cap, cur, e, hb, ?_, r⟩
      rw [Below.heap_setCell _ _ _ _ (by intro e2; apply hne'; rw [e, show g = wb from e2]; rfl)]; exact hh
  · refine ⟨hg.os.trans hx.os, hg.tape.trans hx.tape, hg.output.trans hx.output, ?_, fun k hk h1 h2 => ?_, ?_⟩
    · rw [show (w'.setCell ⟨wb, 0, none⟩ v').heap.size = w'.heap.size by simp [World.setCell]]; exact Nat.le_trans hx.size hg.size
    · rw [Below.heap_setCell _ _ _ _ h1, hg.block k (Nat.lt_of_lt_of_le hk hx.size) h2, hx.block k hk]
    · rcases hl with e | e
      · exact Or.inl e
      · exact Or.inr ⟨_, e, hx.size⟩


def IsPL (w : World) (wb B : Nat) (v : Value) (l : List Nat) : Prop := IsP w wb B v l.length (fun j => l.getD j 0)
theorem isPL_add {w : World} {wb B : Nat} {v : Value} {l r : List Nat} {n : Nat} {y : Nat → Nat} (h : IsP w wb B v (l.length + n) (cat (fun j => l.getD j 0) l.length y)) (hr : r.length = n) (e : ∀ j, j < n → y j = r.getD j 0) : IsPL w wb B v (l ++ r) :=
  ⟨h.cell, ownL_add h.own hr e, h.ne, h.lo⟩
/-- A pen of new memory. -/
def Wp (w0 w : World) (wb : Nat) (l : List Nat) : Prop := w0.heap.size ≤ wb ∧ w0.Since w0.heap.size w ∧ ∃ B v, w0.heap.size ≤ B ∧ IsPL w wb B v l
theorem Wp.on {w0 w w' : World} {wb : Nat} {l : List Nat} (h : Wp w0 w wb l) {v v' : Value} {B : Nat} {l' : List Nat} (hB : w0.heap.size ≤ B) (h1 : IsPL w wb B v l) (h2 : IsPL w' wb B v' l') (he : Ext wb v v' w w') : Wp w0 w' wb l' :=
  ⟨h.1, he.since h.2.1 h.1 h.2.1.size (fun k e => Nat.le_trans hB (own_block h1.own k e)), B, v', hB, h2⟩
theorem Wp.later {w0 w w' : World} {wb : Nat} {l : List Nat} (h : Wp w0 w wb l) (hs : w.Since w.heap.size w') : Wp w0 w' wb l := by
  obtain ⟨B, v, hB, hI⟩ := h.2.2
  exact ⟨h.1, h.2.1.trans (since_mono hs h.2.1.size), B, v, hB, ⟨row_since hI.cell hs, own_since hI.own hs, hI.ne, Nat.le_trans hI.lo hs.size⟩⟩
/-- A pen writes what a function has made. -/
theorem Wp.put {w0 w w1 : World} {wb B : Nat} {l r : List Nat} {v v2 : Value} {B2 : Nat} (h : Wp w0 w wb l) (hB : w0.heap.size ≤ B) (hI : IsPL w wb B v l) (hs : w.Since w.heap.size w1) (ho : OwnL w1 B2 v2 r) (hm : l.length + r.length ≤ 140737488355328) :
    ∃ v' w', (Builtin.append_ #[32, 32] 32 #[v, v2]).run Tryz.prog w1 = .ok v' w' ∧ Wp w0 (w'.setCell ⟨wb, 0, none⟩ v') wb (l ++ r) ∧ w'.cell? ⟨wb, 0, none⟩ = some v ∧ w'.frozen? ⟨wb, 0, none⟩ = false ∧ ∃ a n c, v' = .slice a n c := by
  obtain ⟨a, c, rfl, hb, ha⟩ := own_byt ho
  obtain ⟨v', w', hr, hP, hE, hc, hf⟩ := pen_step hI hs a r.length c (fun j => r.getD j 0) hb ha hm
  obtain ⟨x, y, e⟩ := own_form hP.own
  exact ⟨v', w', hr, h.on hB hI (isPL_add hP rfl (fun _ _ => rfl)) hE, hc, hf, x, _, y, e⟩
set_option maxHeartbeats 2000000 in
theorem pen_number {w0 w : World} {wb : Nat} {l : List Nat} (h : Wp w0 w wb l) (N : Nat) (hN : N < 18446744073709551616) (hm : l.length ≤ 100000000000) : Calls Tryz.prog 54 #[.pointer (some ⟨wb, 0, none⟩), .int .u64 N] w fun e w' => e = .returned (.tuple #[]) ∧ Wp w0 w' wb (l ++ vl 9 N) := by
  obtain ⟨B, v, hB, hI⟩ := h.2.2
  obtain ⟨va, vc, hv⟩ := own_form hI.own
  subst hv
  have q := refvar 9 N w.drew (Nat.lt_of_lt_of_le (show N < 2 ^ 64 from hN) (by decide)) hN (Nat.le_refl _)
  have hlen := vl_len 9 N
  have c0 : w.cell? ⟨wb, 0, none⟩ = some (.slice va l.length vc) := hI.cell.cell (i := 0) (by decide)
  have HQ : Hid (Calls Tryz.prog 111 #[.int .u64 N] w.drew fun e w1 => ∃ x y z, e = .returned (.slice x y z) ∧ w1.cell? ⟨wb, 0, none⟩ = some (.slice va l.length vc) ∧ ∃ a' n' c' w2, Hid ((Builtin.append_ #[32, 32] 32 #[.slice va l.length vc, .slice x y z]).run Tryz.prog w1 = .ok (.slice a' n' c') w2) ∧ w2.cell? ⟨wb, 0, none⟩ = some (.slice va l.length vc) ∧ w2.frozen? ⟨wb, 0, none⟩ = false ∧ Hid (Wp w0 (w2.setCell ⟨wb, 0, none⟩ (.slice a' n' c')) wb (l ++ vl 9 N))) := q.mono fun e w1 ⟨v2, he, hs, ho⟩ => by
    have hs0 : w.Since w.heap.size w.drew := (World.Since.refl _ _).drew
    have hs' : w.Since w.heap.size w1 := hs0.trans hs
    obtain ⟨x, z, hv2⟩ := own_form ho
    obtain ⟨v', w2, hr, hW, hc, hf, a', n', c', hv'⟩ := h.put hB hI hs' ho (by omega)
    subst hv'
    subst hv2
    exact ⟨x, _, z, he, cell_later hs' c0, a', n', c', w2, hr, hc, hf, hW⟩
  have c0d : w.drew.cell? ⟨wb, 0, none⟩ = some (.slice va l.length vc) := c0
  clear q h hI hB
  generalize l.length = ln at *
  go_enter Tryz.func54, Tryz.ntmps54
  go_upto_region 0 with fail
  go_region_law (first
    | (go_simp; go_at_call 111; refine HQ.out.mono ?_; rintro e w1 ⟨x, y, z, rfl, c1, a', n', c', w2, HR, c2, f2, HE⟩)
    | (refine step_append_eq (by rfl) (.tmp 8) (.tmp 10) 32 (by rfl) _ _ _ (by rfl) (by rfl) (unhide HR) ?_))
  all_goals
    go_wp2_with fail
    go_end0
    exact ⟨rfl, HE.out⟩
set_option maxHeartbeats 2000000 in
theorem pen_text {w0 w : World} {wb : Nat} {l : List Nat} (h : Wp w0 w wb l) (a : Option Addr) (m c : Nat) (yy : Nat → Nat) (hb : Byt w a m yy) (ha : a = none → m = 0 ∧ c = 0) (hm : l.length + m ≤ 100000000000) : Calls Tryz.prog 55 #[.pointer (some ⟨wb, 0, none⟩), .slice a m c] w fun e w' => e = .returned (.tuple #[]) ∧ Wp w0 w' wb (l ++ partL ((List.range m).map yy)) := by
  obtain ⟨B, v, hB, hI⟩ := h.2.2
  obtain ⟨va, vc, hv⟩ := own_form hI.own
  subst hv
  have q := reftext a m c yy w.drew (fun j hj => hb j hj) ha (by omega)
  have hlen := vl_len 9 m
  have c0 : w.cell? ⟨wb, 0, none⟩ = some (.slice va l.length vc) := hI.cell.cell (i := 0) (by decide)
  have HQ : Hid (Calls Tryz.prog 112 #[.slice a m c] w.drew fun e w1 => ∃ x y z, e = .returned (.slice x y z) ∧ w1.cell? ⟨wb, 0, none⟩ = some (.slice va l.length vc) ∧ ∃ a' n' c' w2, Hid ((Builtin.append_ #[32, 32] 32 #[.slice va l.length vc, .slice x y z]).run Tryz.prog w1 = .ok (.slice a' n' c') w2) ∧ w2.cell? ⟨wb, 0, none⟩ = some (.slice va l.length vc) ∧ w2.frozen? ⟨wb, 0, none⟩ = false ∧ Hid (Wp w0 (w2.setCell ⟨wb, 0, none⟩ (.slice a' n' c')) wb (l ++ partL ((List.range m).map yy)))) := q.mono fun e w1 ⟨v2, he, hs, ho⟩ => by
    have hs0 : w.Since w.heap.size w.drew := (World.Since.refl _ _).drew
    have hs' : w.Since w.heap.size w1 := hs0.trans hs
    have el : (vl 9 m ++ (List.range m).map yy) = partL ((List.range m).map yy) := by unfold partL; rw [List.length_map, List.length_range]
    rw [el] at ho
    obtain ⟨x, z, hv2⟩ := own_form ho
    have hpl : (partL ((List.range m).map yy)).length ≤ m + 10 := by rw [← el, List.length_append, List.length_map, List.length_range]; omega
    obtain ⟨v', w2, hr, hW, hc, hf, a', n', c', hv'⟩ := h.put hB hI hs' ho (by omega)
    subst hv'
    subst hv2
    exact ⟨x, _, z, he, cell_later hs' c0, a', n', c', w2, hr, hc, hf, hW⟩
  have c0d : w.drew.cell? ⟨wb, 0, none⟩ = some (.slice va l.length vc) := c0
  clear q h hI hB hb ha
  generalize l.length = ln at *
  go_enter Tryz.func55, Tryz.ntmps55
  go_upto_region 0 with fail
  go_region_law (first
    | (go_simp; go_at_call 112; refine HQ.out.mono ?_; rintro e w1 ⟨x, y, z, rfl, c1, a', n', c', w2, HR, c2, f2, HE⟩)
    | (refine step_append_eq (by rfl) (.tmp 8) (.tmp 10) 32 (by rfl) _ _ _ (by rfl) (by rfl) (unhide HR) ?_))
  all_goals
    go_wp2_with fail
    go_end0
    exact ⟨rfl, HE.out⟩
set_option maxHeartbeats 2000000 in
theorem pen_small {w0 w : World} {wb : Nat} {l : List Nat} (h : Wp w0 w wb l) (N : Nat) (hN : N < 256) (hm : l.length ≤ 100000000000) : Calls Tryz.prog 56 #[.pointer (some ⟨wb, 0, none⟩), .int .i64 (N : Nat)] w fun e w' => e = .returned (.tuple #[]) ∧ Wp w0 w' wb (l ++ [N]) := by
  obtain ⟨B, v, hB, hI⟩ := h.2.2
  obtain ⟨va, vc, hv⟩ := own_form hI.own
  subst hv
  have hwr : IntKind.u8.wrap (N : Int) = (N : Int) := by rw [IntKind.wrap_u8]; omega
  have hs : w.Since w.heap.size (w.alloc (.cells #[.int .u8 (N : Nat)] 5)) := (World.Since.refl _ _).alloc (Nat.le_refl _) _
  have c0 : w.cell? ⟨wb, 0, none⟩ = some (.slice va l.length vc) := hI.cell.cell (i := 0) (by decide)
  obtain ⟨v', w2, hr, hW, hc, hf, a', n', c', hv'⟩ := h.put hB hI hs (own_one w N) (by simp; omega)
  subst hv'
  have HR := hide hr
  have HE := hide hW
  clear hr hW h hI hB hs
  generalize l.length = ln at *
  go_enter Tryz.func56, Tryz.ntmps56
  go_wp2_with (at_builtin; refine wpList_append_eq rfl _ _ 32 rfl _ _ _ (by rfl) (by rfl) (unhide HR) ?_)
  go_end0
  exact ⟨rfl, HE.out⟩
end Go.Proofs.YtonpmabdjngdcaaGreatDoor
