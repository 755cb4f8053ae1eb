/- Own texts, joined: RefC, RefK0, RefK1, RefK2, RefK3, RefK4, RefK5, RefK6. -/
import Derived.Test.YtonpmabdjngdcaaGreatDoorM8

/- The document's calls. -/
namespace Go.Proofs.YtonpmabdjngdcaaGreatDoor
open Go.RowKit
set_option maxRecDepth 100000

theorem fdsK_none {k : Nat} (h : k = 0 ∨ 12 ≤ k) : fdsK k = [] := by
  have hu : usesT k = 0 := by
    unfold usesT
    split <;> first | rfl | omega
  have hb : ∀ i, usedB k i = false := fun i => by unfold usedB; rw [hu]; simp
  have : ∀ i, fdsU k i = [] := fun i => by
    induction i with
    | zero => rfl
    | succ i ih => show fdsU k i ++ _ = []; rw [ih, hb i]; rfl
  exact this 16
set_option maxHeartbeats 8000000 in
theorem calls_none {w : World} {yb kb : Nat} {K : Int} (c0 : w.cell? ⟨kb, 0, none⟩ = some (.int .i64 K)) (k8 : ¬ K = 8) (k9 : ¬ K = 9) (k10 : ¬ K = 10) (k11 : ¬ K = 11) :
    Calls Tryz.prog 91 #[.pointer (some ⟨yb, 0, none⟩), .pointer (some ⟨kb, 0, none⟩)] w fun e w' => e = .returned (.tuple #[]) ∧ w' = w := by
  have l8 : (K == 8) = false := by simpa using k8
  have l9 : (K == 9) = false := by simpa using k9
  have l10 : (K == 10) = false := by simpa using k10
  have l11 : (K == 11) = false := by simpa using k11
  go_enter Tryz.func91, Tryz.ntmps91
  go_wp2_with fail
  go_end0
  exact ⟨rfl, rfl⟩
theorem calls_any {B : Nat} {w : World} {yb eb hb ho hc n : Nat} {z : Nat → Nat} {kb : Nat} {m : Mg} {a b : Nat} {va : Option Addr} (h : Lk B w yb eb hb ho hc n z kb (m, a, b) va) (hn : n ≤ 140737488351232) (h7 : ∀ k : Int, 1 ≤ k → k ≤ 7 → m.n 0 ≠ k) :
    Calls Tryz.prog 91 #[.pointer (some ⟨yb, 0, none⟩), .pointer (some ⟨kb, 0, none⟩)] w fun e w' => e = .returned (.tuple #[]) ∧ Lk B w' yb eb hb ho hc n z kb (getL z n ((fdsK (m.n 0).toNat).map (wide n)) m a b) va ∧ But2 eb kb w w' := by
  by_cases k8 : m.n 0 = 8
  · rw [k8]; exact calls8 h hn k8
  by_cases k9 : m.n 0 = 9
  · rw [k9]; exact calls9 h hn k9
  by_cases k10 : m.n 0 = 10
  · rw [k10]; exact calls10 h hn k10
  by_cases k11 : m.n 0 = 11
  · rw [k11]; exact calls11 h hn k11
  have hk : (m.n 0).toNat = 0 ∨ 12 ≤ (m.n 0).toNat := by
    have i1 := h7 1 (by decide) (by decide)
    have i2 := h7 2 (by decide) (by decide)
    have i3 := h7 3 (by decide) (by decide)
    have i4 := h7 4 (by decide) (by decide)
    have i5 := h7 5 (by decide) (by decide)
    have i6 := h7 6 (by decide) (by decide)
    have i7 := h7 7 (by decide) (by decide)
    omega
  rw [fdsK_none hk]
  exact (calls_none (h.row.cell (i := 0) (by decide)) k8 k9 k10 k11).mono fun e w' ⟨he, hw⟩ => by
    subst hw
    exact ⟨he, h, But2.of_since (World.Since.refl _ _)⟩
end Go.Proofs.YtonpmabdjngdcaaGreatDoor

/- The document's look: 0. -/
namespace Go.Proofs.YtonpmabdjngdcaaGreatDoor
open Go.RowKit
set_option maxRecDepth 100000

set_option maxHeartbeats 8000000 in
theorem look_rest (hb ho n hc : Nat) (z : Nat → Nat) (w : World) (hcel : ∀ j, j < n → w.cell? ⟨hb, ho + j, none⟩ = some (.int .u8 (z j : Nat))) (hlt : hb < w.heap.size) (hz : ∀ j, z j < 256) (hn : n ≤ 140737488351232) (hcap : n ≤ hc) (hcm : hc ≤ 9223372036854775807) (hk : ∀ k : Int, 1 ≤ k → k ≤ 7 → (headG z n).1.n 0 ≠ k) :
    Calls Tryz.prog 44 #[.slice (some ⟨hb, ho, none⟩) n hc] w fun e w' => LookAns z n w.heap.size e w' ∧ w.Since w.heap.size w' := by
  obtain ⟨W0, HW0⟩ : ∃ W, Hid (w.alloc mgZ = W) := ⟨_, rfl⟩
  have s0 : w.Since w.heap.size W0 := by rw [← HW0.out]; exact (World.Since.refl _ _).alloc (Nat.le_refl _) _
  have z0 : W0.heap.size = w.heap.size + 1 := by rw [← HW0.out]; simp
  have r0 : W0.rowIs w.heap.size 37 22 (mgCell mg0 none 0) := by rw [← HW0.out]; exact mgZ_row w
  obtain ⟨W1, HW1⟩ : ∃ W, Hid (W0.alloc (.cells #[.slice (some ⟨hb, ho, none⟩) n hc, .int .i64 0, .int .i64 0] 144) = W) := ⟨_, rfl⟩
  have s1 : W0.Since W0.heap.size W1 := by rw [← HW1.out]; exact (World.Since.refl _ _).alloc (Nat.le_refl _) _
  have z1 : W1.heap.size = w.heap.size + 1 + 1 := by rw [← HW1.out, ← z0]; simp
  have r1 : W1.rowIs (w.heap.size + 1) 144 3 (gCell hb ho hc n 0 0) := by rw [← z0, ← HW1.out]; exact eyeZ_row W0 hb ho hc n
  obtain ⟨W2, HW2⟩ : ∃ W, Hid (W1.alloc (.cells #[.pointer (some ⟨w.heap.size + 1, 0, none⟩), .int .i64 (n : Nat)] 146) = W) := ⟨_, rfl⟩
  have s2 : W1.Since W1.heap.size W2 := by rw [← HW2.out]; exact (World.Since.refl _ _).alloc (Nat.le_refl _) _
  have z2 : W2.heap.size = w.heap.size + 1 + 1 + 1 := by rw [← HW2.out, ← z1]; simp
  have r2 : W2.rowIs (w.heap.size + 1 + 1) 146 2 (eyCell (w.heap.size + 1) n) := by rw [← z1, ← HW2.out]; exact eyZ_row W1 _ n
  obtain ⟨W3, HW3⟩ : ∃ W, Hid (W2.alloc mgZ = W) := ⟨_, rfl⟩
  have s3 : W2.Since W2.heap.size W3 := by rw [← HW3.out]; exact (World.Since.refl _ _).alloc (Nat.le_refl _) _
  have z3 : W3.heap.size = w.heap.size + 1 + 1 + 1 + 1 := by rw [← HW3.out, ← z2]; simp
  have r3 : W3.rowIs (w.heap.size + 1 + 1 + 1) 37 22 (mgCell mg0 none 0) := by rw [← z2, ← HW3.out]; exact mgZ_row W2
  have s03 : W0.Since W0.heap.size W3 := (s1.trans (since_mono s2 s1.size)).trans (since_mono s3 (Nat.le_trans s1.size s2.size))
  have s13 : W1.Since W1.heap.size W3 := s2.trans (since_mono s3 s2.size)
  have sw3 : w.Since w.heap.size W3 := s0.trans (since_mono s03 s0.size)
  have HL : Hid (Lk (w.heap.size + 1 + 1 + 1 + 1) W3 (w.heap.size + 1 + 1) (w.heap.size + 1) hb ho hc n z (w.heap.size + 1 + 1 + 1) (mg0, 0, 0) none ∧ But2 (w.heap.size + 1) (w.heap.size + 1 + 1 + 1) W3 W3) :=
    ⟨⟨⟨row_since r2 s3, by omega⟩, ⟨row_since r1 s13, fun j hj => by rw [World.cell?_of_block (w := w) (sw3.block _ hlt)]; exact hcel j hj, fun _ => by omega, hz, Nat.zero_le _, by omega, hcap, hcm⟩, r3, .inl ⟨rfl, rfl⟩, fun c => Nat.zero_le _, fun c v hv => absurd hv (List.not_mem_nil), by omega, by omega, by omega, by omega, by omega, by omega, by omega⟩, But2.of_since (World.Since.refl _ _)⟩
  have HSR : Hid (w.Since w.heap.size W3 ∧ W3.rowIs w.heap.size 37 22 (mgCell mg0 none 0)) := ⟨sw3, row_since r0 s03⟩
  have HHK := hide hk
  clear s0 r0 s1 r1 s2 r2 s3 r3 s03 s13 sw3 hcel hz hcap hcm hlt hk
  unfold mgZ at HW0 HW3
  have Hz : Hid (w.heap.size + 1 + 1 + 1 + 1 ≤ W3.heap.size) := by show _ ≤ _; omega
  go_enter Tryz.func44, Tryz.ntmps44
  go_upto_region 1 with fail
  rw [HW0.out]
  go_upto_region 2 with fail
  try rw [z0]
  rw [HW1.out]
  try rw [z0]
  try rw [z1]
  rw [HW2.out]
  go_upto_region 3 with fail
  try rw [z2]
  rw [HW3.out]
  try rw [z2]
  clear HW0 HW1 HW2 HW3 z0 z1 z2 z3
  obtain ⟨eb, Heb⟩ : ∃ x, Hid (w.heap.size + 1 = x) := ⟨_, rfl⟩
  have hle : w.heap.size < eb := by rw [← Heb.out]; omega
  rw [Heb.out] at HL
  try rw [Heb.out] at Hz
  try simp only [Heb.out]
  obtain ⟨yb, Hyb⟩ : ∃ x, Hid (eb + 1 = x) := ⟨_, rfl⟩
  rw [Hyb.out] at HL
  try rw [Hyb.out] at Hz
  try simp only [Hyb.out]
  obtain ⟨kb, Hkb⟩ : ∃ x, Hid (yb + 1 = x) := ⟨_, rfl⟩
  have hlk : w.heap.size < kb := by rw [← Hkb.out, ← Hyb.out]; omega
  rw [Hkb.out] at HL
  try simp only [Hkb.out]
  obtain ⟨BB, HBB⟩ : ∃ x, Hid (kb + 1 = x) := ⟨_, rfl⟩
  have hlB : w.heap.size ≤ BB := by rw [← HBB.out]; omega
  rw [HBB.out] at HL
  have HLT : Hid (w.heap.size < eb ∧ w.heap.size < kb ∧ w.heap.size ≤ BB) := ⟨hle, hlk, hlB⟩
  clear hle hlk hlB Heb Hyb Hkb HBB Hz
  have HQ := hide (lk_small HL.out.1 0 11 (by decide) (by decide))
  go_wp2_with fail
  refine HQ.out.mono ?_
  rintro e w10 ⟨X, rfl, ⟨y, cy⟩, fz, HN⟩
  obtain ⟨m10, a10, b10, HG10⟩ : ∃ x y t, Hid ((Fd.small 0 11).get z n mg0 0 0 = (x, y, t)) := ⟨_, _, _, rfl⟩
  rw [HG10.out] at HN
  have HL10 := hide (And.intro HN.out.1 (HL.out.2.trans HN.out.2))
  clear HQ HN HL
  go_upto_region 4 with fail
  clear cy fz
  have HQ := hide (lk_small HL10.out.1 1 8 (by decide) (by decide))
  go_wp2_with fail
  refine HQ.out.mono ?_
  rintro e w11 ⟨X, rfl, ⟨y, cy⟩, fz, HN⟩
  obtain ⟨m11, a11, b11, HG11⟩ : ∃ x y t, Hid ((Fd.small 1 8).get z n m10 a10 b10 = (x, y, t)) := ⟨_, _, _, rfl⟩
  rw [HG11.out] at HN
  have HL11 := hide (And.intro HN.out.1 (HL10.out.2.trans HN.out.2))
  clear HQ HN HL10
  go_upto_region 5 with fail
  clear cy fz
  have HQ := hide (lk_small HL11.out.1 2 8 (by decide) (by decide))
  go_wp2_with fail
  refine HQ.out.mono ?_
  rintro e w12 ⟨X, rfl, ⟨y, cy⟩, fz, HN⟩
  obtain ⟨m12, a12, b12, HG12⟩ : ∃ x y t, Hid ((Fd.small 2 8).get z n m11 a11 b11 = (x, y, t)) := ⟨_, _, _, rfl⟩
  rw [HG12.out] at HN
  have HL12 := hide (And.intro HN.out.1 (HL11.out.2.trans HN.out.2))
  clear HQ HN HL11
  go_upto_region 6 with fail
  clear cy fz
  have HQ := hide (lk_small HL12.out.1 3 7 (by decide) (by decide))
  go_wp2_with fail
  refine HQ.out.mono ?_
  rintro e w13 ⟨X, rfl, ⟨y, cy⟩, fz, HN⟩
  obtain ⟨m13, a13, b13, HG13⟩ : ∃ x y t, Hid ((Fd.small 3 7).get z n m12 a12 b12 = (x, y, t)) := ⟨_, _, _, rfl⟩
  rw [HG13.out] at HN
  have HL13 := hide (And.intro HN.out.1 (HL12.out.2.trans HN.out.2))
  clear HQ HN HL12
  go_upto_region 7 with fail
  clear cy fz
  have HHD : Hid (headG z n = (m13, a13, b13)) := by
    show getL z n [Fd.small 0 11, Fd.small 1 8, Fd.small 2 8, Fd.small 3 7] mg0 0 0 = _
    rw [getL_cons, HG10.out]
    dsimp only
    rw [getL_cons, HG11.out]
    dsimp only
    rw [getL_cons, HG12.out]
    dsimp only
    rw [getL_cons, HG13.out]
    dsimp only
    rfl
  rw [HHD.out] at HHK
  obtain ⟨V, HV⟩ : ∃ W, Hid (w13.setCell ⟨kb, 3, none⟩ (.int .i64 (X : Nat)) = W) := ⟨_, rfl⟩
  rw [HV.out] at HL13 ⊢
  clear HV
  have c0 : V.cell? ⟨kb, 0, none⟩ = some (.int .i64 (m13.n 0)) := HL13.out.1.row.cell (i := 0) (by decide)
  have hkk : ∀ k : Int, 1 ≤ k → k ≤ 7 → m13.n 0 ≠ k := HHK.out
  obtain ⟨KK, HKK⟩ : ∃ x, Hid (m13.n 0 = x) := ⟨_, rfl⟩
  have HQ := hide (calls_any HL13.out.1 hn (fun k h1 h2 => hkk k h1 h2))
  rw [HKK.out] at c0
  rw [HKK.out] at hkk
  have k1 : ¬ (KK = 1) := hkk 1 (by decide) (by decide)
  have l1 : (KK == 1) = false := by simpa using k1
  have k2 : ¬ (KK = 2) := hkk 2 (by decide) (by decide)
  have l2 : (KK == 2) = false := by simpa using k2
  have k3 : ¬ (KK = 3) := hkk 3 (by decide) (by decide)
  have l3 : (KK == 3) = false := by simpa using k3
  have k4 : ¬ (KK = 4) := hkk 4 (by decide) (by decide)
  have l4 : (KK == 4) = false := by simpa using k4
  have k5 : ¬ (KK = 5) := hkk 5 (by decide) (by decide)
  have l5 : (KK == 5) = false := by simpa using k5
  have k6 : ¬ (KK = 6) := hkk 6 (by decide) (by decide)
  have l6 : (KK == 6) = false := by simpa using k6
  have k7 : ¬ (KK = 7) := hkk 7 (by decide) (by decide)
  have l7 : (KK == 7) = false := by simpa using k7
  clear HHK hkk
  go_wp2_with fail
  refine HQ.out.mono ?_
  rintro e w14 ⟨rfl, hL, hB2⟩
  have HL14 := hide (And.intro hL (HL13.out.2.trans hB2))
  clear HQ HL13 hL hB2 c0 k1 l1 k2 l2 k3 l3 k4 l4 k5 l5 k6 l6 k7 l7
  go_upto_region 34 with fail
  obtain ⟨m14, a14, b14, HG14⟩ : ∃ x y t, Hid (getL z n ((fdsK (m13.n 0).toNat).map (wide n)) m13 a13 b13 = (x, y, t)) := ⟨_, _, _, rfl⟩
  rw [HG14.out] at HL14
  have HLQ : Hid ((m14, a14, b14).1 = lookG z n) := by
    show _ = (getL z n _ _ _ _).1
    rw [HHD.out]
    show _ = (getL z n ((fdsK (m13.n 0).toNat).map (wide n)) m13 a13 b13).1
    rw [HG14.out]
  have HH9 := hide (row_heap HL14.out.1.row)
  obtain ⟨ZW, HZ, HT9, HHZ, HE⟩ := look_end HL14.out.1 HL14.out.2 HLQ.out HSR.out.1 HSR.out.2 HLT.out.2.2 HLT.out.1 HLT.out.2.1
  have HH9' : Hid (_ = some (Obj.cells (mgL m14 none (m14.s 10).length).toArray 37 (0, 0))) := HH9
  clear HH9 HLQ HSR HLT HL14 HHD
  have HIN := hide (infoMgA m14 none (m14.s 10).length)
  have HON := hide (mg_all m14 none (m14.s 10).length)
  have HZ' : Hid (World.setCells _ w.heap.size 0 (mgL m14 none (m14.s 10).length).toArray.toList = ZW) := HZ
  clear HZ
  generalize (mgL m14 none (m14.s 10).length).toArray = MA at *
  refine wp_region_lit ?_
  refine wpList_load_row rfl 37 _ rfl kb rfl _ MA (0, 0) _ HH9'.out Tryz.underlying37 rfl HIN.out ?_
  refine wpList_store_mid rfl 37 _ _ rfl w.heap.size 0 MA rfl rfl HT9.out HIN.out HON.out ?_
  rw [HZ'.out]
  go_wp2_with fail
  exact bodyPost_ret_by (results_cell_row rfl _ _ w.heap.size 37 _ (0, 0) _ rfl HHZ.out Tryz.underlying37 rfl HIN.out) rfl HE.out
end Go.Proofs.YtonpmabdjngdcaaGreatDoor

/- The document's look: 1. -/
namespace Go.Proofs.YtonpmabdjngdcaaGreatDoor
open Go.RowKit
set_option maxRecDepth 100000

set_option maxHeartbeats 8000000 in
theorem look1 (hb ho n hc : Nat) (z : Nat → Nat) (w : World) (hcel : ∀ j, j < n → w.cell? ⟨hb, ho + j, none⟩ = some (.int .u8 (z j : Nat))) (hlt : hb < w.heap.size) (hz : ∀ j, z j < 256) (hn : n ≤ 140737488351232) (hcap : n ≤ hc) (hcm : hc ≤ 9223372036854775807) (hk : (headG z n).1.n 0 = 1) :
    Calls Tryz.prog 44 #[.slice (some ⟨hb, ho, none⟩) n hc] w fun e w' => LookAns z n w.heap.size e w' ∧ w.Since w.heap.size w' := by
  obtain ⟨W0, HW0⟩ : ∃ W, Hid (w.alloc mgZ = W) := ⟨_, rfl⟩
  have s0 : w.Since w.heap.size W0 := by rw [← HW0.out]; exact (World.Since.refl _ _).alloc (Nat.le_refl _) _
  have z0 : W0.heap.size = w.heap.size + 1 := by rw [← HW0.out]; simp
  have r0 : W0.rowIs w.heap.size 37 22 (mgCell mg0 none 0) := by rw [← HW0.out]; exact mgZ_row w
  obtain ⟨W1, HW1⟩ : ∃ W, Hid (W0.alloc (.cells #[.slice (some ⟨hb, ho, none⟩) n hc, .int .i64 0, .int .i64 0] 144) = W) := ⟨_, rfl⟩
  have s1 : W0.Since W0.heap.size W1 := by rw [← HW1.out]; exact (World.Since.refl _ _).alloc (Nat.le_refl _) _
  have z1 : W1.heap.size = w.heap.size + 1 + 1 := by rw [← HW1.out, ← z0]; simp
  have r1 : W1.rowIs (w.heap.size + 1) 144 3 (gCell hb ho hc n 0 0) := by rw [← z0, ← HW1.out]; exact eyeZ_row W0 hb ho hc n
  obtain ⟨W2, HW2⟩ : ∃ W, Hid (W1.alloc (.cells #[.pointer (some ⟨w.heap.size + 1, 0, none⟩), .int .i64 (n : Nat)] 146) = W) := ⟨_, rfl⟩
  have s2 : W1.Since W1.heap.size W2 := by rw [← HW2.out]; exact (World.Since.refl _ _).alloc (Nat.le_refl _) _
  have z2 : W2.heap.size = w.heap.size + 1 + 1 + 1 := by rw [← HW2.out, ← z1]; simp
  have r2 : W2.rowIs (w.heap.size + 1 + 1) 146 2 (eyCell (w.heap.size + 1) n) := by rw [← z1, ← HW2.out]; exact eyZ_row W1 _ n
  obtain ⟨W3, HW3⟩ : ∃ W, Hid (W2.alloc mgZ = W) := ⟨_, rfl⟩
  have s3 : W2.Since W2.heap.size W3 := by rw [← HW3.out]; exact (World.Since.refl _ _).alloc (Nat.le_refl _) _
  have z3 : W3.heap.size = w.heap.size + 1 + 1 + 1 + 1 := by rw [← HW3.out, ← z2]; simp
  have r3 : W3.rowIs (w.heap.size + 1 + 1 + 1) 37 22 (mgCell mg0 none 0) := by rw [← z2, ← HW3.out]; exact mgZ_row W2
  have s03 : W0.Since W0.heap.size W3 := (s1.trans (since_mono s2 s1.size)).trans (since_mono s3 (Nat.le_trans s1.size s2.size))
  have s13 : W1.Since W1.heap.size W3 := s2.trans (since_mono s3 s2.size)
  have sw3 : w.Since w.heap.size W3 := s0.trans (since_mono s03 s0.size)
  have HL : Hid (Lk (w.heap.size + 1 + 1 + 1 + 1) W3 (w.heap.size + 1 + 1) (w.heap.size + 1) hb ho hc n z (w.heap.size + 1 + 1 + 1) (mg0, 0, 0) none ∧ But2 (w.heap.size + 1) (w.heap.size + 1 + 1 + 1) W3 W3) :=
    ⟨⟨⟨row_since r2 s3, by omega⟩, ⟨row_since r1 s13, fun j hj => by rw [World.cell?_of_block (w := w) (sw3.block _ hlt)]; exact hcel j hj, fun _ => by omega, hz, Nat.zero_le _, by omega, hcap, hcm⟩, r3, .inl ⟨rfl, rfl⟩, fun c => Nat.zero_le _, fun c v hv => absurd hv (List.not_mem_nil), by omega, by omega, by omega, by omega, by omega, by omega, by omega⟩, But2.of_since (World.Since.refl _ _)⟩
  have HSR : Hid (w.Since w.heap.size W3 ∧ W3.rowIs w.heap.size 37 22 (mgCell mg0 none 0)) := ⟨sw3, row_since r0 s03⟩
  have HHK := hide hk
  clear s0 r0 s1 r1 s2 r2 s3 r3 s03 s13 sw3 hcel hz hcap hcm hlt hk
  unfold mgZ at HW0 HW3
  have Hz : Hid (w.heap.size + 1 + 1 + 1 + 1 ≤ W3.heap.size) := by show _ ≤ _; omega
  go_enter Tryz.func44, Tryz.ntmps44
  go_upto_region 1 with fail
  rw [HW0.out]
  go_upto_region 2 with fail
  try rw [z0]
  rw [HW1.out]
  try rw [z0]
  try rw [z1]
  rw [HW2.out]
  go_upto_region 3 with fail
  try rw [z2]
  rw [HW3.out]
  try rw [z2]
  clear HW0 HW1 HW2 HW3 z0 z1 z2 z3
  obtain ⟨eb, Heb⟩ : ∃ x, Hid (w.heap.size + 1 = x) := ⟨_, rfl⟩
  have hle : w.heap.size < eb := by rw [← Heb.out]; omega
  rw [Heb.out] at HL
  try rw [Heb.out] at Hz
  try simp only [Heb.out]
  obtain ⟨yb, Hyb⟩ : ∃ x, Hid (eb + 1 = x) := ⟨_, rfl⟩
  rw [Hyb.out] at HL
  try rw [Hyb.out] at Hz
  try simp only [Hyb.out]
  obtain ⟨kb, Hkb⟩ : ∃ x, Hid (yb + 1 = x) := ⟨_, rfl⟩
  have hlk : w.heap.size < kb := by rw [← Hkb.out, ← Hyb.out]; omega
  rw [Hkb.out] at HL
  try simp only [Hkb.out]
  obtain ⟨BB, HBB⟩ : ∃ x, Hid (kb + 1 = x) := ⟨_, rfl⟩
  have hlB : w.heap.size ≤ BB := by rw [← HBB.out]; omega
  rw [HBB.out] at HL
  have HLT : Hid (w.heap.size < eb ∧ w.heap.size < kb ∧ w.heap.size ≤ BB) := ⟨hle, hlk, hlB⟩
  clear hle hlk hlB Heb Hyb Hkb HBB Hz
  have HQ := hide (lk_small HL.out.1 0 11 (by decide) (by decide))
  go_wp2_with fail
  refine HQ.out.mono ?_
  rintro e w10 ⟨X, rfl, ⟨y, cy⟩, fz, HN⟩
  obtain ⟨m10, a10, b10, HG10⟩ : ∃ x y t, Hid ((Fd.small 0 11).get z n mg0 0 0 = (x, y, t)) := ⟨_, _, _, rfl⟩
  rw [HG10.out] at HN
  have HL10 := hide (And.intro HN.out.1 (HL.out.2.trans HN.out.2))
  clear HQ HN HL
  go_upto_region 4 with fail
  clear cy fz
  have HQ := hide (lk_small HL10.out.1 1 8 (by decide) (by decide))
  go_wp2_with fail
  refine HQ.out.mono ?_
  rintro e w11 ⟨X, rfl, ⟨y, cy⟩, fz, HN⟩
  obtain ⟨m11, a11, b11, HG11⟩ : ∃ x y t, Hid ((Fd.small 1 8).get z n m10 a10 b10 = (x, y, t)) := ⟨_, _, _, rfl⟩
  rw [HG11.out] at HN
  have HL11 := hide (And.intro HN.out.1 (HL10.out.2.trans HN.out.2))
  clear HQ HN HL10
  go_upto_region 5 with fail
  clear cy fz
  have HQ := hide (lk_small HL11.out.1 2 8 (by decide) (by decide))
  go_wp2_with fail
  refine HQ.out.mono ?_
  rintro e w12 ⟨X, rfl, ⟨y, cy⟩, fz, HN⟩
  obtain ⟨m12, a12, b12, HG12⟩ : ∃ x y t, Hid ((Fd.small 2 8).get z n m11 a11 b11 = (x, y, t)) := ⟨_, _, _, rfl⟩
  rw [HG12.out] at HN
  have HL12 := hide (And.intro HN.out.1 (HL11.out.2.trans HN.out.2))
  clear HQ HN HL11
  go_upto_region 6 with fail
  clear cy fz
  have HQ := hide (lk_small HL12.out.1 3 7 (by decide) (by decide))
  go_wp2_with fail
  refine HQ.out.mono ?_
  rintro e w13 ⟨X, rfl, ⟨y, cy⟩, fz, HN⟩
  obtain ⟨m13, a13, b13, HG13⟩ : ∃ x y t, Hid ((Fd.small 3 7).get z n m12 a12 b12 = (x, y, t)) := ⟨_, _, _, rfl⟩
  rw [HG13.out] at HN
  have HL13 := hide (And.intro HN.out.1 (HL12.out.2.trans HN.out.2))
  clear HQ HN HL12
  go_upto_region 7 with fail
  clear cy fz
  have HHD : Hid (headG z n = (m13, a13, b13)) := by
    show getL z n [Fd.small 0 11, Fd.small 1 8, Fd.small 2 8, Fd.small 3 7] mg0 0 0 = _
    rw [getL_cons, HG10.out]
    dsimp only
    rw [getL_cons, HG11.out]
    dsimp only
    rw [getL_cons, HG12.out]
    dsimp only
    rw [getL_cons, HG13.out]
    dsimp only
    rfl
  rw [HHD.out] at HHK
  obtain ⟨V, HV⟩ : ∃ W, Hid (w13.setCell ⟨kb, 3, none⟩ (.int .i64 (X : Nat)) = W) := ⟨_, rfl⟩
  rw [HV.out] at HL13 ⊢
  clear HV
  have c0 : V.cell? ⟨kb, 0, none⟩ = some (.int .i64 (m13.n 0)) := HL13.out.1.row.cell (i := 0) (by decide)
  have hkk : m13.n 0 = 1 := HHK.out
  rw [hkk] at c0
  have HKK := hide hkk
  clear hkk HHK
  have HQ := hide (lk_number HL13.out.1 hn 4 1099511627776 (by decide) (by decide))
  go_wp2_with fail
  refine HQ.out.mono ?_
  rintro e w14 ⟨X, rfl, ⟨y, cy⟩, fz, HN⟩
  obtain ⟨m14, a14, b14, HG14⟩ : ∃ x y t, Hid ((wide n (.var 4 1099511627776)).get z n m13 a13 b13 = (x, y, t)) := ⟨_, _, _, rfl⟩
  rw [HG14.out] at HN
  have HL14 := hide (And.intro HN.out.1 (HL13.out.2.trans HN.out.2))
  clear HQ HN HL13 c0
  go_upto_region 34 with fail
  clear cy fz
  have HLQ : Hid ((m14, a14, b14).1 = lookG z n) := by
    show _ = (getL z n _ _ _ _).1
    rw [HHD.out]
    show _ = (getL z n ((fdsK (m13.n 0).toNat).map (wide n)) m13 a13 b13).1
    rw [HKK.out, show fdsK ((1 : Int).toNat) = [.var 4 1099511627776] by kernel_rfl]
    show _ = (getL z n [wide n (.var 4 1099511627776)] m13 a13 b13).1
    have e : getL z n [wide n (.var 4 1099511627776)] m13 a13 b13 = (m14, a14, b14) := by
      rw [getL_cons, HG14.out]
      dsimp only
      rfl
    rw [e]
  have HH9 := hide (row_heap HL14.out.1.row)
  obtain ⟨ZW, HZ, HT9, HHZ, HE⟩ := look_end HL14.out.1 HL14.out.2 HLQ.out HSR.out.1 HSR.out.2 HLT.out.2.2 HLT.out.1 HLT.out.2.1
  have HH9' : Hid (_ = some (Obj.cells (mgL m14 none (m14.s 10).length).toArray 37 (0, 0))) := HH9
  clear HH9 HLQ HSR HLT HL14 HHD
  have HIN := hide (infoMgA m14 none (m14.s 10).length)
  have HON := hide (mg_all m14 none (m14.s 10).length)
  have HZ' : Hid (World.setCells _ w.heap.size 0 (mgL m14 none (m14.s 10).length).toArray.toList = ZW) := HZ
  clear HZ
  generalize (mgL m14 none (m14.s 10).length).toArray = MA at *
  refine wp_region_lit ?_
  refine wpList_load_row rfl 37 _ rfl kb rfl _ MA (0, 0) _ HH9'.out Tryz.underlying37 rfl HIN.out ?_
  refine wpList_store_mid rfl 37 _ _ rfl w.heap.size 0 MA rfl rfl HT9.out HIN.out HON.out ?_
  rw [HZ'.out]
  go_wp2_with fail
  exact bodyPost_ret_by (results_cell_row rfl _ _ w.heap.size 37 _ (0, 0) _ rfl HHZ.out Tryz.underlying37 rfl HIN.out) rfl HE.out
end Go.Proofs.YtonpmabdjngdcaaGreatDoor

/- The document's look: 2. -/
namespace Go.Proofs.YtonpmabdjngdcaaGreatDoor
open Go.RowKit
set_option maxRecDepth 100000

set_option maxHeartbeats 8000000 in
theorem look2 (hb ho n hc : Nat) (z : Nat → Nat) (w : World) (hcel : ∀ j, j < n → w.cell? ⟨hb, ho + j, none⟩ = some (.int .u8 (z j : Nat))) (hlt : hb < w.heap.size) (hz : ∀ j, z j < 256) (hn : n ≤ 140737488351232) (hcap : n ≤ hc) (hcm : hc ≤ 9223372036854775807) (hk : (headG z n).1.n 0 = 2) :
    Calls Tryz.prog 44 #[.slice (some ⟨hb, ho, none⟩) n hc] w fun e w' => LookAns z n w.heap.size e w' ∧ w.Since w.heap.size w' := by
  obtain ⟨W0, HW0⟩ : ∃ W, Hid (w.alloc mgZ = W) := ⟨_, rfl⟩
  have s0 : w.Since w.heap.size W0 := by rw [← HW0.out]; exact (World.Since.refl _ _).alloc (Nat.le_refl _) _
  have z0 : W0.heap.size = w.heap.size + 1 := by rw [← HW0.out]; simp
  have r0 : W0.rowIs w.heap.size 37 22 (mgCell mg0 none 0) := by rw [← HW0.out]; exact mgZ_row w
  obtain ⟨W1, HW1⟩ : ∃ W, Hid (W0.alloc (.cells #[.slice (some ⟨hb, ho, none⟩) n hc, .int .i64 0, .int .i64 0] 144) = W) := ⟨_, rfl⟩
  have s1 : W0.Since W0.heap.size W1 := by rw [← HW1.out]; exact (World.Since.refl _ _).alloc (Nat.le_refl _) _
  have z1 : W1.heap.size = w.heap.size + 1 + 1 := by rw [← HW1.out, ← z0]; simp
  have r1 : W1.rowIs (w.heap.size + 1) 144 3 (gCell hb ho hc n 0 0) := by rw [← z0, ← HW1.out]; exact eyeZ_row W0 hb ho hc n
  obtain ⟨W2, HW2⟩ : ∃ W, Hid (W1.alloc (.cells #[.pointer (some ⟨w.heap.size + 1, 0, none⟩), .int .i64 (n : Nat)] 146) = W) := ⟨_, rfl⟩
  have s2 : W1.Since W1.heap.size W2 := by rw [← HW2.out]; exact (World.Since.refl _ _).alloc (Nat.le_refl _) _
  have z2 : W2.heap.size = w.heap.size + 1 + 1 + 1 := by rw [← HW2.out, ← z1]; simp
  have r2 : W2.rowIs (w.heap.size + 1 + 1) 146 2 (eyCell (w.heap.size + 1) n) := by rw [← z1, ← HW2.out]; exact eyZ_row W1 _ n
  obtain ⟨W3, HW3⟩ : ∃ W, Hid (W2.alloc mgZ = W) := ⟨_, rfl⟩
  have s3 : W2.Since W2.heap.size W3 := by rw [← HW3.out]; exact (World.Since.refl _ _).alloc (Nat.le_refl _) _
  have z3 : W3.heap.size = w.heap.size + 1 + 1 + 1 + 1 := by rw [← HW3.out, ← z2]; simp
  have r3 : W3.rowIs (w.heap.size + 1 + 1 + 1) 37 22 (mgCell mg0 none 0) := by rw [← z2, ← HW3.out]; exact mgZ_row W2
  have s03 : W0.Since W0.heap.size W3 := (s1.trans (since_mono s2 s1.size)).trans (since_mono s3 (Nat.le_trans s1.size s2.size))
  have s13 : W1.Since W1.heap.size W3 := s2.trans (since_mono s3 s2.size)
  have sw3 : w.Since w.heap.size W3 := s0.trans (since_mono s03 s0.size)
  have HL : Hid (Lk (w.heap.size + 1 + 1 + 1 + 1) W3 (w.heap.size + 1 + 1) (w.heap.size + 1) hb ho hc n z (w.heap.size + 1 + 1 + 1) (mg0, 0, 0) none ∧ But2 (w.heap.size + 1) (w.heap.size + 1 + 1 + 1) W3 W3) :=
    ⟨⟨⟨row_since r2 s3, by omega⟩, ⟨row_since r1 s13, fun j hj => by rw [World.cell?_of_block (w := w) (sw3.block _ hlt)]; exact hcel j hj, fun _ => by omega, hz, Nat.zero_le _, by omega, hcap, hcm⟩, r3, .inl ⟨rfl, rfl⟩, fun c => Nat.zero_le _, fun c v hv => absurd hv (List.not_mem_nil), by omega, by omega, by omega, by omega, by omega, by omega, by omega⟩, But2.of_since (World.Since.refl _ _)⟩
  have HSR : Hid (w.Since w.heap.size W3 ∧ W3.rowIs w.heap.size 37 22 (mgCell mg0 none 0)) := ⟨sw3, row_since r0 s03⟩
  have HHK := hide hk
  clear s0 r0 s1 r1 s2 r2 s3 r3 s03 s13 sw3 hcel hz hcap hcm hlt hk
  unfold mgZ at HW0 HW3
  have Hz : Hid (w.heap.size + 1 + 1 + 1 + 1 ≤ W3.heap.size) := by show _ ≤ _; omega
  go_enter Tryz.func44, Tryz.ntmps44
  go_upto_region 1 with fail
  rw [HW0.out]
  go_upto_region 2 with fail
  try rw [z0]
  rw [HW1.out]
  try rw [z0]
  try rw [z1]
  rw [HW2.out]
  go_upto_region 3 with fail
  try rw [z2]
  rw [HW3.out]
  try rw [z2]
  clear HW0 HW1 HW2 HW3 z0 z1 z2 z3
  obtain ⟨eb, Heb⟩ : ∃ x, Hid (w.heap.size + 1 = x) := ⟨_, rfl⟩
  have hle : w.heap.size < eb := by rw [← Heb.out]; omega
  rw [Heb.out] at HL
  try rw [Heb.out] at Hz
  try simp only [Heb.out]
  obtain ⟨yb, Hyb⟩ : ∃ x, Hid (eb + 1 = x) := ⟨_, rfl⟩
  rw [Hyb.out] at HL
  try rw [Hyb.out] at Hz
  try simp only [Hyb.out]
  obtain ⟨kb, Hkb⟩ : ∃ x, Hid (yb + 1 = x) := ⟨_, rfl⟩
  have hlk : w.heap.size < kb := by rw [← Hkb.out, ← Hyb.out]; omega
  rw [Hkb.out] at HL
  try simp only [Hkb.out]
  obtain ⟨BB, HBB⟩ : ∃ x, Hid (kb + 1 = x) := ⟨_, rfl⟩
  have hlB : w.heap.size ≤ BB := by rw [← HBB.out]; omega
  rw [HBB.out] at HL
  have HLT : Hid (w.heap.size < eb ∧ w.heap.size < kb ∧ w.heap.size ≤ BB) := ⟨hle, hlk, hlB⟩
  clear hle hlk hlB Heb Hyb Hkb HBB Hz
  have HQ := hide (lk_small HL.out.1 0 11 (by decide) (by decide))
  go_wp2_with fail
  refine HQ.out.mono ?_
  rintro e w10 ⟨X, rfl, ⟨y, cy⟩, fz, HN⟩
  obtain ⟨m10, a10, b10, HG10⟩ : ∃ x y t, Hid ((Fd.small 0 11).get z n mg0 0 0 = (x, y, t)) := ⟨_, _, _, rfl⟩
  rw [HG10.out] at HN
  have HL10 := hide (And.intro HN.out.1 (HL.out.2.trans HN.out.2))
  clear HQ HN HL
  go_upto_region 4 with fail
  clear cy fz
  have HQ := hide (lk_small HL10.out.1 1 8 (by decide) (by decide))
  go_wp2_with fail
  refine HQ.out.mono ?_
  rintro e w11 ⟨X, rfl, ⟨y, cy⟩, fz, HN⟩
  obtain ⟨m11, a11, b11, HG11⟩ : ∃ x y t, Hid ((Fd.small 1 8).get z n m10 a10 b10 = (x, y, t)) := ⟨_, _, _, rfl⟩
  rw [HG11.out] at HN
  have HL11 := hide (And.intro HN.out.1 (HL10.out.2.trans HN.out.2))
  clear HQ HN HL10
  go_upto_region 5 with fail
  clear cy fz
  have HQ := hide (lk_small HL11.out.1 2 8 (by decide) (by decide))
  go_wp2_with fail
  refine HQ.out.mono ?_
  rintro e w12 ⟨X, rfl, ⟨y, cy⟩, fz, HN⟩
  obtain ⟨m12, a12, b12, HG12⟩ : ∃ x y t, Hid ((Fd.small 2 8).get z n m11 a11 b11 = (x, y, t)) := ⟨_, _, _, rfl⟩
  rw [HG12.out] at HN
  have HL12 := hide (And.intro HN.out.1 (HL11.out.2.trans HN.out.2))
  clear HQ HN HL11
  go_upto_region 6 with fail
  clear cy fz
  have HQ := hide (lk_small HL12.out.1 3 7 (by decide) (by decide))
  go_wp2_with fail
  refine HQ.out.mono ?_
  rintro e w13 ⟨X, rfl, ⟨y, cy⟩, fz, HN⟩
  obtain ⟨m13, a13, b13, HG13⟩ : ∃ x y t, Hid ((Fd.small 3 7).get z n m12 a12 b12 = (x, y, t)) := ⟨_, _, _, rfl⟩
  rw [HG13.out] at HN
  have HL13 := hide (And.intro HN.out.1 (HL12.out.2.trans HN.out.2))
  clear HQ HN HL12
  go_upto_region 7 with fail
  clear cy fz
  have HHD : Hid (headG z n = (m13, a13, b13)) := by
    show getL z n [Fd.small 0 11, Fd.small 1 8, Fd.small 2 8, Fd.small 3 7] mg0 0 0 = _
    rw [getL_cons, HG10.out]
    dsimp only
    rw [getL_cons, HG11.out]
    dsimp only
    rw [getL_cons, HG12.out]
    dsimp only
    rw [getL_cons, HG13.out]
    dsimp only
    rfl
  rw [HHD.out] at HHK
  obtain ⟨V, HV⟩ : ∃ W, Hid (w13.setCell ⟨kb, 3, none⟩ (.int .i64 (X : Nat)) = W) := ⟨_, rfl⟩
  rw [HV.out] at HL13 ⊢
  clear HV
  have c0 : V.cell? ⟨kb, 0, none⟩ = some (.int .i64 (m13.n 0)) := HL13.out.1.row.cell (i := 0) (by decide)
  have hkk : m13.n 0 = 2 := HHK.out
  rw [hkk] at c0
  have HKK := hide hkk
  clear hkk HHK
  have HQ := hide (lk_number HL13.out.1 hn 4 1099511627776 (by decide) (by decide))
  go_wp2_with fail
  refine HQ.out.mono ?_
  rintro e w14 ⟨X, rfl, ⟨y, cy⟩, fz, HN⟩
  obtain ⟨m14, a14, b14, HG14⟩ : ∃ x y t, Hid ((wide n (.var 4 1099511627776)).get z n m13 a13 b13 = (x, y, t)) := ⟨_, _, _, rfl⟩
  rw [HG14.out] at HN
  have HL14 := hide (And.intro HN.out.1 (HL13.out.2.trans HN.out.2))
  clear HQ HN HL13 c0
  go_upto_region 13 with fail
  clear cy fz
  have HQ := hide (lk_number HL14.out.1 hn 5 1099511627776 (by decide) (by decide))
  go_wp2_with fail
  refine HQ.out.mono ?_
  rintro e w15 ⟨X, rfl, ⟨y, cy⟩, fz, HN⟩
  obtain ⟨m15, a15, b15, HG15⟩ : ∃ x y t, Hid ((wide n (.var 5 1099511627776)).get z n m14 a14 b14 = (x, y, t)) := ⟨_, _, _, rfl⟩
  rw [HG15.out] at HN
  have HL15 := hide (And.intro HN.out.1 (HL14.out.2.trans HN.out.2))
  clear HQ HN HL14
  go_upto_region 14 with fail
  clear cy fz
  have HQ := hide (lk_number HL15.out.1 hn 6 1099511627776 (by decide) (by decide))
  go_wp2_with fail
  refine HQ.out.mono ?_
  rintro e w16 ⟨X, rfl, ⟨y, cy⟩, fz, HN⟩
  obtain ⟨m16, a16, b16, HG16⟩ : ∃ x y t, Hid ((wide n (.var 6 1099511627776)).get z n m15 a15 b15 = (x, y, t)) := ⟨_, _, _, rfl⟩
  rw [HG16.out] at HN
  have HL16 := hide (And.intro HN.out.1 (HL15.out.2.trans HN.out.2))
  clear HQ HN HL15
  go_upto_region 15 with fail
  clear cy fz
  have HQ := hide (lk_value HL16.out.1 hn 16384)
  go_wp2_with fail
  refine HQ.out.mono ?_
  rintro e w17 ⟨ta, L, rfl, ⟨y1, y2, y3, cy⟩, fz, HN⟩
  obtain ⟨m17, a17, b17, HG17⟩ : ∃ x y t, Hid ((wide n (.text 10 16384)).get z n m16 a16 b16 = (x, y, t)) := ⟨_, _, _, rfl⟩
  rw [HG17.out] at HN
  have HL17 := hide (And.intro HN.out.1 (HL16.out.2.trans HN.out.2))
  clear HQ HN HL16
  go_upto_region 34 with fail
  clear cy fz
  have HLQ : Hid ((m17, a17, b17).1 = lookG z n) := by
    show _ = (getL z n _ _ _ _).1
    rw [HHD.out]
    show _ = (getL z n ((fdsK (m13.n 0).toNat).map (wide n)) m13 a13 b13).1
    rw [HKK.out, show fdsK ((2 : Int).toNat) = [.var 4 1099511627776, .var 5 1099511627776, .var 6 1099511627776, .text 10 16384] by kernel_rfl]
    show _ = (getL z n [wide n (.var 4 1099511627776), wide n (.var 5 1099511627776), wide n (.var 6 1099511627776), wide n (.text 10 16384)] m13 a13 b13).1
    have e : getL z n [wide n (.var 4 1099511627776), wide n (.var 5 1099511627776), wide n (.var 6 1099511627776), wide n (.text 10 16384)] m13 a13 b13 = (m17, a17, b17) := by
      rw [getL_cons, HG14.out]
      dsimp only
      rw [getL_cons, HG15.out]
      dsimp only
      rw [getL_cons, HG16.out]
      dsimp only
      rw [getL_cons, HG17.out]
      dsimp only
      rfl
    rw [e]
  have HH9 := hide (row_heap HL17.out.1.row)
  obtain ⟨ZW, HZ, HT9, HHZ, HE⟩ := look_end HL17.out.1 HL17.out.2 HLQ.out HSR.out.1 HSR.out.2 HLT.out.2.2 HLT.out.1 HLT.out.2.1
  have HH9' : Hid (_ = some (Obj.cells (mgL m17 ta (m17.s 10).length).toArray 37 (0, 0))) := HH9
  clear HH9 HLQ HSR HLT HL17 HHD
  have HIN := hide (infoMgA m17 ta (m17.s 10).length)
  have HON := hide (mg_all m17 ta (m17.s 10).length)
  have HZ' : Hid (World.setCells _ w.heap.size 0 (mgL m17 ta (m17.s 10).length).toArray.toList = ZW) := HZ
  clear HZ
  generalize (mgL m17 ta (m17.s 10).length).toArray = MA at *
  refine wp_region_lit ?_
  refine wpList_load_row rfl 37 _ rfl kb rfl _ MA (0, 0) _ HH9'.out Tryz.underlying37 rfl HIN.out ?_
  refine wpList_store_mid rfl 37 _ _ rfl w.heap.size 0 MA rfl rfl HT9.out HIN.out HON.out ?_
  rw [HZ'.out]
  go_wp2_with fail
  exact bodyPost_ret_by (results_cell_row rfl _ _ w.heap.size 37 _ (0, 0) _ rfl HHZ.out Tryz.underlying37 rfl HIN.out) rfl HE.out
end Go.Proofs.YtonpmabdjngdcaaGreatDoor

/- The document's look: 3. -/
namespace Go.Proofs.YtonpmabdjngdcaaGreatDoor
open Go.RowKit
set_option maxRecDepth 100000

set_option maxHeartbeats 8000000 in
theorem look3 (hb ho n hc : Nat) (z : Nat → Nat) (w : World) (hcel : ∀ j, j < n → w.cell? ⟨hb, ho + j, none⟩ = some (.int .u8 (z j : Nat))) (hlt : hb < w.heap.size) (hz : ∀ j, z j < 256) (hn : n ≤ 140737488351232) (hcap : n ≤ hc) (hcm : hc ≤ 9223372036854775807) (hk : (headG z n).1.n 0 = 3) :
    Calls Tryz.prog 44 #[.slice (some ⟨hb, ho, none⟩) n hc] w fun e w' => LookAns z n w.heap.size e w' ∧ w.Since w.heap.size w' := by
  obtain ⟨W0, HW0⟩ : ∃ W, Hid (w.alloc mgZ = W) := ⟨_, rfl⟩
  have s0 : w.Since w.heap.size W0 := by rw [← HW0.out]; exact (World.Since.refl _ _).alloc (Nat.le_refl _) _
  have z0 : W0.heap.size = w.heap.size + 1 := by rw [← HW0.out]; simp
  have r0 : W0.rowIs w.heap.size 37 22 (mgCell mg0 none 0) := by rw [← HW0.out]; exact mgZ_row w
  obtain ⟨W1, HW1⟩ : ∃ W, Hid (W0.alloc (.cells #[.slice (some ⟨hb, ho, none⟩) n hc, .int .i64 0, .int .i64 0] 144) = W) := ⟨_, rfl⟩
  have s1 : W0.Since W0.heap.size W1 := by rw [← HW1.out]; exact (World.Since.refl _ _).alloc (Nat.le_refl _) _
  have z1 : W1.heap.size = w.heap.size + 1 + 1 := by rw [← HW1.out, ← z0]; simp
  have r1 : W1.rowIs (w.heap.size + 1) 144 3 (gCell hb ho hc n 0 0) := by rw [← z0, ← HW1.out]; exact eyeZ_row W0 hb ho hc n
  obtain ⟨W2, HW2⟩ : ∃ W, Hid (W1.alloc (.cells #[.pointer (some ⟨w.heap.size + 1, 0, none⟩), .int .i64 (n : Nat)] 146) = W) := ⟨_, rfl⟩
  have s2 : W1.Since W1.heap.size W2 := by rw [← HW2.out]; exact (World.Since.refl _ _).alloc (Nat.le_refl _) _
  have z2 : W2.heap.size = w.heap.size + 1 + 1 + 1 := by rw [← HW2.out, ← z1]; simp
  have r2 : W2.rowIs (w.heap.size + 1 + 1) 146 2 (eyCell (w.heap.size + 1) n) := by rw [← z1, ← HW2.out]; exact eyZ_row W1 _ n
  obtain ⟨W3, HW3⟩ : ∃ W, Hid (W2.alloc mgZ = W) := ⟨_, rfl⟩
  have s3 : W2.Since W2.heap.size W3 := by rw [← HW3.out]; exact (World.Since.refl _ _).alloc (Nat.le_refl _) _
  have z3 : W3.heap.size = w.heap.size + 1 + 1 + 1 + 1 := by rw [← HW3.out, ← z2]; simp
  have r3 : W3.rowIs (w.heap.size + 1 + 1 + 1) 37 22 (mgCell mg0 none 0) := by rw [← z2, ← HW3.out]; exact mgZ_row W2
  have s03 : W0.Since W0.heap.size W3 := (s1.trans (since_mono s2 s1.size)).trans (since_mono s3 (Nat.le_trans s1.size s2.size))
  have s13 : W1.Since W1.heap.size W3 := s2.trans (since_mono s3 s2.size)
  have sw3 : w.Since w.heap.size W3 := s0.trans (since_mono s03 s0.size)
  have HL : Hid (Lk (w.heap.size + 1 + 1 + 1 + 1) W3 (w.heap.size + 1 + 1) (w.heap.size + 1) hb ho hc n z (w.heap.size + 1 + 1 + 1) (mg0, 0, 0) none ∧ But2 (w.heap.size + 1) (w.heap.size + 1 + 1 + 1) W3 W3) :=
    ⟨⟨⟨row_since r2 s3, by omega⟩, ⟨row_since r1 s13, fun j hj => by rw [World.cell?_of_block (w := w) (sw3.block _ hlt)]; exact hcel j hj, fun _ => by omega, hz, Nat.zero_le _, by omega, hcap, hcm⟩, r3, .inl ⟨rfl, rfl⟩, fun c => Nat.zero_le _, fun c v hv => absurd hv (List.not_mem_nil), by omega, by omega, by omega, by omega, by omega, by omega, by omega⟩, But2.of_since (World.Since.refl _ _)⟩
  have HSR : Hid (w.Since w.heap.size W3 ∧ W3.rowIs w.heap.size 37 22 (mgCell mg0 none 0)) := ⟨sw3, row_since r0 s03⟩
  have HHK := hide hk
  clear s0 r0 s1 r1 s2 r2 s3 r3 s03 s13 sw3 hcel hz hcap hcm hlt hk
  unfold mgZ at HW0 HW3
  have Hz : Hid (w.heap.size + 1 + 1 + 1 + 1 ≤ W3.heap.size) := by show _ ≤ _; omega
  go_enter Tryz.func44, Tryz.ntmps44
  go_upto_region 1 with fail
  rw [HW0.out]
  go_upto_region 2 with fail
  try rw [z0]
  rw [HW1.out]
  try rw [z0]
  try rw [z1]
  rw [HW2.out]
  go_upto_region 3 with fail
  try rw [z2]
  rw [HW3.out]
  try rw [z2]
  clear HW0 HW1 HW2 HW3 z0 z1 z2 z3
  obtain ⟨eb, Heb⟩ : ∃ x, Hid (w.heap.size + 1 = x) := ⟨_, rfl⟩
  have hle : w.heap.size < eb := by rw [← Heb.out]; omega
  rw [Heb.out] at HL
  try rw [Heb.out] at Hz
  try simp only [Heb.out]
  obtain ⟨yb, Hyb⟩ : ∃ x, Hid (eb + 1 = x) := ⟨_, rfl⟩
  rw [Hyb.out] at HL
  try rw [Hyb.out] at Hz
  try simp only [Hyb.out]
  obtain ⟨kb, Hkb⟩ : ∃ x, Hid (yb + 1 = x) := ⟨_, rfl⟩
  have hlk : w.heap.size < kb := by rw [← Hkb.out, ← Hyb.out]; omega
  rw [Hkb.out] at HL
  try simp only [Hkb.out]
  obtain ⟨BB, HBB⟩ : ∃ x, Hid (kb + 1 = x) := ⟨_, rfl⟩
  have hlB : w.heap.size ≤ BB := by rw [← HBB.out]; omega
  rw [HBB.out] at HL
  have HLT : Hid (w.heap.size < eb ∧ w.heap.size < kb ∧ w.heap.size ≤ BB) := ⟨hle, hlk, hlB⟩
  clear hle hlk hlB Heb Hyb Hkb HBB Hz
  have HQ := hide (lk_small HL.out.1 0 11 (by decide) (by decide))
  go_wp2_with fail
  refine HQ.out.mono ?_
  rintro e w10 ⟨X, rfl, ⟨y, cy⟩, fz, HN⟩
  obtain ⟨m10, a10, b10, HG10⟩ : ∃ x y t, Hid ((Fd.small 0 11).get z n mg0 0 0 = (x, y, t)) := ⟨_, _, _, rfl⟩
  rw [HG10.out] at HN
  have HL10 := hide (And.intro HN.out.1 (HL.out.2.trans HN.out.2))
  clear HQ HN HL
  go_upto_region 4 with fail
  clear cy fz
  have HQ := hide (lk_small HL10.out.1 1 8 (by decide) (by decide))
  go_wp2_with fail
  refine HQ.out.mono ?_
  rintro e w11 ⟨X, rfl, ⟨y, cy⟩, fz, HN⟩
  obtain ⟨m11, a11, b11, HG11⟩ : ∃ x y t, Hid ((Fd.small 1 8).get z n m10 a10 b10 = (x, y, t)) := ⟨_, _, _, rfl⟩
  rw [HG11.out] at HN
  have HL11 := hide (And.intro HN.out.1 (HL10.out.2.trans HN.out.2))
  clear HQ HN HL10
  go_upto_region 5 with fail
  clear cy fz
  have HQ := hide (lk_small HL11.out.1 2 8 (by decide) (by decide))
  go_wp2_with fail
  refine HQ.out.mono ?_
  rintro e w12 ⟨X, rfl, ⟨y, cy⟩, fz, HN⟩
  obtain ⟨m12, a12, b12, HG12⟩ : ∃ x y t, Hid ((Fd.small 2 8).get z n m11 a11 b11 = (x, y, t)) := ⟨_, _, _, rfl⟩
  rw [HG12.out] at HN
  have HL12 := hide (And.intro HN.out.1 (HL11.out.2.trans HN.out.2))
  clear HQ HN HL11
  go_upto_region 6 with fail
  clear cy fz
  have HQ := hide (lk_small HL12.out.1 3 7 (by decide) (by decide))
  go_wp2_with fail
  refine HQ.out.mono ?_
  rintro e w13 ⟨X, rfl, ⟨y, cy⟩, fz, HN⟩
  obtain ⟨m13, a13, b13, HG13⟩ : ∃ x y t, Hid ((Fd.small 3 7).get z n m12 a12 b12 = (x, y, t)) := ⟨_, _, _, rfl⟩
  rw [HG13.out] at HN
  have HL13 := hide (And.intro HN.out.1 (HL12.out.2.trans HN.out.2))
  clear HQ HN HL12
  go_upto_region 7 with fail
  clear cy fz
  have HHD : Hid (headG z n = (m13, a13, b13)) := by
    show getL z n [Fd.small 0 11, Fd.small 1 8, Fd.small 2 8, Fd.small 3 7] mg0 0 0 = _
    rw [getL_cons, HG10.out]
    dsimp only
    rw [getL_cons, HG11.out]
    dsimp only
    rw [getL_cons, HG12.out]
    dsimp only
    rw [getL_cons, HG13.out]
    dsimp only
    rfl
  rw [HHD.out] at HHK
  obtain ⟨V, HV⟩ : ∃ W, Hid (w13.setCell ⟨kb, 3, none⟩ (.int .i64 (X : Nat)) = W) := ⟨_, rfl⟩
  rw [HV.out] at HL13 ⊢
  clear HV
  have c0 : V.cell? ⟨kb, 0, none⟩ = some (.int .i64 (m13.n 0)) := HL13.out.1.row.cell (i := 0) (by decide)
  have hkk : m13.n 0 = 3 := HHK.out
  rw [hkk] at c0
  have HKK := hide hkk
  clear hkk HHK
  have HQ := hide (lk_number HL13.out.1 hn 4 1099511627776 (by decide) (by decide))
  go_wp2_with fail
  refine HQ.out.mono ?_
  rintro e w14 ⟨X, rfl, ⟨y, cy⟩, fz, HN⟩
  obtain ⟨m14, a14, b14, HG14⟩ : ∃ x y t, Hid ((wide n (.var 4 1099511627776)).get z n m13 a13 b13 = (x, y, t)) := ⟨_, _, _, rfl⟩
  rw [HG14.out] at HN
  have HL14 := hide (And.intro HN.out.1 (HL13.out.2.trans HN.out.2))
  clear HQ HN HL13 c0
  go_upto_region 18 with fail
  clear cy fz
  have HQ := hide (lk_number HL14.out.1 hn 9 1099511627776 (by decide) (by decide))
  go_wp2_with fail
  refine HQ.out.mono ?_
  rintro e w15 ⟨X, rfl, ⟨y, cy⟩, fz, HN⟩
  obtain ⟨m15, a15, b15, HG15⟩ : ∃ x y t, Hid ((wide n (.var 9 1099511627776)).get z n m14 a14 b14 = (x, y, t)) := ⟨_, _, _, rfl⟩
  rw [HG15.out] at HN
  have HL15 := hide (And.intro HN.out.1 (HL14.out.2.trans HN.out.2))
  clear HQ HN HL14
  go_upto_region 34 with fail
  clear cy fz
  have HLQ : Hid ((m15, a15, b15).1 = lookG z n) := by
    show _ = (getL z n _ _ _ _).1
    rw [HHD.out]
    show _ = (getL z n ((fdsK (m13.n 0).toNat).map (wide n)) m13 a13 b13).1
    rw [HKK.out, show fdsK ((3 : Int).toNat) = [.var 4 1099511627776, .var 9 1099511627776] by kernel_rfl]
    show _ = (getL z n [wide n (.var 4 1099511627776), wide n (.var 9 1099511627776)] m13 a13 b13).1
    have e : getL z n [wide n (.var 4 1099511627776), wide n (.var 9 1099511627776)] m13 a13 b13 = (m15, a15, b15) := by
      rw [getL_cons, HG14.out]
      dsimp only
      rw [getL_cons, HG15.out]
      dsimp only
      rfl
    rw [e]
  have HH9 := hide (row_heap HL15.out.1.row)
  obtain ⟨ZW, HZ, HT9, HHZ, HE⟩ := look_end HL15.out.1 HL15.out.2 HLQ.out HSR.out.1 HSR.out.2 HLT.out.2.2 HLT.out.1 HLT.out.2.1
  have HH9' : Hid (_ = some (Obj.cells (mgL m15 none (m15.s 10).length).toArray 37 (0, 0))) := HH9
  clear HH9 HLQ HSR HLT HL15 HHD
  have HIN := hide (infoMgA m15 none (m15.s 10).length)
  have HON := hide (mg_all m15 none (m15.s 10).length)
  have HZ' : Hid (World.setCells _ w.heap.size 0 (mgL m15 none (m15.s 10).length).toArray.toList = ZW) := HZ
  clear HZ
  generalize (mgL m15 none (m15.s 10).length).toArray = MA at *
  refine wp_region_lit ?_
  refine wpList_load_row rfl 37 _ rfl kb rfl _ MA (0, 0) _ HH9'.out Tryz.underlying37 rfl HIN.out ?_
  refine wpList_store_mid rfl 37 _ _ rfl w.heap.size 0 MA rfl rfl HT9.out HIN.out HON.out ?_
  rw [HZ'.out]
  go_wp2_with fail
  exact bodyPost_ret_by (results_cell_row rfl _ _ w.heap.size 37 _ (0, 0) _ rfl HHZ.out Tryz.underlying37 rfl HIN.out) rfl HE.out
end Go.Proofs.YtonpmabdjngdcaaGreatDoor

/- The document's look: 4. -/
namespace Go.Proofs.YtonpmabdjngdcaaGreatDoor
open Go.RowKit
set_option maxRecDepth 100000

set_option maxHeartbeats 8000000 in
theorem look4 (hb ho n hc : Nat) (z : Nat → Nat) (w : World) (hcel : ∀ j, j < n → w.cell? ⟨hb, ho + j, none⟩ = some (.int .u8 (z j : Nat))) (hlt : hb < w.heap.size) (hz : ∀ j, z j < 256) (hn : n ≤ 140737488351232) (hcap : n ≤ hc) (hcm : hc ≤ 9223372036854775807) (hk : (headG z n).1.n 0 = 4) :
    Calls Tryz.prog 44 #[.slice (some ⟨hb, ho, none⟩) n hc] w fun e w' => LookAns z n w.heap.size e w' ∧ w.Since w.heap.size w' := by
  obtain ⟨W0, HW0⟩ : ∃ W, Hid (w.alloc mgZ = W) := ⟨_, rfl⟩
  have s0 : w.Since w.heap.size W0 := by rw [← HW0.out]; exact (World.Since.refl _ _).alloc (Nat.le_refl _) _
  have z0 : W0.heap.size = w.heap.size + 1 := by rw [← HW0.out]; simp
  have r0 : W0.rowIs w.heap.size 37 22 (mgCell mg0 none 0) := by rw [← HW0.out]; exact mgZ_row w
  obtain ⟨W1, HW1⟩ : ∃ W, Hid (W0.alloc (.cells #[.slice (some ⟨hb, ho, none⟩) n hc, .int .i64 0, .int .i64 0] 144) = W) := ⟨_, rfl⟩
  have s1 : W0.Since W0.heap.size W1 := by rw [← HW1.out]; exact (World.Since.refl _ _).alloc (Nat.le_refl _) _
  have z1 : W1.heap.size = w.heap.size + 1 + 1 := by rw [← HW1.out, ← z0]; simp
  have r1 : W1.rowIs (w.heap.size + 1) 144 3 (gCell hb ho hc n 0 0) := by rw [← z0, ← HW1.out]; exact eyeZ_row W0 hb ho hc n
  obtain ⟨W2, HW2⟩ : ∃ W, Hid (W1.alloc (.cells #[.pointer (some ⟨w.heap.size + 1, 0, none⟩), .int .i64 (n : Nat)] 146) = W) := ⟨_, rfl⟩
  have s2 : W1.Since W1.heap.size W2 := by rw [← HW2.out]; exact (World.Since.refl _ _).alloc (Nat.le_refl _) _
  have z2 : W2.heap.size = w.heap.size + 1 + 1 + 1 := by rw [← HW2.out, ← z1]; simp
  have r2 : W2.rowIs (w.heap.size + 1 + 1) 146 2 (eyCell (w.heap.size + 1) n) := by rw [← z1, ← HW2.out]; exact eyZ_row W1 _ n
  obtain ⟨W3, HW3⟩ : ∃ W, Hid (W2.alloc mgZ = W) := ⟨_, rfl⟩
  have s3 : W2.Since W2.heap.size W3 := by rw [← HW3.out]; exact (World.Since.refl _ _).alloc (Nat.le_refl _) _
  have z3 : W3.heap.size = w.heap.size + 1 + 1 + 1 + 1 := by rw [← HW3.out, ← z2]; simp
  have r3 : W3.rowIs (w.heap.size + 1 + 1 + 1) 37 22 (mgCell mg0 none 0) := by rw [← z2, ← HW3.out]; exact mgZ_row W2
  have s03 : W0.Since W0.heap.size W3 := (s1.trans (since_mono s2 s1.size)).trans (since_mono s3 (Nat.le_trans s1.size s2.size))
  have s13 : W1.Since W1.heap.size W3 := s2.trans (since_mono s3 s2.size)
  have sw3 : w.Since w.heap.size W3 := s0.trans (since_mono s03 s0.size)
  have HL : Hid (Lk (w.heap.size + 1 + 1 + 1 + 1) W3 (w.heap.size + 1 + 1) (w.heap.size + 1) hb ho hc n z (w.heap.size + 1 + 1 + 1) (mg0, 0, 0) none ∧ But2 (w.heap.size + 1) (w.heap.size + 1 + 1 + 1) W3 W3) :=
    ⟨⟨⟨row_since r2 s3, by omega⟩, ⟨row_since r1 s13, fun j hj => by rw [World.cell?_of_block (w := w) (sw3.block _ hlt)]; exact hcel j hj, fun _ => by omega, hz, Nat.zero_le _, by omega, hcap, hcm⟩, r3, .inl ⟨rfl, rfl⟩, fun c => Nat.zero_le _, fun c v hv => absurd hv (List.not_mem_nil), by omega, by omega, by omega, by omega, by omega, by omega, by omega⟩, But2.of_since (World.Since.refl _ _)⟩
  have HSR : Hid (w.Since w.heap.size W3 ∧ W3.rowIs w.heap.size 37 22 (mgCell mg0 none 0)) := ⟨sw3, row_since r0 s03⟩
  have HHK := hide hk
  clear s0 r0 s1 r1 s2 r2 s3 r3 s03 s13 sw3 hcel hz hcap hcm hlt hk
  unfold mgZ at HW0 HW3
  have Hz : Hid (w.heap.size + 1 + 1 + 1 + 1 ≤ W3.heap.size) := by show _ ≤ _; omega
  go_enter Tryz.func44, Tryz.ntmps44
  go_upto_region 1 with fail
  rw [HW0.out]
  go_upto_region 2 with fail
  try rw [z0]
  rw [HW1.out]
  try rw [z0]
  try rw [z1]
  rw [HW2.out]
  go_upto_region 3 with fail
  try rw [z2]
  rw [HW3.out]
  try rw [z2]
  clear HW0 HW1 HW2 HW3 z0 z1 z2 z3
  obtain ⟨eb, Heb⟩ : ∃ x, Hid (w.heap.size + 1 = x) := ⟨_, rfl⟩
  have hle : w.heap.size < eb := by rw [← Heb.out]; omega
  rw [Heb.out] at HL
  try rw [Heb.out] at Hz
  try simp only [Heb.out]
  obtain ⟨yb, Hyb⟩ : ∃ x, Hid (eb + 1 = x) := ⟨_, rfl⟩
  rw [Hyb.out] at HL
  try rw [Hyb.out] at Hz
  try simp only [Hyb.out]
  obtain ⟨kb, Hkb⟩ : ∃ x, Hid (yb + 1 = x) := ⟨_, rfl⟩
  have hlk : w.heap.size < kb := by rw [← Hkb.out, ← Hyb.out]; omega
  rw [Hkb.out] at HL
  try simp only [Hkb.out]
  obtain ⟨BB, HBB⟩ : ∃ x, Hid (kb + 1 = x) := ⟨_, rfl⟩
  have hlB : w.heap.size ≤ BB := by rw [← HBB.out]; omega
  rw [HBB.out] at HL
  have HLT : Hid (w.heap.size < eb ∧ w.heap.size < kb ∧ w.heap.size ≤ BB) := ⟨hle, hlk, hlB⟩
  clear hle hlk hlB Heb Hyb Hkb HBB Hz
  have HQ := hide (lk_small HL.out.1 0 11 (by decide) (by decide))
  go_wp2_with fail
  refine HQ.out.mono ?_
  rintro e w10 ⟨X, rfl, ⟨y, cy⟩, fz, HN⟩
  obtain ⟨m10, a10, b10, HG10⟩ : ∃ x y t, Hid ((Fd.small 0 11).get z n mg0 0 0 = (x, y, t)) := ⟨_, _, _, rfl⟩
  rw [HG10.out] at HN
  have HL10 := hide (And.intro HN.out.1 (HL.out.2.trans HN.out.2))
  clear HQ HN HL
  go_upto_region 4 with fail
  clear cy fz
  have HQ := hide (lk_small HL10.out.1 1 8 (by decide) (by decide))
  go_wp2_with fail
  refine HQ.out.mono ?_
  rintro e w11 ⟨X, rfl, ⟨y, cy⟩, fz, HN⟩
  obtain ⟨m11, a11, b11, HG11⟩ : ∃ x y t, Hid ((Fd.small 1 8).get z n m10 a10 b10 = (x, y, t)) := ⟨_, _, _, rfl⟩
  rw [HG11.out] at HN
  have HL11 := hide (And.intro HN.out.1 (HL10.out.2.trans HN.out.2))
  clear HQ HN HL10
  go_upto_region 5 with fail
  clear cy fz
  have HQ := hide (lk_small HL11.out.1 2 8 (by decide) (by decide))
  go_wp2_with fail
  refine HQ.out.mono ?_
  rintro e w12 ⟨X, rfl, ⟨y, cy⟩, fz, HN⟩
  obtain ⟨m12, a12, b12, HG12⟩ : ∃ x y t, Hid ((Fd.small 2 8).get z n m11 a11 b11 = (x, y, t)) := ⟨_, _, _, rfl⟩
  rw [HG12.out] at HN
  have HL12 := hide (And.intro HN.out.1 (HL11.out.2.trans HN.out.2))
  clear HQ HN HL11
  go_upto_region 6 with fail
  clear cy fz
  have HQ := hide (lk_small HL12.out.1 3 7 (by decide) (by decide))
  go_wp2_with fail
  refine HQ.out.mono ?_
  rintro e w13 ⟨X, rfl, ⟨y, cy⟩, fz, HN⟩
  obtain ⟨m13, a13, b13, HG13⟩ : ∃ x y t, Hid ((Fd.small 3 7).get z n m12 a12 b12 = (x, y, t)) := ⟨_, _, _, rfl⟩
  rw [HG13.out] at HN
  have HL13 := hide (And.intro HN.out.1 (HL12.out.2.trans HN.out.2))
  clear HQ HN HL12
  go_upto_region 7 with fail
  clear cy fz
  have HHD : Hid (headG z n = (m13, a13, b13)) := by
    show getL z n [Fd.small 0 11, Fd.small 1 8, Fd.small 2 8, Fd.small 3 7] mg0 0 0 = _
    rw [getL_cons, HG10.out]
    dsimp only
    rw [getL_cons, HG11.out]
    dsimp only
    rw [getL_cons, HG12.out]
    dsimp only
    rw [getL_cons, HG13.out]
    dsimp only
    rfl
  rw [HHD.out] at HHK
  obtain ⟨V, HV⟩ : ∃ W, Hid (w13.setCell ⟨kb, 3, none⟩ (.int .i64 (X : Nat)) = W) := ⟨_, rfl⟩
  rw [HV.out] at HL13 ⊢
  clear HV
  have c0 : V.cell? ⟨kb, 0, none⟩ = some (.int .i64 (m13.n 0)) := HL13.out.1.row.cell (i := 0) (by decide)
  have hkk : m13.n 0 = 4 := HHK.out
  rw [hkk] at c0
  have HKK := hide hkk
  clear hkk HHK
  have HQ := hide (lk_number HL13.out.1 hn 5 1099511627776 (by decide) (by decide))
  go_wp2_with fail
  refine HQ.out.mono ?_
  rintro e w14 ⟨X, rfl, ⟨y, cy⟩, fz, HN⟩
  obtain ⟨m14, a14, b14, HG14⟩ : ∃ x y t, Hid ((wide n (.var 5 1099511627776)).get z n m13 a13 b13 = (x, y, t)) := ⟨_, _, _, rfl⟩
  rw [HG14.out] at HN
  have HL14 := hide (And.intro HN.out.1 (HL13.out.2.trans HN.out.2))
  clear HQ HN HL13 c0
  go_upto_region 21 with fail
  clear cy fz
  have HQ := hide (lk_number HL14.out.1 hn 6 1099511627776 (by decide) (by decide))
  go_wp2_with fail
  refine HQ.out.mono ?_
  rintro e w15 ⟨X, rfl, ⟨y, cy⟩, fz, HN⟩
  obtain ⟨m15, a15, b15, HG15⟩ : ∃ x y t, Hid ((wide n (.var 6 1099511627776)).get z n m14 a14 b14 = (x, y, t)) := ⟨_, _, _, rfl⟩
  rw [HG15.out] at HN
  have HL15 := hide (And.intro HN.out.1 (HL14.out.2.trans HN.out.2))
  clear HQ HN HL14
  go_upto_region 22 with fail
  clear cy fz
  have HQ := hide (lk_wrap HL15.out.1 hn 8 1025 (by decide))
  go_wp2_with fail
  refine HQ.out.mono ?_
  rintro e w16 ⟨X, Y, rfl, hwr, ⟨y, cy⟩, fz, HN⟩
  obtain ⟨m16, a16, b16, HG16⟩ : ∃ x y t, Hid ((wide n (.var 8 1025)).get z n m15 a15 b15 = (x, y, t)) := ⟨_, _, _, rfl⟩
  rw [HG16.out] at HN
  have HL16 := hide (And.intro HN.out.1 (HL15.out.2.trans HN.out.2))
  clear HQ HN HL15
  go_upto_region 23 with fail
  clear cy fz hwr
  have HQ := hide (lk_value HL16.out.1 hn 16384)
  go_wp2_with fail
  refine HQ.out.mono ?_
  rintro e w17 ⟨ta, L, rfl, ⟨y1, y2, y3, cy⟩, fz, HN⟩
  obtain ⟨m17, a17, b17, HG17⟩ : ∃ x y t, Hid ((wide n (.text 10 16384)).get z n m16 a16 b16 = (x, y, t)) := ⟨_, _, _, rfl⟩
  rw [HG17.out] at HN
  have HL17 := hide (And.intro HN.out.1 (HL16.out.2.trans HN.out.2))
  clear HQ HN HL16
  go_upto_region 34 with fail
  clear cy fz
  have HLQ : Hid ((m17, a17, b17).1 = lookG z n) := by
    show _ = (getL z n _ _ _ _).1
    rw [HHD.out]
    show _ = (getL z n ((fdsK (m13.n 0).toNat).map (wide n)) m13 a13 b13).1
    rw [HKK.out, show fdsK ((4 : Int).toNat) = [.var 5 1099511627776, .var 6 1099511627776, .var 8 1025, .text 10 16384] by kernel_rfl]
    show _ = (getL z n [wide n (.var 5 1099511627776), wide n (.var 6 1099511627776), wide n (.var 8 1025), wide n (.text 10 16384)] m13 a13 b13).1
    have e : getL z n [wide n (.var 5 1099511627776), wide n (.var 6 1099511627776), wide n (.var 8 1025), wide n (.text 10 16384)] m13 a13 b13 = (m17, a17, b17) := by
      rw [getL_cons, HG14.out]
      dsimp only
      rw [getL_cons, HG15.out]
      dsimp only
      rw [getL_cons, HG16.out]
      dsimp only
      rw [getL_cons, HG17.out]
      dsimp only
      rfl
    rw [e]
  have HH9 := hide (row_heap HL17.out.1.row)
  obtain ⟨ZW, HZ, HT9, HHZ, HE⟩ := look_end HL17.out.1 HL17.out.2 HLQ.out HSR.out.1 HSR.out.2 HLT.out.2.2 HLT.out.1 HLT.out.2.1
  have HH9' : Hid (_ = some (Obj.cells (mgL m17 ta (m17.s 10).length).toArray 37 (0, 0))) := HH9
  clear HH9 HLQ HSR HLT HL17 HHD
  have HIN := hide (infoMgA m17 ta (m17.s 10).length)
  have HON := hide (mg_all m17 ta (m17.s 10).length)
  have HZ' : Hid (World.setCells _ w.heap.size 0 (mgL m17 ta (m17.s 10).length).toArray.toList = ZW) := HZ
  clear HZ
  generalize (mgL m17 ta (m17.s 10).length).toArray = MA at *
  refine wp_region_lit ?_
  refine wpList_load_row rfl 37 _ rfl kb rfl _ MA (0, 0) _ HH9'.out Tryz.underlying37 rfl HIN.out ?_
  refine wpList_store_mid rfl 37 _ _ rfl w.heap.size 0 MA rfl rfl HT9.out HIN.out HON.out ?_
  rw [HZ'.out]
  go_wp2_with fail
  exact bodyPost_ret_by (results_cell_row rfl _ _ w.heap.size 37 _ (0, 0) _ rfl HHZ.out Tryz.underlying37 rfl HIN.out) rfl HE.out
end Go.Proofs.YtonpmabdjngdcaaGreatDoor

/- The document's look: 5. -/
namespace Go.Proofs.YtonpmabdjngdcaaGreatDoor
open Go.RowKit
set_option maxRecDepth 100000

set_option maxHeartbeats 8000000 in
theorem look5 (hb ho n hc : Nat) (z : Nat → Nat) (w : World) (hcel : ∀ j, j < n → w.cell? ⟨hb, ho + j, none⟩ = some (.int .u8 (z j : Nat))) (hlt : hb < w.heap.size) (hz : ∀ j, z j < 256) (hn : n ≤ 140737488351232) (hcap : n ≤ hc) (hcm : hc ≤ 9223372036854775807) (hk : (headG z n).1.n 0 = 5) :
    Calls Tryz.prog 44 #[.slice (some ⟨hb, ho, none⟩) n hc] w fun e w' => LookAns z n w.heap.size e w' ∧ w.Since w.heap.size w' := by
  obtain ⟨W0, HW0⟩ : ∃ W, Hid (w.alloc mgZ = W) := ⟨_, rfl⟩
  have s0 : w.Since w.heap.size W0 := by rw [← HW0.out]; exact (World.Since.refl _ _).alloc (Nat.le_refl _) _
  have z0 : W0.heap.size = w.heap.size + 1 := by rw [← HW0.out]; simp
  have r0 : W0.rowIs w.heap.size 37 22 (mgCell mg0 none 0) := by rw [← HW0.out]; exact mgZ_row w
  obtain ⟨W1, HW1⟩ : ∃ W, Hid (W0.alloc (.cells #[.slice (some ⟨hb, ho, none⟩) n hc, .int .i64 0, .int .i64 0] 144) = W) := ⟨_, rfl⟩
  have s1 : W0.Since W0.heap.size W1 := by rw [← HW1.out]; exact (World.Since.refl _ _).alloc (Nat.le_refl _) _
  have z1 : W1.heap.size = w.heap.size + 1 + 1 := by rw [← HW1.out, ← z0]; simp
  have r1 : W1.rowIs (w.heap.size + 1) 144 3 (gCell hb ho hc n 0 0) := by rw [← z0, ← HW1.out]; exact eyeZ_row W0 hb ho hc n
  obtain ⟨W2, HW2⟩ : ∃ W, Hid (W1.alloc (.cells #[.pointer (some ⟨w.heap.size + 1, 0, none⟩), .int .i64 (n : Nat)] 146) = W) := ⟨_, rfl⟩
  have s2 : W1.Since W1.heap.size W2 := by rw [← HW2.out]; exact (World.Since.refl _ _).alloc (Nat.le_refl _) _
  have z2 : W2.heap.size = w.heap.size + 1 + 1 + 1 := by rw [← HW2.out, ← z1]; simp
  have r2 : W2.rowIs (w.heap.size + 1 + 1) 146 2 (eyCell (w.heap.size + 1) n) := by rw [← z1, ← HW2.out]; exact eyZ_row W1 _ n
  obtain ⟨W3, HW3⟩ : ∃ W, Hid (W2.alloc mgZ = W) := ⟨_, rfl⟩
  have s3 : W2.Since W2.heap.size W3 := by rw [← HW3.out]; exact (World.Since.refl _ _).alloc (Nat.le_refl _) _
  have z3 : W3.heap.size = w.heap.size + 1 + 1 + 1 + 1 := by rw [← HW3.out, ← z2]; simp
  have r3 : W3.rowIs (w.heap.size + 1 + 1 + 1) 37 22 (mgCell mg0 none 0) := by rw [← z2, ← HW3.out]; exact mgZ_row W2
  have s03 : W0.Since W0.heap.size W3 := (s1.trans (since_mono s2 s1.size)).trans (since_mono s3 (Nat.le_trans s1.size s2.size))
  have s13 : W1.Since W1.heap.size W3 := s2.trans (since_mono s3 s2.size)
  have sw3 : w.Since w.heap.size W3 := s0.trans (since_mono s03 s0.size)
  have HL : Hid (Lk (w.heap.size + 1 + 1 + 1 + 1) W3 (w.heap.size + 1 + 1) (w.heap.size + 1) hb ho hc n z (w.heap.size + 1 + 1 + 1) (mg0, 0, 0) none ∧ But2 (w.heap.size + 1) (w.heap.size + 1 + 1 + 1) W3 W3) :=
    ⟨⟨⟨row_since r2 s3, by omega⟩, ⟨row_since r1 s13, fun j hj => by rw [World.cell?_of_block (w := w) (sw3.block _ hlt)]; exact hcel j hj, fun _ => by omega, hz, Nat.zero_le _, by omega, hcap, hcm⟩, r3, .inl ⟨rfl, rfl⟩, fun c => Nat.zero_le _, fun c v hv => absurd hv (List.not_mem_nil), by omega, by omega, by omega, by omega, by omega, by omega, by omega⟩, But2.of_since (World.Since.refl _ _)⟩
  have HSR : Hid (w.Since w.heap.size W3 ∧ W3.rowIs w.heap.size 37 22 (mgCell mg0 none 0)) := ⟨sw3, row_since r0 s03⟩
  have HHK := hide hk
  clear s0 r0 s1 r1 s2 r2 s3 r3 s03 s13 sw3 hcel hz hcap hcm hlt hk
  unfold mgZ at HW0 HW3
  have Hz : Hid (w.heap.size + 1 + 1 + 1 + 1 ≤ W3.heap.size) := by show _ ≤ _; omega
  go_enter Tryz.func44, Tryz.ntmps44
  go_upto_region 1 with fail
  rw [HW0.out]
  go_upto_region 2 with fail
  try rw [z0]
  rw [HW1.out]
  try rw [z0]
  try rw [z1]
  rw [HW2.out]
  go_upto_region 3 with fail
  try rw [z2]
  rw [HW3.out]
  try rw [z2]
  clear HW0 HW1 HW2 HW3 z0 z1 z2 z3
  obtain ⟨eb, Heb⟩ : ∃ x, Hid (w.heap.size + 1 = x) := ⟨_, rfl⟩
  have hle : w.heap.size < eb := by rw [← Heb.out]; omega
  rw [Heb.out] at HL
  try rw [Heb.out] at Hz
  try simp only [Heb.out]
  obtain ⟨yb, Hyb⟩ : ∃ x, Hid (eb + 1 = x) := ⟨_, rfl⟩
  rw [Hyb.out] at HL
  try rw [Hyb.out] at Hz
  try simp only [Hyb.out]
  obtain ⟨kb, Hkb⟩ : ∃ x, Hid (yb + 1 = x) := ⟨_, rfl⟩
  have hlk : w.heap.size < kb := by rw [← Hkb.out, ← Hyb.out]; omega
  rw [Hkb.out] at HL
  try simp only [Hkb.out]
  obtain ⟨BB, HBB⟩ : ∃ x, Hid (kb + 1 = x) := ⟨_, rfl⟩
  have hlB : w.heap.size ≤ BB := by rw [← HBB.out]; omega
  rw [HBB.out] at HL
  have HLT : Hid (w.heap.size < eb ∧ w.heap.size < kb ∧ w.heap.size ≤ BB) := ⟨hle, hlk, hlB⟩
  clear hle hlk hlB Heb Hyb Hkb HBB Hz
  have HQ := hide (lk_small HL.out.1 0 11 (by decide) (by decide))
  go_wp2_with fail
  refine HQ.out.mono ?_
  rintro e w10 ⟨X, rfl, ⟨y, cy⟩, fz, HN⟩
  obtain ⟨m10, a10, b10, HG10⟩ : ∃ x y t, Hid ((Fd.small 0 11).get z n mg0 0 0 = (x, y, t)) := ⟨_, _, _, rfl⟩
  rw [HG10.out] at HN
  have HL10 := hide (And.intro HN.out.1 (HL.out.2.trans HN.out.2))
  clear HQ HN HL
  go_upto_region 4 with fail
  clear cy fz
  have HQ := hide (lk_small HL10.out.1 1 8 (by decide) (by decide))
  go_wp2_with fail
  refine HQ.out.mono ?_
  rintro e w11 ⟨X, rfl, ⟨y, cy⟩, fz, HN⟩
  obtain ⟨m11, a11, b11, HG11⟩ : ∃ x y t, Hid ((Fd.small 1 8).get z n m10 a10 b10 = (x, y, t)) := ⟨_, _, _, rfl⟩
  rw [HG11.out] at HN
  have HL11 := hide (And.intro HN.out.1 (HL10.out.2.trans HN.out.2))
  clear HQ HN HL10
  go_upto_region 5 with fail
  clear cy fz
  have HQ := hide (lk_small HL11.out.1 2 8 (by decide) (by decide))
  go_wp2_with fail
  refine HQ.out.mono ?_
  rintro e w12 ⟨X, rfl, ⟨y, cy⟩, fz, HN⟩
  obtain ⟨m12, a12, b12, HG12⟩ : ∃ x y t, Hid ((Fd.small 2 8).get z n m11 a11 b11 = (x, y, t)) := ⟨_, _, _, rfl⟩
  rw [HG12.out] at HN
  have HL12 := hide (And.intro HN.out.1 (HL11.out.2.trans HN.out.2))
  clear HQ HN HL11
  go_upto_region 6 with fail
  clear cy fz
  have HQ := hide (lk_small HL12.out.1 3 7 (by decide) (by decide))
  go_wp2_with fail
  refine HQ.out.mono ?_
  rintro e w13 ⟨X, rfl, ⟨y, cy⟩, fz, HN⟩
  obtain ⟨m13, a13, b13, HG13⟩ : ∃ x y t, Hid ((Fd.small 3 7).get z n m12 a12 b12 = (x, y, t)) := ⟨_, _, _, rfl⟩
  rw [HG13.out] at HN
  have HL13 := hide (And.intro HN.out.1 (HL12.out.2.trans HN.out.2))
  clear HQ HN HL12
  go_upto_region 7 with fail
  clear cy fz
  have HHD : Hid (headG z n = (m13, a13, b13)) := by
    show getL z n [Fd.small 0 11, Fd.small 1 8, Fd.small 2 8, Fd.small 3 7] mg0 0 0 = _
    rw [getL_cons, HG10.out]
    dsimp only
    rw [getL_cons, HG11.out]
    dsimp only
    rw [getL_cons, HG12.out]
    dsimp only
    rw [getL_cons, HG13.out]
    dsimp only
    rfl
  rw [HHD.out] at HHK
  obtain ⟨V, HV⟩ : ∃ W, Hid (w13.setCell ⟨kb, 3, none⟩ (.int .i64 (X : Nat)) = W) := ⟨_, rfl⟩
  rw [HV.out] at HL13 ⊢
  clear HV
  have c0 : V.cell? ⟨kb, 0, none⟩ = some (.int .i64 (m13.n 0)) := HL13.out.1.row.cell (i := 0) (by decide)
  have hkk : m13.n 0 = 5 := HHK.out
  rw [hkk] at c0
  have HKK := hide hkk
  clear hkk HHK
  have HQ := hide (lk_number HL13.out.1 hn 5 1099511627776 (by decide) (by decide))
  go_wp2_with fail
  refine HQ.out.mono ?_
  rintro e w14 ⟨X, rfl, ⟨y, cy⟩, fz, HN⟩
  obtain ⟨m14, a14, b14, HG14⟩ : ∃ x y t, Hid ((wide n (.var 5 1099511627776)).get z n m13 a13 b13 = (x, y, t)) := ⟨_, _, _, rfl⟩
  rw [HG14.out] at HN
  have HL14 := hide (And.intro HN.out.1 (HL13.out.2.trans HN.out.2))
  clear HQ HN HL13 c0
  go_upto_region 26 with fail
  clear cy fz
  have HQ := hide (lk_number HL14.out.1 hn 6 1099511627776 (by decide) (by decide))
  go_wp2_with fail
  refine HQ.out.mono ?_
  rintro e w15 ⟨X, rfl, ⟨y, cy⟩, fz, HN⟩
  obtain ⟨m15, a15, b15, HG15⟩ : ∃ x y t, Hid ((wide n (.var 6 1099511627776)).get z n m14 a14 b14 = (x, y, t)) := ⟨_, _, _, rfl⟩
  rw [HG15.out] at HN
  have HL15 := hide (And.intro HN.out.1 (HL14.out.2.trans HN.out.2))
  clear HQ HN HL14
  go_upto_region 34 with fail
  clear cy fz
  have HLQ : Hid ((m15, a15, b15).1 = lookG z n) := by
    show _ = (getL z n _ _ _ _).1
    rw [HHD.out]
    show _ = (getL z n ((fdsK (m13.n 0).toNat).map (wide n)) m13 a13 b13).1
    rw [HKK.out, show fdsK ((5 : Int).toNat) = [.var 5 1099511627776, .var 6 1099511627776] by kernel_rfl]
    show _ = (getL z n [wide n (.var 5 1099511627776), wide n (.var 6 1099511627776)] m13 a13 b13).1
    have e : getL z n [wide n (.var 5 1099511627776), wide n (.var 6 1099511627776)] m13 a13 b13 = (m15, a15, b15) := by
      rw [getL_cons, HG14.out]
      dsimp only
      rw [getL_cons, HG15.out]
      dsimp only
      rfl
    rw [e]
  have HH9 := hide (row_heap HL15.out.1.row)
  obtain ⟨ZW, HZ, HT9, HHZ, HE⟩ := look_end HL15.out.1 HL15.out.2 HLQ.out HSR.out.1 HSR.out.2 HLT.out.2.2 HLT.out.1 HLT.out.2.1
  have HH9' : Hid (_ = some (Obj.cells (mgL m15 none (m15.s 10).length).toArray 37 (0, 0))) := HH9
  clear HH9 HLQ HSR HLT HL15 HHD
  have HIN := hide (infoMgA m15 none (m15.s 10).length)
  have HON := hide (mg_all m15 none (m15.s 10).length)
  have HZ' : Hid (World.setCells _ w.heap.size 0 (mgL m15 none (m15.s 10).length).toArray.toList = ZW) := HZ
  clear HZ
  generalize (mgL m15 none (m15.s 10).length).toArray = MA at *
  refine wp_region_lit ?_
  refine wpList_load_row rfl 37 _ rfl kb rfl _ MA (0, 0) _ HH9'.out Tryz.underlying37 rfl HIN.out ?_
  refine wpList_store_mid rfl 37 _ _ rfl w.heap.size 0 MA rfl rfl HT9.out HIN.out HON.out ?_
  rw [HZ'.out]
  go_wp2_with fail
  exact bodyPost_ret_by (results_cell_row rfl _ _ w.heap.size 37 _ (0, 0) _ rfl HHZ.out Tryz.underlying37 rfl HIN.out) rfl HE.out
end Go.Proofs.YtonpmabdjngdcaaGreatDoor

/- The document's look: 6. -/
namespace Go.Proofs.YtonpmabdjngdcaaGreatDoor
open Go.RowKit
set_option maxRecDepth 100000

set_option maxHeartbeats 8000000 in
theorem look6 (hb ho n hc : Nat) (z : Nat → Nat) (w : World) (hcel : ∀ j, j < n → w.cell? ⟨hb, ho + j, none⟩ = some (.int .u8 (z j : Nat))) (hlt : hb < w.heap.size) (hz : ∀ j, z j < 256) (hn : n ≤ 140737488351232) (hcap : n ≤ hc) (hcm : hc ≤ 9223372036854775807) (hk : (headG z n).1.n 0 = 6) :
    Calls Tryz.prog 44 #[.slice (some ⟨hb, ho, none⟩) n hc] w fun e w' => LookAns z n w.heap.size e w' ∧ w.Since w.heap.size w' := by
  obtain ⟨W0, HW0⟩ : ∃ W, Hid (w.alloc mgZ = W) := ⟨_, rfl⟩
  have s0 : w.Since w.heap.size W0 := by rw [← HW0.out]; exact (World.Since.refl _ _).alloc (Nat.le_refl _) _
  have z0 : W0.heap.size = w.heap.size + 1 := by rw [← HW0.out]; simp
  have r0 : W0.rowIs w.heap.size 37 22 (mgCell mg0 none 0) := by rw [← HW0.out]; exact mgZ_row w
  obtain ⟨W1, HW1⟩ : ∃ W, Hid (W0.alloc (.cells #[.slice (some ⟨hb, ho, none⟩) n hc, .int .i64 0, .int .i64 0] 144) = W) := ⟨_, rfl⟩
  have s1 : W0.Since W0.heap.size W1 := by rw [← HW1.out]; exact (World.Since.refl _ _).alloc (Nat.le_refl _) _
  have z1 : W1.heap.size = w.heap.size + 1 + 1 := by rw [← HW1.out, ← z0]; simp
  have r1 : W1.rowIs (w.heap.size + 1) 144 3 (gCell hb ho hc n 0 0) := by rw [← z0, ← HW1.out]; exact eyeZ_row W0 hb ho hc n
  obtain ⟨W2, HW2⟩ : ∃ W, Hid (W1.alloc (.cells #[.pointer (some ⟨w.heap.size + 1, 0, none⟩), .int .i64 (n : Nat)] 146) = W) := ⟨_, rfl⟩
  have s2 : W1.Since W1.heap.size W2 := by rw [← HW2.out]; exact (World.Since.refl _ _).alloc (Nat.le_refl _) _
  have z2 : W2.heap.size = w.heap.size + 1 + 1 + 1 := by rw [← HW2.out, ← z1]; simp
  have r2 : W2.rowIs (w.heap.size + 1 + 1) 146 2 (eyCell (w.heap.size + 1) n) := by rw [← z1, ← HW2.out]; exact eyZ_row W1 _ n
  obtain ⟨W3, HW3⟩ : ∃ W, Hid (W2.alloc mgZ = W) := ⟨_, rfl⟩
  have s3 : W2.Since W2.heap.size W3 := by rw [← HW3.out]; exact (World.Since.refl _ _).alloc (Nat.le_refl _) _
  have z3 : W3.heap.size = w.heap.size + 1 + 1 + 1 + 1 := by rw [← HW3.out, ← z2]; simp
  have r3 : W3.rowIs (w.heap.size + 1 + 1 + 1) 37 22 (mgCell mg0 none 0) := by rw [← z2, ← HW3.out]; exact mgZ_row W2
  have s03 : W0.Since W0.heap.size W3 := (s1.trans (since_mono s2 s1.size)).trans (since_mono s3 (Nat.le_trans s1.size s2.size))
  have s13 : W1.Since W1.heap.size W3 := s2.trans (since_mono s3 s2.size)
  have sw3 : w.Since w.heap.size W3 := s0.trans (since_mono s03 s0.size)
  have HL : Hid (Lk (w.heap.size + 1 + 1 + 1 + 1) W3 (w.heap.size + 1 + 1) (w.heap.size + 1) hb ho hc n z (w.heap.size + 1 + 1 + 1) (mg0, 0, 0) none ∧ But2 (w.heap.size + 1) (w.heap.size + 1 + 1 + 1) W3 W3) :=
    ⟨⟨⟨row_since r2 s3, by omega⟩, ⟨row_since r1 s13, fun j hj => by rw [World.cell?_of_block (w := w) (sw3.block _ hlt)]; exact hcel j hj, fun _ => by omega, hz, Nat.zero_le _, by omega, hcap, hcm⟩, r3, .inl ⟨rfl, rfl⟩, fun c => Nat.zero_le _, fun c v hv => absurd hv (List.not_mem_nil), by omega, by omega, by omega, by omega, by omega, by omega, by omega⟩, But2.of_since (World.Since.refl _ _)⟩
  have HSR : Hid (w.Since w.heap.size W3 ∧ W3.rowIs w.heap.size 37 22 (mgCell mg0 none 0)) := ⟨sw3, row_since r0 s03⟩
  have HHK := hide hk
  clear s0 r0 s1 r1 s2 r2 s3 r3 s03 s13 sw3 hcel hz hcap hcm hlt hk
  unfold mgZ at HW0 HW3
  have Hz : Hid (w.heap.size + 1 + 1 + 1 + 1 ≤ W3.heap.size) := by show _ ≤ _; omega
  go_enter Tryz.func44, Tryz.ntmps44
  go_upto_region 1 with fail
  rw [HW0.out]
  go_upto_region 2 with fail
  try rw [z0]
  rw [HW1.out]
  try rw [z0]
  try rw [z1]
  rw [HW2.out]
  go_upto_region 3 with fail
  try rw [z2]
  rw [HW3.out]
  try rw [z2]
  clear HW0 HW1 HW2 HW3 z0 z1 z2 z3
  obtain ⟨eb, Heb⟩ : ∃ x, Hid (w.heap.size + 1 = x) := ⟨_, rfl⟩
  have hle : w.heap.size < eb := by rw [← Heb.out]; omega
  rw [Heb.out] at HL
  try rw [Heb.out] at Hz
  try simp only [Heb.out]
  obtain ⟨yb, Hyb⟩ : ∃ x, Hid (eb + 1 = x) := ⟨_, rfl⟩
  rw [Hyb.out] at HL
  try rw [Hyb.out] at Hz
  try simp only [Hyb.out]
  obtain ⟨kb, Hkb⟩ : ∃ x, Hid (yb + 1 = x) := ⟨_, rfl⟩
  have hlk : w.heap.size < kb := by rw [← Hkb.out, ← Hyb.out]; omega
  rw [Hkb.out] at HL
  try simp only [Hkb.out]
  obtain ⟨BB, HBB⟩ : ∃ x, Hid (kb + 1 = x) := ⟨_, rfl⟩
  have hlB : w.heap.size ≤ BB := by rw [← HBB.out]; omega
  rw [HBB.out] at HL
  have HLT : Hid (w.heap.size < eb ∧ w.heap.size < kb ∧ w.heap.size ≤ BB) := ⟨hle, hlk, hlB⟩
  clear hle hlk hlB Heb Hyb Hkb HBB Hz
  have HQ := hide (lk_small HL.out.1 0 11 (by decide) (by decide))
  go_wp2_with fail
  refine HQ.out.mono ?_
  rintro e w10 ⟨X, rfl, ⟨y, cy⟩, fz, HN⟩
  obtain ⟨m10, a10, b10, HG10⟩ : ∃ x y t, Hid ((Fd.small 0 11).get z n mg0 0 0 = (x, y, t)) := ⟨_, _, _, rfl⟩
  rw [HG10.out] at HN
  have HL10 := hide (And.intro HN.out.1 (HL.out.2.trans HN.out.2))
  clear HQ HN HL
  go_upto_region 4 with fail
  clear cy fz
  have HQ := hide (lk_small HL10.out.1 1 8 (by decide) (by decide))
  go_wp2_with fail
  refine HQ.out.mono ?_
  rintro e w11 ⟨X, rfl, ⟨y, cy⟩, fz, HN⟩
  obtain ⟨m11, a11, b11, HG11⟩ : ∃ x y t, Hid ((Fd.small 1 8).get z n m10 a10 b10 = (x, y, t)) := ⟨_, _, _, rfl⟩
  rw [HG11.out] at HN
  have HL11 := hide (And.intro HN.out.1 (HL10.out.2.trans HN.out.2))
  clear HQ HN HL10
  go_upto_region 5 with fail
  clear cy fz
  have HQ := hide (lk_small HL11.out.1 2 8 (by decide) (by decide))
  go_wp2_with fail
  refine HQ.out.mono ?_
  rintro e w12 ⟨X, rfl, ⟨y, cy⟩, fz, HN⟩
  obtain ⟨m12, a12, b12, HG12⟩ : ∃ x y t, Hid ((Fd.small 2 8).get z n m11 a11 b11 = (x, y, t)) := ⟨_, _, _, rfl⟩
  rw [HG12.out] at HN
  have HL12 := hide (And.intro HN.out.1 (HL11.out.2.trans HN.out.2))
  clear HQ HN HL11
  go_upto_region 6 with fail
  clear cy fz
  have HQ := hide (lk_small HL12.out.1 3 7 (by decide) (by decide))
  go_wp2_with fail
  refine HQ.out.mono ?_
  rintro e w13 ⟨X, rfl, ⟨y, cy⟩, fz, HN⟩
  obtain ⟨m13, a13, b13, HG13⟩ : ∃ x y t, Hid ((Fd.small 3 7).get z n m12 a12 b12 = (x, y, t)) := ⟨_, _, _, rfl⟩
  rw [HG13.out] at HN
  have HL13 := hide (And.intro HN.out.1 (HL12.out.2.trans HN.out.2))
  clear HQ HN HL12
  go_upto_region 7 with fail
  clear cy fz
  have HHD : Hid (headG z n = (m13, a13, b13)) := by
    show getL z n [Fd.small 0 11, Fd.small 1 8, Fd.small 2 8, Fd.small 3 7] mg0 0 0 = _
    rw [getL_cons, HG10.out]
    dsimp only
    rw [getL_cons, HG11.out]
    dsimp only
    rw [getL_cons, HG12.out]
    dsimp only
    rw [getL_cons, HG13.out]
    dsimp only
    rfl
  rw [HHD.out] at HHK
  obtain ⟨V, HV⟩ : ∃ W, Hid (w13.setCell ⟨kb, 3, none⟩ (.int .i64 (X : Nat)) = W) := ⟨_, rfl⟩
  rw [HV.out] at HL13 ⊢
  clear HV
  have c0 : V.cell? ⟨kb, 0, none⟩ = some (.int .i64 (m13.n 0)) := HL13.out.1.row.cell (i := 0) (by decide)
  have hkk : m13.n 0 = 6 := HHK.out
  rw [hkk] at c0
  have HKK := hide hkk
  clear hkk HHK
  have HQ := hide (lk_number HL13.out.1 hn 4 1099511627776 (by decide) (by decide))
  go_wp2_with fail
  refine HQ.out.mono ?_
  rintro e w14 ⟨X, rfl, ⟨y, cy⟩, fz, HN⟩
  obtain ⟨m14, a14, b14, HG14⟩ : ∃ x y t, Hid ((wide n (.var 4 1099511627776)).get z n m13 a13 b13 = (x, y, t)) := ⟨_, _, _, rfl⟩
  rw [HG14.out] at HN
  have HL14 := hide (And.intro HN.out.1 (HL13.out.2.trans HN.out.2))
  clear HQ HN HL13 c0
  go_upto_region 29 with fail
  clear cy fz
  have HQ := hide (lk_number HL14.out.1 hn 7 1099511627776 (by decide) (by decide))
  go_wp2_with fail
  refine HQ.out.mono ?_
  rintro e w15 ⟨X, rfl, ⟨y, cy⟩, fz, HN⟩
  obtain ⟨m15, a15, b15, HG15⟩ : ∃ x y t, Hid ((wide n (.var 7 1099511627776)).get z n m14 a14 b14 = (x, y, t)) := ⟨_, _, _, rfl⟩
  rw [HG15.out] at HN
  have HL15 := hide (And.intro HN.out.1 (HL14.out.2.trans HN.out.2))
  clear HQ HN HL14
  go_upto_region 30 with fail
  clear cy fz
  have HQ := hide (lk_wrap HL15.out.1 hn 8 1025 (by decide))
  go_wp2_with fail
  refine HQ.out.mono ?_
  rintro e w16 ⟨X, Y, rfl, hwr, ⟨y, cy⟩, fz, HN⟩
  obtain ⟨m16, a16, b16, HG16⟩ : ∃ x y t, Hid ((wide n (.var 8 1025)).get z n m15 a15 b15 = (x, y, t)) := ⟨_, _, _, rfl⟩
  rw [HG16.out] at HN
  have HL16 := hide (And.intro HN.out.1 (HL15.out.2.trans HN.out.2))
  clear HQ HN HL15
  go_upto_region 34 with fail
  clear cy fz hwr
  have HLQ : Hid ((m16, a16, b16).1 = lookG z n) := by
    show _ = (getL z n _ _ _ _).1
    rw [HHD.out]
    show _ = (getL z n ((fdsK (m13.n 0).toNat).map (wide n)) m13 a13 b13).1
    rw [HKK.out, show fdsK ((6 : Int).toNat) = [.var 4 1099511627776, .var 7 1099511627776, .var 8 1025] by kernel_rfl]
    show _ = (getL z n [wide n (.var 4 1099511627776), wide n (.var 7 1099511627776), wide n (.var 8 1025)] m13 a13 b13).1
    have e : getL z n [wide n (.var 4 1099511627776), wide n (.var 7 1099511627776), wide n (.var 8 1025)] m13 a13 b13 = (m16, a16, b16) := by
      rw [getL_cons, HG14.out]
      dsimp only
      rw [getL_cons, HG15.out]
      dsimp only
      rw [getL_cons, HG16.out]
      dsimp only
      rfl
    rw [e]
  have HH9 := hide (row_heap HL16.out.1.row)
  obtain ⟨ZW, HZ, HT9, HHZ, HE⟩ := look_end HL16.out.1 HL16.out.2 HLQ.out HSR.out.1 HSR.out.2 HLT.out.2.2 HLT.out.1 HLT.out.2.1
  have HH9' : Hid (_ = some (Obj.cells (mgL m16 none (m16.s 10).length).toArray 37 (0, 0))) := HH9
  clear HH9 HLQ HSR HLT HL16 HHD
  have HIN := hide (infoMgA m16 none (m16.s 10).length)
  have HON := hide (mg_all m16 none (m16.s 10).length)
  have HZ' : Hid (World.setCells _ w.heap.size 0 (mgL m16 none (m16.s 10).length).toArray.toList = ZW) := HZ
  clear HZ
  generalize (mgL m16 none (m16.s 10).length).toArray = MA at *
  refine wp_region_lit ?_
  refine wpList_load_row rfl 37 _ rfl kb rfl _ MA (0, 0) _ HH9'.out Tryz.underlying37 rfl HIN.out ?_
  refine wpList_store_mid rfl 37 _ _ rfl w.heap.size 0 MA rfl rfl HT9.out HIN.out HON.out ?_
  rw [HZ'.out]
  go_wp2_with fail
  exact bodyPost_ret_by (results_cell_row rfl _ _ w.heap.size 37 _ (0, 0) _ rfl HHZ.out Tryz.underlying37 rfl HIN.out) rfl HE.out
end Go.Proofs.YtonpmabdjngdcaaGreatDoor
