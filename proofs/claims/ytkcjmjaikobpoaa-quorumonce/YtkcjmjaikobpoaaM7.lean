/- Own texts, joined: QO11, QO12, QO13, QO14, QOF. -/
import Derived.Test.YtkcjmjaikobpoaaM6
import Derived.Test.YtkcjmjaikobpoaaM5
import Derived.Deep.CutBlock
import Derived.Deep.RegionHeld3
import Derived.Test.YtkcjmjaikobpoaaRows
import Derived.ProofKit
import Derived.OpenShut
import Derived.SizedLaws
import Derived.Lib.SmallJoins
import Derived.Deep.Matrix
import Derived.Deep.Slices

/- QuorumOnce: two are made. -/
namespace Go.Proofs.Ytkcjmjaikobpoaa
open Go.RowKit Go.Maps
set_option maxRecDepth 100000
set_option maxRecDepth 100000

theorem two_new {w : World} {b o c : Nat} {L : List Int} (h : Ints w (some ⟨b, o, none⟩) L) (hI : ∀ x ∈ L, I64 x) (h1 : 1 ≤ L.length) (h7 : L.length ≤ 1000) (node shard : Int) (hn : node ∈ L) (hs : I64 shard) :
    Calls Try.prog 7 #[.int .i64 node, .int .i64 shard, .slice (some ⟨b, o, none⟩) L.length c] w fun e w1 => ∃ pa : Qp, e = .returned (.pointer (some ⟨pa.b, 0, none⟩)) ∧ Hid (w.Since w.heap.size w1) ∧
      Hid (Calls Try.prog 7 #[.int .i64 node, .int .i64 shard, .slice (some ⟨b, o, none⟩) L.length c] w1 fun e w2 => ∃ pb : Qp, e = .returned (.pointer (some ⟨pb.b, 0, none⟩)) ∧ Hid (Two pa pb (newD node shard L) w2 ∧ pa.ge w.heap.size ∧ pb.ge w.heap.size ∧ w.Since w.heap.size w2)) :=
  (new_any h hI h1 h7 node shard hn hs).mono fun e w1 ⟨pa, he, hq, hg, hsi⟩ => ⟨pa, he, hsi, by
    exact (new_any (h.since hsi) hI h1 h7 node shard hn hs).mono fun e w2 ⟨pb, he2, hq2, hg2, hsi2⟩ => ⟨pb, he2, by
      obtain ⟨ab, ba⟩ := apart_of hq hg2
      have hz := hsi.size
      exact ⟨⟨hq.since hsi2, hq2, ab, ba⟩, hg, ⟨by have := hg2.b; omega, by have := hg2.cb; omega, by have := hg2.m1; omega, by have := hg2.m2; omega, by have := hg2.m3; omega⟩, hsi.trans (since_mono hsi2 hz)⟩⟩⟩
/-- The world ahead of the two is as it was, whatever the two do. -/
theorem since_two {w0 w w' : World} {pa pb : Qp} (h : w0.Since w0.heap.size w) (b : Bq2 pa pb w w') (ga : pa.ge w0.heap.size) (gb : pb.ge w0.heap.size) : w0.Since w0.heap.size w' :=
  ⟨b.os.trans h.os, b.tape.trans h.tape, b.output.trans h.output, Nat.le_trans h.size b.size, fun k hk => by
    have := h.size
    have a1 := ga.b
    have a2 := ga.m1
    have a3 := ga.m2
    have a4 := ga.m3
    have b1 := gb.b
    have b2 := gb.m1
    have b3 := gb.m2
    have b4 := gb.m3
    exact (b.block k (by omega) (by omega) (by omega) (by omega) (by omega) (by omega) (by omega) (by omega) (by omega)).trans (h.block k hk)⟩
end Go.Proofs.Ytkcjmjaikobpoaa

/- QuorumOnce: the message of a step. -/
namespace Go.Proofs.Ytkcjmjaikobpoaa
open Go.RowKit Go.Maps
set_option maxRecDepth 100000
set_option maxRecDepth 100000

/-- What a step gives to Hear. -/
def msgM (m : Mg) (aim node shard : Int) (L : List Int) : Mg := if 0 < aim then ((m.setN 2 node).setN 3 shard).setN 1 (L.getD (aim % (L.length : Int)).toNat 0) else m
/-- How a message that lies in new memory is told. -/
theorem mg_told {W : World} {rb : Nat} {m : Mg} {va : Option Addr} {vc : Nat} (hr : W.rowIs rb 52 22 (mgCell mg0 none 0)) : ∃ (MA : Array Value) (W' : World), Hid (mgV m va vc = .agg MA) ∧ Hid (W.there rb 0 MA.size) ∧ Hid (W.setCells rb 0 MA.toList = W') ∧ Hid ((Try.prog.info? 52).map (·.size) = some MA.size) ∧ Hid (MA.all (·.oneCell') = true) ∧ Hid (W'.heap[rb]? = some (.cells MA 52 (0, 0))) ∧ (∀ j, j ≠ rb → W'.heap[j]? = W.heap[j]?) ∧ W'.os = W.os ∧ W'.tape = W.tape ∧ W'.output = W.output ∧ W'.heap.size = W.heap.size := by
  obtain ⟨W', HW, r7, h7, z7, b7, o7, t7, p7⟩ := mg_stored hr m va vc
  have hms : (mgL m va vc).toArray.size = 22 := by rw [List.size_toArray, mgL_len]
  exact ⟨(mgL m va vc).toArray, W', rfl, by show World.there _ _ _ _; rw [hms]; exact row_there hr, HW, infoMgA _ _ _, mg_all _ _ _, h7, b7, o7, t7, p7, z7⟩
/-- What the walk of message keeps. -/
structure MS (w : World) (ob rb kb : Nat) (aim : Int) (va : Option Addr) (vc : Nat) (m : Mg) (W : World) : Prop where
  s : w.Since w.heap.size W
  c30 : W.cell? ⟨ob, 30, none⟩ = some (.int .i64 aim)
  rk : W.rowIs kb 52 22 (mgCell m va vc)
  rr : W.rowIs rb 52 22 (mgCell mg0 none 0)
  ge : w.heap.size ≤ kb ∧ w.heap.size ≤ rb ∧ ob ≠ kb ∧ rb ≠ kb
theorem MS.setN {w W : World} {ob rb kb : Nat} {aim : Int} {va : Option Addr} {vc : Nat} {m : Mg} (h : MS w ob rb kb aim va vc m W) (c : Nat) (v : Int) (h10 : c ≠ 10) (h13 : c ≠ 13) (h14 : c ≠ 14) : MS w ob rb kb aim va vc (m.setN c v) (W.setCell ⟨kb, c, none⟩ (mgNum c v)) := by
  obtain ⟨g1, g2, g3, g4⟩ := h.ge
  have hb : ∀ b, b ≠ kb → (W.setCell ⟨kb, c, none⟩ (mgNum c v)).heap[b]? = W.heap[b]? := fun b e => Below.heap_setCell _ _ _ _ e
  exact ⟨⟨h.s.os, h.s.tape, h.s.output, by have := h.s.size; simpa [World.setCell] using this, fun k hk => (hb k (by omega)).trans (h.s.block k hk)⟩, by rw [World.cell?_of_block (a := ⟨ob, 30, none⟩) (hb ob g3)]; exact h.c30, row_setN h.rk c v h10 h13 h14, h.rr.of_block (hb rb g4), h.ge⟩
theorem MS.drew {w W : World} {ob rb kb : Nat} {aim : Int} {va : Option Addr} {vc : Nat} {m : Mg} (h : MS w ob rb kb aim va vc m W) : MS w ob rb kb aim va vc m W.drew :=
  ⟨h.s.trans (since_mono ((World.Since.refl _ _).drew) h.s.size), h.c30, h.rk, h.rr, h.ge⟩
set_option maxHeartbeats 8000000 in
theorem message_any {w : World} {tb g cap n : Nat} {node shard aim : Int} {L : List Int} {m : Mg} {va : Option Addr} {vc : Nat} (OA : Array Value)
    (p2 : w.cell? ⟨tb, 2, none⟩ = some (.int .i64 node)) (p3 : w.cell? ⟨tb, 3, none⟩ = some (.int .i64 shard)) (p4 : w.cell? ⟨tb, 4, none⟩ = some (.slice (some ⟨g, 0, none⟩) n cap)) (hL : Ints w (some ⟨g, 0, none⟩) L) (hn : L.length = n) (h1 : 1 ≤ n) (h7 : n ≤ 1000)
    (hm : ∀ j v, (mgL m va vc)[j]? = some v → OA[8 + j]? = some v) (ha : OA[30]? = some (.int .i64 aim)) (hai : I64 aim) :
    Calls Try.prog 11 #[.pointer (some ⟨tb, 0, none⟩), .agg OA] w fun e w' => e = .returned (mgV (msgM m aim node shard L) va vc) ∧ w.Since w.heap.size w' := by
  have s1 : w.Since w.heap.size (w.alloc (.cells OA 54)) := (World.Since.refl _ _).alloc (Nat.le_refl _) _
  have e1 : ∀ j v, OA[j]? = some v → (w.alloc (.cells OA 54)).cell? ⟨w.heap.size, j, none⟩ = some v := fun j v hj => (World.cell?_alloc_at (w := w) _ _ _ j rfl).trans hj
  have z1 : (w.alloc (.cells OA 54)).heap.size = w.heap.size + 1 := by simp
  obtain ⟨W1, HW1⟩ : ∃ W, Hid (w.alloc (.cells OA 54) = W) := ⟨_, rfl⟩
  rw [HW1.out] at s1 e1 z1
  obtain ⟨W2, HW2⟩ : ∃ W, Hid (W1.alloc mgZ = W) := ⟨_, rfl⟩
  have r2 : W2.rowIs W1.heap.size 52 22 (mgCell mg0 none 0) := by rw [← HW2.out]; exact mgZ_row W1
  have s2 : W1.Since W1.heap.size W2 := by rw [← HW2.out]; exact (World.Since.refl _ _).alloc (Nat.le_refl _) _
  have z2 : W2.heap.size = W1.heap.size + 1 := by rw [← HW2.out]; simp
  obtain ⟨W3a, HW3a⟩ : ∃ W, Hid (W2.alloc mgZ = W) := ⟨_, rfl⟩
  have r3 : W3a.rowIs W2.heap.size 52 22 (mgCell mg0 none 0) := by rw [← HW3a.out]; exact mgZ_row W2
  have s3 : W2.Since W2.heap.size W3a := by rw [← HW3a.out]; exact (World.Since.refl _ _).alloc (Nat.le_refl _) _
  obtain ⟨W3, HW3, r7, h7', z7, b7, o7, t7, q7⟩ := mg_stored r3 m va vc
  have s13 : W2.Since W2.heap.size W3 := ⟨o7.trans s3.os, t7.trans s3.tape, q7.trans s3.output, by rw [z7]; exact s3.size, fun k hk => (b7 k (by omega)).trans (s3.block k hk)⟩
  have hM3 : MS w w.heap.size W1.heap.size W2.heap.size aim va vc m W3 := ⟨(s1.trans (since_mono s2 (by omega))).trans (since_mono s13 (by omega)), cell_later s13 (cell_later s2 (e1 30 _ ha)), r7, row_since r2 s13, ⟨by omega, by omega, by omega, by omega⟩⟩
  have HRG : Hid (W2.rangeAt w.heap.size 8 (mgL m va vc)) := fun j v hj => cell_later s2 (e1 (8 + j) v (hm j v hj))
  have HTH : Hid (W3a.there W2.heap.size 0 (mgL m va vc).toArray.size) := by
    have hms : (mgL m va vc).toArray.size = 22 := by rw [List.size_toArray, mgL_len]
    show World.there _ _ _ _
    rw [hms]
    exact row_there r3
  have HEND : Hid (∀ m' W, MS w w.heap.size W1.heap.size W2.heap.size aim va vc m' W → ∃ (MA : Array Value) (W' : World), Hid (mgV m' va vc = .agg MA) ∧ Hid (W.rangeAt W2.heap.size 0 MA.toList) ∧ Hid (W.there W1.heap.size 0 MA.size) ∧ Hid (W.setCells W1.heap.size 0 MA.toList = W') ∧ Hid ((Try.prog.info? 52).map (·.size) = some MA.size) ∧ Hid ((Try.prog.info? 52).map (·.size) = some MA.toList.length) ∧ Hid (MA.all (·.oneCell') = true) ∧ Hid (W'.heap[W1.heap.size]? = some (.cells MA 52 (0, 0))) ∧ Hid (w.Since w.heap.size W')) := fun m' W h => by
    obtain ⟨W', HW, r, hh, z, b, o, t, q⟩ := mg_stored h.rr m' va vc
    have hms : (mgL m' va vc).toArray.size = 22 := by rw [List.size_toArray, mgL_len]
    refine ⟨(mgL m' va vc).toArray, W', rfl, mgL_range h.rk, ?_, HW, infoMgA _ _ _, infoMg' _ _ _, mg_all _ _ _, hh, ⟨o.trans h.s.os, t.trans h.s.tape, q.trans h.s.output, by rw [z]; exact h.s.size, fun k hk => (b k (by omega)).trans (h.s.block k hk)⟩⟩
    show World.there _ _ _ _
    rw [hms]
    exact row_there h.rr
  have HM3 := hide hM3
  have HFR : Hid (W3a.setCells W2.heap.size 0 (mgL m va vc).toArray.toList = W3) := HW3
  have HIN : Hid ((Try.prog.info? 52).map (·.size) = some (mgL m va vc).length) := infoMg' _ _ _
  have HINA : Hid ((Try.prog.info? 52).map (·.size) = some (mgL m va vc).toArray.size) := infoMgA _ _ _
  have HALL : Hid ((mgL m va vc).toArray.all (·.oneCell') = true) := mg_all _ _ _
  obtain ⟨ML, HML⟩ : ∃ x, Hid (mgL m va vc = x) := ⟨_, rfl⟩
  rw [HML.out] at HRG HTH HFR HIN HINA HALL
  obtain ⟨ob, HOB⟩ : ∃ x, Hid (w.heap.size = x) := ⟨_, rfl⟩
  obtain ⟨rb, HRB⟩ : ∃ x, Hid (W1.heap.size = x) := ⟨_, rfl⟩
  obtain ⟨kb, HKB⟩ : ∃ x, Hid (W2.heap.size = x) := ⟨_, rfl⟩
  rw [HRB.out, HKB.out] at HEND HM3
  rw [HKB.out] at HTH HFR
  rw [HOB.out] at HRG
  have HMO : Hid (MS w ob rb kb aim va vc m W3) := by rw [← HOB.out]; exact HM3
  have HR1 : Hid (ob + 1 = rb) := by rw [← HOB.out, ← HRB.out]; exact z1.symm
  clear s1 e1 z1 r2 s2 z2 r3 s3 r7 h7' z7 b7 o7 t7 q7 s13 hM3 hm ha HW3 HM3 HML
  unfold mgZ at HW2
  go_enter Try.func11, Try.ntmps11
  go_upto_region 1 with fail
  rw [HW1.out, HW2.out, HOB.out, HR1.out]
  clear HW1 HW2 HR1
  refine wp_region_lit ?_
  refine wpList_plain rfl fun _ hK => op_run (.pointer (some ⟨ob, 8, none⟩)) (by kernel_rfl) (hK _ _ ?_)
  simp only [Act.put, List.setIfInBounds_toArray, List.set_cons_zero, List.set_cons_succ]
  refine wpList_load_mid rfl 52 (.tmp 6) rfl ob 8 rfl ML _ HRG.out Try.underlying52 rfl HIN.out ?_
  simp only [Act.put, List.setIfInBounds_toArray, List.set_cons_zero, List.set_cons_succ]
  refine wpList_plain rfl fun _ hK => op_runW (w' := W2.alloc mgZ) (.pointer (some ⟨W2.heap.size, 0, none⟩)) (by kernel_rfl) (hK _ _ ?_)
  rw [show W2.alloc mgZ = W3a from HW3a.out, HKB.out]
  simp only [Act.put, List.setIfInBounds_toArray, List.set_cons_zero, List.set_cons_succ]
  refine wpList_plain rfl fun _ hK => wp_store_mid 52 (.tmp 5) (.tmp 7) rfl kb 0 _ rfl rfl HTH.out HINA.out HALL.out ?_
  rw [show (W3a.setCells kb 0 ML.toArray.toList) = W3 from HFR.out]
  refine hK _ _ ?_
  simp only [Act.put]
  clear hK HRG HIN HTH HINA HALL HFR HW3a HRB HKB
  have c30 := HMO.out.c30
  by_cases z : 0 < aim
  · obtain ⟨X, hX⟩ : ∃ X : Nat, (aim % (n : Int)).toNat = X := ⟨_, rfl⟩
    have hX2 : aim % (n : Int) = (X : Nat) := by have := Int.emod_nonneg aim (show (n : Int) ≠ 0 by omega); omega
    have hXn : X < n := by have := Int.emod_lt_of_pos aim (show (0 : Int) < (n : Int) by omega); omega
    obtain ⟨Y, hY⟩ : ∃ Y, L.getD X 0 = Y := ⟨_, rfl⟩
    have em : msgM m aim node shard L = ((m.setN 2 node).setN 3 shard).setN 1 Y := (if_pos z).trans (by rw [hn, hX, hY])
    have HP4 : Hid (∀ {m' : Mg} W, MS w ob rb kb aim va vc m' W → W.cell? ⟨tb, 4, none⟩ = some (.slice (some ⟨g, 0, none⟩) n cap)) := fun W h => cell_later h.s p4
    have HPY : Hid (∀ {m' : Mg} W, MS w ob rb kb aim va vc m' W → W.cell? ⟨g, X, none⟩ = some (.int .i64 Y)) := fun W h => by
      obtain ⟨b, o, e, hc⟩ := hL X (by omega)
      cases e
      rw [Nat.zero_add, hY] at hc
      exact cell_later h.s hc
    have HIN : Hid (∀ W, Calls Try.prog 6 #[.int .i64 aim, .int .i64 (n : Nat)] W fun e w' => e = .returned (.int .i64 (X : Nat)) ∧ W = w') := fun W => by
      have q := into_any aim n h1 (by omega) hai W
      rw [hX2] at q
      exact q
    have zX : (X : Int) < (n : Int) := by omega
    have zX0 : (0 : Int) ≤ (X : Int) := by omega
    have d2 := cell_later HMO.out.s p2
    have d3 : (W3.setCell ⟨kb, 2, none⟩ (.int .i64 node)).cell? ⟨tb, 3, none⟩ = some (.int .i64 shard) := cell_later (HMO.out.setN 2 node (by decide) (by decide) (by decide)).s p3
    obtain ⟨y2, dk2⟩ : ∃ y, W3.cell? ⟨kb, 2, none⟩ = some y := ⟨_, HMO.out.rk.cell (by decide)⟩
    have fk2 : W3.frozen? ⟨kb, 2, none⟩ = false := HMO.out.rk.frozen 2
    have HM4 : Hid (MS w ob rb kb aim va vc (m.setN 2 node) (W3.setCell ⟨kb, 2, none⟩ (.int .i64 node))) := HMO.out.setN 2 node (by decide) (by decide) (by decide)
    obtain ⟨W4, HW4⟩ : ∃ W, Hid (W3.setCell ⟨kb, 2, none⟩ (.int .i64 node) = W) := ⟨_, rfl⟩
    rw [HW4.out] at d3 HM4
    obtain ⟨y3, dk3⟩ : ∃ y, W4.cell? ⟨kb, 3, none⟩ = some y := ⟨_, HM4.out.rk.cell (by decide)⟩
    have fk3 : W4.frozen? ⟨kb, 3, none⟩ = false := HM4.out.rk.frozen 3
    have HM5 : Hid (MS w ob rb kb aim va vc ((m.setN 2 node).setN 3 shard) (W4.setCell ⟨kb, 3, none⟩ (.int .i64 shard))) := HM4.out.setN 3 shard (by decide) (by decide) (by decide)
    obtain ⟨W5, HW5⟩ : ∃ W, Hid (W4.setCell ⟨kb, 3, none⟩ (.int .i64 shard) = W) := ⟨_, rfl⟩
    rw [HW5.out] at HM5
    have HS5 : Hid (MS w ob rb kb aim va vc ((m.setN 2 node).setN 3 shard) W5.drew) := HM5.out.drew
    have HSE : Hid (∃ m', MS w ob rb kb aim va vc m' W5.drew) := ⟨_, HS5.out⟩
    have HEM := hide em
    clear em
    clear p2 p3 p4 hL hn hX hX2 hY hai
    go_upto_region 4 with fail
    rw [HW4.out]
    clear HW4 d2 dk2 fk2
    go_upto_region 5 with fail
    rw [HW5.out]
    clear HW5 d3 dk3 fk3 c30
    refine wp_region_held_drew (S := fun W => ∃ m', MS w ob rb kb aim va vc m' W) (by kernel_rfl) HSE.out fun _ => ?_
    refine wpAnyH_take (i := 0) (v := .pointer (some ⟨tb, 0, none⟩)) rfl (by kernel_rfl) (by kernel_rfl) (by kernel_rfl) (fun _ _ _ h => h) (.inl ⟨rfl, fun W hW => by kernel_rfl⟩) HSE.out ?_
    simp only [List.getElem_toArray, List.getElem_cons_zero, Act.put, List.setIfInBounds_toArray, List.set_cons_zero, List.set_cons_succ]
    refine wpAnyH_take (i := 1) (v := .pointer (some ⟨tb, 0, none⟩)) rfl (by kernel_rfl) (by kernel_rfl) (by kernel_rfl) (fun _ _ _ h => h) (.inl ⟨rfl, fun W hW => by first | kernel_rfl | go_simp⟩) HSE.out ?_
    simp only [List.getElem_toArray, List.getElem_cons_zero, List.getElem_cons_succ, Act.put, List.setIfInBounds_toArray, List.set_cons_zero, List.set_cons_succ]
    refine wpAnyH_take (i := 2) (v := .pointer (some ⟨tb, 4, none⟩)) rfl (by kernel_rfl) (by kernel_rfl) (by kernel_rfl) (fun _ _ _ h => h) (.inl ⟨rfl, fun W hW => by kernel_rfl⟩) HSE.out ?_
    simp only [List.getElem_toArray, List.getElem_cons_zero, List.getElem_cons_succ, Act.put, List.setIfInBounds_toArray, List.set_cons_zero, List.set_cons_succ]
    refine wpAnyH_take (i := 3) (v := .slice (some ⟨g, 0, none⟩) n cap) rfl (by kernel_rfl) (by kernel_rfl) (by kernel_rfl) (fun _ _ _ h => h) (.inl ⟨rfl, fun W hW => by obtain ⟨m', hm⟩ := hW; have c := HP4.out W hm; go_simp⟩) HSE.out ?_
    simp only [List.getElem_toArray, List.getElem_cons_zero, List.getElem_cons_succ, Act.put, List.setIfInBounds_toArray, List.set_cons_zero, List.set_cons_succ]
    refine wpAnyH_take (i := 4) (v := .pointer (some ⟨ob, 30, none⟩)) rfl (by kernel_rfl) (by kernel_rfl) (by kernel_rfl) (fun _ _ _ h => h) (.inl ⟨rfl, fun W hW => by kernel_rfl⟩) HSE.out ?_
    simp only [List.getElem_toArray, List.getElem_cons_zero, List.getElem_cons_succ, Act.put, List.setIfInBounds_toArray, List.set_cons_zero, List.set_cons_succ]
    refine wpAnyH_take (i := 5) (v := .int .i64 aim) rfl (by kernel_rfl) (by kernel_rfl) (by kernel_rfl) (fun _ _ _ h => h) (.inl ⟨rfl, fun W hW => by obtain ⟨m', hm⟩ := hW; have c := hm.c30; go_simp⟩) HSE.out ?_
    simp only [List.getElem_toArray, List.getElem_cons_zero, List.getElem_cons_succ, Act.put, List.setIfInBounds_toArray, List.set_cons_zero, List.set_cons_succ]
    refine wpAnyH_take (i := 6) (v := .pointer (some ⟨tb, 0, none⟩)) rfl (by kernel_rfl) (by kernel_rfl) (by kernel_rfl) (fun _ _ _ h => h) (.inl ⟨rfl, fun W hW => by kernel_rfl⟩) HSE.out ?_
    simp only [List.getElem_toArray, List.getElem_cons_zero, List.getElem_cons_succ, Act.put, List.setIfInBounds_toArray, List.set_cons_zero, List.set_cons_succ]
    refine wpAnyH_take (i := 7) (v := .pointer (some ⟨tb, 0, none⟩)) rfl (by kernel_rfl) (by kernel_rfl) (by kernel_rfl) (fun _ _ _ h => h) (.inl ⟨rfl, fun W hW => by first | kernel_rfl | go_simp⟩) HSE.out ?_
    simp only [List.getElem_toArray, List.getElem_cons_zero, List.getElem_cons_succ, Act.put, List.setIfInBounds_toArray, List.set_cons_zero, List.set_cons_succ]
    refine wpAnyH_take (i := 8) (v := .pointer (some ⟨tb, 4, none⟩)) rfl (by kernel_rfl) (by kernel_rfl) (by kernel_rfl) (fun _ _ _ h => h) (.inl ⟨rfl, fun W hW => by kernel_rfl⟩) HSE.out ?_
    simp only [List.getElem_toArray, List.getElem_cons_zero, List.getElem_cons_succ, Act.put, List.setIfInBounds_toArray, List.set_cons_zero, List.set_cons_succ]
    refine wpAnyH_take (i := 9) (v := .slice (some ⟨g, 0, none⟩) n cap) rfl (by kernel_rfl) (by kernel_rfl) (by kernel_rfl) (fun _ _ _ h => h) (.inl ⟨rfl, fun W hW => by obtain ⟨m', hm⟩ := hW; have c := HP4.out W hm; go_simp⟩) HSE.out ?_
    simp only [List.getElem_toArray, List.getElem_cons_zero, List.getElem_cons_succ, Act.put, List.setIfInBounds_toArray, List.set_cons_zero, List.set_cons_succ]
    refine wpAnyH_take (i := 10) (v := .int .i64 (n : Nat)) rfl (by kernel_rfl) (by kernel_rfl) (by kernel_rfl) (fun _ _ _ h => h) (.inl ⟨rfl, fun W hW => by first | kernel_rfl | go_simp⟩) HSE.out ?_
    simp only [List.getElem_toArray, List.getElem_cons_zero, List.getElem_cons_succ, Act.put, List.setIfInBounds_toArray, List.set_cons_zero, List.set_cons_succ]
    refine wpAnyH_ready (rs := [11]) (by kernel_rfl) (by simp) ?_
    refine AllReadyH.cons rfl (fun K hK => ?_) AllReadyH.nil
    refine step_callW rfl 6 #[.int .i64 aim, .int .i64 (n : Nat)] (by kernel_rfl) (HIN.out _) ?_
    rintro e w6 ⟨rfl, rfl⟩
    refine ⟨_, rfl, hK.out _ _ HSE.out fun _ => ?_⟩
    clear hK
    simp only [List.getElem_toArray, List.getElem_cons_zero, List.getElem_cons_succ, Act.put, List.setIfInBounds_toArray, List.set_cons_zero, List.set_cons_succ]
    refine wpAnyH_take (i := 12) (v := .pointer (some ⟨g, X, none⟩)) rfl (by kernel_rfl) (by kernel_rfl) (by kernel_rfl) (fun _ _ _ h => h) (.inl ⟨rfl, fun W hW => by first | go_simp | kernel_rfl⟩) HSE.out ?_
    simp only [List.getElem_toArray, List.getElem_cons_zero, List.getElem_cons_succ, Act.put, List.setIfInBounds_toArray, List.set_cons_zero, List.set_cons_succ]
    refine wpAnyH_take (i := 13) (v := .int .i64 Y) rfl (by kernel_rfl) (by kernel_rfl) (by kernel_rfl) (fun _ _ _ h => h) (.inl ⟨rfl, fun W hW => by obtain ⟨m', hm⟩ := hW; have c := HPY.out W hm; go_simp⟩) HSE.out ?_
    simp only [List.getElem_toArray, List.getElem_cons_zero, List.getElem_cons_succ, Act.put, List.setIfInBounds_toArray, List.set_cons_zero, List.set_cons_succ]
    refine wpAnyH_take (i := 14) (v := .pointer (some ⟨kb, 0, none⟩)) rfl (by kernel_rfl) (by kernel_rfl) (by kernel_rfl) (fun _ _ _ h => h) (.inl ⟨rfl, fun W hW => by kernel_rfl⟩) HSE.out ?_
    simp only [List.getElem_toArray, List.getElem_cons_zero, List.getElem_cons_succ, Act.put, List.setIfInBounds_toArray, List.set_cons_zero, List.set_cons_succ]
    refine wpAnyH_take (i := 15) (v := .pointer (some ⟨kb, 1, none⟩)) rfl (by kernel_rfl) (by kernel_rfl) (by kernel_rfl) (fun _ _ _ h => h) (.inl ⟨rfl, fun W hW => by kernel_rfl⟩) HSE.out ?_
    simp only [List.getElem_toArray, List.getElem_cons_zero, List.getElem_cons_succ, Act.put, List.setIfInBounds_toArray, List.set_cons_zero, List.set_cons_succ]
    refine wpAnyH_ready (rs := [16]) (by kernel_rfl) (by simp) ?_
    refine AllReadyH.cons rfl (fun K hK => ?_) AllReadyH.nil
    obtain ⟨y1, dk1⟩ : ∃ y, W5.drew.cell? ⟨kb, 1, none⟩ = some y := ⟨_, HS5.out.rk.cell (by decide)⟩
    have fk1 : W5.drew.frozen? ⟨kb, 1, none⟩ = false := HS5.out.rk.frozen 1
    have HM6 : Hid (MS w ob rb kb aim va vc (((m.setN 2 node).setN 3 shard).setN 1 Y) (W5.drew.setCell ⟨kb, 1, none⟩ (.int .i64 Y))) := HS5.out.setN 1 Y (by decide) (by decide) (by decide)
    obtain ⟨W6, HW6⟩ : ∃ W, Hid (W5.drew.setCell ⟨kb, 1, none⟩ (.int .i64 Y) = W) := ⟨_, rfl⟩
    rw [HW6.out] at HM6
    obtain ⟨MA, W', HMA, HRA, HTA, HW', HI1, HI2, HA1, HH, HS⟩ := HEND.out _ W6 (by have q := HM6.out; rw [← HOB.out] at q; exact q)
    refine step_storeM rfl (wp_store_cell 3 (.tmp 38) (.tmp 36) rfl kb 1 (.int .i64 Y) y1 rfl rfl dk1 fk1 (by kernel_rfl) rfl ?_)
    rw [HW6.out]
    refine hK.out _ _ ⟨_, HM6.out⟩ fun _ => ?_
    simp only [List.getElem_toArray, List.getElem_cons_zero, List.getElem_cons_succ, Act.put]
    refine wpAnyH_done (by kernel_rfl) ?_ _
    clear hK HEND HMO HM4 HM5 HS5 HSE HM6 HIN HP4 HPY dk1 fk1 HW6
    go_upto_region 6 with fail
    refine wp_region_lit ?_
    refine wpList_load_mid rfl 52 (.tmp 5) rfl kb 0 rfl MA.toList _ HRA.out Try.underlying52 rfl HI2.out ?_
    simp only [Act.put, List.setIfInBounds_toArray, List.set_cons_zero, List.set_cons_succ]
    refine wpList_plain rfl fun _ hK => wp_store_mid 52 (.tmp 4) (.tmp 39) rfl rb 0 MA rfl rfl HTA.out HI1.out HA1.out ?_
    rw [HW'.out]
    refine hK _ _ ?_
    simp only [Act.put]
    go_wp2_with fail
    exact bodyPost_ret_by (results_cell_row rfl _ _ rb 52 MA (0, 0) _ rfl HH.out Try.underlying52 rfl HI1.out) rfl ⟨by rw [HEM.out, HMA.out], HS.out⟩
  · have em : msgM m aim node shard L = m := if_neg z
    obtain ⟨MA, W', HMA, HRA, HTA, HW', HI1, HI2, HA1, HH, HS⟩ := HEND.out m W3 (by have q := HMO.out; rw [← HOB.out] at q; exact q)
    have HEM := hide em
    clear HEND HMO em
    go_upto_region 6 with fail
    refine wp_region_lit ?_
    refine wpList_load_mid rfl 52 (.tmp 5) rfl kb 0 rfl MA.toList _ HRA.out Try.underlying52 rfl HI2.out ?_
    simp only [Act.put, List.setIfInBounds_toArray, List.set_cons_zero, List.set_cons_succ]
    refine wpList_plain rfl fun _ hK => wp_store_mid 52 (.tmp 4) (.tmp 39) rfl rb 0 MA rfl rfl HTA.out HI1.out HA1.out ?_
    rw [HW'.out]
    refine hK _ _ ?_
    simp only [Act.put]
    go_wp2_with fail
    exact bodyPost_ret_by (results_cell_row rfl _ _ rb 52 MA (0, 0) _ rfl HH.out Try.underlying52 rfl HI1.out) rfl ⟨by rw [HEM.out, HMA.out], HS.out⟩
end Go.Proofs.Ytkcjmjaikobpoaa

/- QuorumOnce: the steps that are handed in; the deeds with what lies beside them. -/
namespace Go.Proofs.Ytkcjmjaikobpoaa
open Go.RowKit Go.Maps
set_option maxRecDepth 100000
set_option maxRecDepth 100000

/-- A step that is handed in. -/
structure Oq where
  kd : Int
  wh : Int
  ep : Nat
  s1 : Nat
  s2 : Nat
  s3 : Nat
  sa : Option Addr
  sl : Nat
  sc : Nat
  sp : Int
  m : Mg
  va : Option Addr
  vc : Nat
  aim : Int
  ba : Option Addr
  bl : Nat
  bc : Nat
def oqH (o : Oq) : List Value := [.int .i64 o.kd, .int .i64 o.wh, .int .u64 (o.ep : Nat), .int .u64 (o.s1 : Nat), .int .u64 (o.s2 : Nat), .int .u64 (o.s3 : Nat), .slice o.sa o.sl o.sc, .int .i64 o.sp]
def oqL (o : Oq) : List Value := oqH o ++ mgL o.m o.va o.vc ++ [.int .i64 o.aim, .slice o.ba o.bl o.bc]
theorem oqH_len (o : Oq) : (oqH o).length = 8 := rfl
theorem oqL_len (o : Oq) : (oqL o).length = 32 := by unfold oqL; simp [mgL_len, oqH_len]
theorem oqL_one (o : Oq) : (oqL o).toArray.all (·.oneCell') = true := all_oneCell_toArray (fun v hv => by
  unfold oqL oqH at hv
  rcases List.mem_append.1 hv with h | h
  · rcases List.mem_append.1 h with h | h
    · simp only [List.mem_cons, List.not_mem_nil, or_false] at h
      rcases h with rfl | rfl | rfl | rfl | rfl | rfl | rfl | rfl <;> rfl
    · exact mgL_one _ _ _ v h
  · simp only [List.mem_cons, List.not_mem_nil, or_false] at h
    rcases h with rfl | rfl <;> rfl)
theorem oqL_m (o : Oq) (j : Nat) (v : Value) (h : (mgL o.m o.va o.vc)[j]? = some v) : (oqL o)[8 + j]? = some v := by
  have hj : j < 22 := by have := (List.getElem?_eq_some_iff.1 h).1; rw [mgL_len] at this; exact this
  unfold oqL
  rw [List.append_assoc, List.getElem?_append_right (by rw [oqH_len]; omega), List.getElem?_append_left (by rw [mgL_len, oqH_len]; omega), ← h]
  congr 1
  rw [oqH_len]
  omega
theorem oqL_t (o : Oq) (j : Nat) (hj : j < 2) : (oqL o)[30 + j]? = ([.int .i64 o.aim, .slice o.ba o.bl o.bc] : List Value)[j]? := by
  unfold oqL
  rw [List.getElem?_append_right (by rw [List.length_append, mgL_len, oqH_len]; omega)]
  congr 1
  rw [List.length_append, mgL_len, oqH_len]
  omega
theorem oqL_h (o : Oq) (j : Nat) (hj : j < 8) : (oqL o)[j]? = (oqH o)[j]? := by
  unfold oqL
  rw [List.append_assoc, List.getElem?_append_left (by rw [oqH_len]; exact hj)]
theorem infoOq : (Try.prog.info? 54).map (·.size) = some 32 := by kernel_rfl
/-- Bytes that are handed in. -/
def BytIn (w : World) (a : Option Addr) (n : Nat) : Prop := ∃ x : Nat → Nat, (∀ j, x j < 256) ∧ (a = none → n = 0) ∧ n ≤ 140737488351232 ∧ Byt w a n x
theorem BytIn.since {w w' : World} {a : Option Addr} {n : Nat} (h : BytIn w a n) (hs : w.Since w.heap.size w') : BytIn w' a n := by
  obtain ⟨x, h1, h2, h3, h4⟩ := h
  exact ⟨x, h1, h2, h3, h4.since hs⟩
/-- The steps that are handed in. -/
structure OqsIn (w : World) (oa : Option Addr) (on : Nat) (O : Nat → Oq) : Prop where
  at' : ∀ i, i < on → ∃ b o, oa = some ⟨b, o, none⟩ ∧ w.rangeAt b (o + i * 32) (oqL (O i)) ∧ b < w.heap.size
  ok : ∀ i, i < on → MgA w (O i).m (O i).va (O i).vc ∧ MgN (O i).m ∧ (O i).ep < 18446744073709551616 ∧ (O i).s1 < 18446744073709551616 ∧ (O i).s2 < 18446744073709551616 ∧ (O i).s3 < 18446744073709551616 ∧ I64 (O i).aim ∧ BytIn w (O i).sa (O i).sl ∧ BytIn w (O i).ba (O i).bl
theorem rangeS {w w' : World} {b o : Nat} {cs : List Value} (h : w.rangeAt b o cs) (hl : b < w.heap.size) (hs : w.Since w.heap.size w') : w'.rangeAt b o cs := fun j v hv => by
  rw [World.cell?_of_block (a := ⟨b, o + j, none⟩) (hs.block b hl)]
  exact h j v hv
theorem OqsIn.since {w w' : World} {oa : Option Addr} {on : Nat} {O : Nat → Oq} (h : OqsIn w oa on O) (hs : w.Since w.heap.size w') : OqsIn w' oa on O :=
  ⟨fun i hi => by
    obtain ⟨b, o, e, h1, h2⟩ := h.at' i hi
    exact ⟨b, o, e, rangeS h1 h2 hs, Nat.lt_of_lt_of_le h2 hs.size⟩, fun i hi => by
    obtain ⟨h1, h2, h3, h4, h5, h6, h7, h8, h9⟩ := h.ok i hi
    exact ⟨h1.since hs, h2, h3, h4, h5, h6, h7, h8.since hs, h9.since hs⟩⟩
def oqZ : Obj := .cells #[.int .i64 0, .int .i64 0, .int .u64 0, .int .u64 0, .int .u64 0, .int .u64 0, .slice none 0 0, .int .i64 0, .int .i64 0, .int .i64 0, .int .i64 0, .int .i64 0, .int .u64 0, .int .u64 0, .int .u64 0, .int .u64 0, .int .i64 0, .int .u64 0, .slice none 0 0, .int .i64 0, .int .u64 0, .string ⟨#[]⟩, .string ⟨#[]⟩, .int .u64 0, .int .u64 0, .int .u64 0, .int .i64 0, .int .i64 0, .int .i64 0, .int .i64 0, .int .i64 0, .slice none 0 0] 54
theorem oqZ_row (w : World) : ∃ f, (w.alloc oqZ).rowIs w.heap.size 54 32 f :=
  ⟨_, World.rowIs_alloc w _ _ (fun i => (#[.int .i64 0, .int .i64 0, .int .u64 0, .int .u64 0, .int .u64 0, .int .u64 0, .slice none 0 0, .int .i64 0, .int .i64 0, .int .i64 0, .int .i64 0, .int .i64 0, .int .u64 0, .int .u64 0, .int .u64 0, .int .u64 0, .int .i64 0, .int .u64 0, .slice none 0 0, .int .i64 0, .int .u64 0, .string ⟨#[]⟩, .string ⟨#[]⟩, .int .u64 0, .int .u64 0, .int .u64 0, .int .i64 0, .int .i64 0, .int .i64 0, .int .i64 0, .int .i64 0, .slice none 0 0] : Array Value).getD i undef) (fun i hi => by
    rw [Array.getElem?_eq_getElem hi, Array.getD_eq_getD_getElem?, Array.getElem?_eq_getElem hi]
    rfl)⟩
/-- A step is laid into new memory. -/
theorem oq_put (w : World) (o : Oq) : ∃ (W : World) (OA : Array Value), Hid ((oqL o).toArray = OA) ∧ Hid ((w.alloc oqZ).there w.heap.size 0 OA.size) ∧ Hid ((w.alloc oqZ).setCells w.heap.size 0 OA.toList = W) ∧ Hid ((Try.prog.info? 54).map (·.size) = some OA.size) ∧ Hid (OA.all (·.oneCell') = true) ∧ Hid (W.rowIs w.heap.size 54 32 (fun i => (oqL o).getD i undef)) ∧ Hid (w.Since w.heap.size W) ∧ Hid (W.heap[w.heap.size]? = some (.cells OA 54 (0, 0))) := by
  obtain ⟨f, r0⟩ := oqZ_row w
  obtain ⟨W, HW, h7, z7, b7, o7, t7, p7⟩ := cells_stored r0 (oqL o) (oqL_len o)
  have s6 : w.Since w.heap.size (w.alloc oqZ) := (World.Since.refl _ _).alloc (Nat.le_refl _) _
  have hz : (oqL o).toArray.size = 32 := by rw [List.size_toArray, oqL_len]
  refine ⟨W, (oqL o).toArray, rfl, ?_, HW, by rw [hz]; exact infoOq, oqL_one o, ⟨(oqL o).toArray, h7, hz, fun i hi => ?_⟩, ⟨o7.trans s6.os, t7.trans s6.tape, p7.trans s6.output, by rw [z7]; exact s6.size, fun k hk => (b7 k (by omega)).trans (s6.block k hk)⟩, h7⟩
  · show World.there _ _ _ _
    rw [hz]
    exact row_there r0
  · rw [List.getElem?_toArray]
    simp [List.getD, show i < (oqL o).length by rw [oqL_len]; exact hi]
theorem msgM_n {m : Mg} {aim nd s0 : Int} {L : List Int} {n : Nat} (h : MgN m) (hn : L.length = n) (h1 : 1 ≤ n) (hI : I64 nd ∧ I64 s0 ∧ ∀ x ∈ L, I64 x) : MgN (msgM m aim nd s0 L) := by
  unfold msgM
  split
  · have hy : I64 (L.getD (aim % (L.length : Int)).toNat 0) := by
      have hlt : (aim % (L.length : Int)).toNat < L.length := by
        have a := Int.emod_nonneg aim (show (L.length : Int) ≠ 0 by omega)
        have b := Int.emod_lt_of_pos aim (show (0 : Int) < (L.length : Int) by omega)
        omega
      rw [List.getD_eq_getElem?_getD, List.getElem?_eq_getElem hlt]
      exact hI.2.2 _ (List.getElem_mem hlt)
    generalize L.getD (aim % (L.length : Int)).toNat 0 = y at hy
    have hu : ∀ (m : Mg) (c : Nat) (v : Int), isU c = false → I64 v → MgN m → MgN (m.setN c v) := fun m c v hc hv hm => by
      obtain ⟨v1, v2⟩ := hv
      refine ⟨fun i hi => ?_, fun i hi => ?_⟩
      · have hne : i ≠ c := fun e => by subst e; rw [hc] at hi; cases hi
        show 0 ≤ (if i = c then v else m.n i) ∧ (if i = c then v else m.n i) < _
        rw [if_neg hne]
        exact hm.1 i hi
      · show -_ ≤ (if i = c then v else m.n i) ∧ (if i = c then v else m.n i) ≤ _
        split
        · exact ⟨v1, v2⟩
        · exact hm.2 i hi
    exact hu _ 1 y rfl hy (hu _ 3 s0 rfl hI.2.1 (hu _ 2 nd rfl hI.1 h))
  · exact h
theorem msgM_a {W : World} {m : Mg} {aim nd s0 : Int} {L : List Int} {va : Option Addr} {vc : Nat} (h : MgA W m va vc) : MgA W (msgM m aim nd s0 L) va vc := by
  unfold msgM
  split
  · exact ⟨h.val, h.nil, h.lt, h.len, h.byte⟩
  · exact h
section
variable {pa pb : Qp} {d d' : Qd} {W : World}
theorem Bq2.row {w w' : World} {b t n : Nat} {f : Nat → Value} (h : Bq2 pa pb w w') (T : Two pa pb d W) (hb : W.heap.size ≤ b) (hr : w.rowIs b t n f) : w'.rowIs b t n f := by
  obtain ⟨a1, a2, a3, a4, a5⟩ := T.a.lts
  obtain ⟨b1, b2, b3, b4, b5⟩ := T.b.lts
  exact hr.of_block (h.block b hr.lt (by omega) (by omega) (by omega) (by omega) (by omega) (by omega) (by omega) (by omega))
/-- The same deed at both, in either order, with what lies beside. -/
theorem Two.both3 {f : FuncId} {args : Qp → Array Value} {ms : List Mg} {S G : World → Prop} (hS : ∀ W', Bq2 pa pb W W' → S W') (hG : ∀ W', Two pa pb d' W' → Bq2 pa pb W W' → G W')
    (H : ∀ p W', (p = pa ∨ p = pb) → Bq2 pa pb W W' → QIs W' p d → Calls Try.prog f (args p) W' fun e w' => ∃ r, e = .returned r ∧ OutM W'.heap.size w' r ms ∧ QIs w' p d' ∧ Bq p W' w') (hb : Bys ms) (hn : ms.length ≤ 1000000) (h : Two pa pb d W) :
    Calls Try.prog f (args pa) W fun e w1 => ∃ r, e = .returned r ∧ S w1 ∧ Hid (Calls Try.prog f (args pb) w1 fun e w2 => ∃ r2, e = .returned r2 ∧ S w2 ∧ Hid (Calls Try.prog 9 #[r, r2] w2 (fun e w3 => e = .returned (.bool true) ∧ S w3 ∧ Hid (G w3))) ∧ Hid (Calls Try.prog 9 #[r2, r] w2 (fun e w3 => e = .returned (.bool true) ∧ S w3 ∧ Hid (G w3)))) :=
  (H pa W (.inl rfl) Bq2.refl h.a).mono fun e w1 ⟨r, he, ho, hq, hbq⟩ => by
    have q1 : Bq2 pa pb W w1 := Bq2.of_a hbq
    refine ⟨r, he, hS _ q1, ?_⟩
    have b1 := h.b.beside hbq h.ab
    exact (H pb w1 (.inr rfl) q1 b1).mono fun e w2 ⟨r2, he2, ho2, hq2, hbq2⟩ => by
      have a2 := hq.beside hbq2 h.ba
      obtain ⟨l1, l2, l3, l4, l5⟩ := h.b.lts
      have o2 := ho.beside hbq2 l1 l3 l4 l5
      have t2 : Two pa pb d' w2 := ⟨a2, hq2, h.ab, h.ba⟩
      have q2 : Bq2 pa pb W w2 := q1.trans (Bq2.of_b hbq2)
      have fin : ∀ (e : Ending) (w3 : World), (e = .returned (.bool true) ∧ w2.Since w2.heap.size w3) → e = .returned (.bool true) ∧ S w3 ∧ Hid (G w3) := fun e w3 ⟨he3, hs3⟩ => by
        have q3 := q2.trans (Bq2.of_a (Bq.of_since hs3))
        exact ⟨he3, hS _ q3, hG _ (t2.since hs3) q3⟩
      exact ⟨r2, he2, hS _ q2, (eqMsgs_out o2 ho2 hb hn).mono fin, (eqMsgs_out ho2 o2 hb hn).mono fin⟩
theorem Two.prop3 {S G : World → Prop} (h : Two pa pb d W) (va : Option Addr) (n vc : Nat) (s : Int) (x : Nat → Nat) (hx : ∀ j, x j < 256) (hnil : va = none → n = 0) (hn : n ≤ 140737488351232) (hv : ∀ W', Bq2 pa pb W W' → Byt W' va n x) (hS : ∀ W', Bq2 pa pb W W' → S W') (hG : ∀ W' d', Two pa pb d' W' → Bq2 pa pb W W' → G W') :
    ∃ bo : Bool, Calls Try.prog 13 #[.pointer (some ⟨pa.b, 0, none⟩), .slice va n vc, .int .i64 s] W fun e w1 => ∃ r, e = .returned (.tuple #[r, .bool bo]) ∧ S w1 ∧ Hid (Calls Try.prog 13 #[.pointer (some ⟨pb.b, 0, none⟩), .slice va n vc, .int .i64 s] w1 fun e w2 => ∃ r2, e = .returned (.tuple #[r2, .bool bo]) ∧ S w2 ∧ Hid (Calls Try.prog 9 #[r, r2] w2 fun e w3 => e = .returned (.bool true) ∧ Hid (G w3))) :=
  ⟨(propM d ((List.range n).map x) s).2.2, (propose_any h.a va n vc x (hv W Bq2.refl) hx hnil hn s).mono fun e w1 ⟨r, he, ho, hq, hbq⟩ => by
    have q1 : Bq2 pa pb W w1 := Bq2.of_a hbq
    exact ⟨r, he, hS _ q1, (propose_any (h.b.beside hbq h.ab) va n vc x (hv w1 q1) hx hnil hn s).mono fun e w2 ⟨r2, he2, ho2, hq2, hbq2⟩ => by
      obtain ⟨l1, l2, l3, l4, l5⟩ := h.b.lts
      have q2 := q1.trans (Bq2.of_b hbq2)
      have hb : Bys (propM d ((List.range n).map x) s).2.1 := bys_prop d _ s (by simpa using hn) (fun y hy => by
        obtain ⟨j, _, rfl⟩ := List.mem_map.1 hy
        exact hx j)
      exact ⟨r2, he2, hS _ q2, (eqMsgs_out (ho.beside hbq2 l1 l3 l4 l5) ho2 hb (by have := prop_len d ((List.range n).map x) s; have := h.a.ok.l7; omega)).mono fun e w3 ⟨he3, hs3⟩ => ⟨he3, hG _ _ ((Two.mk (hq.beside hbq2 h.ba) hq2 h.ab h.ba).since hs3) (q2.trans (Bq2.of_a (Bq.of_since hs3)))⟩⟩⟩⟩
theorem Two.hear3 {S G : World → Prop} {m : Mg} {va : Option Addr} {vc : Nat} (hA : ∀ W', Bq2 pa pb W W' → MgA W' m va vc) (hN : MgN m) (h : Two pa pb d W) (s : Int) (hS : ∀ W', Bq2 pa pb W W' → S W') (hG : ∀ W' d', Two pa pb d' W' → Bq2 pa pb W W' → G W') :
    Calls Try.prog 12 #[.pointer (some ⟨pa.b, 0, none⟩), mgV m va vc, .int .i64 s] W fun e w1 => ∃ r, e = .returned r ∧ Hid (S w1) ∧ Hid (Calls Try.prog 12 #[.pointer (some ⟨pb.b, 0, none⟩), mgV m va vc, .int .i64 s] w1 fun e w2 => ∃ r2, e = .returned r2 ∧ Hid (S w2) ∧
      Hid (Calls Try.prog 12 #[.pointer (some ⟨pb.b, 0, none⟩), mgV m va vc, .int .i64 s] w2 fun e w3 => ∃ a c, e = .returned (.slice a 0 c) ∧ Hid (Calls Try.prog 9 #[r, r2] w3 fun e w4 => e = .returned (.bool true) ∧ Hid (G w4)))) := by
  have hA0 := hA W Bq2.refl
  have hbys : Bys (hearM d m s).2 := bys_hear d m s h.a.ok.next (hA0.byte 10) (by have := hA0.len 10; omega)
  have hlen : (hearM d m s).2.length ≤ 1000000 := by have := hear_len d m s; have := h.a.ok.l7; omega
  have hag := hear_again d m s
  exact (hear_any h.a m va vc hA0 hN s).mono fun e w1 ⟨r, he, ho, hq, hbq⟩ => by
    have q1 : Bq2 pa pb W w1 := Bq2.of_a hbq
    exact ⟨r, he, hS _ q1, (hear_any (h.b.beside hbq h.ab) m va vc (hA w1 q1) hN s).mono fun e w2 ⟨r2, he2, ho2, hq2, hbq2⟩ => by
      have q2 := q1.trans (Bq2.of_b hbq2)
      have g3 := hear_any hq2 m va vc (hA w2 q2) hN s
      rw [hag] at g3
      exact ⟨r2, he2, hS _ q2, g3.mono fun e w3 ⟨r3, he3, ho3, hq3, hbq3⟩ => by
        obtain ⟨a, c, er⟩ := out_shape ho3
        obtain ⟨l1, l2, l3, l4, l5⟩ := h.b.lts
        obtain ⟨k1, k2, k3, k4, k5⟩ := (h.b.beside hbq h.ab).lts
        have o1 := (ho.beside hbq2 l1 l3 l4 l5).beside hbq3 l1 l3 l4 l5
        have o2 := ho2.beside hbq3 k1 k3 k4 k5
        have a3 := (hq.beside hbq2 h.ba).beside hbq3 h.ba
        have q3 := q2.trans (Bq2.of_b hbq3)
        exact ⟨a, c, by rw [he3, er]; rfl, (eqMsgs_out o1 o2 hbys hlen).mono fun e w4 ⟨he4, hs4⟩ => ⟨he4, hG _ _ ((Two.mk a3 hq3 h.ab h.ba).since hs4) (q3.trans (Bq2.of_a (Bq.of_since hs4)))⟩⟩⟩⟩
theorem Two.start3 {S G : World → Prop} (h : Two pa pb d W) (E : Nat) (hE : E < 18446744073709551616) (P te ts : Nat) (hte : te < 18446744073709551616) (hts : ts < 18446744073709551616) (va : Option Addr) (n vc : Nat) (s : Int) (x : Nat → Nat) (hx : ∀ j, x j < 256) (hnil : va = none → n = 0) (hn : n ≤ 140737488351232) (hv : ∀ W', Bq2 pa pb W W' → Byt W' va n x) (hS : ∀ W', Bq2 pa pb W W' → S W') (hG : ∀ W' d', Two pa pb d' W' → Bq2 pa pb W W' → G W') :
    Calls Try.prog 10 #[.pointer (some ⟨pa.b, 0, none⟩), .int .u64 (E : Nat), .agg #[.int .u64 (P : Nat), .int .u64 (te : Nat), .int .u64 (ts : Nat), .slice va n vc], .int .i64 s] W fun e w1 => ∃ r, e = .returned r ∧ S w1 ∧ Hid (Calls Try.prog 10 #[.pointer (some ⟨pb.b, 0, none⟩), .int .u64 (E : Nat), .agg #[.int .u64 (P : Nat), .int .u64 (te : Nat), .int .u64 (ts : Nat), .slice va n vc], .int .i64 s] w1 fun e w2 => ∃ r2, e = .returned r2 ∧ S w2 ∧ Hid (Calls Try.prog 9 #[r, r2] w2 (fun e w3 => e = .returned (.bool true) ∧ S w3 ∧ Hid (G w3))) ∧ Hid (Calls Try.prog 9 #[r2, r] w2 (fun e w3 => e = .returned (.bool true) ∧ S w3 ∧ Hid (G w3)))) :=
  Two.both3 (d' := (startM d E ⟨te, ts, (List.range n).map x⟩ s).1) (ms := (startM d E ⟨te, ts, (List.range n).map x⟩ s).2) (args := fun p => #[.pointer (some ⟨p.b, 0, none⟩), .int .u64 (E : Nat), .agg #[.int .u64 (P : Nat), .int .u64 (te : Nat), .int .u64 (ts : Nat), .slice va n vc], .int .i64 s]) hS (fun W' => hG W' _) (fun p W' _ hb hq => start_any hq E hE P te ts hte hts va n vc x (hv W' hb) hx hnil hn s)
    (bys_start d E _ s ⟨hte, hts, by simpa using hn, fun y hy => by
      obtain ⟨j, _, rfl⟩ := List.mem_map.1 hy
      exact hx j⟩) (by have := start_len d E ⟨te, ts, (List.range n).map x⟩ s; have := h.a.ok.l7; omega) h
theorem Two.tick3 {S G : World → Prop} (h : Two pa pb d W) (s : Int) (hS : ∀ W', Bq2 pa pb W W' → S W') (hG : ∀ W' d', Two pa pb d' W' → Bq2 pa pb W W' → G W') :
    Calls Try.prog 14 #[.pointer (some ⟨pa.b, 0, none⟩), .int .i64 s] W fun e w1 => ∃ r, e = .returned r ∧ S w1 ∧ Hid (Calls Try.prog 14 #[.pointer (some ⟨pb.b, 0, none⟩), .int .i64 s] w1 fun e w2 => ∃ r2, e = .returned r2 ∧ S w2 ∧ Hid (Calls Try.prog 9 #[r, r2] w2 (fun e w3 => e = .returned (.bool true) ∧ S w3 ∧ Hid (G w3))) ∧ Hid (Calls Try.prog 9 #[r2, r] w2 (fun e w3 => e = .returned (.bool true) ∧ S w3 ∧ Hid (G w3)))) :=
  Two.both3 (d' := (tickM d s).1) (ms := (tickM d s).2) (args := fun p => #[.pointer (some ⟨p.b, 0, none⟩), .int .i64 s]) hS (fun W' => hG W' _) (fun _ _ _ _ hq => tick_any hq s) (bys_tick d s h.a.ok.next) (by have := tick_len d s; have := h.a.ok.l7; omega) h
end
end Go.Proofs.Ytkcjmjaikobpoaa

/- QuorumOnce: the law's walk. -/
namespace Go.Proofs.Ytkcjmjaikobpoaa
open Go.RowKit Go.Maps
set_option maxRecDepth 100000
set_option maxRecDepth 100000

/-- What the law's loop stands on. -/
structure LZ (W0 W5 : World) (pa pb : Qp) (tb g n cap : Nat) (nd s0 : Int) (L : List Int) : Prop where
  since : ∀ W, Bq2 pa pb W5 W → W0.Since W0.heap.size W
  ints : ∀ W, Bq2 pa pb W5 W → Ints W (some ⟨g, 0, none⟩) L
  t2 : ∀ W, Bq2 pa pb W5 W → W.cell? ⟨tb, 2, none⟩ = some (.int .i64 nd)
  t3 : ∀ W, Bq2 pa pb W5 W → W.cell? ⟨tb, 3, none⟩ = some (.int .i64 s0)
  t4 : ∀ W, Bq2 pa pb W5 W → W.cell? ⟨tb, 4, none⟩ = some (.slice (some ⟨g, 0, none⟩) n cap)
  two : ∃ d, Two pa pb d W5
theorem lz_start {W0 w1 w4 : World} {pa pb : Qp} {d : Qd} {g n cap : Nat} {nd s0 : Int} {L : List Int} (h01 : W0.Since W0.heap.size w1) (h14 : w1.Since w1.heap.size w4) (hT : Two pa pb d w4) (ga : pa.ge w1.heap.size) (gb : pb.ge w1.heap.size) (hI : Ints w1 (some ⟨g, 0, none⟩) L) :
    LZ W0 (w4.alloc (.cells #[.pointer none, .pointer none, .int .i64 nd, .int .i64 s0, .slice (some ⟨g, 0, none⟩) n cap, .pointer none, .bool false, .slice none 0 0, .slice none 0 0, .int .i64 0] 39)) pa pb w4.heap.size g n cap nd s0 L := by
  obtain ⟨W5, e5⟩ : ∃ W, w4.alloc (.cells #[.pointer none, .pointer none, .int .i64 nd, .int .i64 s0, .slice (some ⟨g, 0, none⟩) n cap, .pointer none, .bool false, .slice none 0 0, .slice none 0 0, .int .i64 0] 39) = W := ⟨_, rfl⟩
  have s45 : w4.Since w4.heap.size W5 := by rw [← e5]; exact (World.Since.refl _ _).alloc (Nat.le_refl _) _
  have z5 : W5.heap.size = w4.heap.size + 1 := by rw [← e5]; simp
  have c2 : W5.cell? ⟨w4.heap.size, 2, none⟩ = some (.int .i64 nd) := by rw [← e5]; simp
  have c3 : W5.cell? ⟨w4.heap.size, 3, none⟩ = some (.int .i64 s0) := by rw [← e5]; simp
  have c4 : W5.cell? ⟨w4.heap.size, 4, none⟩ = some (.slice (some ⟨g, 0, none⟩) n cap) := by rw [← e5]; simp
  rw [e5]
  have s15 : w1.Since w1.heap.size W5 := h14.trans (since_mono s45 h14.size)
  have hs : ∀ W, Bq2 pa pb W5 W → w1.Since w1.heap.size W := fun W b => since_two s15 b ga gb
  obtain ⟨a1, a2, a3, a4, a5⟩ := hT.a.lts
  obtain ⟨b1, b2, b3, b4, b5⟩ := hT.b.lts
  have ht : ∀ W j v, Bq2 pa pb W5 W → W5.cell? ⟨w4.heap.size, j, none⟩ = some v → W.cell? ⟨w4.heap.size, j, none⟩ = some v := fun W j v b h => by
    rw [World.cell?_of_block (a := ⟨w4.heap.size, j, none⟩) (b.block w4.heap.size (by omega) (by omega) (by omega) (by omega) (by omega) (by omega) (by omega) (by omega) (by omega))]
    exact h
  exact ⟨fun W b => h01.trans (since_mono (hs W b) h01.size), fun W b => hI.since (hs W b), fun W b => ht W 2 _ b c2, fun W b => ht W 3 _ b c3, fun W b => ht W 4 _ b c4, ⟨d, hT.since s45⟩⟩
/-- Where the loop stands. -/
def FX (W5 : World) (pa pb : Qp) (W : World) : Prop := (∃ d, Two pa pb d W) ∧ Bq2 pa pb W5 W
theorem FX.since {W5 w w' : World} {pa pb : Qp} (h : FX W5 pa pb w) (hs : w.Since w.heap.size w') : FX W5 pa pb w' := by
  obtain ⟨⟨d, hT⟩, hb⟩ := h
  exact ⟨⟨d, hT.since hs⟩, hb.trans (Bq2.of_a (Bq.of_since hs))⟩
theorem FX.like {W5 w : World} {pa pb : Qp} (h : FX W5 pa pb w) : Calls Try.prog 16 #[.pointer (some ⟨pa.b, 0, none⟩), .pointer (some ⟨pb.b, 0, none⟩)] w fun e w' => e = .returned (.bool true) ∧ Hid (FX W5 pa pb w') := by
  obtain ⟨⟨d, hT⟩, hb⟩ := h
  exact hT.like.mono fun e w' ⟨he, hX⟩ => ⟨he, ⟨⟨d, hX.out.1⟩, hb.trans hX.out.2⟩⟩
theorem FX.stop {W5 w : World} {pa pb : Qp} (h : FX W5 pa pb w) : Calls Try.prog 15 #[.pointer (some ⟨pa.b, 0, none⟩)] w fun e w1 => e = .returned (.tuple #[]) ∧ Hid (Calls Try.prog 15 #[.pointer (some ⟨pb.b, 0, none⟩)] w1 fun e w2 => e = .returned (.tuple #[]) ∧ Hid (FX W5 pa pb w2)) := by
  obtain ⟨⟨d, hT⟩, hb⟩ := h
  exact hT.stop.mono fun e w1 ⟨he, hX⟩ => ⟨he, hX.out.mono fun e w2 ⟨he2, hX2⟩ => ⟨he2, ⟨⟨_, hX2.out.1⟩, hb.trans hX2.out.2⟩⟩⟩
set_option maxHeartbeats 16000000 in
theorem once_any {w : World} {oa : Option Addr} {on oc : Nat} {O : Nat → Oq} (p0 p1 s0 s1 m0 m1 : Int) (hp0 : I64 p0) (hs0 : I64 s0) (hm0 : I64 m0) (hO : OqsIn w oa on O) (hon : on ≤ 1000000000000) :
    Calls Try.prog 3 #[.agg #[.int .i64 p0, .int .i64 p1, .int .i64 s0, .int .i64 s1, .int .i64 m0, .int .i64 m1, .slice oa on oc]] w fun e w' => e = .returned (.bool true) ∧ w.Since w.heap.size w' := by
  obtain ⟨W0, HW0⟩ : ∃ W, Hid (w.alloc (.cells #[.int .i64 p0, .int .i64 p1, .int .i64 s0, .int .i64 s1, .int .i64 m0, .int .i64 m1, .slice oa on oc] 25) = W) := ⟨_, rfl⟩
  have s00 : w.Since w.heap.size W0 := by rw [← HW0.out]; exact (World.Since.refl _ _).alloc (Nat.le_refl _) _
  have z0 : W0.heap.size = w.heap.size + 1 := by rw [← HW0.out]; simp
  have a0 : W0.cell? ⟨w.heap.size, 0, none⟩ = some (.int .i64 p0) := by rw [← HW0.out]; simp
  have a2 : W0.cell? ⟨w.heap.size, 2, none⟩ = some (.int .i64 s0) := by rw [← HW0.out]; simp
  have a4 : W0.cell? ⟨w.heap.size, 4, none⟩ = some (.int .i64 m0) := by rw [← HW0.out]; simp
  have a6 : W0.cell? ⟨w.heap.size, 6, none⟩ = some (.slice oa on oc) := by rw [← HW0.out]; simp
  have HO : Hid (OqsIn W0 oa on O) := hO.since s00
  obtain ⟨sb, HSB⟩ : ∃ x, Hid (w.heap.size = x) := ⟨_, rfl⟩
  have hsb : sb < W0.heap.size := by have := HSB.out; omega
  obtain ⟨L, hL⟩ : ∃ L, cpL (manyN m0) = L := ⟨_, rfl⟩
  obtain ⟨n, hn⟩ : ∃ n, L.length = n := ⟨_, rfl⟩
  have hln : manyN m0 = n := by rw [← hn, ← hL, cpL_len]
  have hml := manyN_le m0
  have hI : ∀ x ∈ L, I64 x := fun x hx => by
    have := cpL_i64 (manyN m0) x (by rw [hL]; exact hx)
    exact ⟨by omega, by omega⟩
  have h1n : 1 ≤ n := by omega
  have h7n : n ≤ 7 := by omega
  obtain ⟨me, hme⟩ : ∃ me : Nat, (p0 % (n : Int)).toNat = me := ⟨_, rfl⟩
  have hme2 : p0 % (n : Int) = (me : Nat) := by have := Int.emod_nonneg p0 (show (n : Int) ≠ 0 by omega); omega
  have hmn : me < n := by have := Int.emod_lt_of_pos p0 (show (0 : Int) < (n : Int) by omega); omega
  obtain ⟨nd, hN⟩ : ∃ x, L.getD me 0 = x := ⟨_, rfl⟩
  have hnm : nd ∈ L := by rw [← hN]; simp [List.getD, hn, hmn]
  have HIN : Hid (∀ W, Calls Try.prog 6 #[.int .i64 p0, .int .i64 (n : Nat)] W fun e w' => e = .returned (.int .i64 (me : Nat)) ∧ W = w') := fun W => by
    have q := into_any p0 n h1n (by omega) hp0 W
    rw [hme2] at q
    exact q
  rw [HSB.out] at a0 a2 a4 a6
  have HC : Hid (Calls Try.prog 5 #[.int .i64 m0] W0 fun e w1 => ∃ g cap : Nat, e = .returned (.slice (some ⟨g, 0, none⟩) n cap) ∧ w1.cell? ⟨sb, 0, none⟩ = some (.int .i64 p0) ∧ w1.cell? ⟨sb, 2, none⟩ = some (.int .i64 s0) ∧ w1.cell? ⟨g, me, none⟩ = some (.int .i64 nd) ∧
      Hid (Calls Try.prog 7 #[.int .i64 nd, .int .i64 s0, .slice (some ⟨g, 0, none⟩) n cap] w1 fun e w2 => ∃ pa : Qp, e = .returned (.pointer (some ⟨pa.b, 0, none⟩)) ∧ w2.cell? ⟨sb, 2, none⟩ = some (.int .i64 s0) ∧
      Hid (Calls Try.prog 7 #[.int .i64 nd, .int .i64 s0, .slice (some ⟨g, 0, none⟩) n cap] w2 fun e w3 => ∃ pb : Qp, e = .returned (.pointer (some ⟨pb.b, 0, none⟩)) ∧
      Hid (Calls Try.prog 8 #[] w3 fun e w4 => e = .returned (.bool true) ∧ w4.cell? ⟨sb, 2, none⟩ = some (.int .i64 s0) ∧ ∃ W5 tb, Hid (w4.alloc (.cells #[.pointer none, .pointer none, .int .i64 nd, .int .i64 s0, .slice (some ⟨g, 0, none⟩) n cap, .pointer none, .bool false, .slice none 0 0, .slice none 0 0, .int .i64 0] 39) = W5) ∧ Hid (w4.heap.size = tb) ∧ Hid (LZ W0 W5 pa pb tb g n cap nd s0 L)))) ) := by
    refine (copiesOf_any m0 hm0 W0).mono fun e w1 ⟨v, he, hown, hs1⟩ => ?_
    rw [hL] at hown
    obtain ⟨g, cap, f, ev, hg, hcap, hr, hf⟩ := ownI_at hown (by omega)
    have hi1 : Ints w1 (some ⟨g, 0, none⟩) L := fun j hj => ⟨g, 0, rfl, by rw [Nat.zero_add, hr.cell (by omega), hf j hj]⟩
    refine ⟨g, cap, by rw [he, ev, hn], cell_later hs1 a0, cell_later hs1 a2, ?_, ?_⟩
    · obtain ⟨g', o', e', hc⟩ := hi1 me (by omega)
      cases e'
      rw [Nat.zero_add, hN] at hc
      exact hc
    have hnew := two_new (c := cap) hi1 hI (by omega) (by omega) nd s0 hnm hs0
    rw [hn] at hnew
    refine hnew.mono fun e w2 ⟨pa, he2, hs12, H3⟩ => ⟨pa, he2, cell_later hs12.out (cell_later hs1 a2), ?_⟩
    refine H3.out.mono fun e w3 ⟨pb, he3, H4⟩ => ⟨pb, he3, ?_⟩
    obtain ⟨hT, ga, gb, hs13⟩ := H4.out
    refine (wakes_any w3).mono fun e w4 ⟨he4, hs34⟩ => ⟨he4, ?_, _, _, rfl, rfl, lz_start hs1 (hs13.trans (since_mono hs34 hs13.size)) (hT.since hs34) ga gb hi1⟩
    exact cell_later hs34 (cell_later hs13 (cell_later hs1 a2))
  have HS00 := hide s00
  have HFN : Hid (∀ W, W0.Since W0.heap.size W → w.Since w.heap.size W) := fun W h => HS00.out.trans (since_mono h HS00.out.size)
  have HC6 : Hid (∀ W, W0.Since W0.heap.size W → W.cell? ⟨sb, 6, none⟩ = some (.slice oa on oc)) := fun W h => cell_later h a6
  have HON := hide hon
  have HLN := hide hn
  have H3 : Hid (I64 nd ∧ I64 s0 ∧ ∀ x ∈ L, I64 x) := ⟨hI nd hnm, hs0, hI⟩
  have H17 : Hid (1 ≤ n ∧ n ≤ 1000) := ⟨h1n, by omega⟩
  have zme : (me : Int) < (n : Int) := by omega
  have zme0 : (0 : Int) ≤ (me : Int) := by omega
  have HZ0 := hide z0
  clear hO hI hnm s00 z0 hL hln hml hm0 hme hme2 hp0 hs0 h1n h7n hN hmn hn hsb HS00 a6 HZ0 hon
  go_enter Try.func3, Try.ntmps3
  go_upto_region 1 with fail
  rw [HW0.out, HSB.out]
  clear HW0 HSB
  go_upto_region 3 with (first
    | (go_at_call 5; refine HC.out.mono ?_; rintro e w1 ⟨g, cap, rfl, b0, b2, bg, HN1⟩)
    | (go_at_call 6; refine (HIN.out _).mono ?_; rintro e wq ⟨rfl, rfl⟩))
  clear HC HIN a0 a2 a4
  go_upto_region 4 with (go_at_call 7; refine HN1.out.mono ?_; rintro e w2 ⟨pa, rfl, c2, HN2⟩)
  clear HN1 b0 b2 bg zme zme0
  go_upto_region 7 with (first
    | (go_at_call 7; refine HN2.out.mono ?_; rintro e w3 ⟨pb, rfl, HWK⟩)
    | (go_at_call 8; refine HWK.out.mono ?_; rintro e w4 ⟨rfl, d2, W5, tb, HW5, HTB, HZ⟩))
  clear HN2 HWK c2
  obtain ⟨ohX⟩ : Nonempty Unit := ⟨()⟩
  go_upto_region 8 with fail
  rw [HW5.out, HTB.out]
  clear HW5 HTB d2 ohX
  have HX0 : Hid (FX W5 pa pb W5) := ⟨HZ.out.two, Bq2.refl⟩
  go_wp2_with fail
  go_loopg [8, 10, 11, 12, 13, 14, 15, 16, 17] on (fun q s8 s10 s11 s12 s13 s14 s15 s16 s17 wx => ∃ i : Nat, i ≤ on ∧ i ≤ 600 ∧ q = on - i ∧ s8 = .int .i64 (i : Nat) ∧ Hid (FX W5 pa pb wx))
  case atStart => exact ⟨0, Nat.zero_le _, Nat.zero_le _, rfl, rfl, HX0⟩
  case round =>
    clear HX0
    obtain ⟨i, hi, hi6, rfl, rfl, HX⟩ := hrel
    have hsi := HZ.out.since wr HX.out.2
    by_cases hlt : i < on ∧ i < 600
    · obtain ⟨hlt, hl6⟩ := hlt
      obtain ⟨db, oo, rfl, hrg, hob⟩ := (HO.out.since hsi).at' i hlt
      have c6 : wr.cell? ⟨sb, 6, none⟩ = some (.slice (some ⟨db, oo, none⟩) on oc) := HC6.out wr hsi
      have z1 : (i : Int) < (on : Int) := by omega
      have z2 : (i : Int) < 600 := by omega
      have z3 : (0 : Int) ≤ (i : Int) := by omega
      have hon : (on : Int) ≤ 1000000000000 := by have := HON.out; omega
      have HI1 : Hid (i + 1 ≤ on ∧ i + 1 ≤ 600) := ⟨by omega, by omega⟩
      have hme : on - (i + 1) < on - i := by omega
      have hwi : IntKind.i64.wrap ((i : Int) + 1) = (i : Int) + 1 := by rw [IntKind.wrap_i64]; omega
      obtain ⟨WO, OA, HOA, HTH, HWO, HIO, HAO, HRO, HSO, HHO⟩ := oq_put wr (O i)
      have HRG : Hid (wr.rangeAt db (oo + i * 32) (oqL (O i))) := hrg
      have HII : Hid ((Try.prog.info? 54).map (·.size) = some (oqL (O i)).length) := by rw [oqL_len]; exact infoOq
      have HXO : Hid (FX W5 pa pb WO) := HX.out.since HSO.out
      have hwo : W0.Since W0.heap.size WO := HZ.out.since WO HXO.out.2
      obtain ⟨k1, k2, k3, k4, k5, k6, k7, k8, k9⟩ := (HO.out.since hwo).ok i hlt
      have HK := hide (show MgN (O i).m ∧ (O i).ep < 18446744073709551616 ∧ (O i).s2 < 18446744073709551616 ∧ (O i).s3 < 18446744073709551616 ∧ I64 (O i).aim from ⟨k2, k3, k5, k6, k7⟩)
      have HMG : Hid (∀ W, Bq2 pa pb WO W → MgA W (O i).m (O i).va (O i).vc) := fun W b => ((HO.out.since (HZ.out.since W (HXO.out.2.trans b))).ok i hlt).1
      have HBS : Hid (∃ x : Nat → Nat, (∀ j, x j < 256) ∧ ((O i).sa = none → (O i).sl = 0) ∧ (O i).sl ≤ 140737488351232 ∧ ∀ W, Bq2 pa pb WO W → Byt W (O i).sa (O i).sl x) := by
        obtain ⟨x, h1, h2, h3, h4⟩ := (HO.out.ok i hlt).2.2.2.2.2.2.2.1
        exact ⟨x, h1, h2, h3, fun W b => h4.since (HZ.out.since W (HXO.out.2.trans b))⟩
      have HBB : Hid (∃ x : Nat → Nat, (∀ j, x j < 256) ∧ ((O i).ba = none → (O i).bl = 0) ∧ (O i).bl ≤ 140737488351232 ∧ ∀ W, Bq2 pa pb WO W → Byt W (O i).ba (O i).bl x) := by
        obtain ⟨x, h1, h2, h3, h4⟩ := (HO.out.ok i hlt).2.2.2.2.2.2.2.2
        exact ⟨x, h1, h2, h3, fun W b => h4.since (HZ.out.since W (HXO.out.2.trans b))⟩
      have HRW : Hid (∀ W, Bq2 pa pb WO W → W.rowIs wr.heap.size 54 32 (fun j => (oqL (O i)).getD j undef)) := fun W b => by
        obtain ⟨d, hT⟩ := HX.out.1
        exact b.row hT (Nat.le_refl _) HRO.out
      clear k1 k2 k3 k4 k5 k6 k7 k8 k9 hrg hob hsi hwo HX hi hi6 hlt hl6
      go_upto_region 11 with fail
      refine wp_region_lit ?_
      refine wpList_plain rfl fun _ hK => op_run (.pointer (some ⟨sb, 6, none⟩)) (by kernel_rfl) (hK _ _ ?_)
      simp only [Act.put, List.setIfInBounds_toArray, List.set_cons_zero, List.set_cons_succ]
      refine wpList_plain rfl fun _ hK => op_run (.slice (some ⟨db, oo, none⟩) on oc) (by go_simp) (hK _ _ ?_)
      simp only [Act.put, List.setIfInBounds_toArray, List.set_cons_zero, List.set_cons_succ]
      refine wpList_plain rfl fun _ hK => op_run (.int .i64 (i : Nat)) (by kernel_rfl) (hK _ _ ?_)
      simp only [Act.put, List.setIfInBounds_toArray, List.set_cons_zero, List.set_cons_succ]
      refine wpList_plain rfl fun _ hK => op_run (.pointer (some ⟨db, oo + i * 32, none⟩)) (by go_simp) (hK _ _ ?_)
      simp only [Act.put, List.setIfInBounds_toArray, List.set_cons_zero, List.set_cons_succ]
      refine wpList_load_mid rfl 54 (.tmp 74) rfl db (oo + i * 32) rfl (oqL (O i)) _ HRG.out Try.underlying54 rfl HII.out ?_
      rw [HOA.out]
      simp only [Act.put, List.setIfInBounds_toArray, List.set_cons_zero, List.set_cons_succ]
      refine wpList_plain rfl fun _ hK => op_runW (w' := wr.alloc oqZ) (.pointer (some ⟨wr.heap.size, 0, none⟩)) (by kernel_rfl) (hK _ _ ?_)
      simp only [Act.put, List.setIfInBounds_toArray, List.set_cons_zero, List.set_cons_succ]
      refine wpList_store_mid rfl 54 (.tmp 9) (.tmp 75) rfl wr.heap.size 0 OA rfl rfl HTH.out HIO.out HAO.out ?_
      rw [HWO.out]
      simp only [Act.put]
      clear hK HTH HAO HWO HRG HII z1 z2 z3 hon c6
      have HOE : Hid (OA = (oqL (O i)).toArray) := HOA.out.symm
      clear HOA
      obtain ⟨ob, HOB⟩ : ∃ x, Hid (wr.heap.size = x) := ⟨_, rfl⟩
      rw [HOB.out] at HHO HRW ⊢
      clear HOB
      have p0 : WO.cell? ⟨ob, 0, none⟩ = some (.int .i64 (O i).kd) := (HRW.out WO Bq2.refl).cell (i := 0) (by decide)
      obtain ⟨kd, hkd⟩ : ∃ kd, (O i).kd = kd := ⟨_, rfl⟩
      rw [hkd] at p0
      clear hkd
      go_upto_block 2 with fail
      go_cut [10, 11, 12, 13, 14, 15, 16, 17] from 60 to 177 (fun s10 s11 s12 s13 s14 s15 s16 s17 wx => Hid (FX W5 pa pb wx))
      case first =>
        as_aux_lemma =>
          by_cases k1 : kd = 1
          · have HRD := HRW.out
            obtain ⟨⟨d, hT0⟩, hb0⟩ := HXO.out
            have hdr : WO.Since WO.heap.size WO.drew := (World.Since.refl _ _).drew
            have hbd : Bq2 pa pb WO WO.drew := Bq2.of_a (Bq.of_since hdr)
            have hT := hT0.since hdr
            obtain ⟨ep, hep⟩ : ∃ x, (O i).ep = x := ⟨_, rfl⟩
            obtain ⟨t1, ht1⟩ : ∃ x, (O i).s1 = x := ⟨_, rfl⟩
            obtain ⟨t2, ht2⟩ : ∃ x, (O i).s2 = x := ⟨_, rfl⟩
            obtain ⟨t3, ht3⟩ : ∃ x, (O i).s3 = x := ⟨_, rfl⟩
            obtain ⟨sp, hsp⟩ : ∃ x, (O i).sp = x := ⟨_, rfl⟩
            obtain ⟨sa, hsa⟩ : ∃ x, (O i).sa = x := ⟨_, rfl⟩
            obtain ⟨sl, hsl⟩ : ∃ x, (O i).sl = x := ⟨_, rfl⟩
            obtain ⟨sc, hsc⟩ : ∃ x, (O i).sc = x := ⟨_, rfl⟩
            obtain ⟨ba, hba⟩ : ∃ x, (O i).ba = x := ⟨_, rfl⟩
            obtain ⟨bl, hbl⟩ : ∃ x, (O i).bl = x := ⟨_, rfl⟩
            obtain ⟨bc, hbc⟩ : ∃ x, (O i).bc = x := ⟨_, rfl⟩
            have HSC : Hid (∀ W, Bq2 pa pb WO W → W.cell? ⟨ob, 2, none⟩ = some (.int .u64 (ep : Nat)) ∧ W.cell? ⟨ob, 3, none⟩ = some (.int .u64 (t1 : Nat)) ∧ W.cell? ⟨ob, 4, none⟩ = some (.int .u64 (t2 : Nat)) ∧ W.cell? ⟨ob, 5, none⟩ = some (.int .u64 (t3 : Nat)) ∧ W.cell? ⟨ob, 6, none⟩ = some (.slice sa sl sc) ∧ W.cell? ⟨ob, 7, none⟩ = some (.int .i64 sp) ∧ W.cell? ⟨ob, 31, none⟩ = some (.slice ba bl bc)) := fun W b => by
              have hr := HRW.out W b
              refine ⟨?_, ?_, ?_, ?_, ?_, ?_, ?_⟩
              · rw [← hep]; exact hr.cell (i := 2) (by decide)
              · rw [← ht1]; exact hr.cell (i := 3) (by decide)
              · rw [← ht2]; exact hr.cell (i := 4) (by decide)
              · rw [← ht3]; exact hr.cell (i := 5) (by decide)
              · rw [← hsa, ← hsl, ← hsc]; exact hr.cell (i := 6) (by decide)
              · rw [← hsp]; exact hr.cell (i := 7) (by decide)
              · rw [← hba, ← hbl, ← hbc]
                have e := hr.cell (i := 31) (by decide)
                rw [e]
                have q := oqL_t (O i) 1 (by decide)
                simp only [List.getD, q]
                rfl
            have HFX : Hid (∀ W', Bq2 pa pb WO W' → (∃ d', Two pa pb d' W') → FX W5 pa pb W') := fun W' b h => ⟨h, HXO.out.2.trans b⟩
            rw [hsa, hsl] at HBS
            have HK2 := HK.out
            rw [hep, ht2, ht3] at HK2
            rw [hba, hbl] at HBB
            have HBD := hide hbd
            obtain ⟨x, hx, hnil, hn, hv⟩ := HBS.out
            have HA := hide (Two.start3 (S := fun W => W.cell? ⟨ob, 2, none⟩ = some (.int .u64 (ep : Nat)) ∧ W.cell? ⟨ob, 3, none⟩ = some (.int .u64 (t1 : Nat)) ∧ W.cell? ⟨ob, 4, none⟩ = some (.int .u64 (t2 : Nat)) ∧ W.cell? ⟨ob, 5, none⟩ = some (.int .u64 (t3 : Nat)) ∧ W.cell? ⟨ob, 6, none⟩ = some (.slice sa sl sc) ∧ W.cell? ⟨ob, 7, none⟩ = some (.int .i64 sp) ∧ W.cell? ⟨ob, 31, none⟩ = some (.slice ba bl bc)) (G := FX W5 pa pb) (hS := fun W b => HSC.out W (HBD.out.trans b)) (hG := fun W d h b => HFX.out W (HBD.out.trans b) ⟨d, h⟩) hT ep HK2.2.1 t1 t2 t3 HK2.2.2.1 HK2.2.2.2.1 sa sl sc sp x hx hnil hn (fun W b => hv W (hbd.trans b)))
            have HB := hide (Two.start3 (S := fun W => W.cell? ⟨ob, 2, none⟩ = some (.int .u64 (ep : Nat)) ∧ W.cell? ⟨ob, 3, none⟩ = some (.int .u64 (t1 : Nat)) ∧ W.cell? ⟨ob, 4, none⟩ = some (.int .u64 (t2 : Nat)) ∧ W.cell? ⟨ob, 5, none⟩ = some (.int .u64 (t3 : Nat)) ∧ W.cell? ⟨ob, 6, none⟩ = some (.slice sa sl sc) ∧ W.cell? ⟨ob, 7, none⟩ = some (.int .i64 sp) ∧ W.cell? ⟨ob, 31, none⟩ = some (.slice ba bl bc)) (G := FX W5 pa pb) (hS := fun W b => HSC.out W (HBD.out.trans b.symm)) (hG := fun W d h b => HFX.out W (HBD.out.trans b.symm) ⟨d, h.symm⟩) hT.symm ep HK2.2.1 t1 t2 t3 HK2.2.2.1 HK2.2.2.2.1 sa sl sc sp x hx hnil hn (fun W b => hv W (hbd.trans b.symm)))
            clear hx hnil hn hv HK2 hep ht1 ht2 ht3 hsa hsl hsc hsp hba hbl hbc
            obtain ⟨e2, e3, e4, e5, e6, e7, e8⟩ := HSC.out WO.drew hbd
            obtain ⟨u2, u3, u4, u5, u6, u7, u8⟩ := HSC.out WO Bq2.refl
            clear HRW HXO HMG HBS HBB HK HHO HOE HRO HSO HIO HRD hT0 hb0 hdr hbd hT HSC HFX HBD
            subst k1
            go_upto_region 14 with fail
            go_region_held3 (fun W => W.cell? ⟨ob, 2, none⟩ = some (.int .u64 (ep : Nat)) ∧ W.cell? ⟨ob, 3, none⟩ = some (.int .u64 (t1 : Nat)) ∧ W.cell? ⟨ob, 4, none⟩ = some (.int .u64 (t2 : Nat)) ∧ W.cell? ⟨ob, 5, none⟩ = some (.int .u64 (t3 : Nat)) ∧ W.cell? ⟨ob, 6, none⟩ = some (.slice sa sl sc) ∧ W.cell? ⟨ob, 7, none⟩ = some (.int .i64 sp) ∧ W.cell? ⟨ob, 31, none⟩ = some (.slice ba bl bc))
              (first | exact ⟨e2, e3, e4, e5, e6, e7, e8⟩ | exact ⟨v2, v3, v4, v5, v6, v7, v8⟩ | exact ⟨y2, y3, y4, y5, y6, y7, y8⟩ | exact ⟨x2, x3, x4, x5, x6, x7, x8⟩)
              (first
                | (go_at_call 10; with_reducible refine HA.out.mono ?_; rintro e w7 ⟨r, rfl, ⟨v2, v3, v4, v5, v6, v7, v8⟩, HA2⟩)
                | (go_at_call 10; with_reducible refine HB.out.mono ?_; rintro e w7 ⟨r, rfl, ⟨v2, v3, v4, v5, v6, v7, v8⟩, HB2⟩)
                | (go_at_call 10; with_reducible refine HA2.out.mono ?_; rintro e w8 ⟨r2, rfl, ⟨y2, y3, y4, y5, y6, y7, y8⟩, HE1, HE2⟩)
                | (go_at_call 10; with_reducible refine HB2.out.mono ?_; rintro e w8 ⟨r2, rfl, ⟨y2, y3, y4, y5, y6, y7, y8⟩, HE1, HE2⟩)
                | (go_at_call 9; with_reducible refine HE1.out.mono ?_; rintro e w9 ⟨rfl, ⟨x2, x3, x4, x5, x6, x7, x8⟩, HK3⟩)
                | (go_at_call 9; with_reducible refine HE2.out.mono ?_; rintro e w9 ⟨rfl, ⟨x2, x3, x4, x5, x6, x7, x8⟩, HK3⟩))
            all_goals
              go_wp2_with fail
              go_meet
              case rel => go_light; exact HK3
          by_cases k2 : kd = 2
          · have g1 : (kd == 1) = false := by simp [k1]
            obtain ⟨⟨d, hT0⟩, hb0⟩ := HXO.out
            obtain ⟨sp, hsp⟩ : ∃ x, (O i).sp = x := ⟨_, rfl⟩
            have hfx : ∀ W, Bq2 pa pb WO W → W0.Since W0.heap.size W := fun W b => HZ.out.since W (hb0.trans b)
            have HN := HK.out.1
            have HAI := HK.out.2.2.2.2
            have HME : Hid (Calls Try.prog 11 #[.pointer (some ⟨tb, 0, none⟩), .agg OA] WO fun e vm => e = .returned (mgV (msgM (O i).m (O i).aim nd s0 L) (O i).va (O i).vc) ∧ ∃ (MA : Array Value) (Wm : World) (mb : Nat), Hid (mgV (msgM (O i).m (O i).aim nd s0 L) (O i).va (O i).vc = .agg MA) ∧ Hid (vm.heap.size = mb) ∧ Hid ((vm.alloc mgZ).there vm.heap.size 0 MA.size) ∧ Hid ((vm.alloc mgZ).setCells vm.heap.size 0 MA.toList = Wm) ∧ Hid ((Try.prog.info? 52).map (·.size) = some MA.size) ∧ Hid (MA.all (·.oneCell') = true) ∧
                Hid (Wm.heap[mb]? = some (.cells MA 52 (0, 0)) ∧ Wm.cell? ⟨ob, 7, none⟩ = some (.int .i64 sp)) ∧
                Hid (Calls Try.prog 12 #[.pointer (some ⟨pa.b, 0, none⟩), .agg MA, .int .i64 sp] Wm fun e w1 => ∃ r, e = .returned r ∧ Hid (w1.heap[mb]? = some (.cells MA 52 (0, 0)) ∧ w1.cell? ⟨ob, 7, none⟩ = some (.int .i64 sp)) ∧ Hid (Calls Try.prog 12 #[.pointer (some ⟨pb.b, 0, none⟩), .agg MA, .int .i64 sp] w1 fun e w2 => ∃ r2, e = .returned r2 ∧ Hid (w2.heap[mb]? = some (.cells MA 52 (0, 0)) ∧ w2.cell? ⟨ob, 7, none⟩ = some (.int .i64 sp)) ∧
                  Hid (Calls Try.prog 12 #[.pointer (some ⟨pb.b, 0, none⟩), .agg MA, .int .i64 sp] w2 fun e w3 => ∃ a c, e = .returned (.slice a 0 c) ∧ Hid (Calls Try.prog 9 #[r, r2] w3 fun e w4 => e = .returned (.bool true) ∧ Hid (FX W5 pa pb w4)))))) := by
              refine (message_any OA (HZ.out.t2 WO hb0) (HZ.out.t3 WO hb0) (HZ.out.t4 WO hb0) (HZ.out.ints WO hb0) HLN.out H17.out.1 H17.out.2 (m := (O i).m) (va := (O i).va) (vc := (O i).vc) (aim := (O i).aim) (fun j v h => by rw [HOE.out, List.getElem?_toArray]; exact oqL_m (O i) j v h) (by rw [HOE.out, List.getElem?_toArray]; exact oqL_t (O i) 0 (by decide)) HAI).mono fun e vm ⟨he, hsm⟩ => ?_
              obtain ⟨W', HW', rr, hh, z7, b7, o7, t7, q7⟩ := mg_stored (mgZ_row vm) (msgM (O i).m (O i).aim nd s0 L) (O i).va (O i).vc
              have s6 : vm.Since vm.heap.size (vm.alloc mgZ) := (World.Since.refl _ _).alloc (Nat.le_refl _) _
              have sv : vm.Since vm.heap.size W' := ⟨o7.trans s6.os, t7.trans s6.tape, q7.trans s6.output, by rw [z7]; exact s6.size, fun k hk => (b7 k (by omega)).trans (s6.block k hk)⟩
              have so : WO.Since WO.heap.size W' := hsm.trans (since_mono sv hsm.size)
              have hT : Two pa pb d W' := hT0.since so
              have hbo : Bq2 pa pb WO W' := Bq2.of_a (Bq.of_since so)
              have hrow : ∀ W, Bq2 pa pb W' W → W.heap[vm.heap.size]? = some (.cells (mgL (msgM (O i).m (O i).aim nd s0 L) (O i).va (O i).vc).toArray 52 (0, 0)) ∧ W.cell? ⟨ob, 7, none⟩ = some (.int .i64 sp) := fun W b => by
                obtain ⟨a1, a2, a3, a4, a5⟩ := (hT0.since hsm).a.lts
                obtain ⟨b1, b2, b3, b4, b5⟩ := (hT0.since hsm).b.lts
                have hz : vm.heap.size < W'.heap.size := by rw [z7]; simp
                refine ⟨(b.block vm.heap.size hz (by omega) (by omega) (by omega) (by omega) (by omega) (by omega) (by omega) (by omega)).trans hh, ?_⟩
                rw [← hsp]
                exact (HRW.out W (hbo.trans b)).cell (i := 7) (by decide)
              have hms : (mgL (msgM (O i).m (O i).aim nd s0 L) (O i).va (O i).vc).toArray.size = 22 := by rw [List.size_toArray, mgL_len]
              have hMn : MgN (msgM (O i).m (O i).aim nd s0 L) := msgM_n HN HLN.out H17.out.1 H3.out
              have hMa : ∀ W, Bq2 pa pb W' W → MgA W (msgM (O i).m (O i).aim nd s0 L) (O i).va (O i).vc := fun W b => msgM_a (HMG.out W (hbo.trans b))
              have q := Two.hear3 (S := fun W => W.heap[vm.heap.size]? = some (.cells (mgL (msgM (O i).m (O i).aim nd s0 L) (O i).va (O i).vc).toArray 52 (0, 0)) ∧ W.cell? ⟨ob, 7, none⟩ = some (.int .i64 sp)) (G := FX W5 pa pb) hMa hMn hT sp hrow (fun W d' h b => ⟨⟨d', h⟩, (hb0.trans hbo).trans b⟩)
              exact ⟨he, (mgL (msgM (O i).m (O i).aim nd s0 L) (O i).va (O i).vc).toArray, W', vm.heap.size, rfl, rfl, by show World.there _ _ _ _; rw [hms]; exact row_there (mgZ_row vm), HW', infoMgA _ _ _, mg_all _ _ _, hrow W' Bq2.refl, q⟩
            clear hfx HN HAI hT0 hb0 HRW HXO HMG HBS HBB HK HOE HRO HSO hsp
            subst k2
            go_upto_region 17 with fail
            refine wp_region_lit ?_
            refine wpList_plain rfl fun _ hK => op_run (.pointer (some ⟨tb, 0, none⟩)) (by kernel_rfl) (hK _ _ ?_)
            simp only [Act.put, List.setIfInBounds_toArray, List.set_cons_zero, List.set_cons_succ]
            refine wpList_load_row rfl 54 (.tmp 9) rfl ob rfl _ OA (0, 0) _ HHO.out Try.underlying54 rfl HIO.out ?_
            simp only [Act.put, List.setIfInBounds_toArray, List.set_cons_zero, List.set_cons_succ]
            refine wpList_plain rfl fun _ hK => op_call 11 #[.pointer (some ⟨tb, 0, none⟩), .agg OA] (by kernel_rfl) HME.out ?_
            rintro e vm ⟨rfl, MA, Wm, mb, HMA, Hmb, HTM, HWM, HIM, HAM, HHM, HHE⟩
            refine ⟨_, rfl, hK _ _ ?_⟩
            rw [HMA.out]
            simp only [Act.put, List.setIfInBounds_toArray, List.set_cons_zero, List.set_cons_succ]
            refine wpList_plain rfl fun _ hK => op_runW (w' := vm.alloc mgZ) (.pointer (some ⟨vm.heap.size, 0, none⟩)) (by kernel_rfl) (hK _ _ ?_)
            simp only [Act.put, List.setIfInBounds_toArray, List.set_cons_zero, List.set_cons_succ]
            refine wpList_store_mid rfl 52 (.tmp 10) (.tmp 102) rfl vm.heap.size 0 MA rfl rfl HTM.out HIM.out HAM.out ?_
            rw [HWM.out, Hmb.out]
            simp only [Act.put]
            clear hK HTM HWM HAM HME HMA Hmb HHO HIO
            obtain ⟨HQ0⟩ : Nonempty (Hid _) := ⟨HHM⟩
            go_upto_region 18 with fail
            refine wp_region_lit ?_
            refine wpList_plain rfl fun _ hK => op_run (.pointer (some ⟨pa.b, 0, none⟩)) (by kernel_rfl) (hK _ _ ?_)
            simp only [Act.put, List.setIfInBounds_toArray, List.set_cons_zero, List.set_cons_succ]
            obtain ⟨HHk, c7k⟩ := HQ0.out
            refine wpList_load_row rfl 52 (.tmp 10) rfl mb rfl _ MA (0, 0) _ HHk Try.underlying52 rfl HIM.out ?_
            simp only [Act.put, List.setIfInBounds_toArray, List.set_cons_zero, List.set_cons_succ]
            refine wpList_plain rfl fun _ hK => op_run (.pointer (some ⟨ob, 7, none⟩)) (by kernel_rfl) (hK _ _ ?_)
            simp only [Act.put, List.setIfInBounds_toArray, List.set_cons_zero, List.set_cons_succ]
            refine wpList_plain rfl fun _ hK => op_run (.int .i64 sp) (by go_simp) (hK _ _ ?_)
            simp only [Act.put, List.setIfInBounds_toArray, List.set_cons_zero, List.set_cons_succ]
            refine wpList_plain rfl fun _ hK => op_call 12 #[.pointer (some ⟨pa.b, 0, none⟩), .agg MA, .int .i64 sp] (by kernel_rfl) HHE.out ?_
            rintro e v1 ⟨r, rfl, HQ1, HH1⟩
            refine ⟨_, rfl, hK _ _ ?_⟩
            clear HHk c7k
            simp only [Act.put, List.setIfInBounds_toArray, List.set_cons_zero, List.set_cons_succ]
            refine wpList_plain rfl fun _ hK => op_run (r) (by kernel_rfl) (hK _ _ ?_)
            simp only [Act.put, List.setIfInBounds_toArray, List.set_cons_zero, List.set_cons_succ]
            clear hK HQ0 HHM HHE
            go_upto_region 19 with fail
            refine wp_region_lit ?_
            refine wpList_plain rfl fun _ hK => op_run (.pointer (some ⟨pb.b, 0, none⟩)) (by kernel_rfl) (hK _ _ ?_)
            simp only [Act.put, List.setIfInBounds_toArray, List.set_cons_zero, List.set_cons_succ]
            obtain ⟨HHk, c7k⟩ := HQ1.out
            refine wpList_load_row rfl 52 (.tmp 10) rfl mb rfl _ MA (0, 0) _ HHk Try.underlying52 rfl HIM.out ?_
            simp only [Act.put, List.setIfInBounds_toArray, List.set_cons_zero, List.set_cons_succ]
            refine wpList_plain rfl fun _ hK => op_run (.pointer (some ⟨ob, 7, none⟩)) (by kernel_rfl) (hK _ _ ?_)
            simp only [Act.put, List.setIfInBounds_toArray, List.set_cons_zero, List.set_cons_succ]
            refine wpList_plain rfl fun _ hK => op_run (.int .i64 sp) (by go_simp) (hK _ _ ?_)
            simp only [Act.put, List.setIfInBounds_toArray, List.set_cons_zero, List.set_cons_succ]
            refine wpList_plain rfl fun _ hK => op_call 12 #[.pointer (some ⟨pb.b, 0, none⟩), .agg MA, .int .i64 sp] (by kernel_rfl) HH1.out ?_
            rintro e v2 ⟨r2, rfl, HQ2, HH2⟩
            refine ⟨_, rfl, hK _ _ ?_⟩
            clear HHk c7k
            simp only [Act.put, List.setIfInBounds_toArray, List.set_cons_zero, List.set_cons_succ]
            refine wpList_plain rfl fun _ hK => op_run (r2) (by kernel_rfl) (hK _ _ ?_)
            simp only [Act.put, List.setIfInBounds_toArray, List.set_cons_zero, List.set_cons_succ]
            clear hK HQ1 HH1
            go_upto_region 20 with fail
            refine wp_region_lit ?_
            refine wpList_plain rfl fun _ hK => op_run (.pointer (some ⟨pb.b, 0, none⟩)) (by kernel_rfl) (hK _ _ ?_)
            simp only [Act.put, List.setIfInBounds_toArray, List.set_cons_zero, List.set_cons_succ]
            obtain ⟨HHk, c7k⟩ := HQ2.out
            refine wpList_load_row rfl 52 (.tmp 10) rfl mb rfl _ MA (0, 0) _ HHk Try.underlying52 rfl HIM.out ?_
            simp only [Act.put, List.setIfInBounds_toArray, List.set_cons_zero, List.set_cons_succ]
            refine wpList_plain rfl fun _ hK => op_run (.pointer (some ⟨ob, 7, none⟩)) (by kernel_rfl) (hK _ _ ?_)
            simp only [Act.put, List.setIfInBounds_toArray, List.set_cons_zero, List.set_cons_succ]
            refine wpList_plain rfl fun _ hK => op_run (.int .i64 sp) (by go_simp) (hK _ _ ?_)
            simp only [Act.put, List.setIfInBounds_toArray, List.set_cons_zero, List.set_cons_succ]
            refine wpList_plain rfl fun _ hK => op_call 12 #[.pointer (some ⟨pb.b, 0, none⟩), .agg MA, .int .i64 sp] (by kernel_rfl) HH2.out ?_
            rintro e v3 ⟨za, zc, rfl, HEQ⟩
            refine ⟨_, rfl, hK _ _ ?_⟩
            clear HHk c7k
            simp only [Act.put, List.setIfInBounds_toArray, List.set_cons_zero, List.set_cons_succ]
            refine wpList_plain rfl fun _ hK => op_run (.slice za 0 zc) (by kernel_rfl) (hK _ _ ?_)
            simp only [Act.put, List.setIfInBounds_toArray, List.set_cons_zero, List.set_cons_succ]
            clear hK HQ2 HH2 HIM
            go_wp2_with (go_at_call 9; refine HEQ.out.mono ?_; rintro e w9 ⟨rfl, HK3⟩)
            go_meet
            case rel => go_light; exact HK3
          by_cases k3 : kd = 3
          · have g1 : (kd == 1) = false := by simp [k1]
            have g2 : (kd == 2) = false := by simp [k2]
            have HRD := HRW.out
            obtain ⟨⟨d, hT0⟩, hb0⟩ := HXO.out
            have hdr : WO.Since WO.heap.size WO.drew := (World.Since.refl _ _).drew
            have hbd : Bq2 pa pb WO WO.drew := Bq2.of_a (Bq.of_since hdr)
            have hT := hT0.since hdr
            obtain ⟨ep, hep⟩ : ∃ x, (O i).ep = x := ⟨_, rfl⟩
            obtain ⟨t1, ht1⟩ : ∃ x, (O i).s1 = x := ⟨_, rfl⟩
            obtain ⟨t2, ht2⟩ : ∃ x, (O i).s2 = x := ⟨_, rfl⟩
            obtain ⟨t3, ht3⟩ : ∃ x, (O i).s3 = x := ⟨_, rfl⟩
            obtain ⟨sp, hsp⟩ : ∃ x, (O i).sp = x := ⟨_, rfl⟩
            obtain ⟨sa, hsa⟩ : ∃ x, (O i).sa = x := ⟨_, rfl⟩
            obtain ⟨sl, hsl⟩ : ∃ x, (O i).sl = x := ⟨_, rfl⟩
            obtain ⟨sc, hsc⟩ : ∃ x, (O i).sc = x := ⟨_, rfl⟩
            obtain ⟨ba, hba⟩ : ∃ x, (O i).ba = x := ⟨_, rfl⟩
            obtain ⟨bl, hbl⟩ : ∃ x, (O i).bl = x := ⟨_, rfl⟩
            obtain ⟨bc, hbc⟩ : ∃ x, (O i).bc = x := ⟨_, rfl⟩
            have HSC : Hid (∀ W, Bq2 pa pb WO W → W.cell? ⟨ob, 2, none⟩ = some (.int .u64 (ep : Nat)) ∧ W.cell? ⟨ob, 3, none⟩ = some (.int .u64 (t1 : Nat)) ∧ W.cell? ⟨ob, 4, none⟩ = some (.int .u64 (t2 : Nat)) ∧ W.cell? ⟨ob, 5, none⟩ = some (.int .u64 (t3 : Nat)) ∧ W.cell? ⟨ob, 6, none⟩ = some (.slice sa sl sc) ∧ W.cell? ⟨ob, 7, none⟩ = some (.int .i64 sp) ∧ W.cell? ⟨ob, 31, none⟩ = some (.slice ba bl bc)) := fun W b => by
              have hr := HRW.out W b
              refine ⟨?_, ?_, ?_, ?_, ?_, ?_, ?_⟩
              · rw [← hep]; exact hr.cell (i := 2) (by decide)
              · rw [← ht1]; exact hr.cell (i := 3) (by decide)
              · rw [← ht2]; exact hr.cell (i := 4) (by decide)
              · rw [← ht3]; exact hr.cell (i := 5) (by decide)
              · rw [← hsa, ← hsl, ← hsc]; exact hr.cell (i := 6) (by decide)
              · rw [← hsp]; exact hr.cell (i := 7) (by decide)
              · rw [← hba, ← hbl, ← hbc]
                have e := hr.cell (i := 31) (by decide)
                rw [e]
                have q := oqL_t (O i) 1 (by decide)
                simp only [List.getD, q]
                rfl
            have HFX : Hid (∀ W', Bq2 pa pb WO W' → (∃ d', Two pa pb d' W') → FX W5 pa pb W') := fun W' b h => ⟨h, HXO.out.2.trans b⟩

            rw [hba, hbl] at HBB
            obtain ⟨x, hx, hnil, hn, hv⟩ := HBB.out
            obtain ⟨bo, hpr⟩ := Two.prop3 (S := fun W => W.cell? ⟨ob, 2, none⟩ = some (.int .u64 (ep : Nat)) ∧ W.cell? ⟨ob, 3, none⟩ = some (.int .u64 (t1 : Nat)) ∧ W.cell? ⟨ob, 4, none⟩ = some (.int .u64 (t2 : Nat)) ∧ W.cell? ⟨ob, 5, none⟩ = some (.int .u64 (t3 : Nat)) ∧ W.cell? ⟨ob, 6, none⟩ = some (.slice sa sl sc) ∧ W.cell? ⟨ob, 7, none⟩ = some (.int .i64 sp) ∧ W.cell? ⟨ob, 31, none⟩ = some (.slice ba bl bc)) (G := FX W5 pa pb) hT0 ba bl bc sp x hx hnil hn hv (fun W b => HSC.out W b) (fun W d h b => HFX.out W b ⟨d, h⟩)
            have HA := hide hpr
            obtain ⟨u2, u3, u4, u5, u6, u7, u8⟩ := HSC.out WO Bq2.refl
            clear hx hnil hn hv hpr hep ht1 ht2 ht3 hsa hsl hsc hsp hba hbl hbc HRW HXO HMG HBS HBB HK HHO HOE HRO HSO HIO HRD hT0 hb0 hdr hbd hT HSC HFX
            subst k3
            have zb : (bo != bo) = false := by simp
            go_wp2_with (first
              | (go_at_call 13; with_reducible refine HA.out.mono ?_; rintro e w7 ⟨r, rfl, ⟨v2, v3, v4, v5, v6, v7, v8⟩, HA2⟩)
              | (go_at_call 13; with_reducible refine HA2.out.mono ?_; rintro e w8 ⟨r2, rfl, ⟨y2, y3, y4, y5, y6, y7, y8⟩, HE1⟩)
              | (go_at_call 9; with_reducible refine HE1.out.mono ?_; rintro e w9 ⟨rfl, HK3⟩))
            go_meet
            case rel => go_light; exact HK3
          by_cases k4 : kd = 4
          · have g1 : (kd == 1) = false := by simp [k1]
            have g2 : (kd == 2) = false := by simp [k2]
            have g3 : (kd == 3) = false := by simp [k3]
            have HRD := HRW.out
            obtain ⟨⟨d, hT0⟩, hb0⟩ := HXO.out
            have hdr : WO.Since WO.heap.size WO.drew := (World.Since.refl _ _).drew
            have hbd : Bq2 pa pb WO WO.drew := Bq2.of_a (Bq.of_since hdr)
            have hT := hT0.since hdr
            obtain ⟨ep, hep⟩ : ∃ x, (O i).ep = x := ⟨_, rfl⟩
            obtain ⟨t1, ht1⟩ : ∃ x, (O i).s1 = x := ⟨_, rfl⟩
            obtain ⟨t2, ht2⟩ : ∃ x, (O i).s2 = x := ⟨_, rfl⟩
            obtain ⟨t3, ht3⟩ : ∃ x, (O i).s3 = x := ⟨_, rfl⟩
            obtain ⟨sp, hsp⟩ : ∃ x, (O i).sp = x := ⟨_, rfl⟩
            obtain ⟨sa, hsa⟩ : ∃ x, (O i).sa = x := ⟨_, rfl⟩
            obtain ⟨sl, hsl⟩ : ∃ x, (O i).sl = x := ⟨_, rfl⟩
            obtain ⟨sc, hsc⟩ : ∃ x, (O i).sc = x := ⟨_, rfl⟩
            obtain ⟨ba, hba⟩ : ∃ x, (O i).ba = x := ⟨_, rfl⟩
            obtain ⟨bl, hbl⟩ : ∃ x, (O i).bl = x := ⟨_, rfl⟩
            obtain ⟨bc, hbc⟩ : ∃ x, (O i).bc = x := ⟨_, rfl⟩
            have HSC : Hid (∀ W, Bq2 pa pb WO W → W.cell? ⟨ob, 2, none⟩ = some (.int .u64 (ep : Nat)) ∧ W.cell? ⟨ob, 3, none⟩ = some (.int .u64 (t1 : Nat)) ∧ W.cell? ⟨ob, 4, none⟩ = some (.int .u64 (t2 : Nat)) ∧ W.cell? ⟨ob, 5, none⟩ = some (.int .u64 (t3 : Nat)) ∧ W.cell? ⟨ob, 6, none⟩ = some (.slice sa sl sc) ∧ W.cell? ⟨ob, 7, none⟩ = some (.int .i64 sp) ∧ W.cell? ⟨ob, 31, none⟩ = some (.slice ba bl bc)) := fun W b => by
              have hr := HRW.out W b
              refine ⟨?_, ?_, ?_, ?_, ?_, ?_, ?_⟩
              · rw [← hep]; exact hr.cell (i := 2) (by decide)
              · rw [← ht1]; exact hr.cell (i := 3) (by decide)
              · rw [← ht2]; exact hr.cell (i := 4) (by decide)
              · rw [← ht3]; exact hr.cell (i := 5) (by decide)
              · rw [← hsa, ← hsl, ← hsc]; exact hr.cell (i := 6) (by decide)
              · rw [← hsp]; exact hr.cell (i := 7) (by decide)
              · rw [← hba, ← hbl, ← hbc]
                have e := hr.cell (i := 31) (by decide)
                rw [e]
                have q := oqL_t (O i) 1 (by decide)
                simp only [List.getD, q]
                rfl
            have HFX : Hid (∀ W', Bq2 pa pb WO W' → (∃ d', Two pa pb d' W') → FX W5 pa pb W') := fun W' b h => ⟨h, HXO.out.2.trans b⟩
            have HBD := hide hbd
            have HA := hide (Two.tick3 (S := fun W => W.cell? ⟨ob, 2, none⟩ = some (.int .u64 (ep : Nat)) ∧ W.cell? ⟨ob, 3, none⟩ = some (.int .u64 (t1 : Nat)) ∧ W.cell? ⟨ob, 4, none⟩ = some (.int .u64 (t2 : Nat)) ∧ W.cell? ⟨ob, 5, none⟩ = some (.int .u64 (t3 : Nat)) ∧ W.cell? ⟨ob, 6, none⟩ = some (.slice sa sl sc) ∧ W.cell? ⟨ob, 7, none⟩ = some (.int .i64 sp) ∧ W.cell? ⟨ob, 31, none⟩ = some (.slice ba bl bc)) (G := FX W5 pa pb) (hS := fun W b => HSC.out W (HBD.out.trans b)) (hG := fun W d h b => HFX.out W (HBD.out.trans b) ⟨d, h⟩) hT sp)
            have HB := hide (Two.tick3 (S := fun W => W.cell? ⟨ob, 2, none⟩ = some (.int .u64 (ep : Nat)) ∧ W.cell? ⟨ob, 3, none⟩ = some (.int .u64 (t1 : Nat)) ∧ W.cell? ⟨ob, 4, none⟩ = some (.int .u64 (t2 : Nat)) ∧ W.cell? ⟨ob, 5, none⟩ = some (.int .u64 (t3 : Nat)) ∧ W.cell? ⟨ob, 6, none⟩ = some (.slice sa sl sc) ∧ W.cell? ⟨ob, 7, none⟩ = some (.int .i64 sp) ∧ W.cell? ⟨ob, 31, none⟩ = some (.slice ba bl bc)) (G := FX W5 pa pb) (hS := fun W b => HSC.out W (HBD.out.trans b.symm)) (hG := fun W d h b => HFX.out W (HBD.out.trans b.symm) ⟨d, h.symm⟩) hT.symm sp)
            clear hep ht1 ht2 ht3 hsa hsl hsc hsp hba hbl hbc
            obtain ⟨e2, e3, e4, e5, e6, e7, e8⟩ := HSC.out WO.drew hbd
            obtain ⟨u2, u3, u4, u5, u6, u7, u8⟩ := HSC.out WO Bq2.refl
            clear HRW HXO HMG HBS HBB HK HHO HOE HRO HSO HIO HRD hT0 hb0 hdr hbd hT HSC HFX HBD
            subst k4
            go_upto_region 29 with fail
            go_region_held3 (fun W => W.cell? ⟨ob, 2, none⟩ = some (.int .u64 (ep : Nat)) ∧ W.cell? ⟨ob, 3, none⟩ = some (.int .u64 (t1 : Nat)) ∧ W.cell? ⟨ob, 4, none⟩ = some (.int .u64 (t2 : Nat)) ∧ W.cell? ⟨ob, 5, none⟩ = some (.int .u64 (t3 : Nat)) ∧ W.cell? ⟨ob, 6, none⟩ = some (.slice sa sl sc) ∧ W.cell? ⟨ob, 7, none⟩ = some (.int .i64 sp) ∧ W.cell? ⟨ob, 31, none⟩ = some (.slice ba bl bc))
              (first | exact ⟨e2, e3, e4, e5, e6, e7, e8⟩ | exact ⟨v2, v3, v4, v5, v6, v7, v8⟩ | exact ⟨y2, y3, y4, y5, y6, y7, y8⟩ | exact ⟨x2, x3, x4, x5, x6, x7, x8⟩)
              (first
                | (go_at_call 14; with_reducible refine HA.out.mono ?_; rintro e w7 ⟨r, rfl, ⟨v2, v3, v4, v5, v6, v7, v8⟩, HA2⟩)
                | (go_at_call 14; with_reducible refine HB.out.mono ?_; rintro e w7 ⟨r, rfl, ⟨v2, v3, v4, v5, v6, v7, v8⟩, HB2⟩)
                | (go_at_call 14; with_reducible refine HA2.out.mono ?_; rintro e w8 ⟨r2, rfl, ⟨y2, y3, y4, y5, y6, y7, y8⟩, HE1, HE2⟩)
                | (go_at_call 14; with_reducible refine HB2.out.mono ?_; rintro e w8 ⟨r2, rfl, ⟨y2, y3, y4, y5, y6, y7, y8⟩, HE1, HE2⟩)
                | (go_at_call 9; with_reducible refine HE1.out.mono ?_; rintro e w9 ⟨rfl, ⟨x2, x3, x4, x5, x6, x7, x8⟩, HK3⟩)
                | (go_at_call 9; with_reducible refine HE2.out.mono ?_; rintro e w9 ⟨rfl, ⟨x2, x3, x4, x5, x6, x7, x8⟩, HK3⟩))
            all_goals
              go_wp2_with fail
              go_meet
              case rel => go_light; exact HK3
          by_cases k5 : kd = 5
          · have g1 : (kd == 1) = false := by simp [k1]
            have g2 : (kd == 2) = false := by simp [k2]
            have g3 : (kd == 3) = false := by simp [k3]
            have g4 : (kd == 4) = false := by simp [k4]
            have HA := hide (HXO.out.stop)
            clear HRW HXO HMG HBS HBB HK HHO HOE HRO HSO HIO
            subst k5
            go_wp2_with (first
              | (go_at_call 15; with_reducible refine HA.out.mono ?_; rintro e w7 ⟨rfl, HA2⟩)
              | (go_at_call 15; with_reducible refine HA2.out.mono ?_; rintro e w8 ⟨rfl, HK3⟩))
            go_meet
            case rel => go_light; exact HK3
          · have g1 : (kd == 1) = false := by simp [k1]
            have g2 : (kd == 2) = false := by simp [k2]
            have g3 : (kd == 3) = false := by simp [k3]
            have g4 : (kd == 4) = false := by simp [k4]
            have g5 : (kd == 5) = false := by simp [k5]
            clear HRW HMG HBS HBB HK HHO HOE HRO HSO HIO
            go_wp2_with fail
            go_meet
            case rel => go_light; exact HXO
      case rest =>
        as_aux_lemma =>
          have HF := hcut
          have HLI := hide (HF.out.like)
          clear HF hcut
          go_wp2_with (go_at_call 16; refine HLI.out.mono ?_; rintro e w9 ⟨rfl, HY⟩)
          go_roundg (on - (i + 1))
          case measure => go_light; exact hme
          case rel => go_light; exact ⟨i + 1, HI1.out.1, HI1.out.2, rfl, by simp, HY⟩
    · have HE : Hid (w.Since w.heap.size wr) := HFN.out wr hsi
      have c6 := HC6.out wr hsi
      by_cases hin : (i : Int) < (on : Int)
      · have hin2 : ¬ ((i : Int) < 600) := by omega
        clear hlt hi hi6
        go_wp2_with fail
        go_ret
        exact ⟨rfl, HE.out⟩
      · clear hlt hi hi6
        go_wp2_with fail
        go_ret
        exact ⟨rfl, HE.out⟩
end Go.Proofs.Ytkcjmjaikobpoaa

/- What QuorumOnce is handed, read out of memory. -/
namespace Go.Proofs.Ytkcjmjaikobpoaa
open Go.ChangeShapes Go.WideShapes Go.ChangeAt Go.RowKit Go.Deep Go.Joins
set_option maxRecDepth 100000
set_option maxRecDepth 100000

structure Mg.wf (m : Mg) : Prop where
  n : ∀ c, c = 10 ∨ c = 13 ∨ c = 14 ∨ 22 ≤ c → m.n c = 0
  s : ∀ c, c ≠ 10 → c ≠ 13 → c ≠ 14 → m.s c = []
theorem own : ownKnob Try.prog.godebug = none := by kernel_rfl
theorem laidOut : laidOutB Try.prog = true := by kernel_rfl
theorem cellsI : Try.prog.cellsOf 3 = 1 := by kernel_rfl
theorem cellsU : Try.prog.cellsOf 40 = 1 := by kernel_rfl
theorem cells8 : Try.prog.cellsOf 5 = 1 := by kernel_rfl
theorem cellsB : Try.prog.cellsOf 43 = 1 := by kernel_rfl
theorem cellsS : Try.prog.cellsOf 9 = 1 := by kernel_rfl
theorem cellsH : Try.prog.cellsOf 47 = 4 := by kernel_rfl
theorem cellsT : Try.prog.cellsOf 42 = 2 := by kernel_rfl
theorem cellsC : Try.prog.cellsOf 49 = 2 := by kernel_rfl
theorem cellsE : Try.prog.cellsOf 50 = 1 := by kernel_rfl
theorem cellsM : Try.prog.cellsOf 52 = 22 := by kernel_rfl
theorem bytes8 : Try.prog.bytesOf 5 = 1 := by kernel_rfl
theorem reach_eq : reachBytes = 140737488351232 := rfl
theorem add_at (b o : Nat) (r : Nat) : (⟨b, o, none⟩ : Addr).add r = ⟨b, o + r, none⟩ := by simp [Addr.add]
theorem byte_of {n : Int} (h : (Lit.int .u8 n).wf = true) : ∃ m : Nat, n = m ∧ m < 256 := by
  have := bounds_u8 h
  exact ⟨n.toNat, by omega, by omega⟩
def Fits {H : Type} (t : TypeId) (d : DataW H) : Prop := ∀ n, n ∈ d.weights Try.prog t → n ≤ reachBytes
theorem fits_of_each {H : Type} {ts : List TypeId} {ds : List (DataW H)} (h : ∀ n, n ∈ DataW.weightsEach Try.prog ts ds → n ≤ reachBytes) {j : Nat} {t : TypeId} {d : DataW H} (ht : ts[j]? = some t) (hd : ds[j]? = some d) : Fits t d :=
  fun n hn => h n (DataW.weights_mem_each ht hd n hn)
theorem each_of_all {H : Type} {ts : List TypeId} {ds : List (DataW H)} (h : (DataW.weightsEach Try.prog ts ds).all (· ≤ reachBytes) = true) : ∀ n, n ∈ DataW.weightsEach Try.prog ts ds → n ≤ reachBytes :=
  fun n hn => of_decide_eq_true (List.all_eq_true.1 h n hn)
theorem weightsAll_mem {H : Type} {P : Program} {e : TypeId} : ∀ {l : List (DataW H)} {d : DataW H}, d ∈ l → ∀ n ∈ d.weights P e, n ∈ DataW.weightsAll P e l
  | d' :: r, d, hd, n, hn => by
    simp only [DataW.weightsAll, List.mem_append]
    rcases List.mem_cons.1 hd with rfl | h
    · exact Or.inl hn
    · exact Or.inr (weightsAll_mem h n hn)
theorem open_bytes {H : Type} {enc : TypeId × Value → H} {W : World} {fuel : Nat} {v : Value} {y : DataW H × List MemPlace} (h : DataW.trod enc Try.prog W 0 (fun _ => true) true fuel 43 [v] = some y) (hf : Fits 43 y.1) :
    ∃ (a : Option Addr) (len cap : Nat) (z : Nat → Nat), v = .slice a len cap ∧ len ≤ cap ∧ cap ≤ 140737488351232 ∧ (∀ j, z j < 256) ∧ Byt W a cap z ∧ (a = none → len = 0 ∧ cap = 0) := by
  rcases open_ints Try.underlying43 Try.underlying5 cells8 h with ⟨hcs, _⟩ | ⟨a, len, cap, zs, hcs, _, hl, hm, hz, hx, hcell, hwf⟩
  · exact ⟨none, 0, 0, fun _ => 0, by simpa using hcs, Nat.le_refl _, by omega, fun _ => by show 0 < 256; decide, fun j hj => absurd hj (Nat.not_lt_zero _), fun _ => ⟨rfl, rfl⟩⟩
  · simp only [if_true] at hz
    refine ⟨some a, len, cap, fun j => (zs.getD j 0).toNat % 256, by simpa using hcs, hl, ?_, fun j => Nat.mod_lt _ (by decide), fun j hj => ?_, fun e => by cases e⟩
    · have hw := hf ((lits .u8 (zs.take len) : List (DataW H)).length + (lits .u8 (zs.drop len) : List (DataW H)).length) (by rw [hx]; simp [DataW.weights, Try.underlying43, bytes8])
      simp only [lits, List.length_map, List.length_take, List.length_drop, reach_eq] at hw
      omega
    · obtain ⟨b, off, sp⟩ := a
      have h5 := hcell j (by omega)
      obtain rfl : sp = none := by simpa [Addr.add] using World.cell?_spot (hcell 0 (by omega))
      rw [add_at] at h5
      refine ⟨b, off, rfl, ?_⟩
      have hmem : zs.getD j 0 ∈ zs := by
        rw [List.getD_eq_getElem?_getD, List.getElem?_eq_getElem (by omega)]; exact List.getElem_mem _
      obtain ⟨m, hm1, hm2⟩ := byte_of (hwf _ hmem)
      show W.cell? _ = some (.int .u8 (((zs.getD j 0).toNat % 256 : Nat) : Int))
      rw [hm1] at h5 ⊢
      rw [Int.toNat_natCast, Nat.mod_eq_of_lt hm2]
      exact h5
/-- Whole numbers as they lie in a message. -/
def Mg.int (m : Mg) : Prop := (∀ c, isU c = true → 0 ≤ m.n c ∧ m.n c < 18446744073709551616) ∧ ∀ c, -9223372036854775808 ≤ m.n c ∧ (isU c = false → m.n c < 9223372036854775808)
set_option maxHeartbeats 4000000 in
/-- A message that is handed in. -/
theorem open_msg {H : Type} {enc : TypeId × Value → H} {W : World} {fuel : Nat} {cs : List Value} {y : DataW H × List MemPlace} (h : DataW.trod enc Try.prog W 0 (fun _ => true) true fuel 52 cs = some y) (hf : Fits 52 y.1) :
    ∃ (m : Mg) (va : Option Addr) (vc : Nat), cs = mgL m va vc ∧ MgA W m va vc ∧ m.wf ∧ m.int ∧ (m.s 10).length ≤ vc ∧ vc ≤ 140737488351232 := by
  obtain ⟨xs, m, _, hx, hcl, hlen, hfs⟩ := DataW.trod_struct Try.underlying52 h
  rw [cellsM] at hcl
  obtain ⟨v0, v1, v2, v3, v4, v5, v6, v7, v8, v9, v10, v11, v12, v13, v14, v15, v16, v17, v18, v19, v20, v21, rfl⟩ : ∃ v0 v1 v2 v3 v4 v5 v6 v7 v8 v9 v10 v11 v12 v13 v14 v15 v16 v17 v18 v19 v20 v21, cs = [v0, v1, v2, v3, v4, v5, v6, v7, v8, v9, v10, v11, v12, v13, v14, v15, v16, v17, v18, v19, v20, v21] := by
    match cs, hcl with
    | [v0, v1, v2, v3, v4, v5, v6, v7, v8, v9, v10, v11, v12, v13, v14, v15, v16, v17, v18, v19, v20, v21], _ => exact ⟨v0, v1, v2, v3, v4, v5, v6, v7, v8, v9, v10, v11, v12, v13, v14, v15, v16, v17, v18, v19, v20, v21, rfl⟩
  obtain ⟨y0, y1, y2, y3, y4, y5, y6, y7, y8, y9, y10, y11, y12, y13, y14, y15, y16, rfl⟩ : ∃ y0 y1 y2 y3 y4 y5 y6 y7 y8 y9 y10 y11 y12 y13 y14 y15 y16, xs = [y0, y1, y2, y3, y4, y5, y6, y7, y8, y9, y10, y11, y12, y13, y14, y15, y16] := by
    match xs, hlen with
    | [y0, y1, y2, y3, y4, y5, y6, y7, y8, y9, y10, y11, y12, y13, y14, y15, y16], _ => exact ⟨y0, y1, y2, y3, y4, y5, y6, y7, y8, y9, y10, y11, y12, y13, y14, y15, y16, rfl⟩
  have f0 := hfs 0 _ rfl
  have f1 := hfs 1 _ rfl
  have f2 := hfs 2 _ rfl
  have f3 := hfs 3 _ rfl
  have f4 := hfs 4 _ rfl
  have f5 := hfs 5 _ rfl
  have f6 := hfs 6 _ rfl
  have f7 := hfs 7 _ rfl
  have f8 := hfs 8 _ rfl
  have f9 := hfs 9 _ rfl
  have f10 := hfs 10 _ rfl
  have f11 := hfs 11 _ rfl
  have f12 := hfs 12 _ rfl
  have f13 := hfs 13 _ rfl
  have f14 := hfs 14 _ rfl
  have f15 := hfs 15 _ rfl
  have f16 := hfs 16 _ rfl
  simp [cellsH] at f0
  simp [cellsU] at f1
  simp [cellsT] at f2
  simp [cellsU] at f3
  simp [cellsI] at f4
  simp [cellsU] at f5
  simp [cellsB] at f6
  simp [cellsI] at f7
  simp [cellsU] at f8
  simp [cellsS] at f9
  simp [cellsS] at f10
  simp [cellsU] at f11
  simp [cellsC] at f12
  simp [cellsI] at f13
  simp [cellsI] at f14
  simp [cellsI] at f15
  simp [cellsE] at f16
  obtain ⟨xs0, n0, _, _, _, hl0, hg0⟩ := DataW.trod_struct Try.underlying47 f0
  obtain ⟨q0, q1, q2, q3, rfl⟩ : ∃ q0 q1 q2 q3, xs0 = [q0, q1, q2, q3] := by
    match xs0, hl0 with
    | [a, b, c, d], _ => exact ⟨a, b, c, d, rfl⟩
  have g0 := hg0 0 _ rfl
  simp [cellsI] at g0
  obtain ⟨k0, e0, _, w0⟩ := DataW.trod_int Try.underlying3 g0
  obtain rfl : v0 = .int .i64 k0 := by simpa using e0
  have g1 := hg0 1 _ rfl
  simp [cellsI] at g1
  obtain ⟨k1, e1, _, w1⟩ := DataW.trod_int Try.underlying3 g1
  obtain rfl : v1 = .int .i64 k1 := by simpa using e1
  have g2 := hg0 2 _ rfl
  simp [cellsI] at g2
  obtain ⟨k2, e2, _, w2⟩ := DataW.trod_int Try.underlying3 g2
  obtain rfl : v2 = .int .i64 k2 := by simpa using e2
  have g3 := hg0 3 _ rfl
  simp [cellsI] at g3
  obtain ⟨k3, e3, _, w3⟩ := DataW.trod_int Try.underlying3 g3
  obtain rfl : v3 = .int .i64 k3 := by simpa using e3
  obtain ⟨k4, e4, _, w4⟩ := DataW.trod_int Try.underlying40 f1
  obtain rfl : v4 = .int .u64 k4 := by simpa using e4
  obtain ⟨xs2, n2, _, _, _, hl2, hg2⟩ := DataW.trod_struct Try.underlying42 f2
  obtain ⟨q5, q6, rfl⟩ : ∃ q5 q6, xs2 = [q5, q6] := by
    match xs2, hl2 with
    | [a, b], _ => exact ⟨a, b, rfl⟩
  have g5 := hg2 0 _ rfl
  simp [cellsU] at g5
  obtain ⟨k5, e5, _, w5⟩ := DataW.trod_int Try.underlying40 g5
  obtain rfl : v5 = .int .u64 k5 := by simpa using e5
  have g6 := hg2 1 _ rfl
  simp [cellsU] at g6
  obtain ⟨k6, e6, _, w6⟩ := DataW.trod_int Try.underlying40 g6
  obtain rfl : v6 = .int .u64 k6 := by simpa using e6
  obtain ⟨k7, e7, _, w7⟩ := DataW.trod_int Try.underlying40 f3
  obtain rfl : v7 = .int .u64 k7 := by simpa using e7
  obtain ⟨k8, e8, _, w8⟩ := DataW.trod_int Try.underlying3 f4
  obtain rfl : v8 = .int .i64 k8 := by simpa using e8
  obtain ⟨k9, e9, _, w9⟩ := DataW.trod_int Try.underlying40 f5
  obtain rfl : v9 = .int .u64 k9 := by simpa using e9
  have hfit : Fits 43 y6.1 := fun n hn => hf n (by
    rw [hx]
    simp only [DataW.weights, Try.underlying52]
    exact DataW.weights_mem_each (j := 6) rfl rfl n hn)
  obtain ⟨a, len, cap, z, rfl, hl, hcap, hz, hb, hn⟩ := open_bytes f6 hfit
  obtain ⟨k11, e11, _, w11⟩ := DataW.trod_int Try.underlying3 f7
  obtain rfl : v11 = .int .i64 k11 := by simpa using e11
  obtain ⟨k12, e12, _, w12⟩ := DataW.trod_int Try.underlying40 f8
  obtain rfl : v12 = .int .u64 k12 := by simpa using e12
  obtain ⟨s13, e13, hy13, _⟩ := DataW.trod_string Try.underlying9 f9
  obtain rfl : v13 = .string s13 := by simpa using e13
  have hs13 : s13.size ≤ 140737488351232 := by
    have := hf s13.data.toList.length (by
      rw [hx]
      simp only [DataW.weights, Try.underlying52]
      exact DataW.weights_mem_each (j := 9) rfl rfl _ (by rw [hy13]; simp [DataW.weights]))
    rw [Array.length_toList] at this
    exact this
  obtain ⟨s14, e14, hy14, _⟩ := DataW.trod_string Try.underlying9 f10
  obtain rfl : v14 = .string s14 := by simpa using e14
  have hs14 : s14.size ≤ 140737488351232 := by
    have := hf s14.data.toList.length (by
      rw [hx]
      simp only [DataW.weights, Try.underlying52]
      exact DataW.weights_mem_each (j := 10) rfl rfl _ (by rw [hy14]; simp [DataW.weights]))
    rw [Array.length_toList] at this
    exact this
  obtain ⟨k15, e15, _, w15⟩ := DataW.trod_int Try.underlying40 f11
  obtain rfl : v15 = .int .u64 k15 := by simpa using e15
  obtain ⟨xs12, n12, _, _, _, hl12, hg12⟩ := DataW.trod_struct Try.underlying49 f12
  obtain ⟨q16, q17, rfl⟩ : ∃ q16 q17, xs12 = [q16, q17] := by
    match xs12, hl12 with
    | [a, b], _ => exact ⟨a, b, rfl⟩
  have g16 := hg12 0 _ rfl
  simp [cellsU] at g16
  obtain ⟨k16, e16, _, w16⟩ := DataW.trod_int Try.underlying40 g16
  obtain rfl : v16 = .int .u64 k16 := by simpa using e16
  have g17 := hg12 1 _ rfl
  simp [cellsU] at g17
  obtain ⟨k17, e17, _, w17⟩ := DataW.trod_int Try.underlying40 g17
  obtain rfl : v17 = .int .u64 k17 := by simpa using e17
  obtain ⟨k18, e18, _, w18⟩ := DataW.trod_int Try.underlying3 f13
  obtain rfl : v18 = .int .i64 k18 := by simpa using e18
  obtain ⟨k19, e19, _, w19⟩ := DataW.trod_int Try.underlying3 f14
  obtain rfl : v19 = .int .i64 k19 := by simpa using e19
  obtain ⟨k20, e20, _, w20⟩ := DataW.trod_int Try.underlying3 f15
  obtain rfl : v20 = .int .i64 k20 := by simpa using e20
  obtain ⟨k21, e21, _, w21⟩ := DataW.trod_int Try.underlying50 f16
  obtain rfl : v21 = .int .i64 k21 := by simpa using e21
  refine ⟨⟨fun c => if c = 0 then k0 else if c = 1 then k1 else if c = 2 then k2 else if c = 3 then k3 else if c = 4 then k4 else if c = 5 then k5 else if c = 6 then k6 else if c = 7 then k7 else if c = 8 then k8 else if c = 9 then k9 else if c = 11 then k11 else if c = 12 then k12 else if c = 15 then k15 else if c = 16 then k16 else if c = 17 then k17 else if c = 18 then k18 else if c = 19 then k19 else if c = 20 then k20 else if c = 21 then k21 else 0, fun c => if c = 10 then (List.range len).map z else if c = 13 then listS s13 else if c = 14 then listS s14 else []⟩, a, cap, ?_, ⟨?_, ?_, ?_, ?_, ?_⟩, ?_, ?_, ?_, hcap⟩
  · have e10 : ((List.range len).map z).length = len := by simp
    show _ = ([.int .i64 k0, .int .i64 k1, .int .i64 k2, .int .i64 k3, .int .u64 k4, .int .u64 k5, .int .u64 k6, .int .u64 k7, .int .i64 k8, .int .u64 k9, .slice a ((List.range len).map z).length cap, .int .i64 k11, .int .u64 k12, .string (strL (listS s13)), .string (strL (listS s14)), .int .u64 k15, .int .u64 k16, .int .u64 k17, .int .i64 k18, .int .i64 k19, .int .i64 k20, .int .i64 k21] : List Value)
    rw [e10, strL_listS, strL_listS]
  · show Byt W a ((List.range len).map z).length (fun j => ((List.range len).map z).getD j 0)
    rw [List.length_map, List.length_range]
    intro j hj
    obtain ⟨b, o, e, hc⟩ := hb j (by omega)
    refine ⟨b, o, e, ?_⟩
    show W.cell? _ = some (.int .u8 ((((List.range len).map z).getD j 0 : Nat) : Int))
    rw [getD_range_map z len j hj]
    exact hc
  · intro e
    show ((List.range len).map z).length = 0 ∧ cap = 0
    rw [List.length_map, List.length_range]
    exact hn e
  · intro q e h0
    have h0 : 0 < ((List.range len).map z).length := h0
    rw [List.length_map, List.length_range] at h0
    obtain ⟨b, o, e2, hc⟩ := hb 0 (by omega)
    rw [e2] at e
    obtain rfl := Option.some.inj e
    exact World.block_lt_of_cell? _ _ hc
  · intro c
    show (if c = 10 then (List.range len).map z else if c = 13 then listS s13 else if c = 14 then listS s14 else []).length ≤ _
    split
    · rw [List.length_map, List.length_range]; omega
    · split
      · rw [listS_len]; exact hs13
      · split
        · rw [listS_len]; exact hs14
        · exact Nat.zero_le _
  · intro c v hv
    have hv : v ∈ (if c = 10 then (List.range len).map z else if c = 13 then listS s13 else if c = 14 then listS s14 else []) := hv
    split at hv
    · obtain ⟨j, _, rfl⟩ := List.mem_map.1 hv
      exact hz j
    · split at hv
      · exact listS_byte s13 v hv
      · split at hv
        · exact listS_byte s14 v hv
        · exact absurd hv (List.not_mem_nil)
  · refine ⟨fun c hc => ?_, fun c c1 c2 c3 => ?_⟩
    · show (if c = 0 then k0 else if c = 1 then k1 else if c = 2 then k2 else if c = 3 then k3 else if c = 4 then k4 else if c = 5 then k5 else if c = 6 then k6 else if c = 7 then k7 else if c = 8 then k8 else if c = 9 then k9 else if c = 11 then k11 else if c = 12 then k12 else if c = 15 then k15 else if c = 16 then k16 else if c = 17 then k17 else if c = 18 then k18 else if c = 19 then k19 else if c = 20 then k20 else if c = 21 then k21 else 0) = (0 : Int)
      rw [if_neg (by omega)]; rw [if_neg (by omega)]; rw [if_neg (by omega)]; rw [if_neg (by omega)]; rw [if_neg (by omega)]; rw [if_neg (by omega)]; rw [if_neg (by omega)]; rw [if_neg (by omega)]; rw [if_neg (by omega)]; rw [if_neg (by omega)]; rw [if_neg (by omega)]; rw [if_neg (by omega)]; rw [if_neg (by omega)]; rw [if_neg (by omega)]; rw [if_neg (by omega)]; rw [if_neg (by omega)]; rw [if_neg (by omega)]; rw [if_neg (by omega)]; rw [if_neg (by omega)]
    · show (if c = 10 then (List.range len).map z else if c = 13 then listS s13 else if c = 14 then listS s14 else []) = []
      rw [if_neg c1, if_neg c2, if_neg c3]
  · have b0 : ∀ {n : Int}, (Lit.int .i64 n).wf = true → -9223372036854775808 ≤ n ∧ n < 9223372036854775808 := fun h => by have := bounds_i64 h; omega
    have b1 : ∀ {n : Int}, (Lit.int .u64 n).wf = true → 0 ≤ n ∧ n < 18446744073709551616 := fun h => by have := bounds_u64 h; omega
    have r0 := b0 w0
    have r1 := b0 w1
    have r2 := b0 w2
    have r3 := b0 w3
    have r4 := b1 w4
    have r5 := b1 w5
    have r6 := b1 w6
    have r7 := b1 w7
    have r8 := b0 w8
    have r9 := b1 w9
    have r11 := b0 w11
    have r12 := b1 w12
    have r15 := b1 w15
    have r16 := b1 w16
    have r17 := b1 w17
    have r18 := b0 w18
    have r19 := b0 w19
    have r20 := b0 w20
    have r21 := b0 w21
    have hall : ∀ c, (isU c = true → 0 ≤ (if c = 0 then k0 else if c = 1 then k1 else if c = 2 then k2 else if c = 3 then k3 else if c = 4 then k4 else if c = 5 then k5 else if c = 6 then k6 else if c = 7 then k7 else if c = 8 then k8 else if c = 9 then k9 else if c = 11 then k11 else if c = 12 then k12 else if c = 15 then k15 else if c = 16 then k16 else if c = 17 then k17 else if c = 18 then k18 else if c = 19 then k19 else if c = 20 then k20 else if c = 21 then k21 else 0) ∧ (if c = 0 then k0 else if c = 1 then k1 else if c = 2 then k2 else if c = 3 then k3 else if c = 4 then k4 else if c = 5 then k5 else if c = 6 then k6 else if c = 7 then k7 else if c = 8 then k8 else if c = 9 then k9 else if c = 11 then k11 else if c = 12 then k12 else if c = 15 then k15 else if c = 16 then k16 else if c = 17 then k17 else if c = 18 then k18 else if c = 19 then k19 else if c = 20 then k20 else if c = 21 then k21 else 0) < (18446744073709551616 : Int)) ∧ -9223372036854775808 ≤ (if c = 0 then k0 else if c = 1 then k1 else if c = 2 then k2 else if c = 3 then k3 else if c = 4 then k4 else if c = 5 then k5 else if c = 6 then k6 else if c = 7 then k7 else if c = 8 then k8 else if c = 9 then k9 else if c = 11 then k11 else if c = 12 then k12 else if c = 15 then k15 else if c = 16 then k16 else if c = 17 then k17 else if c = 18 then k18 else if c = 19 then k19 else if c = 20 then k20 else if c = 21 then k21 else 0) ∧ (isU c = false → (if c = 0 then k0 else if c = 1 then k1 else if c = 2 then k2 else if c = 3 then k3 else if c = 4 then k4 else if c = 5 then k5 else if c = 6 then k6 else if c = 7 then k7 else if c = 8 then k8 else if c = 9 then k9 else if c = 11 then k11 else if c = 12 then k12 else if c = 15 then k15 else if c = 16 then k16 else if c = 17 then k17 else if c = 18 then k18 else if c = 19 then k19 else if c = 20 then k20 else if c = 21 then k21 else 0) < (9223372036854775808 : Int)) := fun c => by
      by_cases hc : c < 22
      · match c, hc with
        | 0, _ => exact (show (isU 0 = true → 0 ≤ k0 ∧ k0 < (18446744073709551616 : Int)) ∧ -9223372036854775808 ≤ k0 ∧ (isU 0 = false → k0 < (9223372036854775808 : Int)) from ⟨fun _ => by first | omega | (exact absurd ‹_› (by decide)), by omega, fun _ => by first | omega | (exact absurd ‹_› (by decide))⟩)
        | 1, _ => exact (show (isU 1 = true → 0 ≤ k1 ∧ k1 < (18446744073709551616 : Int)) ∧ -9223372036854775808 ≤ k1 ∧ (isU 1 = false → k1 < (9223372036854775808 : Int)) from ⟨fun _ => by first | omega | (exact absurd ‹_› (by decide)), by omega, fun _ => by first | omega | (exact absurd ‹_› (by decide))⟩)
        | 2, _ => exact (show (isU 2 = true → 0 ≤ k2 ∧ k2 < (18446744073709551616 : Int)) ∧ -9223372036854775808 ≤ k2 ∧ (isU 2 = false → k2 < (9223372036854775808 : Int)) from ⟨fun _ => by first | omega | (exact absurd ‹_› (by decide)), by omega, fun _ => by first | omega | (exact absurd ‹_› (by decide))⟩)
        | 3, _ => exact (show (isU 3 = true → 0 ≤ k3 ∧ k3 < (18446744073709551616 : Int)) ∧ -9223372036854775808 ≤ k3 ∧ (isU 3 = false → k3 < (9223372036854775808 : Int)) from ⟨fun _ => by first | omega | (exact absurd ‹_› (by decide)), by omega, fun _ => by first | omega | (exact absurd ‹_› (by decide))⟩)
        | 4, _ => exact (show (isU 4 = true → 0 ≤ k4 ∧ k4 < (18446744073709551616 : Int)) ∧ -9223372036854775808 ≤ k4 ∧ (isU 4 = false → k4 < (9223372036854775808 : Int)) from ⟨fun _ => by first | omega | (exact absurd ‹_› (by decide)), by omega, fun _ => by first | omega | (exact absurd ‹_› (by decide))⟩)
        | 5, _ => exact (show (isU 5 = true → 0 ≤ k5 ∧ k5 < (18446744073709551616 : Int)) ∧ -9223372036854775808 ≤ k5 ∧ (isU 5 = false → k5 < (9223372036854775808 : Int)) from ⟨fun _ => by first | omega | (exact absurd ‹_› (by decide)), by omega, fun _ => by first | omega | (exact absurd ‹_› (by decide))⟩)
        | 6, _ => exact (show (isU 6 = true → 0 ≤ k6 ∧ k6 < (18446744073709551616 : Int)) ∧ -9223372036854775808 ≤ k6 ∧ (isU 6 = false → k6 < (9223372036854775808 : Int)) from ⟨fun _ => by first | omega | (exact absurd ‹_› (by decide)), by omega, fun _ => by first | omega | (exact absurd ‹_› (by decide))⟩)
        | 7, _ => exact (show (isU 7 = true → 0 ≤ k7 ∧ k7 < (18446744073709551616 : Int)) ∧ -9223372036854775808 ≤ k7 ∧ (isU 7 = false → k7 < (9223372036854775808 : Int)) from ⟨fun _ => by first | omega | (exact absurd ‹_› (by decide)), by omega, fun _ => by first | omega | (exact absurd ‹_› (by decide))⟩)
        | 8, _ => exact (show (isU 8 = true → 0 ≤ k8 ∧ k8 < (18446744073709551616 : Int)) ∧ -9223372036854775808 ≤ k8 ∧ (isU 8 = false → k8 < (9223372036854775808 : Int)) from ⟨fun _ => by first | omega | (exact absurd ‹_› (by decide)), by omega, fun _ => by first | omega | (exact absurd ‹_› (by decide))⟩)
        | 9, _ => exact (show (isU 9 = true → 0 ≤ k9 ∧ k9 < (18446744073709551616 : Int)) ∧ -9223372036854775808 ≤ k9 ∧ (isU 9 = false → k9 < (9223372036854775808 : Int)) from ⟨fun _ => by first | omega | (exact absurd ‹_› (by decide)), by omega, fun _ => by first | omega | (exact absurd ‹_› (by decide))⟩)
        | 10, _ => exact (show (isU 10 = true → 0 ≤ (0 : Int) ∧ (0 : Int) < (18446744073709551616 : Int)) ∧ -9223372036854775808 ≤ (0 : Int) ∧ (isU 10 = false → (0 : Int) < (9223372036854775808 : Int)) from ⟨fun _ => by first | omega | (exact absurd ‹_› (by decide)), by omega, fun _ => by first | omega | (exact absurd ‹_› (by decide))⟩)
        | 11, _ => exact (show (isU 11 = true → 0 ≤ k11 ∧ k11 < (18446744073709551616 : Int)) ∧ -9223372036854775808 ≤ k11 ∧ (isU 11 = false → k11 < (9223372036854775808 : Int)) from ⟨fun _ => by first | omega | (exact absurd ‹_› (by decide)), by omega, fun _ => by first | omega | (exact absurd ‹_› (by decide))⟩)
        | 12, _ => exact (show (isU 12 = true → 0 ≤ k12 ∧ k12 < (18446744073709551616 : Int)) ∧ -9223372036854775808 ≤ k12 ∧ (isU 12 = false → k12 < (9223372036854775808 : Int)) from ⟨fun _ => by first | omega | (exact absurd ‹_› (by decide)), by omega, fun _ => by first | omega | (exact absurd ‹_› (by decide))⟩)
        | 13, _ => exact (show (isU 13 = true → 0 ≤ (0 : Int) ∧ (0 : Int) < (18446744073709551616 : Int)) ∧ -9223372036854775808 ≤ (0 : Int) ∧ (isU 13 = false → (0 : Int) < (9223372036854775808 : Int)) from ⟨fun _ => by first | omega | (exact absurd ‹_› (by decide)), by omega, fun _ => by first | omega | (exact absurd ‹_› (by decide))⟩)
        | 14, _ => exact (show (isU 14 = true → 0 ≤ (0 : Int) ∧ (0 : Int) < (18446744073709551616 : Int)) ∧ -9223372036854775808 ≤ (0 : Int) ∧ (isU 14 = false → (0 : Int) < (9223372036854775808 : Int)) from ⟨fun _ => by first | omega | (exact absurd ‹_› (by decide)), by omega, fun _ => by first | omega | (exact absurd ‹_› (by decide))⟩)
        | 15, _ => exact (show (isU 15 = true → 0 ≤ k15 ∧ k15 < (18446744073709551616 : Int)) ∧ -9223372036854775808 ≤ k15 ∧ (isU 15 = false → k15 < (9223372036854775808 : Int)) from ⟨fun _ => by first | omega | (exact absurd ‹_› (by decide)), by omega, fun _ => by first | omega | (exact absurd ‹_› (by decide))⟩)
        | 16, _ => exact (show (isU 16 = true → 0 ≤ k16 ∧ k16 < (18446744073709551616 : Int)) ∧ -9223372036854775808 ≤ k16 ∧ (isU 16 = false → k16 < (9223372036854775808 : Int)) from ⟨fun _ => by first | omega | (exact absurd ‹_› (by decide)), by omega, fun _ => by first | omega | (exact absurd ‹_› (by decide))⟩)
        | 17, _ => exact (show (isU 17 = true → 0 ≤ k17 ∧ k17 < (18446744073709551616 : Int)) ∧ -9223372036854775808 ≤ k17 ∧ (isU 17 = false → k17 < (9223372036854775808 : Int)) from ⟨fun _ => by first | omega | (exact absurd ‹_› (by decide)), by omega, fun _ => by first | omega | (exact absurd ‹_› (by decide))⟩)
        | 18, _ => exact (show (isU 18 = true → 0 ≤ k18 ∧ k18 < (18446744073709551616 : Int)) ∧ -9223372036854775808 ≤ k18 ∧ (isU 18 = false → k18 < (9223372036854775808 : Int)) from ⟨fun _ => by first | omega | (exact absurd ‹_› (by decide)), by omega, fun _ => by first | omega | (exact absurd ‹_› (by decide))⟩)
        | 19, _ => exact (show (isU 19 = true → 0 ≤ k19 ∧ k19 < (18446744073709551616 : Int)) ∧ -9223372036854775808 ≤ k19 ∧ (isU 19 = false → k19 < (9223372036854775808 : Int)) from ⟨fun _ => by first | omega | (exact absurd ‹_› (by decide)), by omega, fun _ => by first | omega | (exact absurd ‹_› (by decide))⟩)
        | 20, _ => exact (show (isU 20 = true → 0 ≤ k20 ∧ k20 < (18446744073709551616 : Int)) ∧ -9223372036854775808 ≤ k20 ∧ (isU 20 = false → k20 < (9223372036854775808 : Int)) from ⟨fun _ => by first | omega | (exact absurd ‹_› (by decide)), by omega, fun _ => by first | omega | (exact absurd ‹_› (by decide))⟩)
        | 21, _ => exact (show (isU 21 = true → 0 ≤ k21 ∧ k21 < (18446744073709551616 : Int)) ∧ -9223372036854775808 ≤ k21 ∧ (isU 21 = false → k21 < (9223372036854775808 : Int)) from ⟨fun _ => by first | omega | (exact absurd ‹_› (by decide)), by omega, fun _ => by first | omega | (exact absurd ‹_› (by decide))⟩)
        | k + 22, h => exact absurd h (by omega)
      · rw [if_neg (by omega), if_neg (by omega), if_neg (by omega), if_neg (by omega), if_neg (by omega), if_neg (by omega), if_neg (by omega), if_neg (by omega), if_neg (by omega), if_neg (by omega), if_neg (by omega), if_neg (by omega), if_neg (by omega), if_neg (by omega), if_neg (by omega), if_neg (by omega), if_neg (by omega), if_neg (by omega), if_neg (by omega)]
        exact ⟨fun _ => by omega, by omega, fun _ => by omega⟩
    exact ⟨fun c hc => (hall c).1 hc, fun c => (hall c).2⟩
  · show ((List.range len).map z).length ≤ cap
    rw [List.length_map, List.length_range]
    exact hl

theorem cellsSt : Try.prog.cellsOf 45 = 4 := by kernel_rfl
/-- What is stored, as it is handed in. -/
theorem open_stored {H : Type} {enc : TypeId × Value → H} {W : World} {fuel : Nat} {v0 v1 v2 v3 : Value} {y : DataW H × List MemPlace} (h : DataW.trod enc Try.prog W 0 (fun _ => true) true fuel 45 [v0, v1, v2, v3] = some y) (hf : Fits 45 y.1) :
    ∃ (p te ts : Nat) (a : Option Addr) (len cap : Nat) (z : Nat → Nat), v0 = .int .u64 (p : Nat) ∧ v1 = .int .u64 (te : Nat) ∧ v2 = .int .u64 (ts : Nat) ∧ v3 = .slice a len cap ∧ p < 18446744073709551616 ∧ te < 18446744073709551616 ∧ ts < 18446744073709551616 ∧ len ≤ cap ∧ cap ≤ 140737488351232 ∧ (∀ j, z j < 256) ∧ Byt W a cap z ∧ (a = none → len = 0 ∧ cap = 0) := by
  obtain ⟨xs, m, _, hx, _, hlen, hfs⟩ := DataW.trod_struct Try.underlying45 h
  obtain ⟨y0, y1, y2, rfl⟩ : ∃ y0 y1 y2, xs = [y0, y1, y2] := by
    match xs, hlen with
    | [a, b, c], _ => exact ⟨a, b, c, rfl⟩
  have f0 := hfs 0 _ rfl
  have f1 := hfs 1 _ rfl
  have f2 := hfs 2 _ rfl
  simp [cellsU] at f0
  simp [cellsT] at f1
  simp [cellsB] at f2
  have b1 : ∀ {n : Int}, (Lit.int .u64 n).wf = true → ∃ m : Nat, n = (m : Int) ∧ m < 18446744073709551616 := fun {n} h => by have := bounds_u64 h; exact ⟨n.toNat, by omega, by omega⟩
  obtain ⟨k0, e0, _, w0⟩ := DataW.trod_int Try.underlying40 f0
  obtain ⟨xt, mt, _, _, _, hlt, hg⟩ := DataW.trod_struct Try.underlying42 f1
  obtain ⟨t0, t1, rfl⟩ : ∃ t0 t1, xt = [t0, t1] := by
    match xt, hlt with
    | [a, b], _ => exact ⟨a, b, rfl⟩
  have g0 := hg 0 _ rfl
  have g1 := hg 1 _ rfl
  simp [cellsU] at g0
  simp [cellsU] at g1
  obtain ⟨k1, e1, _, w1⟩ := DataW.trod_int Try.underlying40 g0
  obtain ⟨k2, e2, _, w2⟩ := DataW.trod_int Try.underlying40 g1
  have hfit : Fits 43 y2.1 := fun n hn => hf n (by
    rw [hx]
    simp only [DataW.weights, Try.underlying45]
    exact DataW.weights_mem_each (j := 2) rfl rfl n hn)
  obtain ⟨a, len, cap, z, e3, hl, hcap, hz, hb, hn⟩ := open_bytes f2 hfit
  obtain ⟨p, rfl, hp⟩ := b1 w0
  obtain ⟨te, rfl, hte⟩ := b1 w1
  obtain ⟨ts, rfl, hts⟩ := b1 w2
  exact ⟨p, te, ts, a, len, cap, z, by simpa using e0, by simpa using e1, by simpa using e2, e3, hp, hte, hts, hl, hcap, hz, hb, hn⟩
theorem cellsOp : Try.prog.cellsOf 54 = 32 := by kernel_rfl
theorem cellsOps : Try.prog.cellsOf 23 = 1 := by kernel_rfl
theorem cellsSc : Try.prog.cellsOf 25 = 7 := by kernel_rfl
theorem cells2 : Try.prog.cellsOf 22 = 2 := by kernel_rfl
theorem bytesOp : Try.prog.bytesOf 54 = 320 := by kernel_rfl
theorem i64_of {n : Int} (h : (Lit.int .i64 n).wf = true) : I64 n := by
  have := bounds_i64 h
  exact ⟨by omega, by omega⟩
/-- Two whole numbers in an array. -/
theorem open_pair {H : Type} {enc : TypeId × Value → H} {W : World} {fuel : Nat} {a b : Value} {y : DataW H × List MemPlace} (h : DataW.trod enc Try.prog W 0 (fun _ => true) true fuel 22 [a, b] = some y) : ∃ p q : Int, a = .int .i64 p ∧ b = .int .i64 q ∧ I64 p ∧ I64 q := by
  obtain ⟨ys, m2, _, hy, _, hylen, hys⟩ := DataW.trod_array Try.underlying22 h
  obtain ⟨y0, y1, rfl⟩ : ∃ y0 y1, ys = [y0, y1] := by
    match ys, hylen with
    | [a, b], _ => exact ⟨a, b, rfl⟩
  have g0 := hys 0 (by decide)
  have g1 := hys 1 (by decide)
  simp [cellsI] at g0
  simp [cellsI] at g1
  obtain ⟨p, e0, _, w0⟩ := DataW.trod_int Try.underlying3 g0
  obtain ⟨q, e1, _, w1⟩ := DataW.trod_int Try.underlying3 g1
  exact ⟨p, q, by simpa using e0, by simpa using e1, i64_of w0, i64_of w1⟩
theorem list32 {cs : List Value} (h : cs.length = 32) : ∃ (a b c d e f g k : Value) (ms : List Value) (y z : Value), ms.length = 22 ∧ cs = a :: b :: c :: d :: e :: f :: g :: k :: (ms ++ [y, z]) := by
  match cs, h with
  | a :: b :: c :: d :: e :: f :: g :: k :: r, h =>
    have hr : r.length = 24 := by simpa using h
    have h2 : (r.drop 22).length = 2 := by simp [hr]
    match hd : r.drop 22, h2 with
    | [y, z], _ => exact ⟨a, b, c, d, e, f, g, k, r.take 22, y, z, by simp [hr], by rw [← hd, List.take_append_drop]⟩
theorem bytIn_of {W : World} {a : Option Addr} {len cap : Nat} {z : Nat → Nat} (hl : len ≤ cap) (hc : cap ≤ 140737488351232) (hz : ∀ j, z j < 256) (hb : Byt W a cap z) (hn : a = none → len = 0 ∧ cap = 0) : BytIn W a len :=
  ⟨z, hz, fun e => (hn e).1, Nat.le_trans hl hc, fun j hj => hb j (Nat.lt_of_lt_of_le hj hl)⟩
def oq0 : Oq := ⟨0, 0, 0, 0, 0, 0, none, 0, 0, 0, mg0, none, 0, 0, none, 0, 0⟩
set_option maxHeartbeats 2000000 in
theorem open_ops {H : Type} {enc : TypeId × Value → H} {W : World} {fuel : Nat} {v : Value} {y : DataW H × List MemPlace} (h : DataW.trod enc Try.prog W 0 (fun _ => true) true fuel 23 [v] = some y) (hf : Fits 23 y.1) :
    ∃ (oa : Option Addr) (on oc : Nat) (O : Nat → Oq), v = .slice oa on oc ∧ OqsIn W oa on O ∧ on ≤ 1000000000000 := by
  rcases open_slice Try.underlying23 h with ⟨hcs, _⟩ | ⟨a, len, cap, m, n, D, Pl, hcs, _, hl, _, hm, hyx, hel⟩
  · exact ⟨none, 0, 0, fun _ => oq0, by simpa using hcs, ⟨fun i hi => absurd hi (Nat.not_lt_zero i), fun i hi => absurd hi (Nat.not_lt_zero i)⟩, Nat.zero_le _⟩
  · simp only [if_true] at hm
    subst hm
    obtain ⟨b, o, sp⟩ := a
    rw [hyx] at hf
    have hcount : len ≤ 1000000000000 := by
      have := hf _ (by
        simp only [DataW.weights, Try.underlying23]
        exact List.mem_cons_self ..)
      simp only [List.length_map, List.length_range, bytesOp, reach_eq] at this
      omega
    have hele : ∀ i, i < len → Fits 54 (D i) := fun i hi n hn => hf n (by
      simp only [DataW.weights, Try.underlying23]
      exact List.mem_cons_of_mem _ (List.mem_append_left _ (weightsAll_mem (List.mem_map.2 ⟨i, List.mem_range.2 hi, rfl⟩) n hn)))
    have hsp : 0 < len → sp = none := fun h0 => by
      obtain ⟨cs', hc, _⟩ := hel 0 (by omega)
      rw [cellsOp] at hc
      obtain ⟨_, hl', hcell⟩ := World.cells?_some hc
      have := hcell 0 (by decide)
      rw [List.getElem?_eq_getElem (by rw [hl']; decide)] at this
      simpa [Addr.add] using World.cell?_spot this
    have hall : ∀ i, ∃ q : Oq, i < len → sp = none ∧ W.rangeAt b (o + i * 32) (oqL q) ∧ MgA W q.m q.va q.vc ∧ MgN q.m ∧ q.ep < 18446744073709551616 ∧ q.s1 < 18446744073709551616 ∧ q.s2 < 18446744073709551616 ∧ q.s3 < 18446744073709551616 ∧ I64 q.aim ∧ BytIn W q.sa q.sl ∧ BytIn W q.ba q.bl := fun i => by
      by_cases hi : i < len
      · obtain ⟨cs', hc, ht⟩ := hel i (by omega)
        rw [cellsOp] at hc
        obtain ⟨_, hl', hcell⟩ := World.cells?_some hc
        obtain rfl := hsp (by omega)
        obtain ⟨c0, c1, c2, s0, s1, s2, s3, c7, ms, c30, c31, hms, rfl⟩ := list32 hl'
        obtain ⟨xs, m2, _, hx, _, hlen, hfs⟩ := DataW.trod_struct Try.underlying54 ht
        obtain ⟨y0, y1, y2, y3, y4, y5, y6, y7, rfl⟩ : ∃ y0 y1 y2 y3 y4 y5 y6 y7, xs = [y0, y1, y2, y3, y4, y5, y6, y7] := by
          match xs, hlen with
          | [a, b, c, d, e, f, g, k], _ => exact ⟨a, b, c, d, e, f, g, k, rfl⟩
        have f0 := hfs 0 _ rfl
        have f1 := hfs 1 _ rfl
        have f2 := hfs 2 _ rfl
        have f3 := hfs 3 _ rfl
        have f4 := hfs 4 _ rfl
        have f5 := hfs 5 _ rfl
        have f6 := hfs 6 _ rfl
        have f7 := hfs 7 _ rfl
        simp [cellsI] at f0
        simp [cellsI] at f1
        simp [cellsU] at f2
        simp [cellsSt] at f3
        simp [cellsI] at f4
        simp [cellsM, hms] at f5
        simp [cellsI, hms] at f6
        simp [cellsB] at f7
        obtain ⟨k0, e0, _, _⟩ := DataW.trod_int Try.underlying3 f0
        obtain ⟨k1, e1, _, _⟩ := DataW.trod_int Try.underlying3 f1
        obtain ⟨k2, e2, _, w2⟩ := DataW.trod_int Try.underlying40 f2
        obtain ⟨k4, e4, _, _⟩ := DataW.trod_int Try.underlying3 f4
        obtain ⟨k6, e6, _, w6⟩ := DataW.trod_int Try.underlying3 f6
        have hb2 := bounds_u64 w2
        have hb6 := bounds_i64 w6
        have hfj : ∀ (j : Nat) (t : TypeId) (y : DataW H), (([3, 3, 40, 45, 3, 52, 3, 43] : List TypeId))[j]? = some t → ([y0.1, y1.1, y2.1, y3.1, y4.1, y5.1, y6.1, y7.1] : List (DataW H))[j]? = some y → Fits t y := fun j t y ht hy n hn => hele i hi n (by
          rw [show D i = _ from congrArg Prod.fst hx]
          simp only [DataW.weights, Try.underlying54]
          exact DataW.weights_mem_each (j := j) ht hy n hn)
        obtain ⟨mm, va, vc, rfl, hA, _, hint, _⟩ := open_msg f5 (hfj 5 _ _ rfl rfl)
        obtain ⟨p, te, ts, sa, sl, sc, z, rfl, rfl, rfl, rfl, hp, hte, hts, hl1, hl2, hl3, hl4, hl5⟩ := open_stored f3 (hfj 3 _ _ rfl rfl)
        obtain ⟨ba, bl, bc, zb, e7, hb1, hb3, hb4, hb5, hb7⟩ := open_bytes f7 (hfj 7 _ _ rfl rfl)
        obtain ⟨ep, rfl⟩ : ∃ ep : Nat, k2 = (ep : Int) := ⟨k2.toNat, by omega⟩
        obtain rfl : c0 = .int .i64 k0 := by simpa using e0
        obtain rfl : c1 = .int .i64 k1 := by simpa using e1
        obtain rfl : c2 = .int .u64 (ep : Nat) := by simpa using e2
        obtain rfl : c7 = .int .i64 k4 := by simpa using e4
        obtain rfl : c30 = .int .i64 k6 := by simpa using e6
        obtain rfl : c31 = .slice ba bl bc := e7
        refine ⟨⟨k0, k1, ep, p, te, ts, sa, sl, sc, k4, mm, va, vc, k6, ba, bl, bc⟩, fun _ => ⟨rfl, fun j v hv => ?_, hA, ⟨hint.1, fun c hc => ⟨(hint.2 c).1, by have := (hint.2 c).2 hc; show mm.n c ≤ _; omega⟩⟩, by show ep < _; omega, hp, hte, hts, ⟨by show _ ≤ k6; omega, by show k6 ≤ _; omega⟩, bytIn_of hl1 hl2 hl3 hl4 hl5, bytIn_of hb1 hb3 hb4 hb5 hb7⟩⟩
        have hj : j < 32 := by have := (List.getElem?_eq_some_iff.1 hv).1; rw [oqL_len] at this; exact this
        have h5 := hcell j hj
        rw [add_at, add_at] at h5
        rw [h5]
        exact hv
      · exact ⟨oq0, fun h => absurd h hi⟩
    obtain ⟨Q, hQ⟩ := Classical.axiomOfChoice hall
    refine ⟨some ⟨b, o, sp⟩, len, m, Q, by simpa using hcs, ⟨fun i hi => ?_, fun i hi => ?_⟩, hcount⟩
    · obtain ⟨h1, h2, _⟩ := hQ i hi
      subst h1
      refine ⟨b, o, rfl, h2, ?_⟩
      have := h2 0 _ (List.getElem?_eq_getElem (by rw [oqL_len]; decide))
      exact World.block_lt_of_cell? _ _ this
    · obtain ⟨_, _, h3⟩ := hQ i hi
      exact h3
end Go.Proofs.Ytkcjmjaikobpoaa
