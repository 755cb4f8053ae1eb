/- Own texts, joined: QU28, QU29, QU30, QU31, QU32, QK1, QK2, QK3. -/
import Derived.Test.YtcamdljlkcnikaaM4

/- Package quorum: Hear, whole. -/
namespace Go.Proofs.Ytcamdljlkcnikaa
open Go.RowKit Go.Maps
set_option maxRecDepth 100000
set_option maxRecDepth 100000

set_option maxHeartbeats 4000000 in
theorem hear_off {w : World} {p : Qp} {d : Qd} (h : QIs w p d) (m : Mg) (va : Option Addr) (vc : Nat) (hA : MgA w m va vc) (hN : MgN m) (S : Int) (hoff : ¬ (kbM (m.n 0) = true ∧ m.n 2 = d.node ∧ m.n 3 = d.shard ∧ m.n 1 ∈ d.L)) :
    Calls Try.prog 16 #[.pointer (some ⟨p.b, 0, none⟩), mgV m va vc, .int .i64 S] w fun e w' => ∃ r, e = .returned r ∧ OutM w.heap.size w' r [] ∧ QIs w' p d ∧ Bq p w w' := by
  obtain ⟨MM, W1, mb, HMM, HW1, Hmb, HD, HR⟩ := DS.put h hA
  rw [HMM.out]
  have hn0 := hN.i 0 rfl
  have HD0 : Hid (Calls Try.prog 36 #[] W1.drew fun e w3 => ∃ g, e = .returned (.map (some g)) ∧ Hid ((Instr.lookup 94 (.map (some g)) (.int .i64 (m.n 0)) true).run Try.prog w3 = .ok (.tuple #[fvM (m.n 0), .bool (kbM (m.n 0))]) w3) ∧ Hid (DS w p d mb m va vc w3)) :=
    (deeds_any W1.drew).mono fun e w3 ⟨he, hm, hs⟩ => ⟨_, he, look_deed hm _ hn0.1 hn0.2, HD.out.drew.sin hs⟩
  have HSD : Hid (DS w p d mb m va vc W1.drew) := HD.out.drew
  have HK0 : Hid (∀ W, DS w p d mb m va vc W → W.cell? ⟨mb, 0, none⟩ = some (.int .i64 (m.n 0))) := fun W hW => hW.row.cell (i := 0) (by decide)
  have HF : Hid (∀ W, DS w p d mb m va vc W → W.cell? ⟨mb, 1, none⟩ = some (.int .i64 (m.n 1)) ∧ W.cell? ⟨mb, 2, none⟩ = some (.int .i64 (m.n 2)) ∧ W.cell? ⟨mb, 3, none⟩ = some (.int .i64 (m.n 3)) ∧ W.cell? ⟨p.b, 0, none⟩ = some (.int .i64 d.node) ∧ W.cell? ⟨p.b, 1, none⟩ = some (.int .i64 d.shard) ∧ W.cell? ⟨p.b, 2, none⟩ = some (.slice (some ⟨p.cb, 0, none⟩) d.L.length p.cc) ∧
      Hid (∀ n, Calls Try.prog 37 #[.slice (some ⟨p.cb, 0, none⟩) d.L.length p.cc, .int .i64 (m.n 1)] (W.drewN n) fun e w' => e = .returned (.bool (decide (m.n 1 ∈ d.L))) ∧ w' = W.drewN n) ∧ Hid (∀ n, DS w p d mb m va vc (W.drewN n))) := fun W hW =>
    ⟨hW.row.cell (i := 1) (by decide), hW.row.cell (i := 2) (by decide), hW.row.cell (i := 3) (by decide), hW.q.cell 0 (by decide), hW.q.cell 1 (by decide), hW.q.cell 2 (by decide), fun n => (contains_any (hW.drewN n).q (m.n 1)).mono fun e w' ⟨he, hw⟩ => ⟨he, hw.symm⟩, fun n => hW.drewN n⟩
  obtain ⟨K0, hK0⟩ : ∃ x, m.n 0 = x := ⟨_, rfl⟩
  obtain ⟨A1, hA1⟩ : ∃ x, m.n 1 = x := ⟨_, rfl⟩
  obtain ⟨A2, hA2⟩ : ∃ x, m.n 2 = x := ⟨_, rfl⟩
  obtain ⟨A3, hA3⟩ : ∃ x, m.n 3 = x := ⟨_, rfl⟩
  rw [hK0] at HD0 HK0 hoff
  rw [hA1, hA2, hA3] at hoff
  simp only [hA1, hA2, hA3] at HF
  obtain ⟨FV, hFV⟩ : ∃ x, fvM K0 = x := ⟨_, rfl⟩
  rw [hFV] at HD0
  clear hA h HR HMM HD hN hn0 hFV hA1 hA2 hA3 hK0
  cases hkb : kbM K0 with
  | false =>
    rw [hkb] at HD0
    clear hoff hkb
    go_enter Try.func16, Try.ntmps16
    go_upto_region 1 with fail
    rw [HW1.out, Hmb.out]
    clear HW1 Hmb
    refine wp_region_held_drew (S := fun W => DS w p d mb m va vc W) (by kernel_rfl) HSD.out fun _ => ?_
    refine wpAnyH_take (i := 1) (v := .pointer (some ⟨mb, 0, none⟩)) rfl (by kernel_rfl) (by kernel_rfl) (by kernel_rfl) (fun _ _ _ h => h) (.inl ⟨rfl, fun W hW => by kernel_rfl⟩) HSD.out ?_
    simp only [List.getElem_toArray, List.getElem_cons_zero, List.getElem_cons_succ, Act.put, List.setIfInBounds_toArray, List.set_cons_zero, List.set_cons_succ]
    refine wpAnyH_take (i := 2) (v := .pointer (some ⟨mb, 0, none⟩)) rfl (by kernel_rfl) (by kernel_rfl) (by kernel_rfl) (fun _ _ _ h => h) (.inl ⟨rfl, fun W hW => by kernel_rfl⟩) HSD.out ?_
    simp only [List.getElem_toArray, List.getElem_cons_zero, List.getElem_cons_succ, Act.put, List.setIfInBounds_toArray, List.set_cons_zero, List.set_cons_succ]
    refine wpAnyH_take (i := 3) (v := .int .i64 K0) rfl (by kernel_rfl) (by kernel_rfl) (by kernel_rfl) (fun _ _ _ h => h) (.inl ⟨rfl, fun W hW => by have c := HK0.out W hW; go_simp⟩) HSD.out ?_
    simp only [List.getElem_toArray, List.getElem_cons_zero, List.getElem_cons_succ, Act.put, List.setIfInBounds_toArray, List.set_cons_zero, List.set_cons_succ]
    refine wpAnyH_ready (rs := [0]) (by kernel_rfl) (by simp) ?_
    refine AllReadyH.cons rfl (fun K hK => ?_) AllReadyH.nil
    refine step_callW rfl 36 #[] (by kernel_rfl) HD0.out ?_
    rintro e w3 ⟨g, rfl, HLK, HS3⟩
    refine ⟨_, rfl, hK.out _ _ HS3.out fun _ => ?_⟩
    clear hK
    simp only [List.getElem_toArray, List.getElem_cons_zero, Act.put, List.setIfInBounds_toArray, List.set_cons_zero, List.set_cons_succ]
    refine wpAnyH_ready (rs := [4]) (by kernel_rfl) (by simp) ?_
    refine AllReadyH.cons rfl (fun K hK => ?_) AllReadyH.nil
    refine step_storeM rfl (op_run (.tuple #[FV, .bool false]) ?_ ?_)
    · have r := HLK.out
      go_simp
    refine hK.out _ _ HS3.out fun _ => ?_
    clear hK
    simp only [List.getElem_toArray, List.getElem_cons_zero, List.getElem_cons_succ, Act.put, List.setIfInBounds_toArray, List.set_cons_zero, List.set_cons_succ]
    refine wpAnyH_take (i := 5) (v := .tuple #[FV, .bool false]) rfl (by kernel_rfl) (by kernel_rfl) (by kernel_rfl) (fun _ _ _ h => h) (.inl ⟨rfl, fun W hW => by kernel_rfl⟩) HS3.out ?_
    simp only [List.getElem_toArray, List.getElem_cons_zero, List.getElem_cons_succ, Act.put, List.setIfInBounds_toArray, List.set_cons_zero, List.set_cons_succ]
    refine wpAnyH_take (i := 6) (v := FV) rfl (by kernel_rfl) (by kernel_rfl) (by kernel_rfl) (fun _ _ _ h => h) (.inl ⟨rfl, fun W hW => by kernel_rfl⟩) HS3.out ?_
    simp only [List.getElem_toArray, List.getElem_cons_zero, List.getElem_cons_succ, Act.put, List.setIfInBounds_toArray, List.set_cons_zero, List.set_cons_succ]
    refine wpAnyH_take (i := 7) (v := .bool false) rfl (by kernel_rfl) (by kernel_rfl) (by kernel_rfl) (fun _ _ _ h => h) (.inl ⟨rfl, fun W hW => by kernel_rfl⟩) HS3.out ?_
    simp only [List.getElem_toArray, List.getElem_cons_zero, List.getElem_cons_succ, Act.put, List.setIfInBounds_toArray, List.set_cons_zero, List.set_cons_succ]
    refine wpAnyH_take (i := 8) (v := FV) rfl (by kernel_rfl) (by kernel_rfl) (by kernel_rfl) (fun _ _ _ h => h) (.inl ⟨rfl, fun W hW => by kernel_rfl⟩) HS3.out ?_
    simp only [List.getElem_toArray, List.getElem_cons_zero, List.getElem_cons_succ, Act.put, List.setIfInBounds_toArray, List.set_cons_zero, List.set_cons_succ]
    refine wpAnyH_take (i := 9) (v := .bool false) rfl (by kernel_rfl) (by kernel_rfl) (by kernel_rfl) (fun _ _ _ h => h) (.inl ⟨rfl, fun W hW => by kernel_rfl⟩) HS3.out ?_
    simp only [List.getElem_toArray, List.getElem_cons_zero, List.getElem_cons_succ, Act.put, List.setIfInBounds_toArray, List.set_cons_zero, List.set_cons_succ]
    refine wpAnyH_done (by kernel_rfl) ?_ _
    obtain ⟨n1, n2, n3, p0, p1, p2, HCO, HDN⟩ := HF.out w3 HS3.out
    clear HLK HD0 HSD HK0 HF HS3
    go_upto_region 2 with fail
    go_quiet (exact Calls.quiet_of_same (HCO.out _))
    clear HCO
    go_wp2_with fail
    go_ret
    exact ⟨_, rfl, (HDN.out _).none⟩
  | true =>
    rw [hkb] at HD0
    by_cases e2 : A2 = d.node
    · have z2 : (A2 != d.node) = false := by simp [e2]
      by_cases e3 : A3 = d.shard
      · have z3 : (A3 != d.shard) = false := by simp [e3]
        have e1 : A1 ∉ d.L := fun e1 => hoff ⟨hkb, e2, e3, e1⟩
        rw [decide_eq_false e1] at HF
        clear hoff hkb e1 e2 e3
        go_enter Try.func16, Try.ntmps16
        go_upto_region 1 with fail
        rw [HW1.out, Hmb.out]
        clear HW1 Hmb
        refine wp_region_held_drew (S := fun W => DS w p d mb m va vc W) (by kernel_rfl) HSD.out fun _ => ?_
        refine wpAnyH_take (i := 1) (v := .pointer (some ⟨mb, 0, none⟩)) rfl (by kernel_rfl) (by kernel_rfl) (by kernel_rfl) (fun _ _ _ h => h) (.inl ⟨rfl, fun W hW => by kernel_rfl⟩) HSD.out ?_
        simp only [List.getElem_toArray, List.getElem_cons_zero, List.getElem_cons_succ, Act.put, List.setIfInBounds_toArray, List.set_cons_zero, List.set_cons_succ]
        refine wpAnyH_take (i := 2) (v := .pointer (some ⟨mb, 0, none⟩)) rfl (by kernel_rfl) (by kernel_rfl) (by kernel_rfl) (fun _ _ _ h => h) (.inl ⟨rfl, fun W hW => by kernel_rfl⟩) HSD.out ?_
        simp only [List.getElem_toArray, List.getElem_cons_zero, List.getElem_cons_succ, Act.put, List.setIfInBounds_toArray, List.set_cons_zero, List.set_cons_succ]
        refine wpAnyH_take (i := 3) (v := .int .i64 K0) rfl (by kernel_rfl) (by kernel_rfl) (by kernel_rfl) (fun _ _ _ h => h) (.inl ⟨rfl, fun W hW => by have c := HK0.out W hW; go_simp⟩) HSD.out ?_
        simp only [List.getElem_toArray, List.getElem_cons_zero, List.getElem_cons_succ, Act.put, List.setIfInBounds_toArray, List.set_cons_zero, List.set_cons_succ]
        refine wpAnyH_ready (rs := [0]) (by kernel_rfl) (by simp) ?_
        refine AllReadyH.cons rfl (fun K hK => ?_) AllReadyH.nil
        refine step_callW rfl 36 #[] (by kernel_rfl) HD0.out ?_
        rintro e w3 ⟨g, rfl, HLK, HS3⟩
        refine ⟨_, rfl, hK.out _ _ HS3.out fun _ => ?_⟩
        clear hK
        simp only [List.getElem_toArray, List.getElem_cons_zero, Act.put, List.setIfInBounds_toArray, List.set_cons_zero, List.set_cons_succ]
        refine wpAnyH_ready (rs := [4]) (by kernel_rfl) (by simp) ?_
        refine AllReadyH.cons rfl (fun K hK => ?_) AllReadyH.nil
        refine step_storeM rfl (op_run (.tuple #[FV, .bool true]) ?_ ?_)
        · have r := HLK.out
          go_simp
        refine hK.out _ _ HS3.out fun _ => ?_
        clear hK
        simp only [List.getElem_toArray, List.getElem_cons_zero, List.getElem_cons_succ, Act.put, List.setIfInBounds_toArray, List.set_cons_zero, List.set_cons_succ]
        refine wpAnyH_take (i := 5) (v := .tuple #[FV, .bool true]) rfl (by kernel_rfl) (by kernel_rfl) (by kernel_rfl) (fun _ _ _ h => h) (.inl ⟨rfl, fun W hW => by kernel_rfl⟩) HS3.out ?_
        simp only [List.getElem_toArray, List.getElem_cons_zero, List.getElem_cons_succ, Act.put, List.setIfInBounds_toArray, List.set_cons_zero, List.set_cons_succ]
        refine wpAnyH_take (i := 6) (v := FV) rfl (by kernel_rfl) (by kernel_rfl) (by kernel_rfl) (fun _ _ _ h => h) (.inl ⟨rfl, fun W hW => by kernel_rfl⟩) HS3.out ?_
        simp only [List.getElem_toArray, List.getElem_cons_zero, List.getElem_cons_succ, Act.put, List.setIfInBounds_toArray, List.set_cons_zero, List.set_cons_succ]
        refine wpAnyH_take (i := 7) (v := .bool true) rfl (by kernel_rfl) (by kernel_rfl) (by kernel_rfl) (fun _ _ _ h => h) (.inl ⟨rfl, fun W hW => by kernel_rfl⟩) HS3.out ?_
        simp only [List.getElem_toArray, List.getElem_cons_zero, List.getElem_cons_succ, Act.put, List.setIfInBounds_toArray, List.set_cons_zero, List.set_cons_succ]
        refine wpAnyH_take (i := 8) (v := FV) rfl (by kernel_rfl) (by kernel_rfl) (by kernel_rfl) (fun _ _ _ h => h) (.inl ⟨rfl, fun W hW => by kernel_rfl⟩) HS3.out ?_
        simp only [List.getElem_toArray, List.getElem_cons_zero, List.getElem_cons_succ, Act.put, List.setIfInBounds_toArray, List.set_cons_zero, List.set_cons_succ]
        refine wpAnyH_take (i := 9) (v := .bool true) rfl (by kernel_rfl) (by kernel_rfl) (by kernel_rfl) (fun _ _ _ h => h) (.inl ⟨rfl, fun W hW => by kernel_rfl⟩) HS3.out ?_
        simp only [List.getElem_toArray, List.getElem_cons_zero, List.getElem_cons_succ, Act.put, List.setIfInBounds_toArray, List.set_cons_zero, List.set_cons_succ]
        refine wpAnyH_done (by kernel_rfl) ?_ _
        obtain ⟨n1, n2, n3, p0, p1, p2, HCO, HDN⟩ := HF.out w3 HS3.out
        clear HLK HD0 HSD HK0 HF HS3
        go_upto_region 2 with fail
        go_quiet (exact Calls.quiet_of_same (HCO.out _))
        clear HCO
        go_wp2_with fail
        go_ret
        exact ⟨_, rfl, (HDN.out _).none⟩
      · have z3 : (A3 != d.shard) = true := by simp [e3]
        clear hoff hkb e2 e3
        go_enter Try.func16, Try.ntmps16
        go_upto_region 1 with fail
        rw [HW1.out, Hmb.out]
        clear HW1 Hmb
        refine wp_region_held_drew (S := fun W => DS w p d mb m va vc W) (by kernel_rfl) HSD.out fun _ => ?_
        refine wpAnyH_take (i := 1) (v := .pointer (some ⟨mb, 0, none⟩)) rfl (by kernel_rfl) (by kernel_rfl) (by kernel_rfl) (fun _ _ _ h => h) (.inl ⟨rfl, fun W hW => by kernel_rfl⟩) HSD.out ?_
        simp only [List.getElem_toArray, List.getElem_cons_zero, List.getElem_cons_succ, Act.put, List.setIfInBounds_toArray, List.set_cons_zero, List.set_cons_succ]
        refine wpAnyH_take (i := 2) (v := .pointer (some ⟨mb, 0, none⟩)) rfl (by kernel_rfl) (by kernel_rfl) (by kernel_rfl) (fun _ _ _ h => h) (.inl ⟨rfl, fun W hW => by kernel_rfl⟩) HSD.out ?_
        simp only [List.getElem_toArray, List.getElem_cons_zero, List.getElem_cons_succ, Act.put, List.setIfInBounds_toArray, List.set_cons_zero, List.set_cons_succ]
        refine wpAnyH_take (i := 3) (v := .int .i64 K0) rfl (by kernel_rfl) (by kernel_rfl) (by kernel_rfl) (fun _ _ _ h => h) (.inl ⟨rfl, fun W hW => by have c := HK0.out W hW; go_simp⟩) HSD.out ?_
        simp only [List.getElem_toArray, List.getElem_cons_zero, List.getElem_cons_succ, Act.put, List.setIfInBounds_toArray, List.set_cons_zero, List.set_cons_succ]
        refine wpAnyH_ready (rs := [0]) (by kernel_rfl) (by simp) ?_
        refine AllReadyH.cons rfl (fun K hK => ?_) AllReadyH.nil
        refine step_callW rfl 36 #[] (by kernel_rfl) HD0.out ?_
        rintro e w3 ⟨g, rfl, HLK, HS3⟩
        refine ⟨_, rfl, hK.out _ _ HS3.out fun _ => ?_⟩
        clear hK
        simp only [List.getElem_toArray, List.getElem_cons_zero, Act.put, List.setIfInBounds_toArray, List.set_cons_zero, List.set_cons_succ]
        refine wpAnyH_ready (rs := [4]) (by kernel_rfl) (by simp) ?_
        refine AllReadyH.cons rfl (fun K hK => ?_) AllReadyH.nil
        refine step_storeM rfl (op_run (.tuple #[FV, .bool true]) ?_ ?_)
        · have r := HLK.out
          go_simp
        refine hK.out _ _ HS3.out fun _ => ?_
        clear hK
        simp only [List.getElem_toArray, List.getElem_cons_zero, List.getElem_cons_succ, Act.put, List.setIfInBounds_toArray, List.set_cons_zero, List.set_cons_succ]
        refine wpAnyH_take (i := 5) (v := .tuple #[FV, .bool true]) rfl (by kernel_rfl) (by kernel_rfl) (by kernel_rfl) (fun _ _ _ h => h) (.inl ⟨rfl, fun W hW => by kernel_rfl⟩) HS3.out ?_
        simp only [List.getElem_toArray, List.getElem_cons_zero, List.getElem_cons_succ, Act.put, List.setIfInBounds_toArray, List.set_cons_zero, List.set_cons_succ]
        refine wpAnyH_take (i := 6) (v := FV) rfl (by kernel_rfl) (by kernel_rfl) (by kernel_rfl) (fun _ _ _ h => h) (.inl ⟨rfl, fun W hW => by kernel_rfl⟩) HS3.out ?_
        simp only [List.getElem_toArray, List.getElem_cons_zero, List.getElem_cons_succ, Act.put, List.setIfInBounds_toArray, List.set_cons_zero, List.set_cons_succ]
        refine wpAnyH_take (i := 7) (v := .bool true) rfl (by kernel_rfl) (by kernel_rfl) (by kernel_rfl) (fun _ _ _ h => h) (.inl ⟨rfl, fun W hW => by kernel_rfl⟩) HS3.out ?_
        simp only [List.getElem_toArray, List.getElem_cons_zero, List.getElem_cons_succ, Act.put, List.setIfInBounds_toArray, List.set_cons_zero, List.set_cons_succ]
        refine wpAnyH_take (i := 8) (v := FV) rfl (by kernel_rfl) (by kernel_rfl) (by kernel_rfl) (fun _ _ _ h => h) (.inl ⟨rfl, fun W hW => by kernel_rfl⟩) HS3.out ?_
        simp only [List.getElem_toArray, List.getElem_cons_zero, List.getElem_cons_succ, Act.put, List.setIfInBounds_toArray, List.set_cons_zero, List.set_cons_succ]
        refine wpAnyH_take (i := 9) (v := .bool true) rfl (by kernel_rfl) (by kernel_rfl) (by kernel_rfl) (fun _ _ _ h => h) (.inl ⟨rfl, fun W hW => by kernel_rfl⟩) HS3.out ?_
        simp only [List.getElem_toArray, List.getElem_cons_zero, List.getElem_cons_succ, Act.put, List.setIfInBounds_toArray, List.set_cons_zero, List.set_cons_succ]
        refine wpAnyH_done (by kernel_rfl) ?_ _
        obtain ⟨n1, n2, n3, p0, p1, p2, HCO, HDN⟩ := HF.out w3 HS3.out
        clear HLK HD0 HSD HK0 HF HS3
        go_upto_region 2 with fail
        go_quiet (exact Calls.quiet_of_same (HCO.out _))
        clear HCO
        go_wp2_with fail
        go_ret
        exact ⟨_, rfl, (HDN.out _).none⟩
    · have z2 : (A2 != d.node) = true := by simp [e2]
      clear hoff hkb e2
      go_enter Try.func16, Try.ntmps16
      go_upto_region 1 with fail
      rw [HW1.out, Hmb.out]
      clear HW1 Hmb
      refine wp_region_held_drew (S := fun W => DS w p d mb m va vc W) (by kernel_rfl) HSD.out fun _ => ?_
      refine wpAnyH_take (i := 1) (v := .pointer (some ⟨mb, 0, none⟩)) rfl (by kernel_rfl) (by kernel_rfl) (by kernel_rfl) (fun _ _ _ h => h) (.inl ⟨rfl, fun W hW => by kernel_rfl⟩) HSD.out ?_
      simp only [List.getElem_toArray, List.getElem_cons_zero, List.getElem_cons_succ, Act.put, List.setIfInBounds_toArray, List.set_cons_zero, List.set_cons_succ]
      refine wpAnyH_take (i := 2) (v := .pointer (some ⟨mb, 0, none⟩)) rfl (by kernel_rfl) (by kernel_rfl) (by kernel_rfl) (fun _ _ _ h => h) (.inl ⟨rfl, fun W hW => by kernel_rfl⟩) HSD.out ?_
      simp only [List.getElem_toArray, List.getElem_cons_zero, List.getElem_cons_succ, Act.put, List.setIfInBounds_toArray, List.set_cons_zero, List.set_cons_succ]
      refine wpAnyH_take (i := 3) (v := .int .i64 K0) rfl (by kernel_rfl) (by kernel_rfl) (by kernel_rfl) (fun _ _ _ h => h) (.inl ⟨rfl, fun W hW => by have c := HK0.out W hW; go_simp⟩) HSD.out ?_
      simp only [List.getElem_toArray, List.getElem_cons_zero, List.getElem_cons_succ, Act.put, List.setIfInBounds_toArray, List.set_cons_zero, List.set_cons_succ]
      refine wpAnyH_ready (rs := [0]) (by kernel_rfl) (by simp) ?_
      refine AllReadyH.cons rfl (fun K hK => ?_) AllReadyH.nil
      refine step_callW rfl 36 #[] (by kernel_rfl) HD0.out ?_
      rintro e w3 ⟨g, rfl, HLK, HS3⟩
      refine ⟨_, rfl, hK.out _ _ HS3.out fun _ => ?_⟩
      clear hK
      simp only [List.getElem_toArray, List.getElem_cons_zero, Act.put, List.setIfInBounds_toArray, List.set_cons_zero, List.set_cons_succ]
      refine wpAnyH_ready (rs := [4]) (by kernel_rfl) (by simp) ?_
      refine AllReadyH.cons rfl (fun K hK => ?_) AllReadyH.nil
      refine step_storeM rfl (op_run (.tuple #[FV, .bool true]) ?_ ?_)
      · have r := HLK.out
        go_simp
      refine hK.out _ _ HS3.out fun _ => ?_
      clear hK
      simp only [List.getElem_toArray, List.getElem_cons_zero, List.getElem_cons_succ, Act.put, List.setIfInBounds_toArray, List.set_cons_zero, List.set_cons_succ]
      refine wpAnyH_take (i := 5) (v := .tuple #[FV, .bool true]) rfl (by kernel_rfl) (by kernel_rfl) (by kernel_rfl) (fun _ _ _ h => h) (.inl ⟨rfl, fun W hW => by kernel_rfl⟩) HS3.out ?_
      simp only [List.getElem_toArray, List.getElem_cons_zero, List.getElem_cons_succ, Act.put, List.setIfInBounds_toArray, List.set_cons_zero, List.set_cons_succ]
      refine wpAnyH_take (i := 6) (v := FV) rfl (by kernel_rfl) (by kernel_rfl) (by kernel_rfl) (fun _ _ _ h => h) (.inl ⟨rfl, fun W hW => by kernel_rfl⟩) HS3.out ?_
      simp only [List.getElem_toArray, List.getElem_cons_zero, List.getElem_cons_succ, Act.put, List.setIfInBounds_toArray, List.set_cons_zero, List.set_cons_succ]
      refine wpAnyH_take (i := 7) (v := .bool true) rfl (by kernel_rfl) (by kernel_rfl) (by kernel_rfl) (fun _ _ _ h => h) (.inl ⟨rfl, fun W hW => by kernel_rfl⟩) HS3.out ?_
      simp only [List.getElem_toArray, List.getElem_cons_zero, List.getElem_cons_succ, Act.put, List.setIfInBounds_toArray, List.set_cons_zero, List.set_cons_succ]
      refine wpAnyH_take (i := 8) (v := FV) rfl (by kernel_rfl) (by kernel_rfl) (by kernel_rfl) (fun _ _ _ h => h) (.inl ⟨rfl, fun W hW => by kernel_rfl⟩) HS3.out ?_
      simp only [List.getElem_toArray, List.getElem_cons_zero, List.getElem_cons_succ, Act.put, List.setIfInBounds_toArray, List.set_cons_zero, List.set_cons_succ]
      refine wpAnyH_take (i := 9) (v := .bool true) rfl (by kernel_rfl) (by kernel_rfl) (by kernel_rfl) (fun _ _ _ h => h) (.inl ⟨rfl, fun W hW => by kernel_rfl⟩) HS3.out ?_
      simp only [List.getElem_toArray, List.getElem_cons_zero, List.getElem_cons_succ, Act.put, List.setIfInBounds_toArray, List.set_cons_zero, List.set_cons_succ]
      refine wpAnyH_done (by kernel_rfl) ?_ _
      obtain ⟨n1, n2, n3, p0, p1, p2, HCO, HDN⟩ := HF.out w3 HS3.out
      clear HLK HD0 HSD HK0 HF HS3
      go_upto_region 2 with fail
      go_quiet (exact Calls.quiet_of_same (HCO.out _))
      clear HCO
      go_wp2_with fail
      go_ret
      exact ⟨_, rfl, (HDN.out _).none⟩
/-- Hear, as a plain function. -/
def hearM (d : Qd) (m : Mg) (S : Int) : Qd × List Mg := if m.n 2 = d.node ∧ m.n 3 = d.shard ∧ m.n 1 ∈ d.L then (if m.n 0 = 2 then promM d m S else if m.n 0 = 5 then (wroM d m, []) else if m.n 0 = 3 then (refM d m, []) else if m.n 0 = 7 then (betM d m, []) else (d, [])) else (d, [])
theorem hear_any {w : World} {p : Qp} {d : Qd} (h : QIs w p d) (m : Mg) (va : Option Addr) (vc : Nat) (hA : MgA w m va vc) (hN : MgN m) (S : Int) :
    Calls Try.prog 16 #[.pointer (some ⟨p.b, 0, none⟩), mgV m va vc, .int .i64 S] w fun e w' => ∃ r, e = .returned r ∧ OutM w.heap.size w' r (hearM d m S).2 ∧ QIs w' p (hearM d m S).1 ∧ Bq p w w' := by
  unfold hearM
  by_cases hc : m.n 2 = d.node ∧ m.n 3 = d.shard ∧ m.n 1 ∈ d.L
  · rw [if_pos hc]
    obtain ⟨e2, e3, e1⟩ := hc
    by_cases k2 : m.n 0 = 2
    · rw [if_pos k2]
      exact hear_promise h m va vc hA hN S k2 e2 e3 e1 _ _ fun W q a => promise_any q m va vc a hN e1 S
    · rw [if_neg k2]
      by_cases k5 : m.n 0 = 5
      · rw [if_pos k5]
        exact hear_wrote h m va vc hA hN S k5 e2 e3 e1 _ _ fun W q a => (wrote_any q m va vc a e1 S).mono fun e w' ⟨he, hq, hb⟩ => ⟨_, he, OutM.nil _ _, hq, hb⟩
      · rw [if_neg k5]
        by_cases k3 : m.n 0 = 3
        · rw [if_pos k3]
          exact hear_refuse h m va vc hA hN S k3 e2 e3 e1 _ _ fun W q a => (refuse_any q m va vc a hN e1 S).mono fun e w' ⟨he, hq, hb⟩ => ⟨_, he, OutM.nil _ _, hq, hb⟩
        · rw [if_neg k3]
          by_cases k7 : m.n 0 = 7
          · rw [if_pos k7]
            exact hear_beaten h m va vc hA hN S k7 e2 e3 e1 _ _ fun W q a => (beaten_any q m va vc a e1 S).mono fun e w' ⟨he, hq, hb⟩ => ⟨_, he, OutM.nil _ _, hq, hb⟩
          · rw [if_neg k7]
            exact hear_off h m va vc hA hN S (fun e => by
              have := of_decide_eq_true e.1
              omega)
  · rw [if_neg hc]
    exact hear_off h m va vc hA hN S (fun e => hc e.2)
end Go.Proofs.Ytcamdljlkcnikaa

/- Package quorum: New. -/
namespace Go.Proofs.Ytcamdljlkcnikaa
open Go.RowKit Go.Maps
set_option maxRecDepth 100000
set_option maxRecDepth 100000

/-- A list of ints of the call's own. -/
def intCells (l : List Int) : List Value := l.map (fun x => Value.int .i64 x)
def OwnI (w : World) (B : Nat) (v : Value) (l : List Int) : Prop := w.ownsRow B 3 1 v l.length (intCells l)
theorem intCells_len (l : List Int) : (intCells l).length = l.length := by simp [intCells]
theorem infoI : (Try.prog.info? 3).map (fun i => (i.zero, i.size, i.bytes)) = some (some (.int .i64 0), 1, 8) := by kernel_rfl
/-- Ints at a slice. -/
def Ints (w : World) (a : Option Addr) (l : List Int) : Prop := ∀ j, j < l.length → ∃ b o, a = some ⟨b, o, none⟩ ∧ w.cell? ⟨b, o + j, none⟩ = some (.int .i64 (l.getD j 0))
theorem Ints.since {w w' : World} {a : Option Addr} {l : List Int} (h : Ints w a l) (hs : w.Since w.heap.size w') : Ints w' a l := fun j hj => by
  obtain ⟨b, o, e, hc⟩ := h j hj
  exact ⟨b, o, e, cell_later hs hc⟩
theorem ownI_nil (w : World) (B : Nat) : OwnI w B (.slice none 0 0) [] := ⟨rfl, .inl ⟨rfl, rfl⟩⟩
theorem ownI_at {w : World} {B : Nat} {v : Value} {l : List Int} (h : OwnI w B v l) (hl : 0 < l.length) : ∃ g cap f, v = .slice (some ⟨g, 0, none⟩) l.length cap ∧ B ≤ g ∧ l.length ≤ cap ∧ w.rowIs g 3 cap f ∧ ∀ j, j < l.length → f j = .int .i64 (l.getD j 0) := by
  rcases h.2 with ⟨e, h0⟩ | ⟨g, cap, cur, e, hb, hh, hnc, hm, hsz, htk⟩
  · omega
  · refine ⟨g, cap, fun j => cur[j]?.getD undef, e, hb, hnc, ⟨cur, hh, by omega, fun i hi => by show cur[i]? = some (cur[i]?.getD undef); rw [Array.getElem?_eq_getElem (by omega)]; rfl⟩, fun j hj => ?_⟩
    have h2 := congrArg (fun l : List Value => l[j]?) htk
    simp only [Nat.mul_one] at h2
    rw [List.getElem?_take_of_lt hj, Array.getElem?_toList] at h2
    show cur[j]?.getD undef = _
    rw [h2]
    simp [intCells, List.getD, hj]
theorem ownI_ints {w : World} {B : Nat} {v : Value} {l : List Int} (h : OwnI w B v l) : ∃ a c, v = .slice a l.length c ∧ Ints w a l := by
  by_cases hl : 0 < l.length
  · obtain ⟨g, cap, f, e, _, hc, hr, hf⟩ := ownI_at h hl
    exact ⟨_, cap, e, fun j hj => ⟨g, 0, rfl, by rw [Nat.zero_add, hr.cell (by omega), hf j hj]⟩⟩
  · rcases h.2 with ⟨e, h0⟩ | ⟨g, cap, cur, e, _⟩
    · exact ⟨none, 0, by rw [e, h0], fun j hj => by omega⟩
    · exact ⟨_, cap, e, fun j hj => by omega⟩
theorem app_ints {w : World} {B : Nat} {v : Value} {l k : List Int} {b o m c : Nat} (h : OwnI w B v l) (hk : Ints w (some ⟨b, o, none⟩) k) (hm : m = k.length) (hl : l.length ≤ 1000000) (hkl : k.length ≤ 1000000) (hB : B ≤ w.heap.size) :
    ∃ v' w', (∀ ty, (Builtin.append_ #[25, 25] ty #[v, .slice (some ⟨b, o, none⟩) m c]).run Try.prog w = .ok v' w') ∧ OwnI w' B v' (l ++ k) ∧ w.grownBy w' v.ownBlock := by
  subst hm
  obtain ⟨i0, hi, hh⟩ := Option.map_eq_some_iff.1 infoI
  simp only [Prod.mk.injEq] at hh
  obtain ⟨hz0, hz1, hz2⟩ := hh
  have hml : maxLen = 9223372036854775807 := rfl
  obtain ⟨v', w', a1, a2, a3, _⟩ := run_append_own_at (P := Try.prog) w B 25 0 3 i0 _ 1 8 Try.underlying25 hi hz0 hz1 hz2 rfl (by decide) v l.length (intCells l) h ⟨b, o, none⟩ k.length c (intCells k) (by rw [intCells_len]; omega) (fun j u hj => by
    have hjl : j < k.length := by have := (List.getElem?_eq_some_iff.1 hj).1; rwa [intCells_len] at this
    obtain ⟨b', o', e, hc⟩ := hk j hjl
    cases e
    rw [Addr.add_mid, hc]
    simp only [intCells, List.getElem?_map, List.getElem?_eq_getElem hjl, Option.map_some] at hj
    rw [← hj]
    simp [List.getD, hjl]) (fun u hu => by
    obtain ⟨x, _, rfl⟩ := List.mem_map.1 hu
    rfl) (by omega) (by omega) hB
  refine ⟨v', w', fun ty => a1, ?_, a3⟩
  unfold OwnI intCells
  rw [List.map_append, List.length_append]
  exact a2
theorem ownI_own {w : World} {K : Nat} {v : Value} {l : List Int} (h : OwnI w K v l) : ∀ b, v.ownBlock = some b → K ≤ b := fun b e => by
  rcases h.2 with ⟨e2, _⟩ | ⟨g2, cap, cur, e2, hB, hq, _⟩
  · rw [e2] at e; simp [Value.ownBlock] at e
  · rw [e2] at e
    obtain rfl : g2 = b := by simpa [Value.ownBlock] using e
    exact hB
theorem clone_any {w : World} {b o c : Nat} {l : List Int} (h : Ints w (some ⟨b, o, none⟩) l) (hl : l.length ≤ 1000000) :
    Calls Try.prog 24 #[.slice (some ⟨b, o, none⟩) l.length c] w fun e w' => ∃ v, e = .returned v ∧ OwnI w' w.heap.size v l ∧ w.Since w.heap.size w' := by
  have s1 : w.Since w.heap.size (w.alloc (.cells #[] 3)) := (World.Since.refl _ _).alloc (Nat.le_refl _) _
  have o1 : OwnI (w.alloc (.cells #[] 3)) w.heap.size (.slice (some ⟨w.heap.size, 0, none⟩) 0 0) [] := ⟨rfl, .inr ⟨w.heap.size, 0, #[], rfl, Nat.le_refl _, heap_alloc_new w _, Nat.le_refl _, by decide, rfl, rfl⟩⟩
  have h1 := h.since s1
  obtain ⟨v', W2, ha, ho, hg⟩ := app_ints (m := l.length) (c := c) o1 h1 rfl (by decide) hl s1.size
  have s2 : (w.alloc (.cells #[] 3)).Since w.heap.size W2 := (World.Since.refl _ _).grown hg s1.size (ownI_own o1)
  have HE : Hid (OwnI W2 w.heap.size v' l ∧ w.Since w.heap.size W2) := ⟨ho, s2.os.trans s1.os, s2.tape.trans s1.tape, s2.output.trans s1.output, Nat.le_trans s1.size s2.size, fun k hk => (s2.block k hk).trans (s1.block k hk)⟩
  have HA := hide ha
  have hq : (binOp .eql 25 (.slice (some ⟨b, o, none⟩) l.length c) (.slice none 0 0)).run Try.prog w = .ok (.bool false) w := by kernel_rfl
  clear s1 o1 h1 ha ho hg s2 h
  go_enter Try.func24, Try.ntmps24
  go_wp2_with (at_builtin; refine wpList_append_eq rfl _ _ 25 rfl _ _ _ (by rfl) (by rfl) (HA.out _) ?_)
  go_ret
  exact ⟨_, rfl, HE.out⟩
end Go.Proofs.Ytcamdljlkcnikaa

/- Package quorum: New. -/
namespace Go.Proofs.Ytcamdljlkcnikaa
open Go.RowKit Go.Maps
set_option maxRecDepth 100000
set_option maxRecDepth 100000

def newD (node shard : Int) (L : List Int) : Qd := ⟨node, shard, L, 0, 0, 0, tv0, tv0, 0, 0, [], [], []⟩
structure Qp.ge (p : Qp) (B : Nat) : Prop where
  b : B ≤ p.b
  cb : B ≤ p.cb
  m1 : B ≤ p.m1
  m2 : B ≤ p.m2
  m3 : B ≤ p.m3
set_option maxHeartbeats 2000000 in
theorem new_any {w : World} {b o c : Nat} {L : List Int} (h : Ints w (some ⟨b, o, none⟩) L) (hI : ∀ x ∈ L, I64 x) (h1 : 1 ≤ L.length) (h7 : L.length ≤ 1000) (node shard : Int) (hn : node ∈ L) (hs : I64 shard) :
    Calls Try.prog 8 #[.int .i64 node, .int .i64 shard, .slice (some ⟨b, o, none⟩) L.length c] w fun e w' => ∃ p : Qp, e = .returned (.pointer (some ⟨p.b, 0, none⟩)) ∧ QIs w' p (newD node shard L) ∧ p.ge w.heap.size ∧ w.Since w.heap.size w' := by
  have HC : Hid (Calls Try.prog 24 #[.slice (some ⟨b, o, none⟩) L.length c] w fun e w1 => ∃ (cb cc : Nat), e = .returned (.slice (some ⟨cb, 0, none⟩) L.length cc) ∧ ∃ (W2 W3 W4 W5 : World) (k1 k2 k3 qb : Nat), Hid (w1.alloc (.map #[] 0) = W2) ∧ Hid (w1.heap.size = k1) ∧ Hid (W2.alloc (.map #[] 0) = W3) ∧ Hid (W2.heap.size = k2) ∧ Hid (W3.alloc (.map #[] 0) = W4) ∧ Hid (W3.heap.size = k3) ∧
      Hid (W4.alloc (.cells #[.int .i64 node, .int .i64 shard, .slice (some ⟨cb, 0, none⟩) L.length cc, .int .u64 0, .int .i64 0, .int .u64 0, .int .u64 0, .int .u64 0, .string ⟨#[]⟩, .int .u64 0, .int .u64 0, .string ⟨#[]⟩, .int .u64 0, .int .u64 0, .map (some k1), .map (some k2), .map (some k3)] 82) = W5) ∧ Hid (W4.heap.size = qb) ∧ k2 = w1.heap.size + 1 ∧ k3 = w1.heap.size + 1 + 1 ∧ qb = w1.heap.size + 1 + 1 + 1 ∧ Hid (QIs W5 ⟨qb, cb, cc, k1, k2, k3⟩ (newD node shard L) ∧ (⟨qb, cb, cc, k1, k2, k3⟩ : Qp).ge w.heap.size ∧ w.Since w.heap.size W5)) :=
    (clone_any h (by omega)).mono fun e w1 ⟨v, he, ho, hs1⟩ => by
      obtain ⟨cb, cc, f, ev, hcb, hcc, hr, hf⟩ := ownI_at ho h1
      refine ⟨cb, cc, by rw [he, ev], _, _, _, _, _, _, _, _, rfl, rfl, rfl, rfl, rfl, rfl, rfl, rfl, by simp, by simp, by simp, ?_⟩
      have s2 : w1.Since w1.heap.size (w1.alloc (.map #[] 0)) := (World.Since.refl _ _).alloc (Nat.le_refl _) _
      have z2 : (w1.alloc (.map #[] 0)).heap.size = w1.heap.size + 1 := by simp
      have c1 := cr_made w1
      generalize w1.alloc (.map #[] 0) = W2 at *
      have s3 : W2.Since W2.heap.size (W2.alloc (.map #[] 0)) := (World.Since.refl _ _).alloc (Nat.le_refl _) _
      have z3 : (W2.alloc (.map #[] 0)).heap.size = W2.heap.size + 1 := by simp
      have c2 := cr_made W2
      generalize W2.alloc (.map #[] 0) = W3 at *
      have s4 : W3.Since W3.heap.size (W3.alloc (.map #[] 0)) := (World.Since.refl _ _).alloc (Nat.le_refl _) _
      have z4 : (W3.alloc (.map #[] 0)).heap.size = W3.heap.size + 1 := by simp
      have c3 := cr_made W3
      generalize W3.alloc (.map #[] 0) = W4 at *
      have s5 : ∀ ob, W4.Since W4.heap.size (W4.alloc ob) := fun ob => (World.Since.refl _ _).alloc (Nat.le_refl _) _
      have sAll : w.Since w.heap.size W4 := ((hs1.trans (since_mono s2 hs1.size)).trans (since_mono s3 (by have := hs1.size; omega))).trans (since_mono s4 (by have := hs1.size; omega))
      have hz1 := hs1.size
      refine ⟨⟨?_, ⟨f, row_since (row_since (row_since (row_since hr s2) s3) s4) (s5 _), hcc, hf⟩, (((c1.on (s3.block _ c1.lt)).on (s4.block _ (by have := c1.lt; omega))).on ((s5 _).block _ (by have := c1.lt; omega))), ((c2.on (s4.block _ c2.lt)).on ((s5 _).block _ (by have := c2.lt; omega))), c3.on ((s5 _).block _ c3.lt), ⟨by show w1.heap.size ≠ W2.heap.size; omega, by show w1.heap.size ≠ W3.heap.size; omega, by show W2.heap.size ≠ W3.heap.size; omega⟩, ?_⟩, ⟨by show _ ≤ W4.heap.size; omega, by show _ ≤ cb; omega, by show _ ≤ w1.heap.size; omega, by show _ ≤ W2.heap.size; omega, by show _ ≤ W3.heap.size; omega⟩, sAll.trans (since_mono (s5 _) sAll.size)⟩
      · exact World.rowIs_alloc W4 _ _ _ (fun i hi => by
          have hi' : i < 17 := hi
          match i, hi' with
          | 0, _ => rfl
          | 1, _ => rfl
          | 2, _ => rfl
          | 3, _ => rfl
          | 4, _ => rfl
          | 5, _ => rfl
          | 6, _ => rfl
          | 7, _ => rfl
          | 8, _ => rfl
          | 9, _ => rfl
          | 10, _ => rfl
          | 11, _ => rfl
          | 12, _ => rfl
          | 13, _ => rfl
          | 14, _ => rfl
          | 15, _ => rfl
          | 16, _ => rfl
          | n + 17, hh => exact absurd hh (by omega))
      · exact ⟨hn, hs, hI, h1, h7, by show (0 : Nat) < _; decide, ⟨Int.le_refl _, by show (0 : Int) ≤ 3; decide⟩, by show (0 : Nat) < _; decide, tv0_ok, tv0_ok, by show (0 : Nat) < _; decide, by show (0 : Nat) < _; decide, Sub.nil _, Sub.nil _, Sub.nil _⟩
  have hmm := @run_makeMap Try.prog
  clear h hI h1 h7 hn hs
  go_enter Try.func8, Try.ntmps8
  go_wp2_with (go_at_call 24; refine HC.out.mono ?_; rintro e w1 ⟨cb, cc, rfl, W2, W3, W4, W5, k1, k2, k3, qb, HW2, Hk1, HW3, Hk2, HW4, Hk3, HW5, Hqb, e2, e3, eq, HE⟩)
  go_ret
  have hE := HE.out
  have h1 := Hk1.out
  subst h1
  subst e2
  subst e3
  subst eq
  rw [← HW5.out, ← HW4.out, ← HW3.out, ← HW2.out] at hE
  exact ⟨_, rfl, hE⟩
end Go.Proofs.Ytcamdljlkcnikaa

/- Stage 10's laws: into, copiesOf. -/
namespace Go.Proofs.Ytcamdljlkcnikaa
open Go.RowKit Go.Maps
set_option maxRecDepth 100000
set_option maxRecDepth 100000

theorem into_any (i : Int) (n : Nat) (hn : 1 ≤ n) (hn2 : n ≤ 1000) (hi : I64 i) (w : World) : Calls Try.prog 7 #[.int .i64 i, .int .i64 (n : Nat)] w fun e w' => e = .returned (.int .i64 (i % (n : Int))) ∧ w = w' := by
  obtain ⟨h0, h1⟩ := hi
  have t1 := Int.tmod_lt_of_pos i (show (0 : Int) < (n : Int) by omega)
  have t2 := Int.lt_tmod_of_pos i (show (0 : Int) < (n : Int) by omega)
  have hw : IntKind.i64.wrap (Int.tmod i (n : Int)) = Int.tmod i (n : Int) := by rw [IntKind.wrap_i64]; omega
  have hnz : ¬ ((n : Int) = 0) := by omega
  have hnz2 : ((n : Int) == 0) = false := by simp; omega
  have hr := @Int.emod_eq_tmod i (n : Int)
  by_cases hneg : Int.tmod i (n : Int) < 0
  · have he : i % (n : Int) = Int.tmod i (n : Int) + (n : Int) := by
      have h3 : ¬ (0 ≤ i ∨ (n : Int) ∣ i) := by
        rintro (h | h)
        · exact absurd (Int.tmod_nonneg (n : Int) h) (by omega)
        · rw [Int.tmod_eq_zero_of_dvd h] at hneg; omega
      rw [hr, if_neg h3]
      simp
    have hw2 : IntKind.i64.wrap (Int.tmod i (n : Int) + (n : Int)) = Int.tmod i (n : Int) + (n : Int) := by rw [IntKind.wrap_i64]; omega
    rw [he]
    clear he hr
    go_enter Try.func7, Try.ntmps7
    go_wp2_with fail
    go_ret
    exact ⟨rfl, rfl⟩
  · have he : i % (n : Int) = Int.tmod i (n : Int) := by
      by_cases h3 : 0 ≤ i ∨ (n : Int) ∣ i
      · rw [hr, if_pos h3]
        simp
      · exfalso
        have h4 : i < 0 := by omega
        have h5 : Int.tmod i (n : Int) = 0 := by
          have q1 := Int.tmod_nonneg (n : Int) (show 0 ≤ -i by omega)
          have q2 : Int.tmod (-i) (n : Int) = -(Int.tmod i (n : Int)) := Int.neg_tmod i n
          omega
        exact h3 (.inr (Int.dvd_of_tmod_eq_zero h5))
    rw [he]
    clear he hr
    go_enter Try.func7, Try.ntmps7
    go_wp2_with fail
    go_ret
    exact ⟨rfl, rfl⟩
/-- The nodes, in an order that is not theirs. -/
def cpL (n : Nat) : List Int := (List.range n).map fun i => (((4 * i + 5) % 9 : Nat) : Int)
theorem cpL_len (n : Nat) : (cpL n).length = n := by simp [cpL]
theorem cpL_i64 (n : Nat) : ∀ x ∈ cpL n, 0 ≤ x ∧ x < 9 := fun x hx => by
  obtain ⟨i, _, rfl⟩ := List.mem_map.1 hx
  omega
theorem cpL_get (n j : Nat) (hj : j < n) : (cpL n).getD j 0 = (((4 * j + 5) % 9 : Nat) : Int) := by simp [cpL, List.getD, hj]
theorem cpL_next (n : Nat) : cpL (n + 1) = cpL n ++ [(((4 * n + 5) % 9 : Nat) : Int)] := by simp [cpL, List.range_succ]
theorem cpL_nodup (n : Nat) (h : n ≤ 9) : (cpL n).Nodup := by
  match n, h with
  | 0, _ | 1, _ | 2, _ | 3, _ | 4, _ | 5, _ | 6, _ | 7, _ | 8, _ | 9, _ => decide
  | n + 10, h => omega
def manyN (i : Int) : Nat := 1 + 2 * (i % 4).toNat
theorem manyN_le (i : Int) : 1 ≤ manyN i ∧ manyN i ≤ 7 := by unfold manyN; omega
theorem app_one {w : World} {B : Nat} {v : Value} {l : List Int} (h : OwnI w B v l) (x : Int) (hl : l.length ≤ 1000) (hB : B ≤ w.heap.size) :
    ∃ v' w', (∀ ty, (Builtin.append_ #[25, 25] ty #[v, .slice (some ⟨w.heap.size, 0, none⟩) 1 1]).run Try.prog (w.alloc (.cells #[.int .i64 x] 3)) = .ok v' w') ∧ OwnI w' B v' (l ++ [x]) ∧ w.Since B w' := by
  have s1 : w.Since w.heap.size (w.alloc (.cells #[.int .i64 x] 3)) := (World.Since.refl _ _).alloc (Nat.le_refl _) _
  have z1 : (w.alloc (.cells #[.int .i64 x] 3)).heap.size = w.heap.size + 1 := by simp
  have o1 : OwnI (w.alloc (.cells #[.int .i64 x] 3)) B v l := World.ownsRow.alloc h _
  have i1 : Ints (w.alloc (.cells #[.int .i64 x] 3)) (some ⟨w.heap.size, 0, none⟩) [x] := fun j hj => ⟨w.heap.size, 0, rfl, by
    obtain rfl : j = 0 := by simpa using hj
    exact World.cell?_alloc_at (w := w) _ _ _ 0 rfl⟩
  obtain ⟨v', w', a1, a2, a3⟩ := app_ints (m := 1) (c := 1) o1 i1 rfl (by omega) (by simp) (by omega)
  have s2 := (World.Since.refl B (w.alloc (.cells #[.int .i64 x] 3))).grown a3 (by omega) (ownI_own o1)
  exact ⟨v', w', a1, a2, s2.os.trans s1.os, s2.tape.trans s1.tape, s2.output.trans s1.output, Nat.le_trans s1.size s2.size, fun k hk => (s2.block k hk).trans (s1.block k (by omega))⟩
set_option maxHeartbeats 1000000 in
theorem copiesOf_any (many : Int) (hm : I64 many) (w : World) : Calls Try.prog 6 #[.int .i64 many] w fun e w' => ∃ v, e = .returned v ∧ OwnI w' w.heap.size v (cpL (manyN many)) ∧ w.Since w.heap.size w' := by
  have HI := hide (into_any many 4 (by decide) (by decide) hm w)
  obtain ⟨hM1, hM7⟩ := manyN_le many
  obtain ⟨M, hM⟩ : ∃ M, manyN many = M := ⟨_, rfl⟩
  obtain ⟨R, hR⟩ : ∃ R : Int, many % ((4 : Nat) : Int) = R := ⟨_, rfl⟩
  have hMR : 1 + 2 * R = (M : Nat) := by unfold manyN at hM; omega
  have hR0 : 0 ≤ R ∧ R < 4 := by omega
  have w1 : IntKind.i64.wrap (2 * R) = 2 * R := by rw [IntKind.wrap_i64]; omega
  have w2 : IntKind.i64.wrap (1 + 2 * R) = (M : Nat) := by rw [IntKind.wrap_i64]; omega
  rw [hM] at hM1 hM7 ⊢
  rw [hR] at HI
  clear hm hM hR hMR hR0
  go_enter Try.func6, Try.ntmps6
  go_wp2_with (go_at_call 7; refine HI.out.mono ?_; rintro e w3 ⟨rfl, rfl⟩)
  go_loopg [4, 5] M (fun q s4 s5 wx => ∃ (i : Nat) (v : Value), i ≤ M ∧ q = M - i ∧ s5 = .int .i64 (i : Nat) ∧ v = s4 ∧ Hid (OwnI wx w.heap.size v (cpL i) ∧ w.Since w.heap.size wx))
  case atStart => exact ⟨0, _, Nat.zero_le _, rfl, rfl, rfl, ownI_nil _ _, World.Since.refl _ _⟩
  case round =>
    obtain ⟨i, v, hi, rfl, rfl, rfl, HX⟩ := hrel
    by_cases hlt : i < M
    · have hz : (i : Int) < (M : Int) := by omega
      have hwi : IntKind.i64.wrap ((i : Int) + 1) = (i : Int) + 1 := by rw [IntKind.wrap_i64]; omega
      have hme : M - (i + 1) < M - i := by omega
      have x1 : IntKind.i64.wrap (4 * (i : Int)) = 4 * (i : Int) := by rw [IntKind.wrap_i64]; omega
      have x2 : IntKind.i64.wrap (4 * (i : Int) + 5) = 4 * (i : Int) + 5 := by rw [IntKind.wrap_i64]; omega
      obtain ⟨X, hX⟩ : ∃ X : Int, (((4 * i + 5) % 9 : Nat) : Int) = X := ⟨_, rfl⟩
      have hx' : (4 * (i : Int) + 5) % 9 = X := by rw [← hX]; omega
      have x3 : IntKind.i64.wrap (Int.tmod (4 * (i : Int) + 5) 9) = X := by
        rw [Int.tmod_eq_emod_of_nonneg (by omega), hx', IntKind.wrap_i64]; omega
      obtain ⟨v', W4, ha, ho, hs⟩ := app_one HX.out.1 X (by rw [cpL_len]; omega) HX.out.2.size
      have HN : Hid (OwnI W4 w.heap.size v' (cpL (i + 1)) ∧ w.Since w.heap.size W4) := ⟨by rw [cpL_next, hX]; exact ho, ⟨hs.os.trans HX.out.2.os, hs.tape.trans HX.out.2.tape, hs.output.trans HX.out.2.output, Nat.le_trans HX.out.2.size hs.size, fun k hk => (hs.block k hk).trans (HX.out.2.block k hk)⟩⟩
      have HA := hide ha
      clear HX ha ho hs hX
      go_wp2_with (at_builtin; refine wpList_append_eq rfl _ _ 25 rfl _ _ _ (by rfl) (by rfl) (HA.out _) ?_)
      go_roundg (M - (i + 1))
      case measure => go_light; exact hme
      case rel => go_light; exact ⟨i + 1, v', hlt, rfl, by simp, rfl, HN⟩
    · obtain rfl : i = M := by omega
      go_wp2_with fail
      go_ret
      exact ⟨v, rfl, HX.out⟩
end Go.Proofs.Ytcamdljlkcnikaa

/- Stage 10's laws: wakes. -/
namespace Go.Proofs.Ytcamdljlkcnikaa
open Go.RowKit Go.Maps
set_option maxRecDepth 100000
set_option maxRecDepth 100000

def byteW (w : World) (b : Nat) : World := w.alloc (.cells #[.int .u8 (b : Nat)] 5 (1, 2))
theorem byteW_since (w : World) (b : Nat) : w.Since w.heap.size (byteW w b) := (World.Since.refl _ _).alloc (Nat.le_refl _) _
theorem byteW_size (w : World) (b : Nat) : (byteW w b).heap.size = w.heap.size + 1 := by unfold byteW; simp
theorem byteW_byt (w : World) (b : Nat) : Byt (byteW w b) (some ⟨w.heap.size, 0, none⟩) 1 (fun _ => b) := fun j hj => ⟨_, _, rfl, by
  have : j = 0 := by omega
  subst this
  unfold byteW
  rw [World.cell?_alloc_mark]
  rfl⟩
theorem conv_byte (w : World) (b : Nat) : (convert 36 36 (.slice (some ⟨w.heap.size, 0, none⟩) 1 1)).run Try.prog (w.alloc (.cells #[.int .u8 (b : Nat)] 5)) = .ok (.slice (some ⟨w.heap.size, 0, none⟩) 1 1) (byteW w b) :=
  Lib.run_convert_bytes_const (P := Try.prog) w 36 5 #[.int .u8 (b : Nat)] 1 1 Try.underlying36 Try.underlying5
theorem row_byt {w : World} {g n : Nat} {x : Nat → Nat} (h : w.rowIs g 5 n (fun j => .int .u8 (x j : Nat))) : Byt w (some ⟨g, 0, none⟩) n x := fun j hj => ⟨g, 0, rfl, by rw [Nat.zero_add]; exact h.cell hj⟩

theorem mgL_get (m : Mg) (va : Option Addr) (vc j : Nat) (hj : j < 22) : (mgL m va vc)[j]? = some (mgCell m va vc j) := by
  unfold mgL
  rw [List.getElem?_map, List.getElem?_range hj]
  rfl
/-- The first message of a list. -/
theorem out_one {B : Nat} {w : World} {r : Value} {m : Mg} (h : OutM B w r [m]) : ∃ g cap, r = .slice (some ⟨g, 0, none⟩) 1 cap ∧ ∀ c, c < 22 → c ≠ 10 → ∀ v, mgCell m none 0 c = v → w.cell? ⟨g, c, none⟩ = some v := by
  obtain ⟨l, ho, hm, _⟩ := h
  have hl : l.length = 1 := by have := congrArg List.length hm; simpa using this
  obtain ⟨e, rfl⟩ : ∃ e, l = [e] := List.length_eq_one_iff.1 hl
  have he : e.m = m := by simpa using hm
  obtain ⟨g, cap, f, ev, _, hc, hr, hf⟩ := ownM_at ho (by simp)
  refine ⟨g, cap, ev, fun c hc22 h10 v hv => ?_⟩
  have hc1 : ([e] : List Me).length ≤ cap := hc
  have h1 : 1 ≤ cap := hc1
  rw [hr.cell (by omega)]
  have := hf c (by show c < 1 * 22; omega)
  rw [this, msCells_one, mgL_get e.m e.va e.vc c hc22, ← hv, ← he]
  congr 1
  unfold mgCell
  rw [if_neg h10, if_neg h10]
def wkD : Qd := newD 3 1 [3]
def wkT : Tv := ⟨0, 0, [120]⟩
theorem wk_out : ∃ m, (startM wkD 5 wkT 2).2 = [m] ∧ m.n 0 = 4 ∧ m.n 5 = 5 ∧ m.n 6 = 1 ∧ (startM wkD 5 wkT 2).1.ph = 2 := ⟨_, rfl, rfl, rfl, rfl, rfl⟩
set_option maxHeartbeats 2000000 in
theorem wakes_any (w : World) : Calls Try.prog 9 #[] w fun e w' => e = .returned (.bool true) ∧ w.Since w.heap.size w' := by
  obtain ⟨W1, HW1⟩ : ∃ W, Hid (w.alloc (.cells #[.int .i64 3] 3) = W) := ⟨_, rfl⟩
  have s1 : w.Since w.heap.size W1 := by rw [← HW1.out]; exact (World.Since.refl _ _).alloc (Nat.le_refl _) _
  have i1 : Ints W1 (some ⟨w.heap.size, 0, none⟩) [3] := fun j hj => ⟨w.heap.size, 0, rfl, by
    obtain rfl : j = 0 := by simpa using hj
    rw [← HW1.out]
    exact World.cell?_alloc_at (w := w) _ _ _ 0 rfl⟩
  have HN : Hid (Calls Try.prog 8 #[.int .i64 3, .int .i64 1, .slice (some ⟨w.heap.size, 0, none⟩) 1 1] W1 fun e w2 => ∃ qb, e = .returned (.pointer (some ⟨qb, 0, none⟩)) ∧ ∃ W3 xb, Hid (w2.alloc (.cells #[.int .u8 120] 5) = W3) ∧ Hid (w2.heap.size = xb) ∧ ∃ W4, Hid ((convert 36 36 (.slice (some ⟨xb, 0, none⟩) 1 1)).run Try.prog W3 = .ok (.slice (some ⟨xb, 0, none⟩) 1 1) W4) ∧
      Hid (Calls Try.prog 10 #[.pointer (some ⟨qb, 0, none⟩), .int .u64 5, .agg #[.int .u64 5, .int .u64 0, .int .u64 0, .slice (some ⟨xb, 0, none⟩) 1 1], .int .i64 2] W4 fun e w5 => ∃ g cap, e = .returned (.slice (some ⟨g, 0, none⟩) 1 cap) ∧ w5.cell? ⟨g, 0, none⟩ = some (.int .i64 4) ∧ w5.cell? ⟨g, 5, none⟩ = some (.int .u64 5) ∧ w5.cell? ⟨g, 6, none⟩ = some (.int .u64 1) ∧ Hid (Calls Try.prog 13 #[.pointer (some ⟨qb, 0, none⟩)] w5 fun e w6 => e = .returned (.int .i64 2) ∧ w5 = w6) ∧ Hid (w.Since w.heap.size w5))) :=
    (new_any (c := 1) i1 (fun x hx => by obtain rfl : x = 3 := by simpa using hx
                                         exact ⟨by decide, by decide⟩) (by decide) (by decide) 3 1 (by simp) ⟨by decide, by decide⟩).mono fun e w2 ⟨p, he, hq, hg, hs⟩ => by
      refine ⟨p.b, he, _, _, rfl, rfl, byteW w2 120, conv_byte w2 120, ?_⟩
      have sb := byteW_since w2 120
      have s02 : w.Since w.heap.size w2 := s1.trans (since_mono hs s1.size)
      have q4 := hq.since sb
      refine (start_any q4 5 (by decide) 5 0 0 (by decide) (by decide) (some ⟨w2.heap.size, 0, none⟩) 1 1 (fun _ => 120) (byteW_byt w2 120) (fun _ => by decide) (fun e => by cases e) (by decide) 2).mono fun e w5 ⟨r, he5, ho, hq5, hb5⟩ => ?_
      obtain ⟨m, hm, k0, k5, k6, hph⟩ := wk_out
      have ho' : OutM (byteW w2 120).heap.size w5 r [m] := by rw [← hm]; exact ho
      obtain ⟨g, cap, er, hcell⟩ := out_one ho'
      have hph5 : Calls Try.prog 13 #[.pointer (some ⟨p.b, 0, none⟩)] w5 fun e w6 => e = .returned (.int .i64 2) ∧ w5 = w6 := by
        have := phaseQ_any hq5
        rw [show (startM (newD 3 1 [3]) 5 ⟨0, 0, (List.range 1).map fun _ => 120⟩ 2).1.ph = 2 from hph] at this
        exact this
      refine ⟨g, cap, by rw [he5, er], hcell 0 (by decide) (by decide) _ (by show Value.int .i64 (m.n 0) = _; rw [k0]), hcell 5 (by decide) (by decide) _ (by show Value.int .u64 (m.n 5) = _; rw [k5]), hcell 6 (by decide) (by decide) _ (by show Value.int .u64 (m.n 6) = _; rw [k6]), hph5, ?_⟩
      have hz1 := s1.size
      have hz2 := s02.size
      exact ⟨hb5.os.trans (sb.os.trans s02.os), hb5.tape.trans (sb.tape.trans s02.tape), hb5.output.trans (sb.output.trans s02.output), Nat.le_trans hz2 (Nat.le_trans sb.size hb5.size), fun k hk => (hb5.block k (by have := sb.size; omega) (by have := hg.b; omega) (by have := hg.m1; omega) (by have := hg.m2; omega) (by have := hg.m3; omega)).trans ((sb.block k (by omega)).trans (s02.block k hk))⟩
  clear s1 i1
  go_enter Try.func9, Try.ntmps9
  go_upto_region 4 with (go_at_call 8; (try rw [HW1.out]); refine HN.out.mono ?_; rintro e w2 ⟨qb, rfl, W3, xb, HW3, Hxb, W4, HCV, HST⟩)
  have hcv := HCV.out
  rw [← HW3.out] at hcv
  rw [← Hxb.out] at hcv HST
  clear HW1 HW3 Hxb HN HCV
  go_wp2_with (first
    | (go_at_call 10; refine HST.out.mono ?_; rintro e w5 ⟨g, cap, rfl, c0, c5, c6, HPH, HE⟩)
    | (go_at_call 13; refine HPH.out.mono ?_; rintro e w6 ⟨rfl, rfl⟩))
  go_ret
  exact ⟨by simp, HE.out⟩
end Go.Proofs.Ytcamdljlkcnikaa

/- QuorumCounts: left, Steps0. -/
namespace Go.Proofs.Ytcamdljlkcnikaa
open Go.RowKit Go.Maps
set_option maxRecDepth 100000
set_option maxRecDepth 100000

/-- How many of the first n have not answered. -/
def leftN (A : Nat → Bool) : Nat → Nat
  | 0 => 0
  | n + 1 => leftN A n + if A n then 0 else 1
theorem leftN_le (A : Nat → Bool) : ∀ n, leftN A n ≤ n
  | 0 => Nat.le_refl _
  | n + 1 => by
    have := leftN_le A n
    unfold leftN
    split <;> omega
theorem left_any {w : World} {ab n : Nat} {A : Nat → Bool} (h : w.rowIs ab 4 n (fun j => .bool (A j))) (hn : n ≤ 1000) (c : Nat) :
    Calls Try.prog 32 #[.slice (some ⟨ab, 0, none⟩) n c] w fun e w' => e = .returned (.int .i64 (leftN A n : Nat)) ∧ w = w' := by
  go_enter Try.func32, Try.ntmps32
  go_wp2_with fail
  go_loopg [3, 4] n (fun q s3 s4 wx => ∃ (i : Nat), i ≤ n ∧ q = n - i ∧ s4 = .int .i64 (i : Nat) ∧ s3 = .int .i64 (leftN A i : Nat) ∧ w = wx)
  case atStart => exact ⟨0, Nat.zero_le _, rfl, rfl, rfl, rfl⟩
  case round =>
    obtain ⟨i, hi, rfl, rfl, rfl, rfl⟩ := hrel
    by_cases hlt : i < n
    · have hz : (i : Int) < (n : Int) := by omega
      have hz0 : (0 : Int) ≤ (i : Int) := by omega
      have hwi : IntKind.i64.wrap ((i : Int) + 1) = (i : Int) + 1 := by rw [IntKind.wrap_i64]; omega
      have hme : n - (i + 1) < n - i := by omega
      have ci : w.cell? ⟨ab, i, none⟩ = some (.bool (A i)) := h.cell hlt
      have hl := leftN_le A i
      cases hA : A i with
      | true =>
        have hN : Hid (leftN A (i + 1) = leftN A i) := by show leftN A i + _ = _; rw [hA]; rfl
        rw [hA] at ci
        clear h hA hl
        generalize leftN A i = Q at *
        go_wp2_with fail
        go_roundg (n - (i + 1))
        case measure => go_light; exact hme
        case rel => go_light; exact ⟨i + 1, hlt, rfl, by simp, by rw [hN.out], rfl⟩
      | false =>
        have hN : Hid (leftN A (i + 1) = leftN A i + 1) := by show leftN A i + _ = _; rw [hA]; rfl
        have hwq : IntKind.i64.wrap ((leftN A i : Int) + 1) = (leftN A i : Int) + 1 := by rw [IntKind.wrap_i64]; omega
        rw [hA] at ci
        clear h hA hl
        generalize leftN A i = Q at *
        go_wp2_with fail
        go_roundg (n - (i + 1))
        case measure => go_light; exact hme
        case rel => go_light; exact ⟨i + 1, hlt, rfl, by simp, by rw [hN.out]; simp, rfl⟩
    · obtain rfl : i = n := by omega
      clear h
      go_wp2_with fail
      go_ret
      exact ⟨rfl, rfl⟩
/-- The steps that are handed in. -/
structure StIn (w : World) (sa : Option Addr) (sn : Nat) (Pl At : Nat → Int) : Prop where
  at' : ∀ i, i < sn → ∃ b o, sa = some ⟨b, o, none⟩ ∧ w.cell? ⟨b, o + i * 3 + 1, none⟩ = some (.int .i64 (Pl i)) ∧ w.cell? ⟨b, o + i * 3 + 2, none⟩ = some (.int .i64 (At i)) ∧ b < w.heap.size
  ok : ∀ i, I64 (Pl i) ∧ I64 (At i)
theorem StIn.since {w w' : World} {sa : Option Addr} {sn : Nat} {Pl At : Nat → Int} (h : StIn w sa sn Pl At) (hs : w.Since w.heap.size w') : StIn w' sa sn Pl At :=
  ⟨fun i hi => by
    obtain ⟨b, o, e, h1, h2, h3⟩ := h.at' i hi
    exact ⟨b, o, e, cell_later hs h1, cell_later hs h2, Nat.lt_of_lt_of_le h3 hs.size⟩, h.ok⟩
def atS (sn : Nat) (At : Nat → Int) (i : Nat) : Int := if i < sn then At i else 0
theorem steps0_any {w : World} {sa : Option Addr} {sn : Nat} {Pl At : Nat → Int} (h : StIn w sa sn Pl At) (many : Int) (sc i : Nat) (_hsn : sn ≤ 6000000000000) :
    Calls Try.prog 57 #[.agg #[.int .i64 many, .slice sa sn sc], .int .i64 (i : Nat)] w fun e w' => e = .returned (.int .i64 (atS sn At i)) ∧ w.Since w.heap.size w' := by
  have s1 : w.Since w.heap.size (w.alloc (.cells #[.int .i64 many, .slice sa sn sc] 24)) := (World.Since.refl _ _).alloc (Nat.le_refl _) _
  have HE := hide s1
  by_cases hi : i < sn
  · obtain ⟨b, o, rfl, _, h2, hb⟩ := h.at' i hi
    have h2' := cell_later s1 h2
    have hz : (i : Int) < (sn : Int) := by omega
    have hz0 : (0 : Int) ≤ (i : Int) := by omega
    rw [show atS sn At i = At i from if_pos hi]
    clear h h2 s1 hi
    generalize At i = Q at *
    go_enter Try.func57, Try.ntmps57
    go_wp2_with fail
    go_ret
    exact ⟨rfl, HE.out⟩
  · have hz : ¬ (i : Int) < (sn : Int) := by omega
    rw [show atS sn At i = 0 from if_neg hi]
    clear h s1 hi
    go_enter Try.func57, Try.ntmps57
    go_wp2_with fail
    go_ret
    exact ⟨rfl, HE.out⟩
end Go.Proofs.Ytcamdljlkcnikaa

/- QuorumCounts: answer. -/
namespace Go.Proofs.Ytcamdljlkcnikaa
open Go.RowKit Go.Maps
set_option maxRecDepth 100000
set_option maxRecDepth 100000

/-- An answer that is begun. -/
def anG (X Y : Int) : Mg := ⟨fun c => if c = 0 then 2 else if c = 1 then X else if c = 2 then Y else if c = 3 then 1 else 0, fun _ => []⟩
theorem anG_v (X Y : Int) : mgV (anG X Y) none 0 = .agg #[.int .i64 2, .int .i64 X, .int .i64 Y, .int .i64 1, .int .u64 0, .int .u64 0, .int .u64 0, .int .u64 0, .int .i64 0, .int .u64 0, .slice none 0 0, .int .i64 0, .int .u64 0, .string ⟨#[]⟩, .string ⟨#[]⟩, .int .u64 0, .int .u64 0, .int .u64 0, .int .i64 0, .int .i64 0, .int .i64 0, .int .i64 0] := rfl
/-- The three answers. -/
def ansM (k : Nat) (X Y T : Int) (p : Nat) : Mg := if k = 0 then ((((anG X Y).setN 4 77).setN 5 T).setN 6 (p : Nat)).setS 10 [p] else if k = 1 then (((anG X Y).setN 0 5).setN 5 77).setN 6 1 else (((anG X Y).setN 0 7).setN 4 77).setN 7 1
/-- While an answer is made. -/
structure AM (w : World) (mb rb : Nat) (m : Mg) (va : Option Addr) (vc : Nat) (W : World) : Prop where
  row : W.rowIs mb 61 22 (mgCell m va vc)
  rrow : W.rowIs rb 61 22 (mgCell mg0 none 0)
  since : w.Since w.heap.size W
  ge : w.heap.size ≤ mb ∧ w.heap.size ≤ rb ∧ mb ≠ rb
section
variable {w W W' : World} {mb rb : Nat} {m : Mg} {va : Option Addr} {vc : Nat}
theorem AM.sin (h : AM w mb rb m va vc W) (hs : W.Since W.heap.size W') : AM w mb rb m va vc W' := ⟨row_since h.row hs, row_since h.rrow hs, h.since.trans (since_mono hs h.since.size), h.ge⟩
theorem AM.num (h : AM w mb rb m va vc W) (c : Nat) (v : Int) (hc : c < 10) : AM w mb rb (m.setN c v) va vc (W.setCell ⟨mb, c, none⟩ (mgNum c v)) := by
  have hb : But mb W (W.setCell ⟨mb, c, none⟩ (mgNum c v)) := (But.of_since (World.Since.refl _ _)).setCell c _
  exact ⟨row_setN h.row c v (by omega) (by omega) (by omega), hb.row h.rrow h.ge.2.2.symm, hb.since h.since h.ge.1 h.since.size, h.ge⟩
theorem AM.value (h : AM w mb rb m va vc W) (l : List Nat) (ta : Option Addr) (k : Nat) : AM w mb rb (m.setS 10 l) ta k (W.setCell ⟨mb, 10, none⟩ (.slice ta l.length k)) := by
  have hb : But mb W (W.setCell ⟨mb, 10, none⟩ (.slice ta l.length k)) := (But.of_since (World.Since.refl _ _)).setCell 10 _
  exact ⟨row_setV h.row l ta k, hb.row h.rrow h.ge.2.2.symm, hb.since h.since h.ge.1 h.since.size, h.ge⟩
theorem AM.there2 (h : AM w mb rb m va vc W) (i k : Nat) (hk : i + k ≤ 22) : W.there mb i k := fun j hj => ⟨by rw [h.row.cell (i := i + j) (by omega)]; rfl, h.row.frozen _⟩
/-- The answer is handed over. -/
theorem AM.fin (h : AM w mb rb m va vc W) : ∃ (ML : Array Value) (WE : World), Hid (mgV m va vc = .agg ML) ∧ Hid (W.heap[mb]? = some (.cells ML 61 (0, 0))) ∧ Hid ((Try.prog.info? 61).map (·.size) = some ML.size) ∧ Hid (ML.all (·.oneCell') = true) ∧ Hid (W.there rb 0 ML.size) ∧ Hid (W.setCells rb 0 ML.toList = WE) ∧ Hid (WE.heap[rb]? = some (.cells ML 61 (0, 0))) ∧ Hid (w.Since w.heap.size WE ∧ ∀ k, k ≠ rb → WE.heap[k]? = W.heap[k]?) := by
  obtain ⟨WE, HWE, rE, hhE, zE, bE, oE, tE, pE⟩ := mg_stored h.rrow m va vc
  refine ⟨(mgL m va vc).toArray, WE, rfl, row_heap h.row, infoMgA _ _ _, mg_all _ _ _, ?_, HWE, hhE, ⟨oE.trans h.since.os, tE.trans h.since.tape, pE.trans h.since.output, by rw [zE]; exact h.since.size, fun k hk => (bE k (by have := h.ge.2.1; omega)).trans (h.since.block k hk)⟩, bE⟩
  have e : (mgL m va vc).toArray.size = 22 := by rw [List.size_toArray, mgL_len]
  show World.there _ _ _ _
  rw [e]
  exact row_there h.rrow
end
theorem msgA_nil {w : World} {m : Mg} (h : ∀ c, m.s c = []) : MgA w m none 0 := ⟨fun j hj => by rw [h 10] at hj; exact absurd hj (Nat.not_lt_zero _), fun _ => ⟨by rw [h 10]; rfl, rfl⟩, fun _ e => (by cases e), fun c => by rw [h c]; exact Nat.zero_le _, fun c v hv => by rw [h c] at hv; exact absurd hv List.not_mem_nil⟩
set_option maxHeartbeats 4000000 in
theorem answer_1 {w : World} {sa : Option Addr} {sn : Nat} {Pl At : Nat → Int} (hst : StIn w sa sn Pl At) (_hsn : sn ≤ 6000000000000) (many : Int) (sc : Nat) {lb lo lc : Nat} {L : List Int} (hL : Ints w (some ⟨lb, lo, none⟩) L) (me p i : Nat) (hme : me < L.length) (hp : p < L.length) (_hl : L.length ≤ 9) :
    Calls Try.prog 33 #[.agg #[.int .i64 many, .slice sa sn sc], .slice (some ⟨lb, lo, none⟩) L.length lc, .int .i64 (me : Nat), .int .i64 1, .int .i64 (p : Nat), .int .i64 (i : Nat)] w fun e w' => ∃ va vc, e = .returned (mgV (ansM 1 (L.getD p 0) (L.getD me 0) (atS sn At i % 5) p) va vc) ∧ MgA w' (ansM 1 (L.getD p 0) (L.getD me 0) (atS sn At i % 5) p) va vc ∧ w.Since w.heap.size w' := by
  obtain ⟨W0, HW0⟩ : ∃ W, Hid (w.alloc (.cells #[.int .i64 many, .slice sa sn sc] 24) = W) := ⟨_, rfl⟩
  have s0 : w.Since w.heap.size W0 := by rw [← HW0.out]; exact (World.Since.refl _ _).alloc (Nat.le_refl _) _
  have z0 : W0.heap.size = w.heap.size + 1 := by rw [← HW0.out]; simp
  have n0 : W0.cell? ⟨w.heap.size, 0, none⟩ = some (.int .i64 many) := by rw [← HW0.out]; simp
  have n1 : W0.cell? ⟨w.heap.size, 1, none⟩ = some (.slice sa sn sc) := by rw [← HW0.out]; simp
  obtain ⟨W1, HW1⟩ : ∃ W, Hid (W0.alloc mgZ = W) := ⟨_, rfl⟩
  have s1 : W0.Since W0.heap.size W1 := by rw [← HW1.out]; exact (World.Since.refl _ _).alloc (Nat.le_refl _) _
  have r1 : W1.rowIs (w.heap.size + 1) 61 22 (mgCell mg0 none 0) := by rw [← z0, ← HW1.out]; exact mgZ_row W0
  have z1 : W1.heap.size = w.heap.size + 2 := by rw [← HW1.out]; have : (W0.alloc mgZ).heap.size = W0.heap.size + 1 := by simp
                                                 omega
  have sd : W1.Since W1.heap.size W1.drew := (World.Since.refl _ _).drew
  have s01 : w.Since w.heap.size W1.drew := (s0.trans (since_mono s1 s0.size)).trans (since_mono sd (by omega))
  obtain ⟨X, hX⟩ : ∃ X, L.getD p 0 = X := ⟨_, rfl⟩
  obtain ⟨Y, hY⟩ : ∃ Y, L.getD me 0 = Y := ⟨_, rfl⟩
  have HXY : Hid (∀ W, W1.drew.Since W1.drew.heap.size W → W.cell? ⟨lb, lo + p, none⟩ = some (.int .i64 X) ∧ W.cell? ⟨lb, lo + me, none⟩ = some (.int .i64 Y)) := fun W hW => by
    have hLW := (hL.since s01).since hW
    obtain ⟨b1, o1, e1, c1⟩ := hLW p hp
    obtain ⟨b2, o2, e2, c2⟩ := hLW me hme
    cases e1
    cases e2
    exact ⟨by rw [← hX]; exact c1, by rw [← hY]; exact c2⟩
  have HND : Hid (∀ W, W1.drew.Since W1.drew.heap.size W → W.cell? ⟨w.heap.size, 0, none⟩ = some (.int .i64 many) ∧ W.cell? ⟨w.heap.size, 1, none⟩ = some (.slice sa sn sc)) := fun W hW => ⟨cell_later hW (cell_later sd (cell_later s1 n0)), cell_later hW (cell_later sd (cell_later s1 n1))⟩
  have HST : Hid (∀ W, w.Since w.heap.size W → StIn W sa sn Pl At) := fun W hW => hst.since hW
  have HAT : Hid (I64 (atS sn At i)) := by
    show I64 _
    unfold atS
    split
    · exact (hst.ok i).2
    · exact ⟨by decide, by decide⟩
  obtain ⟨W2, MM, HMM, HT2, HW2, HI2, HA2, HH2, HS2⟩ := mg_put W1.drew (anG X Y) none 0
  have HS2' : Hid (W1.drew.Since W1.drew.heap.size W2) := HS2
  have HAM : AM w W1.drew.heap.size (w.heap.size + 1) (anG X Y) none 0 W2 := ⟨mg_cells (HH2.out W2 (World.Since.refl _ _)) HMM.out, row_since (row_since r1 sd) HS2.out, s01.trans (since_mono HS2.out (by show _ ≤ W1.heap.size; omega)), ⟨by show _ ≤ W1.heap.size; omega, by omega, by show W1.heap.size ≠ _; omega⟩⟩
  have HS0 : Hid (W1.drew.Since W1.drew.heap.size W1.drew) := World.Since.refl _ _
  have HSA : Hid (W1.drew.Since W1.drew.heap.size (W1.drew.alloc (.cells #[.int .i64 0, .int .i64 0, .int .i64 0, .int .i64 0, .int .u64 0, .int .u64 0, .int .u64 0, .int .u64 0, .int .i64 0, .int .u64 0, .slice none 0 0, .int .i64 0, .int .u64 0, .string ⟨#[]⟩, .string ⟨#[]⟩, .int .u64 0, .int .u64 0, .int .u64 0, .int .i64 0, .int .i64 0, .int .i64 0, .int .i64 0] 61))) := (World.Since.refl _ _).alloc (Nat.le_refl _) _
  have hpz : (p : Int) < (L.length : Int) := by omega
  have hmz : (me : Int) < (L.length : Int) := by omega
  have hp0 : (0 : Int) ≤ (p : Int) := by omega
  have hm0 : (0 : Int) ≤ (me : Int) := by omega
  obtain ⟨mb, Hmb⟩ : ∃ x, Hid (W1.drew.heap.size = x) := ⟨_, rfl⟩
  obtain ⟨rb, Hrb⟩ : ∃ x, Hid (w.heap.size + 1 = x) := ⟨_, rfl⟩
  obtain ⟨nb, Hnb⟩ : ∃ x, Hid (w.heap.size = x) := ⟨_, rfl⟩
  rw [hX, hY]
  rw [Hmb.out] at HT2 HW2 HAM HH2
  rw [Hrb.out] at HAM
  rw [Hnb.out] at HND
  unfold mgZ at HW1
  clear s0 n0 n1 s1 r1 sd hX hY hst hL HH2 HS2 s01
  go_enter Try.func33, Try.ntmps33
  go_upto_region 1 with fail
  rw [HW0.out]
  try rw [z0]
  rw [HW1.out, Hnb.out, show nb + 1 = rb by rw [← Hnb.out, Hrb.out]]
  clear HW0 HW1 z0
  refine wp_region_held_drew (S := fun W => W1.drew.Since W1.drew.heap.size W) (by kernel_rfl) HS0.out fun _ => ?_
  refine wpAnyH_take (i := 0) (v := .slice (some ⟨lb, lo, none⟩) L.length lc) rfl (by kernel_rfl) (by kernel_rfl) (by kernel_rfl) (fun _ _ _ h => h) (.inl ⟨rfl, fun W hW => by kernel_rfl⟩) HS0.out ?_
  simp only [List.getElem_toArray, List.getElem_cons_zero, Act.put, List.setIfInBounds_toArray, List.set_cons_zero, List.set_cons_succ]
  refine wpAnyH_take (i := 1) (v := .int .i64 (p : Nat)) rfl (by kernel_rfl) (by kernel_rfl) (by kernel_rfl) (fun _ _ _ h => h) (.inl ⟨rfl, fun W hW => by kernel_rfl⟩) HS0.out ?_
  simp only [List.getElem_toArray, List.getElem_cons_zero, List.getElem_cons_succ, Act.put, List.setIfInBounds_toArray, List.set_cons_zero, List.set_cons_succ]
  refine wpAnyH_take (i := 2) (v := .pointer (some ⟨lb, lo + p, none⟩)) rfl (by kernel_rfl) (by kernel_rfl) (by kernel_rfl) (fun _ _ _ h => h) (.inl ⟨rfl, fun W hW => by go_simp⟩) HS0.out ?_
  simp only [List.getElem_toArray, List.getElem_cons_zero, List.getElem_cons_succ, Act.put, List.setIfInBounds_toArray, List.set_cons_zero, List.set_cons_succ]
  refine wpAnyH_take (i := 3) (v := .int .i64 X) rfl (by kernel_rfl) (by kernel_rfl) (by kernel_rfl) (fun _ _ _ h => h) (.inl ⟨rfl, fun W hW => by have c := (HXY.out W hW).1; go_simp⟩) HS0.out ?_
  simp only [List.getElem_toArray, List.getElem_cons_zero, List.getElem_cons_succ, Act.put, List.setIfInBounds_toArray, List.set_cons_zero, List.set_cons_succ]
  refine wpAnyH_take (i := 4) (v := .slice (some ⟨lb, lo, none⟩) L.length lc) rfl (by kernel_rfl) (by kernel_rfl) (by kernel_rfl) (fun _ _ _ h => h) (.inl ⟨rfl, fun W hW => by kernel_rfl⟩) HS0.out ?_
  simp only [List.getElem_toArray, List.getElem_cons_zero, List.getElem_cons_succ, Act.put, List.setIfInBounds_toArray, List.set_cons_zero, List.set_cons_succ]
  refine wpAnyH_take (i := 5) (v := .int .i64 (me : Nat)) rfl (by kernel_rfl) (by kernel_rfl) (by kernel_rfl) (fun _ _ _ h => h) (.inl ⟨rfl, fun W hW => by kernel_rfl⟩) HS0.out ?_
  simp only [List.getElem_toArray, List.getElem_cons_zero, List.getElem_cons_succ, Act.put, List.setIfInBounds_toArray, List.set_cons_zero, List.set_cons_succ]
  refine wpAnyH_take (i := 6) (v := .pointer (some ⟨lb, lo + me, none⟩)) rfl (by kernel_rfl) (by kernel_rfl) (by kernel_rfl) (fun _ _ _ h => h) (.inl ⟨rfl, fun W hW => by go_simp⟩) HS0.out ?_
  simp only [List.getElem_toArray, List.getElem_cons_zero, List.getElem_cons_succ, Act.put, List.setIfInBounds_toArray, List.set_cons_zero, List.set_cons_succ]
  refine wpAnyH_take (i := 7) (v := .int .i64 Y) rfl (by kernel_rfl) (by kernel_rfl) (by kernel_rfl) (fun _ _ _ h => h) (.inl ⟨rfl, fun W hW => by have c := (HXY.out W hW).2; go_simp⟩) HS0.out ?_
  simp only [List.getElem_toArray, List.getElem_cons_zero, List.getElem_cons_succ, Act.put, List.setIfInBounds_toArray, List.set_cons_zero, List.set_cons_succ]
  refine wpAnyH_take (i := 8) (v := .agg #[.int .i64 2, .int .i64 X, .int .i64 Y, .int .i64 1]) rfl (by kernel_rfl) (by kernel_rfl) (by kernel_rfl) (fun _ _ _ h => h) (.inl ⟨rfl, fun W hW => by kernel_rfl⟩) HS0.out ?_
  simp only [List.getElem_toArray, List.getElem_cons_zero, List.getElem_cons_succ, Act.put, List.setIfInBounds_toArray, List.set_cons_zero, List.set_cons_succ]
  refine wpAnyH_take (i := 9) (v := .agg MM) rfl (by kernel_rfl) (by kernel_rfl) (by kernel_rfl) (fun _ _ _ h => h) (.inl ⟨rfl, fun W hW => by rw [← HMM.out, anG_v]; kernel_rfl⟩) HS0.out ?_
  simp only [List.getElem_toArray, List.getElem_cons_zero, List.getElem_cons_succ, Act.put, List.setIfInBounds_toArray, List.set_cons_zero, List.set_cons_succ]
  refine wpAnyH_ready (rs := [10]) (by kernel_rfl) (by simp) ?_
  refine AllReadyH.cons rfl (fun K hK => ?_) AllReadyH.nil
  refine step_storeM rfl (op_runW (w' := W1.drew.alloc (.cells #[.int .i64 0, .int .i64 0, .int .i64 0, .int .i64 0, .int .u64 0, .int .u64 0, .int .u64 0, .int .u64 0, .int .i64 0, .int .u64 0, .slice none 0 0, .int .i64 0, .int .u64 0, .string ⟨#[]⟩, .string ⟨#[]⟩, .int .u64 0, .int .u64 0, .int .u64 0, .int .i64 0, .int .i64 0, .int .i64 0, .int .i64 0] 61)) (.pointer (some ⟨mb, 0, none⟩)) (by have r := Hmb.out; rw [← r]; go_simp) ?_)
  refine hK.out _ _ HSA.out fun _ => ?_
  clear hK
  simp only [List.getElem_toArray, List.getElem_cons_zero, List.getElem_cons_succ, Act.put, List.setIfInBounds_toArray, List.set_cons_zero, List.set_cons_succ]
  refine wpAnyH_ready (rs := [11]) (by kernel_rfl) (by simp) ?_
  refine AllReadyH.cons rfl (fun K hK => ?_) AllReadyH.nil
  refine step_storeM rfl (wp_store_mid 61 (.tmp 13) (.tmp 23) rfl mb 0 MM rfl rfl HT2.out HI2.out HA2.out ?_)
  rw [HW2.out]
  refine hK.out _ _ HS2'.out fun _ => ?_
  clear hK
  simp only [List.getElem_toArray, List.getElem_cons_zero, List.getElem_cons_succ, Act.put]
  refine wpAnyH_done (by kernel_rfl) ?_ _
  clear HT2 HW2 HI2 HA2 HMM HSA HXY hpz hmz hp0 hm0 HS0
  have HIT : Hid ((Try.prog.info? 35).map (·.size) = some 2) := by show _ = _; kernel_rfl
  obtain ⟨y1, d1⟩ : ∃ y, W2.cell? ⟨mb, 0, none⟩ = some y := ⟨_, HAM.row.cell (i := 0) (by decide)⟩
  have f1 : W2.frozen? ⟨mb, 0, none⟩ = false := HAM.row.frozen 0
  replace HAM := HAM.num 0 5 (by decide)
  rw [show mgNum 0 5 = .int .i64 5 from rfl] at HAM
  obtain ⟨W3, HW3⟩ : ∃ W, Hid (W2.setCell ⟨mb, 0, none⟩ (.int .i64 5) = W) := ⟨_, rfl⟩
  rw [HW3.out] at HAM
  go_upto_region 9 with fail
  rw [HW3.out]
  clear HW3 d1 f1
  have T2 : Hid (W3.there mb 5 (#[.int .u64 77, .int .u64 1] : Array Value).size) := HAM.there2 5 2 (by decide)
  replace HAM := (HAM.num 5 77 (by decide)).num 6 1 (by decide)
  obtain ⟨W4, HW4⟩ : ∃ W, Hid (W3.setCells mb 5 [.int .u64 77, .int .u64 1] = W) := ⟨_, rfl⟩
  rw [show (W3.setCell ⟨mb, 5, none⟩ (mgNum 5 77)).setCell ⟨mb, 6, none⟩ (mgNum 6 1) = W4 from HW4.out] at HAM
  go_upto_region 14 with (refine wpList_store_mid rfl 35 (.tmp 46) (.tmp 45) rfl mb 5 #[.int .u64 77, .int .u64 1] (by rfl) (by rfl) T2.out HIT.out (by simp [Value.oneCell']) ?_; rw [show (#[.int .u64 77, .int .u64 1] : Array Value).toList = [.int .u64 77, .int .u64 1] from rfl, HW4.out])
  clear HW4 T2
  obtain ⟨ML, WE, HML, HHM, HIM, HAL, HTR, HWE, HHE, HSE⟩ := HAM.fin
  have HGA : Hid (MgA WE (ansM 1 X Y (atS sn At i % 5) p) none 0) := msgA_nil (fun c => rfl)
  clear HAM
  refine wp_region_lit ?_
  refine wpList_load_row rfl 61 (.tmp 13) rfl mb rfl _ ML (0, 0) _ HHM.out Try.underlying61 rfl HIM.out ?_
  simp only [Act.put, List.setIfInBounds_toArray, List.set_cons_zero, List.set_cons_succ]
  refine wpList_store_mid rfl 61 (.tmp 12) (.tmp 53) rfl rb 0 ML rfl rfl HTR.out HIM.out HAL.out ?_
  rw [HWE.out]
  go_wp2_with fail
  exact bodyPost_ret_by (results_cell_row rfl _ _ rb 61 _ (0, 0) _ rfl HHE.out Try.underlying61 rfl HIM.out) rfl ⟨_, _, congrArg Ending.returned HML.out.symm, HGA.out, HSE.out.1⟩
set_option maxHeartbeats 4000000 in
theorem answer_2 {w : World} {sa : Option Addr} {sn : Nat} {Pl At : Nat → Int} (hst : StIn w sa sn Pl At) (_hsn : sn ≤ 6000000000000) (many : Int) (sc : Nat) {lb lo lc : Nat} {L : List Int} (hL : Ints w (some ⟨lb, lo, none⟩) L) (me p i : Nat) (hme : me < L.length) (hp : p < L.length) (_hl : L.length ≤ 9) :
    Calls Try.prog 33 #[.agg #[.int .i64 many, .slice sa sn sc], .slice (some ⟨lb, lo, none⟩) L.length lc, .int .i64 (me : Nat), .int .i64 2, .int .i64 (p : Nat), .int .i64 (i : Nat)] w fun e w' => ∃ va vc, e = .returned (mgV (ansM 2 (L.getD p 0) (L.getD me 0) (atS sn At i % 5) p) va vc) ∧ MgA w' (ansM 2 (L.getD p 0) (L.getD me 0) (atS sn At i % 5) p) va vc ∧ w.Since w.heap.size w' := by
  obtain ⟨W0, HW0⟩ : ∃ W, Hid (w.alloc (.cells #[.int .i64 many, .slice sa sn sc] 24) = W) := ⟨_, rfl⟩
  have s0 : w.Since w.heap.size W0 := by rw [← HW0.out]; exact (World.Since.refl _ _).alloc (Nat.le_refl _) _
  have z0 : W0.heap.size = w.heap.size + 1 := by rw [← HW0.out]; simp
  have n0 : W0.cell? ⟨w.heap.size, 0, none⟩ = some (.int .i64 many) := by rw [← HW0.out]; simp
  have n1 : W0.cell? ⟨w.heap.size, 1, none⟩ = some (.slice sa sn sc) := by rw [← HW0.out]; simp
  obtain ⟨W1, HW1⟩ : ∃ W, Hid (W0.alloc mgZ = W) := ⟨_, rfl⟩
  have s1 : W0.Since W0.heap.size W1 := by rw [← HW1.out]; exact (World.Since.refl _ _).alloc (Nat.le_refl _) _
  have r1 : W1.rowIs (w.heap.size + 1) 61 22 (mgCell mg0 none 0) := by rw [← z0, ← HW1.out]; exact mgZ_row W0
  have z1 : W1.heap.size = w.heap.size + 2 := by rw [← HW1.out]; have : (W0.alloc mgZ).heap.size = W0.heap.size + 1 := by simp
                                                 omega
  have sd : W1.Since W1.heap.size W1.drew := (World.Since.refl _ _).drew
  have s01 : w.Since w.heap.size W1.drew := (s0.trans (since_mono s1 s0.size)).trans (since_mono sd (by omega))
  obtain ⟨X, hX⟩ : ∃ X, L.getD p 0 = X := ⟨_, rfl⟩
  obtain ⟨Y, hY⟩ : ∃ Y, L.getD me 0 = Y := ⟨_, rfl⟩
  have HXY : Hid (∀ W, W1.drew.Since W1.drew.heap.size W → W.cell? ⟨lb, lo + p, none⟩ = some (.int .i64 X) ∧ W.cell? ⟨lb, lo + me, none⟩ = some (.int .i64 Y)) := fun W hW => by
    have hLW := (hL.since s01).since hW
    obtain ⟨b1, o1, e1, c1⟩ := hLW p hp
    obtain ⟨b2, o2, e2, c2⟩ := hLW me hme
    cases e1
    cases e2
    exact ⟨by rw [← hX]; exact c1, by rw [← hY]; exact c2⟩
  have HND : Hid (∀ W, W1.drew.Since W1.drew.heap.size W → W.cell? ⟨w.heap.size, 0, none⟩ = some (.int .i64 many) ∧ W.cell? ⟨w.heap.size, 1, none⟩ = some (.slice sa sn sc)) := fun W hW => ⟨cell_later hW (cell_later sd (cell_later s1 n0)), cell_later hW (cell_later sd (cell_later s1 n1))⟩
  have HST : Hid (∀ W, w.Since w.heap.size W → StIn W sa sn Pl At) := fun W hW => hst.since hW
  have HAT : Hid (I64 (atS sn At i)) := by
    show I64 _
    unfold atS
    split
    · exact (hst.ok i).2
    · exact ⟨by decide, by decide⟩
  obtain ⟨W2, MM, HMM, HT2, HW2, HI2, HA2, HH2, HS2⟩ := mg_put W1.drew (anG X Y) none 0
  have HS2' : Hid (W1.drew.Since W1.drew.heap.size W2) := HS2
  have HAM : AM w W1.drew.heap.size (w.heap.size + 1) (anG X Y) none 0 W2 := ⟨mg_cells (HH2.out W2 (World.Since.refl _ _)) HMM.out, row_since (row_since r1 sd) HS2.out, s01.trans (since_mono HS2.out (by show _ ≤ W1.heap.size; omega)), ⟨by show _ ≤ W1.heap.size; omega, by omega, by show W1.heap.size ≠ _; omega⟩⟩
  have HS0 : Hid (W1.drew.Since W1.drew.heap.size W1.drew) := World.Since.refl _ _
  have HSA : Hid (W1.drew.Since W1.drew.heap.size (W1.drew.alloc (.cells #[.int .i64 0, .int .i64 0, .int .i64 0, .int .i64 0, .int .u64 0, .int .u64 0, .int .u64 0, .int .u64 0, .int .i64 0, .int .u64 0, .slice none 0 0, .int .i64 0, .int .u64 0, .string ⟨#[]⟩, .string ⟨#[]⟩, .int .u64 0, .int .u64 0, .int .u64 0, .int .i64 0, .int .i64 0, .int .i64 0, .int .i64 0] 61))) := (World.Since.refl _ _).alloc (Nat.le_refl _) _
  have hpz : (p : Int) < (L.length : Int) := by omega
  have hmz : (me : Int) < (L.length : Int) := by omega
  have hp0 : (0 : Int) ≤ (p : Int) := by omega
  have hm0 : (0 : Int) ≤ (me : Int) := by omega
  obtain ⟨mb, Hmb⟩ : ∃ x, Hid (W1.drew.heap.size = x) := ⟨_, rfl⟩
  obtain ⟨rb, Hrb⟩ : ∃ x, Hid (w.heap.size + 1 = x) := ⟨_, rfl⟩
  obtain ⟨nb, Hnb⟩ : ∃ x, Hid (w.heap.size = x) := ⟨_, rfl⟩
  rw [hX, hY]
  rw [Hmb.out] at HT2 HW2 HAM HH2
  rw [Hrb.out] at HAM
  rw [Hnb.out] at HND
  unfold mgZ at HW1
  clear s0 n0 n1 s1 r1 sd hX hY hst hL HH2 HS2 s01
  go_enter Try.func33, Try.ntmps33
  go_upto_region 1 with fail
  rw [HW0.out]
  try rw [z0]
  rw [HW1.out, Hnb.out, show nb + 1 = rb by rw [← Hnb.out, Hrb.out]]
  clear HW0 HW1 z0
  refine wp_region_held_drew (S := fun W => W1.drew.Since W1.drew.heap.size W) (by kernel_rfl) HS0.out fun _ => ?_
  refine wpAnyH_take (i := 0) (v := .slice (some ⟨lb, lo, none⟩) L.length lc) rfl (by kernel_rfl) (by kernel_rfl) (by kernel_rfl) (fun _ _ _ h => h) (.inl ⟨rfl, fun W hW => by kernel_rfl⟩) HS0.out ?_
  simp only [List.getElem_toArray, List.getElem_cons_zero, Act.put, List.setIfInBounds_toArray, List.set_cons_zero, List.set_cons_succ]
  refine wpAnyH_take (i := 1) (v := .int .i64 (p : Nat)) rfl (by kernel_rfl) (by kernel_rfl) (by kernel_rfl) (fun _ _ _ h => h) (.inl ⟨rfl, fun W hW => by kernel_rfl⟩) HS0.out ?_
  simp only [List.getElem_toArray, List.getElem_cons_zero, List.getElem_cons_succ, Act.put, List.setIfInBounds_toArray, List.set_cons_zero, List.set_cons_succ]
  refine wpAnyH_take (i := 2) (v := .pointer (some ⟨lb, lo + p, none⟩)) rfl (by kernel_rfl) (by kernel_rfl) (by kernel_rfl) (fun _ _ _ h => h) (.inl ⟨rfl, fun W hW => by go_simp⟩) HS0.out ?_
  simp only [List.getElem_toArray, List.getElem_cons_zero, List.getElem_cons_succ, Act.put, List.setIfInBounds_toArray, List.set_cons_zero, List.set_cons_succ]
  refine wpAnyH_take (i := 3) (v := .int .i64 X) rfl (by kernel_rfl) (by kernel_rfl) (by kernel_rfl) (fun _ _ _ h => h) (.inl ⟨rfl, fun W hW => by have c := (HXY.out W hW).1; go_simp⟩) HS0.out ?_
  simp only [List.getElem_toArray, List.getElem_cons_zero, List.getElem_cons_succ, Act.put, List.setIfInBounds_toArray, List.set_cons_zero, List.set_cons_succ]
  refine wpAnyH_take (i := 4) (v := .slice (some ⟨lb, lo, none⟩) L.length lc) rfl (by kernel_rfl) (by kernel_rfl) (by kernel_rfl) (fun _ _ _ h => h) (.inl ⟨rfl, fun W hW => by kernel_rfl⟩) HS0.out ?_
  simp only [List.getElem_toArray, List.getElem_cons_zero, List.getElem_cons_succ, Act.put, List.setIfInBounds_toArray, List.set_cons_zero, List.set_cons_succ]
  refine wpAnyH_take (i := 5) (v := .int .i64 (me : Nat)) rfl (by kernel_rfl) (by kernel_rfl) (by kernel_rfl) (fun _ _ _ h => h) (.inl ⟨rfl, fun W hW => by kernel_rfl⟩) HS0.out ?_
  simp only [List.getElem_toArray, List.getElem_cons_zero, List.getElem_cons_succ, Act.put, List.setIfInBounds_toArray, List.set_cons_zero, List.set_cons_succ]
  refine wpAnyH_take (i := 6) (v := .pointer (some ⟨lb, lo + me, none⟩)) rfl (by kernel_rfl) (by kernel_rfl) (by kernel_rfl) (fun _ _ _ h => h) (.inl ⟨rfl, fun W hW => by go_simp⟩) HS0.out ?_
  simp only [List.getElem_toArray, List.getElem_cons_zero, List.getElem_cons_succ, Act.put, List.setIfInBounds_toArray, List.set_cons_zero, List.set_cons_succ]
  refine wpAnyH_take (i := 7) (v := .int .i64 Y) rfl (by kernel_rfl) (by kernel_rfl) (by kernel_rfl) (fun _ _ _ h => h) (.inl ⟨rfl, fun W hW => by have c := (HXY.out W hW).2; go_simp⟩) HS0.out ?_
  simp only [List.getElem_toArray, List.getElem_cons_zero, List.getElem_cons_succ, Act.put, List.setIfInBounds_toArray, List.set_cons_zero, List.set_cons_succ]
  refine wpAnyH_take (i := 8) (v := .agg #[.int .i64 2, .int .i64 X, .int .i64 Y, .int .i64 1]) rfl (by kernel_rfl) (by kernel_rfl) (by kernel_rfl) (fun _ _ _ h => h) (.inl ⟨rfl, fun W hW => by kernel_rfl⟩) HS0.out ?_
  simp only [List.getElem_toArray, List.getElem_cons_zero, List.getElem_cons_succ, Act.put, List.setIfInBounds_toArray, List.set_cons_zero, List.set_cons_succ]
  refine wpAnyH_take (i := 9) (v := .agg MM) rfl (by kernel_rfl) (by kernel_rfl) (by kernel_rfl) (fun _ _ _ h => h) (.inl ⟨rfl, fun W hW => by rw [← HMM.out, anG_v]; kernel_rfl⟩) HS0.out ?_
  simp only [List.getElem_toArray, List.getElem_cons_zero, List.getElem_cons_succ, Act.put, List.setIfInBounds_toArray, List.set_cons_zero, List.set_cons_succ]
  refine wpAnyH_ready (rs := [10]) (by kernel_rfl) (by simp) ?_
  refine AllReadyH.cons rfl (fun K hK => ?_) AllReadyH.nil
  refine step_storeM rfl (op_runW (w' := W1.drew.alloc (.cells #[.int .i64 0, .int .i64 0, .int .i64 0, .int .i64 0, .int .u64 0, .int .u64 0, .int .u64 0, .int .u64 0, .int .i64 0, .int .u64 0, .slice none 0 0, .int .i64 0, .int .u64 0, .string ⟨#[]⟩, .string ⟨#[]⟩, .int .u64 0, .int .u64 0, .int .u64 0, .int .i64 0, .int .i64 0, .int .i64 0, .int .i64 0] 61)) (.pointer (some ⟨mb, 0, none⟩)) (by have r := Hmb.out; rw [← r]; go_simp) ?_)
  refine hK.out _ _ HSA.out fun _ => ?_
  clear hK
  simp only [List.getElem_toArray, List.getElem_cons_zero, List.getElem_cons_succ, Act.put, List.setIfInBounds_toArray, List.set_cons_zero, List.set_cons_succ]
  refine wpAnyH_ready (rs := [11]) (by kernel_rfl) (by simp) ?_
  refine AllReadyH.cons rfl (fun K hK => ?_) AllReadyH.nil
  refine step_storeM rfl (wp_store_mid 61 (.tmp 13) (.tmp 23) rfl mb 0 MM rfl rfl HT2.out HI2.out HA2.out ?_)
  rw [HW2.out]
  refine hK.out _ _ HS2'.out fun _ => ?_
  clear hK
  simp only [List.getElem_toArray, List.getElem_cons_zero, List.getElem_cons_succ, Act.put]
  refine wpAnyH_done (by kernel_rfl) ?_ _
  clear HT2 HW2 HI2 HA2 HMM HSA HXY hpz hmz hp0 hm0 HS0
  obtain ⟨y1, d1⟩ : ∃ y, W2.cell? ⟨mb, 0, none⟩ = some y := ⟨_, HAM.row.cell (i := 0) (by decide)⟩
  have f1 : W2.frozen? ⟨mb, 0, none⟩ = false := HAM.row.frozen 0
  replace HAM := HAM.num 0 7 (by decide)
  rw [show mgNum 0 7 = .int .i64 7 from rfl] at HAM
  obtain ⟨W3, HW3⟩ : ∃ W, Hid (W2.setCell ⟨mb, 0, none⟩ (.int .i64 7) = W) := ⟨_, rfl⟩
  rw [HW3.out] at HAM
  go_upto_region 12 with fail
  rw [HW3.out]
  clear HW3 d1 f1
  obtain ⟨y2, d2⟩ : ∃ y, W3.cell? ⟨mb, 4, none⟩ = some y := ⟨_, HAM.row.cell (i := 4) (by decide)⟩
  have f2 : W3.frozen? ⟨mb, 4, none⟩ = false := HAM.row.frozen 4
  replace HAM := HAM.num 4 77 (by decide)
  rw [show mgNum 4 77 = .int .u64 77 from rfl] at HAM
  obtain ⟨W4, HW4⟩ : ∃ W, Hid (W3.setCell ⟨mb, 4, none⟩ (.int .u64 77) = W) := ⟨_, rfl⟩
  rw [HW4.out] at HAM
  go_upto_region 13 with fail
  rw [HW4.out]
  clear HW4 d2 f2
  obtain ⟨y3, d3⟩ : ∃ y, W4.cell? ⟨mb, 7, none⟩ = some y := ⟨_, HAM.row.cell (i := 7) (by decide)⟩
  have f3 : W4.frozen? ⟨mb, 7, none⟩ = false := HAM.row.frozen 7
  replace HAM := HAM.num 7 1 (by decide)
  rw [show mgNum 7 1 = .int .u64 1 from rfl] at HAM
  obtain ⟨W5, HW5⟩ : ∃ W, Hid (W4.setCell ⟨mb, 7, none⟩ (.int .u64 1) = W) := ⟨_, rfl⟩
  rw [HW5.out] at HAM
  go_upto_region 14 with fail
  rw [HW5.out]
  clear HW5 d3 f3
  obtain ⟨ML, WE, HML, HHM, HIM, HAL, HTR, HWE, HHE, HSE⟩ := HAM.fin
  have HGA : Hid (MgA WE (ansM 2 X Y (atS sn At i % 5) p) none 0) := msgA_nil (fun c => rfl)
  clear HAM
  refine wp_region_lit ?_
  refine wpList_load_row rfl 61 (.tmp 13) rfl mb rfl _ ML (0, 0) _ HHM.out Try.underlying61 rfl HIM.out ?_
  simp only [Act.put, List.setIfInBounds_toArray, List.set_cons_zero, List.set_cons_succ]
  refine wpList_store_mid rfl 61 (.tmp 12) (.tmp 53) rfl rb 0 ML rfl rfl HTR.out HIM.out HAL.out ?_
  rw [HWE.out]
  go_wp2_with fail
  exact bodyPost_ret_by (results_cell_row rfl _ _ rb 61 _ (0, 0) _ rfl HHE.out Try.underlying61 rfl HIM.out) rfl ⟨_, _, congrArg Ending.returned HML.out.symm, HGA.out, HSE.out.1⟩
end Go.Proofs.Ytcamdljlkcnikaa

/- QuorumCounts: answer, a promise. -/
namespace Go.Proofs.Ytcamdljlkcnikaa
open Go.RowKit Go.Maps
set_option maxRecDepth 100000
set_option maxRecDepth 100000

set_option maxHeartbeats 4000000 in
theorem answer_0 {w : World} {sa : Option Addr} {sn : Nat} {Pl At : Nat → Int} (hst : StIn w sa sn Pl At) (hsn : sn ≤ 6000000000000) (many : Int) (sc : Nat) {lb lo lc : Nat} {L : List Int} (hL : Ints w (some ⟨lb, lo, none⟩) L) (me p i : Nat) (hme : me < L.length) (hp : p < L.length) (hl : L.length ≤ 9) :
    Calls Try.prog 33 #[.agg #[.int .i64 many, .slice sa sn sc], .slice (some ⟨lb, lo, none⟩) L.length lc, .int .i64 (me : Nat), .int .i64 0, .int .i64 (p : Nat), .int .i64 (i : Nat)] w fun e w' => ∃ va vc, e = .returned (mgV (ansM 0 (L.getD p 0) (L.getD me 0) (atS sn At i % 5) p) va vc) ∧ MgA w' (ansM 0 (L.getD p 0) (L.getD me 0) (atS sn At i % 5) p) va vc ∧ w.Since w.heap.size w' := by
  obtain ⟨W0, HW0⟩ : ∃ W, Hid (w.alloc (.cells #[.int .i64 many, .slice sa sn sc] 24) = W) := ⟨_, rfl⟩
  have s0 : w.Since w.heap.size W0 := by rw [← HW0.out]; exact (World.Since.refl _ _).alloc (Nat.le_refl _) _
  have z0 : W0.heap.size = w.heap.size + 1 := by rw [← HW0.out]; simp
  have n0 : W0.cell? ⟨w.heap.size, 0, none⟩ = some (.int .i64 many) := by rw [← HW0.out]; simp
  have n1 : W0.cell? ⟨w.heap.size, 1, none⟩ = some (.slice sa sn sc) := by rw [← HW0.out]; simp
  obtain ⟨W1, HW1⟩ : ∃ W, Hid (W0.alloc mgZ = W) := ⟨_, rfl⟩
  have s1 : W0.Since W0.heap.size W1 := by rw [← HW1.out]; exact (World.Since.refl _ _).alloc (Nat.le_refl _) _
  have r1 : W1.rowIs (w.heap.size + 1) 61 22 (mgCell mg0 none 0) := by rw [← z0, ← HW1.out]; exact mgZ_row W0
  have z1 : W1.heap.size = w.heap.size + 2 := by rw [← HW1.out]; have : (W0.alloc mgZ).heap.size = W0.heap.size + 1 := by simp
                                                 omega
  have sd : W1.Since W1.heap.size W1.drew := (World.Since.refl _ _).drew
  have s01 : w.Since w.heap.size W1.drew := (s0.trans (since_mono s1 s0.size)).trans (since_mono sd (by omega))
  obtain ⟨X, hX⟩ : ∃ X, L.getD p 0 = X := ⟨_, rfl⟩
  obtain ⟨Y, hY⟩ : ∃ Y, L.getD me 0 = Y := ⟨_, rfl⟩
  have HXY : Hid (∀ W, W1.drew.Since W1.drew.heap.size W → W.cell? ⟨lb, lo + p, none⟩ = some (.int .i64 X) ∧ W.cell? ⟨lb, lo + me, none⟩ = some (.int .i64 Y)) := fun W hW => by
    have hLW := (hL.since s01).since hW
    obtain ⟨b1, o1, e1, c1⟩ := hLW p hp
    obtain ⟨b2, o2, e2, c2⟩ := hLW me hme
    cases e1
    cases e2
    exact ⟨by rw [← hX]; exact c1, by rw [← hY]; exact c2⟩
  have HND : Hid (∀ W, W1.drew.Since W1.drew.heap.size W → W.cell? ⟨w.heap.size, 0, none⟩ = some (.int .i64 many) ∧ W.cell? ⟨w.heap.size, 1, none⟩ = some (.slice sa sn sc)) := fun W hW => ⟨cell_later hW (cell_later sd (cell_later s1 n0)), cell_later hW (cell_later sd (cell_later s1 n1))⟩
  have HST : Hid (∀ W, w.Since w.heap.size W → StIn W sa sn Pl At) := fun W hW => hst.since hW
  have HAT : Hid (I64 (atS sn At i)) := by
    show I64 _
    unfold atS
    split
    · exact (hst.ok i).2
    · exact ⟨by decide, by decide⟩
  obtain ⟨W2, MM, HMM, HT2, HW2, HI2, HA2, HH2, HS2⟩ := mg_put W1.drew (anG X Y) none 0
  have HS2' : Hid (W1.drew.Since W1.drew.heap.size W2) := HS2
  have HAM : AM w W1.drew.heap.size (w.heap.size + 1) (anG X Y) none 0 W2 := ⟨mg_cells (HH2.out W2 (World.Since.refl _ _)) HMM.out, row_since (row_since r1 sd) HS2.out, s01.trans (since_mono HS2.out (by show _ ≤ W1.heap.size; omega)), ⟨by show _ ≤ W1.heap.size; omega, by omega, by show W1.heap.size ≠ _; omega⟩⟩
  have HS0 : Hid (W1.drew.Since W1.drew.heap.size W1.drew) := World.Since.refl _ _
  have HSA : Hid (W1.drew.Since W1.drew.heap.size (W1.drew.alloc (.cells #[.int .i64 0, .int .i64 0, .int .i64 0, .int .i64 0, .int .u64 0, .int .u64 0, .int .u64 0, .int .u64 0, .int .i64 0, .int .u64 0, .slice none 0 0, .int .i64 0, .int .u64 0, .string ⟨#[]⟩, .string ⟨#[]⟩, .int .u64 0, .int .u64 0, .int .u64 0, .int .i64 0, .int .i64 0, .int .i64 0, .int .i64 0] 61))) := (World.Since.refl _ _).alloc (Nat.le_refl _) _
  have hpz : (p : Int) < (L.length : Int) := by omega
  have hmz : (me : Int) < (L.length : Int) := by omega
  have hp0 : (0 : Int) ≤ (p : Int) := by omega
  have hm0 : (0 : Int) ≤ (me : Int) := by omega
  obtain ⟨mb, Hmb⟩ : ∃ x, Hid (W1.drew.heap.size = x) := ⟨_, rfl⟩
  obtain ⟨rb, Hrb⟩ : ∃ x, Hid (w.heap.size + 1 = x) := ⟨_, rfl⟩
  obtain ⟨nb, Hnb⟩ : ∃ x, Hid (w.heap.size = x) := ⟨_, rfl⟩
  rw [hX, hY]
  obtain ⟨AT, hAT⟩ : ∃ x, atS sn At i = x := ⟨_, rfl⟩
  obtain ⟨T, hT⟩ : ∃ x, AT % ((5 : Nat) : Int) = x := ⟨_, rfl⟩
  have hT2 : AT % 5 = T := hT
  rw [hAT, hT2]
  rw [Hmb.out] at HT2 HW2 HAM HH2
  rw [Hrb.out] at HAM
  rw [Hnb.out] at HND
  unfold mgZ at HW1
  clear s0 n0 n1 s1 r1 sd hX hY hst hL HH2 HS2 s01
  go_enter Try.func33, Try.ntmps33
  go_upto_region 1 with fail
  rw [HW0.out]
  try rw [z0]
  rw [HW1.out, Hnb.out, show nb + 1 = rb by rw [← Hnb.out, Hrb.out]]
  clear HW0 HW1 z0
  refine wp_region_held_drew (S := fun W => W1.drew.Since W1.drew.heap.size W) (by kernel_rfl) HS0.out fun _ => ?_
  refine wpAnyH_take (i := 0) (v := .slice (some ⟨lb, lo, none⟩) L.length lc) rfl (by kernel_rfl) (by kernel_rfl) (by kernel_rfl) (fun _ _ _ h => h) (.inl ⟨rfl, fun W hW => by kernel_rfl⟩) HS0.out ?_
  simp only [List.getElem_toArray, List.getElem_cons_zero, Act.put, List.setIfInBounds_toArray, List.set_cons_zero, List.set_cons_succ]
  refine wpAnyH_take (i := 1) (v := .int .i64 (p : Nat)) rfl (by kernel_rfl) (by kernel_rfl) (by kernel_rfl) (fun _ _ _ h => h) (.inl ⟨rfl, fun W hW => by kernel_rfl⟩) HS0.out ?_
  simp only [List.getElem_toArray, List.getElem_cons_zero, List.getElem_cons_succ, Act.put, List.setIfInBounds_toArray, List.set_cons_zero, List.set_cons_succ]
  refine wpAnyH_take (i := 2) (v := .pointer (some ⟨lb, lo + p, none⟩)) rfl (by kernel_rfl) (by kernel_rfl) (by kernel_rfl) (fun _ _ _ h => h) (.inl ⟨rfl, fun W hW => by go_simp⟩) HS0.out ?_
  simp only [List.getElem_toArray, List.getElem_cons_zero, List.getElem_cons_succ, Act.put, List.setIfInBounds_toArray, List.set_cons_zero, List.set_cons_succ]
  refine wpAnyH_take (i := 3) (v := .int .i64 X) rfl (by kernel_rfl) (by kernel_rfl) (by kernel_rfl) (fun _ _ _ h => h) (.inl ⟨rfl, fun W hW => by have c := (HXY.out W hW).1; go_simp⟩) HS0.out ?_
  simp only [List.getElem_toArray, List.getElem_cons_zero, List.getElem_cons_succ, Act.put, List.setIfInBounds_toArray, List.set_cons_zero, List.set_cons_succ]
  refine wpAnyH_take (i := 4) (v := .slice (some ⟨lb, lo, none⟩) L.length lc) rfl (by kernel_rfl) (by kernel_rfl) (by kernel_rfl) (fun _ _ _ h => h) (.inl ⟨rfl, fun W hW => by kernel_rfl⟩) HS0.out ?_
  simp only [List.getElem_toArray, List.getElem_cons_zero, List.getElem_cons_succ, Act.put, List.setIfInBounds_toArray, List.set_cons_zero, List.set_cons_succ]
  refine wpAnyH_take (i := 5) (v := .int .i64 (me : Nat)) rfl (by kernel_rfl) (by kernel_rfl) (by kernel_rfl) (fun _ _ _ h => h) (.inl ⟨rfl, fun W hW => by kernel_rfl⟩) HS0.out ?_
  simp only [List.getElem_toArray, List.getElem_cons_zero, List.getElem_cons_succ, Act.put, List.setIfInBounds_toArray, List.set_cons_zero, List.set_cons_succ]
  refine wpAnyH_take (i := 6) (v := .pointer (some ⟨lb, lo + me, none⟩)) rfl (by kernel_rfl) (by kernel_rfl) (by kernel_rfl) (fun _ _ _ h => h) (.inl ⟨rfl, fun W hW => by go_simp⟩) HS0.out ?_
  simp only [List.getElem_toArray, List.getElem_cons_zero, List.getElem_cons_succ, Act.put, List.setIfInBounds_toArray, List.set_cons_zero, List.set_cons_succ]
  refine wpAnyH_take (i := 7) (v := .int .i64 Y) rfl (by kernel_rfl) (by kernel_rfl) (by kernel_rfl) (fun _ _ _ h => h) (.inl ⟨rfl, fun W hW => by have c := (HXY.out W hW).2; go_simp⟩) HS0.out ?_
  simp only [List.getElem_toArray, List.getElem_cons_zero, List.getElem_cons_succ, Act.put, List.setIfInBounds_toArray, List.set_cons_zero, List.set_cons_succ]
  refine wpAnyH_take (i := 8) (v := .agg #[.int .i64 2, .int .i64 X, .int .i64 Y, .int .i64 1]) rfl (by kernel_rfl) (by kernel_rfl) (by kernel_rfl) (fun _ _ _ h => h) (.inl ⟨rfl, fun W hW => by kernel_rfl⟩) HS0.out ?_
  simp only [List.getElem_toArray, List.getElem_cons_zero, List.getElem_cons_succ, Act.put, List.setIfInBounds_toArray, List.set_cons_zero, List.set_cons_succ]
  refine wpAnyH_take (i := 9) (v := .agg MM) rfl (by kernel_rfl) (by kernel_rfl) (by kernel_rfl) (fun _ _ _ h => h) (.inl ⟨rfl, fun W hW => by rw [← HMM.out, anG_v]; kernel_rfl⟩) HS0.out ?_
  simp only [List.getElem_toArray, List.getElem_cons_zero, List.getElem_cons_succ, Act.put, List.setIfInBounds_toArray, List.set_cons_zero, List.set_cons_succ]
  refine wpAnyH_ready (rs := [10]) (by kernel_rfl) (by simp) ?_
  refine AllReadyH.cons rfl (fun K hK => ?_) AllReadyH.nil
  refine step_storeM rfl (op_runW (w' := W1.drew.alloc (.cells #[.int .i64 0, .int .i64 0, .int .i64 0, .int .i64 0, .int .u64 0, .int .u64 0, .int .u64 0, .int .u64 0, .int .i64 0, .int .u64 0, .slice none 0 0, .int .i64 0, .int .u64 0, .string ⟨#[]⟩, .string ⟨#[]⟩, .int .u64 0, .int .u64 0, .int .u64 0, .int .i64 0, .int .i64 0, .int .i64 0, .int .i64 0] 61)) (.pointer (some ⟨mb, 0, none⟩)) (by have r := Hmb.out; rw [← r]; go_simp) ?_)
  refine hK.out _ _ HSA.out fun _ => ?_
  clear hK
  simp only [List.getElem_toArray, List.getElem_cons_zero, List.getElem_cons_succ, Act.put, List.setIfInBounds_toArray, List.set_cons_zero, List.set_cons_succ]
  refine wpAnyH_ready (rs := [11]) (by kernel_rfl) (by simp) ?_
  refine AllReadyH.cons rfl (fun K hK => ?_) AllReadyH.nil
  refine step_storeM rfl (wp_store_mid 61 (.tmp 13) (.tmp 23) rfl mb 0 MM rfl rfl HT2.out HI2.out HA2.out ?_)
  rw [HW2.out]
  refine hK.out _ _ HS2'.out fun _ => ?_
  clear hK
  simp only [List.getElem_toArray, List.getElem_cons_zero, List.getElem_cons_succ, Act.put]
  refine wpAnyH_done (by kernel_rfl) ?_ _
  clear HT2 HW2 HI2 HA2 HMM HSA HXY hpz hmz hp0 hm0 HS0
  have HIT : Hid ((Try.prog.info? 35).map (·.size) = some 2) := by show _ = _; kernel_rfl
  obtain ⟨y1, d1⟩ : ∃ y, W2.cell? ⟨mb, 4, none⟩ = some y := ⟨_, HAM.row.cell (i := 4) (by decide)⟩
  have f1 : W2.frozen? ⟨mb, 4, none⟩ = false := HAM.row.frozen 4
  replace HAM := HAM.num 4 77 (by decide)
  rw [show mgNum 4 77 = .int .u64 77 from rfl] at HAM
  obtain ⟨W3, HW3⟩ : ∃ W, Hid (W2.setCell ⟨mb, 4, none⟩ (.int .u64 77) = W) := ⟨_, rfl⟩
  rw [HW3.out] at HAM
  have sW3 : W1.drew.Since W1.drew.heap.size W3 := by
    rw [← HW3.out]
    exact ((But.of_since (r := mb) (World.Since.refl _ _)).setCell 4 _).since HS2'.out (by rw [Hmb.out]; exact Nat.le_refl _) HS2'.out.size
  go_upto_region 5 with fail
  rw [HW3.out]
  clear HW3 d1 f1
  obtain ⟨q0, q1⟩ := HND.out W3 sW3
  have hT0 : 0 ≤ T ∧ T < 5 := by omega
  have hwT : IntKind.u64.wrap T = T := by rw [IntKind.wrap_u64]; omega
  have hwp : IntKind.u64.wrap (p : Int) = (p : Int) := by rw [IntKind.wrap_u64]; omega
  have HC5 : Hid (Calls Try.prog 57 #[.agg #[.int .i64 many, .slice sa sn sc], .int .i64 (i : Nat)] W3 fun e w4 => e = .returned (.int .i64 AT) ∧ Hid (AM w mb rb ((anG X Y).setN 4 77) none 0 w4) ∧ Hid (Calls Try.prog 7 #[.int .i64 AT, .int .i64 5] w4 fun e w5 => e = .returned (.int .i64 T) ∧ w4 = w5)) :=
    (steps0_any (HST.out W3 HAM.since) many sc i hsn).mono fun e w4 ⟨he, hs⟩ => ⟨by rw [he, hAT], HAM.sin hs, by
      have q := into_any AT 5 (by decide) (by decide) (by rw [← hAT]; exact HAT.out) w4
      rw [hT] at q
      exact q⟩
  clear HAM hT HST HND hAT
  refine wp_region_lit ?_
  refine wpList_plain rfl fun _ hK => op_run (.agg #[.int .i64 many, .slice sa sn sc]) (by go_simp) (hK _ _ ?_)
  simp only [Act.put, List.setIfInBounds_toArray, List.set_cons_zero, List.set_cons_succ]
  refine wpList_plain rfl fun _ hK => op_run (.int .i64 (i : Nat)) (by kernel_rfl) (hK _ _ ?_)
  simp only [Act.put, List.setIfInBounds_toArray, List.set_cons_zero, List.set_cons_succ]
  refine wpList_plain rfl fun _ hK => op_call 57 #[.agg #[.int .i64 many, .slice sa sn sc], .int .i64 (i : Nat)] (by kernel_rfl) HC5.out ?_
  rintro e w4 ⟨rfl, HAM, HIN⟩
  replace HAM := HAM.out
  refine ⟨_, rfl, hK _ _ ?_⟩
  clear hK HC5 q0 q1
  simp only [Act.put, List.setIfInBounds_toArray, List.set_cons_zero, List.set_cons_succ]
  refine wpList_plain rfl fun _ hK => op_call 7 #[.int .i64 AT, .int .i64 5] (by kernel_rfl) HIN.out ?_
  rintro e w5 ⟨rfl, rfl⟩
  refine ⟨_, rfl, hK _ _ ?_⟩
  clear hK HIN
  simp only [Act.put, List.setIfInBounds_toArray, List.set_cons_zero, List.set_cons_succ]
  refine wpList_plain rfl fun _ hK => op_run (.int .u64 T) (by go_simp) (hK _ _ ?_)
  simp only [Act.put, List.setIfInBounds_toArray, List.set_cons_zero, List.set_cons_succ]
  refine wpList_plain rfl fun _ hK => op_run (.int .i64 (p : Nat)) (by kernel_rfl) (hK _ _ ?_)
  simp only [Act.put, List.setIfInBounds_toArray, List.set_cons_zero, List.set_cons_succ]
  refine wpList_plain rfl fun _ hK => op_run (.int .u64 (p : Nat)) (by go_simp) (hK _ _ ?_)
  simp only [Act.put, List.setIfInBounds_toArray, List.set_cons_zero, List.set_cons_succ]
  refine wpList_plain rfl fun _ hK => op_run (.agg #[.int .u64 T, .int .u64 (p : Nat)]) (by kernel_rfl) (hK _ _ ?_)
  simp only [Act.put, List.setIfInBounds_toArray, List.set_cons_zero, List.set_cons_succ]
  refine wpList_plain rfl fun _ hK => op_run (.pointer (some ⟨mb, 5, none⟩)) (by kernel_rfl) (hK _ _ ?_)
  simp only [Act.put, List.setIfInBounds_toArray, List.set_cons_zero, List.set_cons_succ]
  have T2 : Hid (w4.there mb 5 (#[.int .u64 T, .int .u64 (p : Nat)] : Array Value).size) := HAM.there2 5 2 (by decide)
  replace HAM := (HAM.num 5 T (by decide)).num 6 (p : Nat) (by decide)
  obtain ⟨W5, HW5⟩ : ∃ W, Hid (w4.setCells mb 5 [.int .u64 T, .int .u64 (p : Nat)] = W) := ⟨_, rfl⟩
  rw [show (w4.setCell ⟨mb, 5, none⟩ (mgNum 5 T)).setCell ⟨mb, 6, none⟩ (mgNum 6 (p : Nat)) = W5 from HW5.out] at HAM
  refine wpList_store_mid rfl 35 (.tmp 36) (.tmp 35) rfl mb 5 #[.int .u64 T, .int .u64 (p : Nat)] (by rfl) (by rfl) T2.out HIT.out (by simp [Value.oneCell']) ?_
  rw [show (#[.int .u64 T, .int .u64 (p : Nat)] : Array Value).toList = [.int .u64 T, .int .u64 (p : Nat)] from rfl, HW5.out]
  simp only [Act.put]
  clear HW5 T2
  have hw8 : IntKind.u8.wrap (p : Int) = (p : Int) := by rw [IntKind.wrap_u8]; omega
  have s6 : W5.Since W5.heap.size (W5.alloc (.cells #[.int .u8 (p : Nat)] 5)) := (World.Since.refl _ _).alloc (Nat.le_refl _) _
  have c6 : (W5.alloc (.cells #[.int .u8 (p : Nat)] 5)).cell? ⟨W5.heap.size, 0, none⟩ = some (.int .u8 (p : Nat)) := World.cell?_alloc_at (w := W5) _ _ _ 0 rfl
  have l6 : W5.heap.size < (W5.alloc (.cells #[.int .u8 (p : Nat)] 5)).heap.size := by simp
  have hmbl := HAM.row.lt
  have hrbl := HAM.rrow.lt
  replace HAM := HAM.sin s6
  obtain ⟨xb, Hxb⟩ : ∃ x, Hid (W5.heap.size = x) := ⟨_, rfl⟩
  rw [Hxb.out] at c6 l6 hmbl hrbl
  obtain ⟨W6, HW6⟩ : ∃ W, Hid (W5.alloc (.cells #[.int .u8 (p : Nat)] 5) = W) := ⟨_, rfl⟩
  rw [HW6.out] at c6 l6 HAM
  obtain ⟨y10, d10⟩ : ∃ y, W6.cell? ⟨mb, 10, none⟩ = some y := ⟨_, HAM.row.cell (i := 10) (by decide)⟩
  have f10 : W6.frozen? ⟨mb, 10, none⟩ = false := HAM.row.frozen 10
  replace HAM := HAM.value [p] (some ⟨xb, 0, none⟩) 1
  rw [show ([p] : List Nat).length = 1 from rfl] at HAM
  obtain ⟨W7, HW7⟩ : ∃ W, Hid (W6.setCell ⟨mb, 10, none⟩ (.slice (some ⟨xb, 0, none⟩) 1 1) = W) := ⟨_, rfl⟩
  rw [HW7.out] at HAM
  have c7 : W7.cell? ⟨xb, 0, none⟩ = some (.int .u8 (p : Nat)) := by
    rw [← HW7.out, World.cell?_of_block (a := ⟨xb, 0, none⟩) (Below.heap_setCell _ _ _ _ (by show xb ≠ mb; omega))]
    exact c6
  have l7 : xb < W7.heap.size := by rw [← HW7.out]; simpa [World.setCell] using l6
  clear s6
  go_upto_region 6 with fail
  refine wp_region_lit ?_
  refine wpList_plain rfl fun _ hK => op_run (.int .i64 (p : Nat)) (by kernel_rfl) (hK _ _ ?_)
  simp only [Act.put, List.setIfInBounds_toArray, List.set_cons_zero, List.set_cons_succ]
  refine wpList_plain rfl fun _ hK => op_run (.int .u8 (p : Nat)) (by go_simp) (hK _ _ ?_)
  simp only [Act.put, List.setIfInBounds_toArray, List.set_cons_zero, List.set_cons_succ]
  refine wpList_plain rfl fun _ hK => op_runW (w' := W6) (.slice (some ⟨xb, 0, none⟩) 1 1) (by rw [← HW6.out, ← Hxb.out]; go_simp) (hK _ _ ?_)
  simp only [Act.put, List.setIfInBounds_toArray, List.set_cons_zero, List.set_cons_succ]
  refine wpList_plain rfl fun _ hK => op_run (.pointer (some ⟨mb, 10, none⟩)) (by kernel_rfl) (hK _ _ ?_)
  simp only [Act.put, List.setIfInBounds_toArray, List.set_cons_zero, List.set_cons_succ]
  refine wpList_plain rfl fun _ hK => wp_store_cell 36 (.tmp 40) (.tmp 39) rfl mb 10 (.slice (some ⟨xb, 0, none⟩) 1 1) y10 rfl rfl d10 f10 (by kernel_rfl) rfl (hK _ _ ?_)
  rw [HW7.out]
  simp only [Act.put]
  obtain ⟨ML, WE, HML, HHM, HIM, HAL, HTR, HWE, HHE, HSE⟩ := HAM.fin
  have HGA : Hid (MgA WE (ansM 0 X Y T p) (some ⟨xb, 0, none⟩) 1) := by
    have hb : ∀ j, j ≠ rb → WE.heap[j]? = W7.heap[j]? := HSE.out.2
    refine ⟨fun j hj => ?_, fun e => (by cases e), fun q e _ => ?_, fun c => ?_, fun c v hv => ?_⟩
    · have hj0 : j < 1 := hj
      obtain rfl : j = 0 := by omega
      exact ⟨xb, 0, rfl, by rw [World.cell?_of_block (a := ⟨xb, 0 + 0, none⟩) (hb xb (by omega))]; exact c7⟩
    · obtain rfl := Option.some.inj e
      have hz := congrArg World.heap HWE.out
      have : WE.heap.size = W7.heap.size := by rw [← HWE.out, size_setCells]
      show xb < WE.heap.size
      omega
    · show ((fun i => if i = 10 then [p] else (anG X Y).s i) c).length ≤ _
      by_cases e : c = 10
      · simp [e]
      · simp [e, anG]
    · have hv' : v ∈ (if c = 10 then [p] else (anG X Y).s c) := hv
      by_cases e : c = 10
      · rw [if_pos e] at hv'
        obtain rfl : v = p := by simpa using hv'
        omega
      · rw [if_neg e] at hv'
        exact absurd hv' List.not_mem_nil
  clear HAM
  go_upto_region 14 with fail
  refine wp_region_lit ?_
  refine wpList_load_row rfl 61 (.tmp 13) rfl mb rfl _ ML (0, 0) _ HHM.out Try.underlying61 rfl HIM.out ?_
  simp only [Act.put, List.setIfInBounds_toArray, List.set_cons_zero, List.set_cons_succ]
  refine wpList_store_mid rfl 61 (.tmp 12) (.tmp 53) rfl rb 0 ML rfl rfl HTR.out HIM.out HAL.out ?_
  rw [HWE.out]
  go_wp2_with fail
  exact bodyPost_ret_by (results_cell_row rfl _ _ rb 61 _ (0, 0) _ rfl HHE.out Try.underlying61 rfl HIM.out) rfl ⟨_, _, congrArg Ending.returned HML.out.symm, HGA.out, HSE.out.1⟩
end Go.Proofs.Ytcamdljlkcnikaa
