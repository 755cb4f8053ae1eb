/- Own texts, joined: QU28, QU29, QU30, QU31, QU32, QO1, EqB, QO2. -/
import Derived.Test.YtkcjmjaikobpoaaM4
import Derived.Test.YtkcjmjaikobpoaaM1
import Derived.Lib.SlBytesConst
import Derived.BigQuiet

/- Package quorum: Hear, whole. -/
namespace Go.Proofs.Ytkcjmjaikobpoaa
open Go.RowKit Go.Maps
set_option maxRecDepth 100000
set_option maxRecDepth 100000

set_option maxHeartbeats 4000000 in
theorem hear_off {w : World} {p : Qp} {d : Qd} (h : QIs w p d) (m : Mg) (va : Option Addr) (vc : Nat) (hA : MgA w m va vc) (hN : MgN m) (S : Int) (hoff : ¬ (kbM (m.n 0) = true ∧ m.n 2 = d.node ∧ m.n 3 = d.shard ∧ m.n 1 ∈ d.L)) :
    Calls Try.prog 12 #[.pointer (some ⟨p.b, 0, none⟩), mgV m va vc, .int .i64 S] w fun e w' => ∃ r, e = .returned r ∧ OutM w.heap.size w' r [] ∧ QIs w' p d ∧ Bq p w w' := by
  obtain ⟨MM, W1, mb, HMM, HW1, Hmb, HD, HR⟩ := DS.put h hA
  rw [HMM.out]
  have hn0 := hN.i 0 rfl
  have HD0 : Hid (Calls Try.prog 28 #[] W1.drew fun e w3 => ∃ g, e = .returned (.map (some g)) ∧ Hid ((Instr.lookup 88 (.map (some g)) (.int .i64 (m.n 0)) true).run Try.prog w3 = .ok (.tuple #[fvM (m.n 0), .bool (kbM (m.n 0))]) w3) ∧ Hid (DS w p d mb m va vc w3)) :=
    (deeds_any W1.drew).mono fun e w3 ⟨he, hm, hs⟩ => ⟨_, he, look_deed hm _ hn0.1 hn0.2, HD.out.drew.sin hs⟩
  have HSD : Hid (DS w p d mb m va vc W1.drew) := HD.out.drew
  have HK0 : Hid (∀ W, DS w p d mb m va vc W → W.cell? ⟨mb, 0, none⟩ = some (.int .i64 (m.n 0))) := fun W hW => hW.row.cell (i := 0) (by decide)
  have HF : Hid (∀ W, DS w p d mb m va vc W → W.cell? ⟨mb, 1, none⟩ = some (.int .i64 (m.n 1)) ∧ W.cell? ⟨mb, 2, none⟩ = some (.int .i64 (m.n 2)) ∧ W.cell? ⟨mb, 3, none⟩ = some (.int .i64 (m.n 3)) ∧ W.cell? ⟨p.b, 0, none⟩ = some (.int .i64 d.node) ∧ W.cell? ⟨p.b, 1, none⟩ = some (.int .i64 d.shard) ∧ W.cell? ⟨p.b, 2, none⟩ = some (.slice (some ⟨p.cb, 0, none⟩) d.L.length p.cc) ∧
      Hid (∀ n, Calls Try.prog 29 #[.slice (some ⟨p.cb, 0, none⟩) d.L.length p.cc, .int .i64 (m.n 1)] (W.drewN n) fun e w' => e = .returned (.bool (decide (m.n 1 ∈ d.L))) ∧ w' = W.drewN n) ∧ Hid (∀ n, DS w p d mb m va vc (W.drewN n))) := fun W hW =>
    ⟨hW.row.cell (i := 1) (by decide), hW.row.cell (i := 2) (by decide), hW.row.cell (i := 3) (by decide), hW.q.cell 0 (by decide), hW.q.cell 1 (by decide), hW.q.cell 2 (by decide), fun n => (contains_any (hW.drewN n).q (m.n 1)).mono fun e w' ⟨he, hw⟩ => ⟨he, hw.symm⟩, fun n => hW.drewN n⟩
  obtain ⟨K0, hK0⟩ : ∃ x, m.n 0 = x := ⟨_, rfl⟩
  obtain ⟨A1, hA1⟩ : ∃ x, m.n 1 = x := ⟨_, rfl⟩
  obtain ⟨A2, hA2⟩ : ∃ x, m.n 2 = x := ⟨_, rfl⟩
  obtain ⟨A3, hA3⟩ : ∃ x, m.n 3 = x := ⟨_, rfl⟩
  rw [hK0] at HD0 HK0 hoff
  rw [hA1, hA2, hA3] at hoff
  simp only [hA1, hA2, hA3] at HF
  obtain ⟨FV, hFV⟩ : ∃ x, fvM K0 = x := ⟨_, rfl⟩
  rw [hFV] at HD0
  clear hA h HR HMM HD hN hn0 hFV hA1 hA2 hA3 hK0
  cases hkb : kbM K0 with
  | false =>
    rw [hkb] at HD0
    clear hoff hkb
    go_enter Try.func12, Try.ntmps12
    go_upto_region 1 with fail
    rw [HW1.out, Hmb.out]
    clear HW1 Hmb
    refine wp_region_held_drew (S := fun W => DS w p d mb m va vc W) (by kernel_rfl) HSD.out fun _ => ?_
    refine wpAnyH_take (i := 1) (v := .pointer (some ⟨mb, 0, none⟩)) rfl (by kernel_rfl) (by kernel_rfl) (by kernel_rfl) (fun _ _ _ h => h) (.inl ⟨rfl, fun W hW => by kernel_rfl⟩) HSD.out ?_
    simp only [List.getElem_toArray, List.getElem_cons_zero, List.getElem_cons_succ, Act.put, List.setIfInBounds_toArray, List.set_cons_zero, List.set_cons_succ]
    refine wpAnyH_take (i := 2) (v := .pointer (some ⟨mb, 0, none⟩)) rfl (by kernel_rfl) (by kernel_rfl) (by kernel_rfl) (fun _ _ _ h => h) (.inl ⟨rfl, fun W hW => by kernel_rfl⟩) HSD.out ?_
    simp only [List.getElem_toArray, List.getElem_cons_zero, List.getElem_cons_succ, Act.put, List.setIfInBounds_toArray, List.set_cons_zero, List.set_cons_succ]
    refine wpAnyH_take (i := 3) (v := .int .i64 K0) rfl (by kernel_rfl) (by kernel_rfl) (by kernel_rfl) (fun _ _ _ h => h) (.inl ⟨rfl, fun W hW => by have c := HK0.out W hW; go_simp⟩) HSD.out ?_
    simp only [List.getElem_toArray, List.getElem_cons_zero, List.getElem_cons_succ, Act.put, List.setIfInBounds_toArray, List.set_cons_zero, List.set_cons_succ]
    refine wpAnyH_ready (rs := [0]) (by kernel_rfl) (by simp) ?_
    refine AllReadyH.cons rfl (fun K hK => ?_) AllReadyH.nil
    refine step_callW rfl 28 #[] (by kernel_rfl) HD0.out ?_
    rintro e w3 ⟨g, rfl, HLK, HS3⟩
    refine ⟨_, rfl, hK.out _ _ HS3.out fun _ => ?_⟩
    clear hK
    simp only [List.getElem_toArray, List.getElem_cons_zero, Act.put, List.setIfInBounds_toArray, List.set_cons_zero, List.set_cons_succ]
    refine wpAnyH_ready (rs := [4]) (by kernel_rfl) (by simp) ?_
    refine AllReadyH.cons rfl (fun K hK => ?_) AllReadyH.nil
    refine step_storeM rfl (op_run (.tuple #[FV, .bool false]) ?_ ?_)
    · have r := HLK.out
      go_simp
    refine hK.out _ _ HS3.out fun _ => ?_
    clear hK
    simp only [List.getElem_toArray, List.getElem_cons_zero, List.getElem_cons_succ, Act.put, List.setIfInBounds_toArray, List.set_cons_zero, List.set_cons_succ]
    refine wpAnyH_take (i := 5) (v := .tuple #[FV, .bool false]) rfl (by kernel_rfl) (by kernel_rfl) (by kernel_rfl) (fun _ _ _ h => h) (.inl ⟨rfl, fun W hW => by kernel_rfl⟩) HS3.out ?_
    simp only [List.getElem_toArray, List.getElem_cons_zero, List.getElem_cons_succ, Act.put, List.setIfInBounds_toArray, List.set_cons_zero, List.set_cons_succ]
    refine wpAnyH_take (i := 6) (v := FV) rfl (by kernel_rfl) (by kernel_rfl) (by kernel_rfl) (fun _ _ _ h => h) (.inl ⟨rfl, fun W hW => by kernel_rfl⟩) HS3.out ?_
    simp only [List.getElem_toArray, List.getElem_cons_zero, List.getElem_cons_succ, Act.put, List.setIfInBounds_toArray, List.set_cons_zero, List.set_cons_succ]
    refine wpAnyH_take (i := 7) (v := .bool false) rfl (by kernel_rfl) (by kernel_rfl) (by kernel_rfl) (fun _ _ _ h => h) (.inl ⟨rfl, fun W hW => by kernel_rfl⟩) HS3.out ?_
    simp only [List.getElem_toArray, List.getElem_cons_zero, List.getElem_cons_succ, Act.put, List.setIfInBounds_toArray, List.set_cons_zero, List.set_cons_succ]
    refine wpAnyH_take (i := 8) (v := FV) rfl (by kernel_rfl) (by kernel_rfl) (by kernel_rfl) (fun _ _ _ h => h) (.inl ⟨rfl, fun W hW => by kernel_rfl⟩) HS3.out ?_
    simp only [List.getElem_toArray, List.getElem_cons_zero, List.getElem_cons_succ, Act.put, List.setIfInBounds_toArray, List.set_cons_zero, List.set_cons_succ]
    refine wpAnyH_take (i := 9) (v := .bool false) rfl (by kernel_rfl) (by kernel_rfl) (by kernel_rfl) (fun _ _ _ h => h) (.inl ⟨rfl, fun W hW => by kernel_rfl⟩) HS3.out ?_
    simp only [List.getElem_toArray, List.getElem_cons_zero, List.getElem_cons_succ, Act.put, List.setIfInBounds_toArray, List.set_cons_zero, List.set_cons_succ]
    refine wpAnyH_done (by kernel_rfl) ?_ _
    obtain ⟨n1, n2, n3, p0, p1, p2, HCO, HDN⟩ := HF.out w3 HS3.out
    clear HLK HD0 HSD HK0 HF HS3
    go_upto_region 2 with fail
    go_quiet (exact Calls.quiet_of_same (HCO.out _))
    clear HCO
    go_wp2_with fail
    go_ret
    exact ⟨_, rfl, (HDN.out _).none⟩
  | true =>
    rw [hkb] at HD0
    by_cases e2 : A2 = d.node
    · have z2 : (A2 != d.node) = false := by simp [e2]
      by_cases e3 : A3 = d.shard
      · have z3 : (A3 != d.shard) = false := by simp [e3]
        have e1 : A1 ∉ d.L := fun e1 => hoff ⟨hkb, e2, e3, e1⟩
        rw [decide_eq_false e1] at HF
        clear hoff hkb e1 e2 e3
        go_enter Try.func12, Try.ntmps12
        go_upto_region 1 with fail
        rw [HW1.out, Hmb.out]
        clear HW1 Hmb
        refine wp_region_held_drew (S := fun W => DS w p d mb m va vc W) (by kernel_rfl) HSD.out fun _ => ?_
        refine wpAnyH_take (i := 1) (v := .pointer (some ⟨mb, 0, none⟩)) rfl (by kernel_rfl) (by kernel_rfl) (by kernel_rfl) (fun _ _ _ h => h) (.inl ⟨rfl, fun W hW => by kernel_rfl⟩) HSD.out ?_
        simp only [List.getElem_toArray, List.getElem_cons_zero, List.getElem_cons_succ, Act.put, List.setIfInBounds_toArray, List.set_cons_zero, List.set_cons_succ]
        refine wpAnyH_take (i := 2) (v := .pointer (some ⟨mb, 0, none⟩)) rfl (by kernel_rfl) (by kernel_rfl) (by kernel_rfl) (fun _ _ _ h => h) (.inl ⟨rfl, fun W hW => by kernel_rfl⟩) HSD.out ?_
        simp only [List.getElem_toArray, List.getElem_cons_zero, List.getElem_cons_succ, Act.put, List.setIfInBounds_toArray, List.set_cons_zero, List.set_cons_succ]
        refine wpAnyH_take (i := 3) (v := .int .i64 K0) rfl (by kernel_rfl) (by kernel_rfl) (by kernel_rfl) (fun _ _ _ h => h) (.inl ⟨rfl, fun W hW => by have c := HK0.out W hW; go_simp⟩) HSD.out ?_
        simp only [List.getElem_toArray, List.getElem_cons_zero, List.getElem_cons_succ, Act.put, List.setIfInBounds_toArray, List.set_cons_zero, List.set_cons_succ]
        refine wpAnyH_ready (rs := [0]) (by kernel_rfl) (by simp) ?_
        refine AllReadyH.cons rfl (fun K hK => ?_) AllReadyH.nil
        refine step_callW rfl 28 #[] (by kernel_rfl) HD0.out ?_
        rintro e w3 ⟨g, rfl, HLK, HS3⟩
        refine ⟨_, rfl, hK.out _ _ HS3.out fun _ => ?_⟩
        clear hK
        simp only [List.getElem_toArray, List.getElem_cons_zero, Act.put, List.setIfInBounds_toArray, List.set_cons_zero, List.set_cons_succ]
        refine wpAnyH_ready (rs := [4]) (by kernel_rfl) (by simp) ?_
        refine AllReadyH.cons rfl (fun K hK => ?_) AllReadyH.nil
        refine step_storeM rfl (op_run (.tuple #[FV, .bool true]) ?_ ?_)
        · have r := HLK.out
          go_simp
        refine hK.out _ _ HS3.out fun _ => ?_
        clear hK
        simp only [List.getElem_toArray, List.getElem_cons_zero, List.getElem_cons_succ, Act.put, List.setIfInBounds_toArray, List.set_cons_zero, List.set_cons_succ]
        refine wpAnyH_take (i := 5) (v := .tuple #[FV, .bool true]) rfl (by kernel_rfl) (by kernel_rfl) (by kernel_rfl) (fun _ _ _ h => h) (.inl ⟨rfl, fun W hW => by kernel_rfl⟩) HS3.out ?_
        simp only [List.getElem_toArray, List.getElem_cons_zero, List.getElem_cons_succ, Act.put, List.setIfInBounds_toArray, List.set_cons_zero, List.set_cons_succ]
        refine wpAnyH_take (i := 6) (v := FV) rfl (by kernel_rfl) (by kernel_rfl) (by kernel_rfl) (fun _ _ _ h => h) (.inl ⟨rfl, fun W hW => by kernel_rfl⟩) HS3.out ?_
        simp only [List.getElem_toArray, List.getElem_cons_zero, List.getElem_cons_succ, Act.put, List.setIfInBounds_toArray, List.set_cons_zero, List.set_cons_succ]
        refine wpAnyH_take (i := 7) (v := .bool true) rfl (by kernel_rfl) (by kernel_rfl) (by kernel_rfl) (fun _ _ _ h => h) (.inl ⟨rfl, fun W hW => by kernel_rfl⟩) HS3.out ?_
        simp only [List.getElem_toArray, List.getElem_cons_zero, List.getElem_cons_succ, Act.put, List.setIfInBounds_toArray, List.set_cons_zero, List.set_cons_succ]
        refine wpAnyH_take (i := 8) (v := FV) rfl (by kernel_rfl) (by kernel_rfl) (by kernel_rfl) (fun _ _ _ h => h) (.inl ⟨rfl, fun W hW => by kernel_rfl⟩) HS3.out ?_
        simp only [List.getElem_toArray, List.getElem_cons_zero, List.getElem_cons_succ, Act.put, List.setIfInBounds_toArray, List.set_cons_zero, List.set_cons_succ]
        refine wpAnyH_take (i := 9) (v := .bool true) rfl (by kernel_rfl) (by kernel_rfl) (by kernel_rfl) (fun _ _ _ h => h) (.inl ⟨rfl, fun W hW => by kernel_rfl⟩) HS3.out ?_
        simp only [List.getElem_toArray, List.getElem_cons_zero, List.getElem_cons_succ, Act.put, List.setIfInBounds_toArray, List.set_cons_zero, List.set_cons_succ]
        refine wpAnyH_done (by kernel_rfl) ?_ _
        obtain ⟨n1, n2, n3, p0, p1, p2, HCO, HDN⟩ := HF.out w3 HS3.out
        clear HLK HD0 HSD HK0 HF HS3
        go_upto_region 2 with fail
        go_quiet (exact Calls.quiet_of_same (HCO.out _))
        clear HCO
        go_wp2_with fail
        go_ret
        exact ⟨_, rfl, (HDN.out _).none⟩
      · have z3 : (A3 != d.shard) = true := by simp [e3]
        clear hoff hkb e2 e3
        go_enter Try.func12, Try.ntmps12
        go_upto_region 1 with fail
        rw [HW1.out, Hmb.out]
        clear HW1 Hmb
        refine wp_region_held_drew (S := fun W => DS w p d mb m va vc W) (by kernel_rfl) HSD.out fun _ => ?_
        refine wpAnyH_take (i := 1) (v := .pointer (some ⟨mb, 0, none⟩)) rfl (by kernel_rfl) (by kernel_rfl) (by kernel_rfl) (fun _ _ _ h => h) (.inl ⟨rfl, fun W hW => by kernel_rfl⟩) HSD.out ?_
        simp only [List.getElem_toArray, List.getElem_cons_zero, List.getElem_cons_succ, Act.put, List.setIfInBounds_toArray, List.set_cons_zero, List.set_cons_succ]
        refine wpAnyH_take (i := 2) (v := .pointer (some ⟨mb, 0, none⟩)) rfl (by kernel_rfl) (by kernel_rfl) (by kernel_rfl) (fun _ _ _ h => h) (.inl ⟨rfl, fun W hW => by kernel_rfl⟩) HSD.out ?_
        simp only [List.getElem_toArray, List.getElem_cons_zero, List.getElem_cons_succ, Act.put, List.setIfInBounds_toArray, List.set_cons_zero, List.set_cons_succ]
        refine wpAnyH_take (i := 3) (v := .int .i64 K0) rfl (by kernel_rfl) (by kernel_rfl) (by kernel_rfl) (fun _ _ _ h => h) (.inl ⟨rfl, fun W hW => by have c := HK0.out W hW; go_simp⟩) HSD.out ?_
        simp only [List.getElem_toArray, List.getElem_cons_zero, List.getElem_cons_succ, Act.put, List.setIfInBounds_toArray, List.set_cons_zero, List.set_cons_succ]
        refine wpAnyH_ready (rs := [0]) (by kernel_rfl) (by simp) ?_
        refine AllReadyH.cons rfl (fun K hK => ?_) AllReadyH.nil
        refine step_callW rfl 28 #[] (by kernel_rfl) HD0.out ?_
        rintro e w3 ⟨g, rfl, HLK, HS3⟩
        refine ⟨_, rfl, hK.out _ _ HS3.out fun _ => ?_⟩
        clear hK
        simp only [List.getElem_toArray, List.getElem_cons_zero, Act.put, List.setIfInBounds_toArray, List.set_cons_zero, List.set_cons_succ]
        refine wpAnyH_ready (rs := [4]) (by kernel_rfl) (by simp) ?_
        refine AllReadyH.cons rfl (fun K hK => ?_) AllReadyH.nil
        refine step_storeM rfl (op_run (.tuple #[FV, .bool true]) ?_ ?_)
        · have r := HLK.out
          go_simp
        refine hK.out _ _ HS3.out fun _ => ?_
        clear hK
        simp only [List.getElem_toArray, List.getElem_cons_zero, List.getElem_cons_succ, Act.put, List.setIfInBounds_toArray, List.set_cons_zero, List.set_cons_succ]
        refine wpAnyH_take (i := 5) (v := .tuple #[FV, .bool true]) rfl (by kernel_rfl) (by kernel_rfl) (by kernel_rfl) (fun _ _ _ h => h) (.inl ⟨rfl, fun W hW => by kernel_rfl⟩) HS3.out ?_
        simp only [List.getElem_toArray, List.getElem_cons_zero, List.getElem_cons_succ, Act.put, List.setIfInBounds_toArray, List.set_cons_zero, List.set_cons_succ]
        refine wpAnyH_take (i := 6) (v := FV) rfl (by kernel_rfl) (by kernel_rfl) (by kernel_rfl) (fun _ _ _ h => h) (.inl ⟨rfl, fun W hW => by kernel_rfl⟩) HS3.out ?_
        simp only [List.getElem_toArray, List.getElem_cons_zero, List.getElem_cons_succ, Act.put, List.setIfInBounds_toArray, List.set_cons_zero, List.set_cons_succ]
        refine wpAnyH_take (i := 7) (v := .bool true) rfl (by kernel_rfl) (by kernel_rfl) (by kernel_rfl) (fun _ _ _ h => h) (.inl ⟨rfl, fun W hW => by kernel_rfl⟩) HS3.out ?_
        simp only [List.getElem_toArray, List.getElem_cons_zero, List.getElem_cons_succ, Act.put, List.setIfInBounds_toArray, List.set_cons_zero, List.set_cons_succ]
        refine wpAnyH_take (i := 8) (v := FV) rfl (by kernel_rfl) (by kernel_rfl) (by kernel_rfl) (fun _ _ _ h => h) (.inl ⟨rfl, fun W hW => by kernel_rfl⟩) HS3.out ?_
        simp only [List.getElem_toArray, List.getElem_cons_zero, List.getElem_cons_succ, Act.put, List.setIfInBounds_toArray, List.set_cons_zero, List.set_cons_succ]
        refine wpAnyH_take (i := 9) (v := .bool true) rfl (by kernel_rfl) (by kernel_rfl) (by kernel_rfl) (fun _ _ _ h => h) (.inl ⟨rfl, fun W hW => by kernel_rfl⟩) HS3.out ?_
        simp only [List.getElem_toArray, List.getElem_cons_zero, List.getElem_cons_succ, Act.put, List.setIfInBounds_toArray, List.set_cons_zero, List.set_cons_succ]
        refine wpAnyH_done (by kernel_rfl) ?_ _
        obtain ⟨n1, n2, n3, p0, p1, p2, HCO, HDN⟩ := HF.out w3 HS3.out
        clear HLK HD0 HSD HK0 HF HS3
        go_upto_region 2 with fail
        go_quiet (exact Calls.quiet_of_same (HCO.out _))
        clear HCO
        go_wp2_with fail
        go_ret
        exact ⟨_, rfl, (HDN.out _).none⟩
    · have z2 : (A2 != d.node) = true := by simp [e2]
      clear hoff hkb e2
      go_enter Try.func12, Try.ntmps12
      go_upto_region 1 with fail
      rw [HW1.out, Hmb.out]
      clear HW1 Hmb
      refine wp_region_held_drew (S := fun W => DS w p d mb m va vc W) (by kernel_rfl) HSD.out fun _ => ?_
      refine wpAnyH_take (i := 1) (v := .pointer (some ⟨mb, 0, none⟩)) rfl (by kernel_rfl) (by kernel_rfl) (by kernel_rfl) (fun _ _ _ h => h) (.inl ⟨rfl, fun W hW => by kernel_rfl⟩) HSD.out ?_
      simp only [List.getElem_toArray, List.getElem_cons_zero, List.getElem_cons_succ, Act.put, List.setIfInBounds_toArray, List.set_cons_zero, List.set_cons_succ]
      refine wpAnyH_take (i := 2) (v := .pointer (some ⟨mb, 0, none⟩)) rfl (by kernel_rfl) (by kernel_rfl) (by kernel_rfl) (fun _ _ _ h => h) (.inl ⟨rfl, fun W hW => by kernel_rfl⟩) HSD.out ?_
      simp only [List.getElem_toArray, List.getElem_cons_zero, List.getElem_cons_succ, Act.put, List.setIfInBounds_toArray, List.set_cons_zero, List.set_cons_succ]
      refine wpAnyH_take (i := 3) (v := .int .i64 K0) rfl (by kernel_rfl) (by kernel_rfl) (by kernel_rfl) (fun _ _ _ h => h) (.inl ⟨rfl, fun W hW => by have c := HK0.out W hW; go_simp⟩) HSD.out ?_
      simp only [List.getElem_toArray, List.getElem_cons_zero, List.getElem_cons_succ, Act.put, List.setIfInBounds_toArray, List.set_cons_zero, List.set_cons_succ]
      refine wpAnyH_ready (rs := [0]) (by kernel_rfl) (by simp) ?_
      refine AllReadyH.cons rfl (fun K hK => ?_) AllReadyH.nil
      refine step_callW rfl 28 #[] (by kernel_rfl) HD0.out ?_
      rintro e w3 ⟨g, rfl, HLK, HS3⟩
      refine ⟨_, rfl, hK.out _ _ HS3.out fun _ => ?_⟩
      clear hK
      simp only [List.getElem_toArray, List.getElem_cons_zero, Act.put, List.setIfInBounds_toArray, List.set_cons_zero, List.set_cons_succ]
      refine wpAnyH_ready (rs := [4]) (by kernel_rfl) (by simp) ?_
      refine AllReadyH.cons rfl (fun K hK => ?_) AllReadyH.nil
      refine step_storeM rfl (op_run (.tuple #[FV, .bool true]) ?_ ?_)
      · have r := HLK.out
        go_simp
      refine hK.out _ _ HS3.out fun _ => ?_
      clear hK
      simp only [List.getElem_toArray, List.getElem_cons_zero, List.getElem_cons_succ, Act.put, List.setIfInBounds_toArray, List.set_cons_zero, List.set_cons_succ]
      refine wpAnyH_take (i := 5) (v := .tuple #[FV, .bool true]) rfl (by kernel_rfl) (by kernel_rfl) (by kernel_rfl) (fun _ _ _ h => h) (.inl ⟨rfl, fun W hW => by kernel_rfl⟩) HS3.out ?_
      simp only [List.getElem_toArray, List.getElem_cons_zero, List.getElem_cons_succ, Act.put, List.setIfInBounds_toArray, List.set_cons_zero, List.set_cons_succ]
      refine wpAnyH_take (i := 6) (v := FV) rfl (by kernel_rfl) (by kernel_rfl) (by kernel_rfl) (fun _ _ _ h => h) (.inl ⟨rfl, fun W hW => by kernel_rfl⟩) HS3.out ?_
      simp only [List.getElem_toArray, List.getElem_cons_zero, List.getElem_cons_succ, Act.put, List.setIfInBounds_toArray, List.set_cons_zero, List.set_cons_succ]
      refine wpAnyH_take (i := 7) (v := .bool true) rfl (by kernel_rfl) (by kernel_rfl) (by kernel_rfl) (fun _ _ _ h => h) (.inl ⟨rfl, fun W hW => by kernel_rfl⟩) HS3.out ?_
      simp only [List.getElem_toArray, List.getElem_cons_zero, List.getElem_cons_succ, Act.put, List.setIfInBounds_toArray, List.set_cons_zero, List.set_cons_succ]
      refine wpAnyH_take (i := 8) (v := FV) rfl (by kernel_rfl) (by kernel_rfl) (by kernel_rfl) (fun _ _ _ h => h) (.inl ⟨rfl, fun W hW => by kernel_rfl⟩) HS3.out ?_
      simp only [List.getElem_toArray, List.getElem_cons_zero, List.getElem_cons_succ, Act.put, List.setIfInBounds_toArray, List.set_cons_zero, List.set_cons_succ]
      refine wpAnyH_take (i := 9) (v := .bool true) rfl (by kernel_rfl) (by kernel_rfl) (by kernel_rfl) (fun _ _ _ h => h) (.inl ⟨rfl, fun W hW => by kernel_rfl⟩) HS3.out ?_
      simp only [List.getElem_toArray, List.getElem_cons_zero, List.getElem_cons_succ, Act.put, List.setIfInBounds_toArray, List.set_cons_zero, List.set_cons_succ]
      refine wpAnyH_done (by kernel_rfl) ?_ _
      obtain ⟨n1, n2, n3, p0, p1, p2, HCO, HDN⟩ := HF.out w3 HS3.out
      clear HLK HD0 HSD HK0 HF HS3
      go_upto_region 2 with fail
      go_quiet (exact Calls.quiet_of_same (HCO.out _))
      clear HCO
      go_wp2_with fail
      go_ret
      exact ⟨_, rfl, (HDN.out _).none⟩
/-- Hear, as a plain function. -/
def hearM (d : Qd) (m : Mg) (S : Int) : Qd × List Mg := if m.n 2 = d.node ∧ m.n 3 = d.shard ∧ m.n 1 ∈ d.L then (if m.n 0 = 2 then promM d m S else if m.n 0 = 5 then (wroM d m, []) else if m.n 0 = 3 then (refM d m, []) else if m.n 0 = 7 then (betM d m, []) else (d, [])) else (d, [])
theorem hear_any {w : World} {p : Qp} {d : Qd} (h : QIs w p d) (m : Mg) (va : Option Addr) (vc : Nat) (hA : MgA w m va vc) (hN : MgN m) (S : Int) :
    Calls Try.prog 12 #[.pointer (some ⟨p.b, 0, none⟩), mgV m va vc, .int .i64 S] w fun e w' => ∃ r, e = .returned r ∧ OutM w.heap.size w' r (hearM d m S).2 ∧ QIs w' p (hearM d m S).1 ∧ Bq p w w' := by
  unfold hearM
  by_cases hc : m.n 2 = d.node ∧ m.n 3 = d.shard ∧ m.n 1 ∈ d.L
  · rw [if_pos hc]
    obtain ⟨e2, e3, e1⟩ := hc
    by_cases k2 : m.n 0 = 2
    · rw [if_pos k2]
      exact hear_promise h m va vc hA hN S k2 e2 e3 e1 _ _ fun W q a => promise_any q m va vc a hN e1 S
    · rw [if_neg k2]
      by_cases k5 : m.n 0 = 5
      · rw [if_pos k5]
        exact hear_wrote h m va vc hA hN S k5 e2 e3 e1 _ _ fun W q a => (wrote_any q m va vc a e1 S).mono fun e w' ⟨he, hq, hb⟩ => ⟨_, he, OutM.nil _ _, hq, hb⟩
      · rw [if_neg k5]
        by_cases k3 : m.n 0 = 3
        · rw [if_pos k3]
          exact hear_refuse h m va vc hA hN S k3 e2 e3 e1 _ _ fun W q a => (refuse_any q m va vc a hN e1 S).mono fun e w' ⟨he, hq, hb⟩ => ⟨_, he, OutM.nil _ _, hq, hb⟩
        · rw [if_neg k3]
          by_cases k7 : m.n 0 = 7
          · rw [if_pos k7]
            exact hear_beaten h m va vc hA hN S k7 e2 e3 e1 _ _ fun W q a => (beaten_any q m va vc a e1 S).mono fun e w' ⟨he, hq, hb⟩ => ⟨_, he, OutM.nil _ _, hq, hb⟩
          · rw [if_neg k7]
            exact hear_off h m va vc hA hN S (fun e => by
              have := of_decide_eq_true e.1
              omega)
  · rw [if_neg hc]
    exact hear_off h m va vc hA hN S (fun e => hc e.2)
end Go.Proofs.Ytkcjmjaikobpoaa

/- Package quorum: New. -/
namespace Go.Proofs.Ytkcjmjaikobpoaa
open Go.RowKit Go.Maps
set_option maxRecDepth 100000
set_option maxRecDepth 100000

/-- A list of ints of the call's own. -/
def intCells (l : List Int) : List Value := l.map (fun x => Value.int .i64 x)
def OwnI (w : World) (B : Nat) (v : Value) (l : List Int) : Prop := w.ownsRow B 3 1 v l.length (intCells l)
theorem intCells_len (l : List Int) : (intCells l).length = l.length := by simp [intCells]
theorem infoI : (Try.prog.info? 3).map (fun i => (i.zero, i.size, i.bytes)) = some (some (.int .i64 0), 1, 8) := by kernel_rfl
/-- Ints at a slice. -/
def Ints (w : World) (a : Option Addr) (l : List Int) : Prop := ∀ j, j < l.length → ∃ b o, a = some ⟨b, o, none⟩ ∧ w.cell? ⟨b, o + j, none⟩ = some (.int .i64 (l.getD j 0))
theorem Ints.since {w w' : World} {a : Option Addr} {l : List Int} (h : Ints w a l) (hs : w.Since w.heap.size w') : Ints w' a l := fun j hj => by
  obtain ⟨b, o, e, hc⟩ := h j hj
  exact ⟨b, o, e, cell_later hs hc⟩
theorem ownI_nil (w : World) (B : Nat) : OwnI w B (.slice none 0 0) [] := ⟨rfl, .inl ⟨rfl, rfl⟩⟩
theorem ownI_at {w : World} {B : Nat} {v : Value} {l : List Int} (h : OwnI w B v l) (hl : 0 < l.length) : ∃ g cap f, v = .slice (some ⟨g, 0, none⟩) l.length cap ∧ B ≤ g ∧ l.length ≤ cap ∧ w.rowIs g 3 cap f ∧ ∀ j, j < l.length → f j = .int .i64 (l.getD j 0) := by
  rcases h.2 with ⟨e, h0⟩ | ⟨g, cap, cur, e, hb, hh, hnc, hm, hsz, htk⟩
  · omega
  · refine ⟨g, cap, fun j => cur[j]?.getD undef, e, hb, hnc, ⟨cur, hh, by omega, fun i hi => by show cur[i]? = some (cur[i]?.getD undef); rw [Array.getElem?_eq_getElem (by omega)]; rfl⟩, fun j hj => ?_⟩
    have h2 := congrArg (fun l : List Value => l[j]?) htk
    simp only [Nat.mul_one] at h2
    rw [List.getElem?_take_of_lt hj, Array.getElem?_toList] at h2
    show cur[j]?.getD undef = _
    rw [h2]
    simp [intCells, List.getD, hj]
theorem ownI_ints {w : World} {B : Nat} {v : Value} {l : List Int} (h : OwnI w B v l) : ∃ a c, v = .slice a l.length c ∧ Ints w a l := by
  by_cases hl : 0 < l.length
  · obtain ⟨g, cap, f, e, _, hc, hr, hf⟩ := ownI_at h hl
    exact ⟨_, cap, e, fun j hj => ⟨g, 0, rfl, by rw [Nat.zero_add, hr.cell (by omega), hf j hj]⟩⟩
  · rcases h.2 with ⟨e, h0⟩ | ⟨g, cap, cur, e, _⟩
    · exact ⟨none, 0, by rw [e, h0], fun j hj => by omega⟩
    · exact ⟨_, cap, e, fun j hj => by omega⟩
theorem app_ints {w : World} {B : Nat} {v : Value} {l k : List Int} {b o m c : Nat} (h : OwnI w B v l) (hk : Ints w (some ⟨b, o, none⟩) k) (hm : m = k.length) (hl : l.length ≤ 1000000) (hkl : k.length ≤ 1000000) (hB : B ≤ w.heap.size) :
    ∃ v' w', (∀ ty, (Builtin.append_ #[26, 26] ty #[v, .slice (some ⟨b, o, none⟩) m c]).run Try.prog w = .ok v' w') ∧ OwnI w' B v' (l ++ k) ∧ w.grownBy w' v.ownBlock := by
  subst hm
  obtain ⟨i0, hi, hh⟩ := Option.map_eq_some_iff.1 infoI
  simp only [Prod.mk.injEq] at hh
  obtain ⟨hz0, hz1, hz2⟩ := hh
  have hml : maxLen = 9223372036854775807 := rfl
  obtain ⟨v', w', a1, a2, a3, _⟩ := run_append_own_at (P := Try.prog) w B 26 0 3 i0 _ 1 8 Try.underlying26 hi hz0 hz1 hz2 rfl (by decide) v l.length (intCells l) h ⟨b, o, none⟩ k.length c (intCells k) (by rw [intCells_len]; omega) (fun j u hj => by
    have hjl : j < k.length := by have := (List.getElem?_eq_some_iff.1 hj).1; rwa [intCells_len] at this
    obtain ⟨b', o', e, hc⟩ := hk j hjl
    cases e
    rw [Addr.add_mid, hc]
    simp only [intCells, List.getElem?_map, List.getElem?_eq_getElem hjl, Option.map_some] at hj
    rw [← hj]
    simp [List.getD, hjl]) (fun u hu => by
    obtain ⟨x, _, rfl⟩ := List.mem_map.1 hu
    rfl) (by omega) (by omega) hB
  refine ⟨v', w', fun ty => a1, ?_, a3⟩
  unfold OwnI intCells
  rw [List.map_append, List.length_append]
  exact a2
theorem ownI_own {w : World} {K : Nat} {v : Value} {l : List Int} (h : OwnI w K v l) : ∀ b, v.ownBlock = some b → K ≤ b := fun b e => by
  rcases h.2 with ⟨e2, _⟩ | ⟨g2, cap, cur, e2, hB, hq, _⟩
  · rw [e2] at e; simp [Value.ownBlock] at e
  · rw [e2] at e
    obtain rfl : g2 = b := by simpa [Value.ownBlock] using e
    exact hB
theorem clone_any {w : World} {b o c : Nat} {l : List Int} (h : Ints w (some ⟨b, o, none⟩) l) (hl : l.length ≤ 1000000) :
    Calls Try.prog 21 #[.slice (some ⟨b, o, none⟩) l.length c] w fun e w' => ∃ v, e = .returned v ∧ OwnI w' w.heap.size v l ∧ w.Since w.heap.size w' := by
  have s1 : w.Since w.heap.size (w.alloc (.cells #[] 3)) := (World.Since.refl _ _).alloc (Nat.le_refl _) _
  have o1 : OwnI (w.alloc (.cells #[] 3)) w.heap.size (.slice (some ⟨w.heap.size, 0, none⟩) 0 0) [] := ⟨rfl, .inr ⟨w.heap.size, 0, #[], rfl, Nat.le_refl _, heap_alloc_new w _, Nat.le_refl _, by decide, rfl, rfl⟩⟩
  have h1 := h.since s1
  obtain ⟨v', W2, ha, ho, hg⟩ := app_ints (m := l.length) (c := c) o1 h1 rfl (by decide) hl s1.size
  have s2 : (w.alloc (.cells #[] 3)).Since w.heap.size W2 := (World.Since.refl _ _).grown hg s1.size (ownI_own o1)
  have HE : Hid (OwnI W2 w.heap.size v' l ∧ w.Since w.heap.size W2) := ⟨ho, s2.os.trans s1.os, s2.tape.trans s1.tape, s2.output.trans s1.output, Nat.le_trans s1.size s2.size, fun k hk => (s2.block k hk).trans (s1.block k hk)⟩
  have HA := hide ha
  have hq : (binOp .eql 26 (.slice (some ⟨b, o, none⟩) l.length c) (.slice none 0 0)).run Try.prog w = .ok (.bool false) w := by kernel_rfl
  clear s1 o1 h1 ha ho hg s2 h
  go_enter Try.func21, Try.ntmps21
  go_wp2_with (at_builtin; refine wpList_append_eq rfl _ _ 26 rfl _ _ _ (by rfl) (by rfl) (HA.out _) ?_)
  go_ret
  exact ⟨_, rfl, HE.out⟩
end Go.Proofs.Ytkcjmjaikobpoaa

/- Package quorum: New. -/
namespace Go.Proofs.Ytkcjmjaikobpoaa
open Go.RowKit Go.Maps
set_option maxRecDepth 100000
set_option maxRecDepth 100000

def newD (node shard : Int) (L : List Int) : Qd := ⟨node, shard, L, 0, 0, 0, tv0, tv0, 0, 0, [], [], []⟩
structure Qp.ge (p : Qp) (B : Nat) : Prop where
  b : B ≤ p.b
  cb : B ≤ p.cb
  m1 : B ≤ p.m1
  m2 : B ≤ p.m2
  m3 : B ≤ p.m3
set_option maxHeartbeats 2000000 in
theorem new_any {w : World} {b o c : Nat} {L : List Int} (h : Ints w (some ⟨b, o, none⟩) L) (hI : ∀ x ∈ L, I64 x) (h1 : 1 ≤ L.length) (h7 : L.length ≤ 1000) (node shard : Int) (hn : node ∈ L) (hs : I64 shard) :
    Calls Try.prog 7 #[.int .i64 node, .int .i64 shard, .slice (some ⟨b, o, none⟩) L.length c] w fun e w' => ∃ p : Qp, e = .returned (.pointer (some ⟨p.b, 0, none⟩)) ∧ QIs w' p (newD node shard L) ∧ p.ge w.heap.size ∧ w.Since w.heap.size w' := by
  have HC : Hid (Calls Try.prog 21 #[.slice (some ⟨b, o, none⟩) L.length c] w fun e w1 => ∃ (cb cc : Nat), e = .returned (.slice (some ⟨cb, 0, none⟩) L.length cc) ∧ ∃ (W2 W3 W4 W5 : World) (k1 k2 k3 qb : Nat), Hid (w1.alloc (.map #[] 0) = W2) ∧ Hid (w1.heap.size = k1) ∧ Hid (W2.alloc (.map #[] 0) = W3) ∧ Hid (W2.heap.size = k2) ∧ Hid (W3.alloc (.map #[] 0) = W4) ∧ Hid (W3.heap.size = k3) ∧
      Hid (W4.alloc (.cells #[.int .i64 node, .int .i64 shard, .slice (some ⟨cb, 0, none⟩) L.length cc, .int .u64 0, .int .i64 0, .int .u64 0, .int .u64 0, .int .u64 0, .string ⟨#[]⟩, .int .u64 0, .int .u64 0, .string ⟨#[]⟩, .int .u64 0, .int .u64 0, .map (some k1), .map (some k2), .map (some k3)] 80) = W5) ∧ Hid (W4.heap.size = qb) ∧ k2 = w1.heap.size + 1 ∧ k3 = w1.heap.size + 1 + 1 ∧ qb = w1.heap.size + 1 + 1 + 1 ∧ Hid (QIs W5 ⟨qb, cb, cc, k1, k2, k3⟩ (newD node shard L) ∧ (⟨qb, cb, cc, k1, k2, k3⟩ : Qp).ge w.heap.size ∧ w.Since w.heap.size W5)) :=
    (clone_any h (by omega)).mono fun e w1 ⟨v, he, ho, hs1⟩ => by
      obtain ⟨cb, cc, f, ev, hcb, hcc, hr, hf⟩ := ownI_at ho h1
      refine ⟨cb, cc, by rw [he, ev], _, _, _, _, _, _, _, _, rfl, rfl, rfl, rfl, rfl, rfl, rfl, rfl, by simp, by simp, by simp, ?_⟩
      have s2 : w1.Since w1.heap.size (w1.alloc (.map #[] 0)) := (World.Since.refl _ _).alloc (Nat.le_refl _) _
      have z2 : (w1.alloc (.map #[] 0)).heap.size = w1.heap.size + 1 := by simp
      have c1 := cr_made w1
      generalize w1.alloc (.map #[] 0) = W2 at *
      have s3 : W2.Since W2.heap.size (W2.alloc (.map #[] 0)) := (World.Since.refl _ _).alloc (Nat.le_refl _) _
      have z3 : (W2.alloc (.map #[] 0)).heap.size = W2.heap.size + 1 := by simp
      have c2 := cr_made W2
      generalize W2.alloc (.map #[] 0) = W3 at *
      have s4 : W3.Since W3.heap.size (W3.alloc (.map #[] 0)) := (World.Since.refl _ _).alloc (Nat.le_refl _) _
      have z4 : (W3.alloc (.map #[] 0)).heap.size = W3.heap.size + 1 := by simp
      have c3 := cr_made W3
      generalize W3.alloc (.map #[] 0) = W4 at *
      have s5 : ∀ ob, W4.Since W4.heap.size (W4.alloc ob) := fun ob => (World.Since.refl _ _).alloc (Nat.le_refl _) _
      have sAll : w.Since w.heap.size W4 := ((hs1.trans (since_mono s2 hs1.size)).trans (since_mono s3 (by have := hs1.size; omega))).trans (since_mono s4 (by have := hs1.size; omega))
      have hz1 := hs1.size
      refine ⟨⟨?_, ⟨f, row_since (row_since (row_since (row_since hr s2) s3) s4) (s5 _), hcc, hf⟩, (((c1.on (s3.block _ c1.lt)).on (s4.block _ (by have := c1.lt; omega))).on ((s5 _).block _ (by have := c1.lt; omega))), ((c2.on (s4.block _ c2.lt)).on ((s5 _).block _ (by have := c2.lt; omega))), c3.on ((s5 _).block _ c3.lt), ⟨by show w1.heap.size ≠ W2.heap.size; omega, by show w1.heap.size ≠ W3.heap.size; omega, by show W2.heap.size ≠ W3.heap.size; omega⟩, ?_⟩, ⟨by show _ ≤ W4.heap.size; omega, by show _ ≤ cb; omega, by show _ ≤ w1.heap.size; omega, by show _ ≤ W2.heap.size; omega, by show _ ≤ W3.heap.size; omega⟩, sAll.trans (since_mono (s5 _) sAll.size)⟩
      · exact World.rowIs_alloc W4 _ _ _ (fun i hi => by
          have hi' : i < 17 := hi
          match i, hi' with
          | 0, _ => rfl
          | 1, _ => rfl
          | 2, _ => rfl
          | 3, _ => rfl
          | 4, _ => rfl
          | 5, _ => rfl
          | 6, _ => rfl
          | 7, _ => rfl
          | 8, _ => rfl
          | 9, _ => rfl
          | 10, _ => rfl
          | 11, _ => rfl
          | 12, _ => rfl
          | 13, _ => rfl
          | 14, _ => rfl
          | 15, _ => rfl
          | 16, _ => rfl
          | n + 17, hh => exact absurd hh (by omega))
      · exact ⟨hn, hs, hI, h1, h7, by show (0 : Nat) < _; decide, ⟨Int.le_refl _, by show (0 : Int) ≤ 3; decide⟩, by show (0 : Nat) < _; decide, tv0_ok, tv0_ok, by show (0 : Nat) < _; decide, by show (0 : Nat) < _; decide, Sub.nil _, Sub.nil _, Sub.nil _⟩
  have hmm := @run_makeMap Try.prog
  clear h hI h1 h7 hn hs
  go_enter Try.func7, Try.ntmps7
  go_wp2_with (go_at_call 21; refine HC.out.mono ?_; rintro e w1 ⟨cb, cc, rfl, W2, W3, W4, W5, k1, k2, k3, qb, HW2, Hk1, HW3, Hk2, HW4, Hk3, HW5, Hqb, e2, e3, eq, HE⟩)
  go_ret
  have hE := HE.out
  have h1 := Hk1.out
  subst h1
  subst e2
  subst e3
  subst eq
  rw [← HW5.out, ← HW4.out, ← HW3.out, ← HW2.out] at hE
  exact ⟨_, rfl, hE⟩
end Go.Proofs.Ytkcjmjaikobpoaa

/- Stage 10's laws: into, copiesOf. -/
namespace Go.Proofs.Ytkcjmjaikobpoaa
open Go.RowKit Go.Maps
set_option maxRecDepth 100000
set_option maxRecDepth 100000

theorem into_any (i : Int) (n : Nat) (hn : 1 ≤ n) (hn2 : n ≤ 1000) (hi : I64 i) (w : World) : Calls Try.prog 6 #[.int .i64 i, .int .i64 (n : Nat)] w fun e w' => e = .returned (.int .i64 (i % (n : Int))) ∧ w = w' := by
  obtain ⟨h0, h1⟩ := hi
  have t1 := Int.tmod_lt_of_pos i (show (0 : Int) < (n : Int) by omega)
  have t2 := Int.lt_tmod_of_pos i (show (0 : Int) < (n : Int) by omega)
  have hw : IntKind.i64.wrap (Int.tmod i (n : Int)) = Int.tmod i (n : Int) := by rw [IntKind.wrap_i64]; omega
  have hnz : ¬ ((n : Int) = 0) := by omega
  have hnz2 : ((n : Int) == 0) = false := by simp; omega
  have hr := @Int.emod_eq_tmod i (n : Int)
  by_cases hneg : Int.tmod i (n : Int) < 0
  · have he : i % (n : Int) = Int.tmod i (n : Int) + (n : Int) := by
      have h3 : ¬ (0 ≤ i ∨ (n : Int) ∣ i) := by
        rintro (h | h)
        · exact absurd (Int.tmod_nonneg (n : Int) h) (by omega)
        · rw [Int.tmod_eq_zero_of_dvd h] at hneg; omega
      rw [hr, if_neg h3]
      simp
    have hw2 : IntKind.i64.wrap (Int.tmod i (n : Int) + (n : Int)) = Int.tmod i (n : Int) + (n : Int) := by rw [IntKind.wrap_i64]; omega
    rw [he]
    clear he hr
    go_enter Try.func6, Try.ntmps6
    go_wp2_with fail
    go_ret
    exact ⟨rfl, rfl⟩
  · have he : i % (n : Int) = Int.tmod i (n : Int) := by
      by_cases h3 : 0 ≤ i ∨ (n : Int) ∣ i
      · rw [hr, if_pos h3]
        simp
      · exfalso
        have h4 : i < 0 := by omega
        have h5 : Int.tmod i (n : Int) = 0 := by
          have q1 := Int.tmod_nonneg (n : Int) (show 0 ≤ -i by omega)
          have q2 : Int.tmod (-i) (n : Int) = -(Int.tmod i (n : Int)) := Int.neg_tmod i n
          omega
        exact h3 (.inr (Int.dvd_of_tmod_eq_zero h5))
    rw [he]
    clear he hr
    go_enter Try.func6, Try.ntmps6
    go_wp2_with fail
    go_ret
    exact ⟨rfl, rfl⟩
/-- The nodes, in an order that is not theirs. -/
def cpL (n : Nat) : List Int := (List.range n).map fun i => (((4 * i + 5) % 9 : Nat) : Int)
theorem cpL_len (n : Nat) : (cpL n).length = n := by simp [cpL]
theorem cpL_i64 (n : Nat) : ∀ x ∈ cpL n, 0 ≤ x ∧ x < 9 := fun x hx => by
  obtain ⟨i, _, rfl⟩ := List.mem_map.1 hx
  omega
theorem cpL_get (n j : Nat) (hj : j < n) : (cpL n).getD j 0 = (((4 * j + 5) % 9 : Nat) : Int) := by simp [cpL, List.getD, hj]
theorem cpL_next (n : Nat) : cpL (n + 1) = cpL n ++ [(((4 * n + 5) % 9 : Nat) : Int)] := by simp [cpL, List.range_succ]
theorem cpL_nodup (n : Nat) (h : n ≤ 9) : (cpL n).Nodup := by
  match n, h with
  | 0, _ | 1, _ | 2, _ | 3, _ | 4, _ | 5, _ | 6, _ | 7, _ | 8, _ | 9, _ => decide
  | n + 10, h => omega
def manyN (i : Int) : Nat := 1 + 2 * (i % 4).toNat
theorem manyN_le (i : Int) : 1 ≤ manyN i ∧ manyN i ≤ 7 := by unfold manyN; omega
theorem app_one {w : World} {B : Nat} {v : Value} {l : List Int} (h : OwnI w B v l) (x : Int) (hl : l.length ≤ 1000) (hB : B ≤ w.heap.size) :
    ∃ v' w', (∀ ty, (Builtin.append_ #[26, 26] ty #[v, .slice (some ⟨w.heap.size, 0, none⟩) 1 1]).run Try.prog (w.alloc (.cells #[.int .i64 x] 3)) = .ok v' w') ∧ OwnI w' B v' (l ++ [x]) ∧ w.Since B w' := by
  have s1 : w.Since w.heap.size (w.alloc (.cells #[.int .i64 x] 3)) := (World.Since.refl _ _).alloc (Nat.le_refl _) _
  have z1 : (w.alloc (.cells #[.int .i64 x] 3)).heap.size = w.heap.size + 1 := by simp
  have o1 : OwnI (w.alloc (.cells #[.int .i64 x] 3)) B v l := World.ownsRow.alloc h _
  have i1 : Ints (w.alloc (.cells #[.int .i64 x] 3)) (some ⟨w.heap.size, 0, none⟩) [x] := fun j hj => ⟨w.heap.size, 0, rfl, by
    obtain rfl : j = 0 := by simpa using hj
    exact World.cell?_alloc_at (w := w) _ _ _ 0 rfl⟩
  obtain ⟨v', w', a1, a2, a3⟩ := app_ints (m := 1) (c := 1) o1 i1 rfl (by omega) (by simp) (by omega)
  have s2 := (World.Since.refl B (w.alloc (.cells #[.int .i64 x] 3))).grown a3 (by omega) (ownI_own o1)
  exact ⟨v', w', a1, a2, s2.os.trans s1.os, s2.tape.trans s1.tape, s2.output.trans s1.output, Nat.le_trans s1.size s2.size, fun k hk => (s2.block k hk).trans (s1.block k (by omega))⟩
set_option maxHeartbeats 1000000 in
theorem copiesOf_any (many : Int) (hm : I64 many) (w : World) : Calls Try.prog 5 #[.int .i64 many] w fun e w' => ∃ v, e = .returned v ∧ OwnI w' w.heap.size v (cpL (manyN many)) ∧ w.Since w.heap.size w' := by
  have HI := hide (into_any many 4 (by decide) (by decide) hm w)
  obtain ⟨hM1, hM7⟩ := manyN_le many
  obtain ⟨M, hM⟩ : ∃ M, manyN many = M := ⟨_, rfl⟩
  obtain ⟨R, hR⟩ : ∃ R : Int, many % ((4 : Nat) : Int) = R := ⟨_, rfl⟩
  have hMR : 1 + 2 * R = (M : Nat) := by unfold manyN at hM; omega
  have hR0 : 0 ≤ R ∧ R < 4 := by omega
  have w1 : IntKind.i64.wrap (2 * R) = 2 * R := by rw [IntKind.wrap_i64]; omega
  have w2 : IntKind.i64.wrap (1 + 2 * R) = (M : Nat) := by rw [IntKind.wrap_i64]; omega
  rw [hM] at hM1 hM7 ⊢
  rw [hR] at HI
  clear hm hM hR hMR hR0
  go_enter Try.func5, Try.ntmps5
  go_wp2_with (go_at_call 6; refine HI.out.mono ?_; rintro e w3 ⟨rfl, rfl⟩)
  go_loopg [4, 5] M (fun q s4 s5 wx => ∃ (i : Nat) (v : Value), i ≤ M ∧ q = M - i ∧ s5 = .int .i64 (i : Nat) ∧ v = s4 ∧ Hid (OwnI wx w.heap.size v (cpL i) ∧ w.Since w.heap.size wx))
  case atStart => exact ⟨0, _, Nat.zero_le _, rfl, rfl, rfl, ownI_nil _ _, World.Since.refl _ _⟩
  case round =>
    obtain ⟨i, v, hi, rfl, rfl, rfl, HX⟩ := hrel
    by_cases hlt : i < M
    · have hz : (i : Int) < (M : Int) := by omega
      have hwi : IntKind.i64.wrap ((i : Int) + 1) = (i : Int) + 1 := by rw [IntKind.wrap_i64]; omega
      have hme : M - (i + 1) < M - i := by omega
      have x1 : IntKind.i64.wrap (4 * (i : Int)) = 4 * (i : Int) := by rw [IntKind.wrap_i64]; omega
      have x2 : IntKind.i64.wrap (4 * (i : Int) + 5) = 4 * (i : Int) + 5 := by rw [IntKind.wrap_i64]; omega
      obtain ⟨X, hX⟩ : ∃ X : Int, (((4 * i + 5) % 9 : Nat) : Int) = X := ⟨_, rfl⟩
      have hx' : (4 * (i : Int) + 5) % 9 = X := by rw [← hX]; omega
      have x3 : IntKind.i64.wrap (Int.tmod (4 * (i : Int) + 5) 9) = X := by
        rw [Int.tmod_eq_emod_of_nonneg (by omega), hx', IntKind.wrap_i64]; omega
      obtain ⟨v', W4, ha, ho, hs⟩ := app_one HX.out.1 X (by rw [cpL_len]; omega) HX.out.2.size
      have HN : Hid (OwnI W4 w.heap.size v' (cpL (i + 1)) ∧ w.Since w.heap.size W4) := ⟨by rw [cpL_next, hX]; exact ho, ⟨hs.os.trans HX.out.2.os, hs.tape.trans HX.out.2.tape, hs.output.trans HX.out.2.output, Nat.le_trans HX.out.2.size hs.size, fun k hk => (hs.block k hk).trans (HX.out.2.block k hk)⟩⟩
      have HA := hide ha
      clear HX ha ho hs hX
      go_wp2_with (at_builtin; refine wpList_append_eq rfl _ _ 26 rfl _ _ _ (by rfl) (by rfl) (HA.out _) ?_)
      go_roundg (M - (i + 1))
      case measure => go_light; exact hme
      case rel => go_light; exact ⟨i + 1, v', hlt, rfl, by simp, rfl, HN⟩
    · obtain rfl : i = M := by omega
      go_wp2_with fail
      go_ret
      exact ⟨v, rfl, HX.out⟩
end Go.Proofs.Ytkcjmjaikobpoaa

/- Stage 10's laws: wakes. -/
namespace Go.Proofs.Ytkcjmjaikobpoaa
open Go.RowKit Go.Maps
set_option maxRecDepth 100000
set_option maxRecDepth 100000

def byteW (w : World) (b : Nat) : World := w.alloc (.cells #[.int .u8 (b : Nat)] 5 (1, 2))
theorem byteW_since (w : World) (b : Nat) : w.Since w.heap.size (byteW w b) := (World.Since.refl _ _).alloc (Nat.le_refl _) _
theorem byteW_size (w : World) (b : Nat) : (byteW w b).heap.size = w.heap.size + 1 := by unfold byteW; simp
theorem byteW_byt (w : World) (b : Nat) : Byt (byteW w b) (some ⟨w.heap.size, 0, none⟩) 1 (fun _ => b) := fun j hj => ⟨_, _, rfl, by
  have : j = 0 := by omega
  subst this
  unfold byteW
  rw [World.cell?_alloc_mark]
  rfl⟩
theorem conv_byte (w : World) (b : Nat) : (convert 43 43 (.slice (some ⟨w.heap.size, 0, none⟩) 1 1)).run Try.prog (w.alloc (.cells #[.int .u8 (b : Nat)] 5)) = .ok (.slice (some ⟨w.heap.size, 0, none⟩) 1 1) (byteW w b) :=
  Lib.run_convert_bytes_const (P := Try.prog) w 43 5 #[.int .u8 (b : Nat)] 1 1 Try.underlying43 Try.underlying5
theorem row_byt {w : World} {g n : Nat} {x : Nat → Nat} (h : w.rowIs g 5 n (fun j => .int .u8 (x j : Nat))) : Byt w (some ⟨g, 0, none⟩) n x := fun j hj => ⟨g, 0, rfl, by rw [Nat.zero_add]; exact h.cell hj⟩

theorem mgL_get (m : Mg) (va : Option Addr) (vc j : Nat) (hj : j < 22) : (mgL m va vc)[j]? = some (mgCell m va vc j) := by
  unfold mgL
  rw [List.getElem?_map, List.getElem?_range hj]
  rfl
/-- The first message of a list. -/
theorem out_one {B : Nat} {w : World} {r : Value} {m : Mg} (h : OutM B w r [m]) : ∃ g cap, r = .slice (some ⟨g, 0, none⟩) 1 cap ∧ ∀ c, c < 22 → c ≠ 10 → ∀ v, mgCell m none 0 c = v → w.cell? ⟨g, c, none⟩ = some v := by
  obtain ⟨l, ho, hm, _⟩ := h
  have hl : l.length = 1 := by have := congrArg List.length hm; simpa using this
  obtain ⟨e, rfl⟩ : ∃ e, l = [e] := List.length_eq_one_iff.1 hl
  have he : e.m = m := by simpa using hm
  obtain ⟨g, cap, f, ev, _, hc, hr, hf⟩ := ownM_at ho (by simp)
  refine ⟨g, cap, ev, fun c hc22 h10 v hv => ?_⟩
  have hc1 : ([e] : List Me).length ≤ cap := hc
  have h1 : 1 ≤ cap := hc1
  rw [hr.cell (by omega)]
  have := hf c (by show c < 1 * 22; omega)
  rw [this, msCells_one, mgL_get e.m e.va e.vc c hc22, ← hv, ← he]
  congr 1
  unfold mgCell
  rw [if_neg h10, if_neg h10]
def wkD : Qd := newD 3 1 [3]
def wkT : Tv := ⟨0, 0, [120]⟩
theorem wk_out : ∃ m, (startM wkD 5 wkT 2).2 = [m] ∧ m.n 0 = 4 ∧ m.n 5 = 5 ∧ m.n 6 = 1 ∧ (startM wkD 5 wkT 2).1.ph = 2 := ⟨_, rfl, rfl, rfl, rfl, rfl⟩
set_option maxHeartbeats 2000000 in
theorem wakes_any (w : World) : Calls Try.prog 8 #[] w fun e w' => e = .returned (.bool true) ∧ w.Since w.heap.size w' := by
  obtain ⟨W1, HW1⟩ : ∃ W, Hid (w.alloc (.cells #[.int .i64 3] 3) = W) := ⟨_, rfl⟩
  have s1 : w.Since w.heap.size W1 := by rw [← HW1.out]; exact (World.Since.refl _ _).alloc (Nat.le_refl _) _
  have i1 : Ints W1 (some ⟨w.heap.size, 0, none⟩) [3] := fun j hj => ⟨w.heap.size, 0, rfl, by
    obtain rfl : j = 0 := by simpa using hj
    rw [← HW1.out]
    exact World.cell?_alloc_at (w := w) _ _ _ 0 rfl⟩
  have HN : Hid (Calls Try.prog 7 #[.int .i64 3, .int .i64 1, .slice (some ⟨w.heap.size, 0, none⟩) 1 1] W1 fun e w2 => ∃ qb, e = .returned (.pointer (some ⟨qb, 0, none⟩)) ∧ ∃ W3 xb, Hid (w2.alloc (.cells #[.int .u8 120] 5) = W3) ∧ Hid (w2.heap.size = xb) ∧ ∃ W4, Hid ((convert 43 43 (.slice (some ⟨xb, 0, none⟩) 1 1)).run Try.prog W3 = .ok (.slice (some ⟨xb, 0, none⟩) 1 1) W4) ∧
      Hid (Calls Try.prog 10 #[.pointer (some ⟨qb, 0, none⟩), .int .u64 5, .agg #[.int .u64 5, .int .u64 0, .int .u64 0, .slice (some ⟨xb, 0, none⟩) 1 1], .int .i64 2] W4 fun e w5 => ∃ g cap, e = .returned (.slice (some ⟨g, 0, none⟩) 1 cap) ∧ w5.cell? ⟨g, 0, none⟩ = some (.int .i64 4) ∧ w5.cell? ⟨g, 5, none⟩ = some (.int .u64 5) ∧ w5.cell? ⟨g, 6, none⟩ = some (.int .u64 1) ∧ Hid (Calls Try.prog 22 #[.pointer (some ⟨qb, 0, none⟩)] w5 fun e w6 => e = .returned (.int .i64 2) ∧ w5 = w6) ∧ Hid (w.Since w.heap.size w5))) :=
    (new_any (c := 1) i1 (fun x hx => by obtain rfl : x = 3 := by simpa using hx
                                         exact ⟨by decide, by decide⟩) (by decide) (by decide) 3 1 (by simp) ⟨by decide, by decide⟩).mono fun e w2 ⟨p, he, hq, hg, hs⟩ => by
      refine ⟨p.b, he, _, _, rfl, rfl, byteW w2 120, conv_byte w2 120, ?_⟩
      have sb := byteW_since w2 120
      have s02 : w.Since w.heap.size w2 := s1.trans (since_mono hs s1.size)
      have q4 := hq.since sb
      refine (start_any q4 5 (by decide) 5 0 0 (by decide) (by decide) (some ⟨w2.heap.size, 0, none⟩) 1 1 (fun _ => 120) (byteW_byt w2 120) (fun _ => by decide) (fun e => by cases e) (by decide) 2).mono fun e w5 ⟨r, he5, ho, hq5, hb5⟩ => ?_
      obtain ⟨m, hm, k0, k5, k6, hph⟩ := wk_out
      have ho' : OutM (byteW w2 120).heap.size w5 r [m] := by rw [← hm]; exact ho
      obtain ⟨g, cap, er, hcell⟩ := out_one ho'
      have hph5 : Calls Try.prog 22 #[.pointer (some ⟨p.b, 0, none⟩)] w5 fun e w6 => e = .returned (.int .i64 2) ∧ w5 = w6 := by
        have := phaseQ_any hq5
        rw [show (startM (newD 3 1 [3]) 5 ⟨0, 0, (List.range 1).map fun _ => 120⟩ 2).1.ph = 2 from hph] at this
        exact this
      refine ⟨g, cap, by rw [he5, er], hcell 0 (by decide) (by decide) _ (by show Value.int .i64 (m.n 0) = _; rw [k0]), hcell 5 (by decide) (by decide) _ (by show Value.int .u64 (m.n 5) = _; rw [k5]), hcell 6 (by decide) (by decide) _ (by show Value.int .u64 (m.n 6) = _; rw [k6]), hph5, ?_⟩
      have hz1 := s1.size
      have hz2 := s02.size
      exact ⟨hb5.os.trans (sb.os.trans s02.os), hb5.tape.trans (sb.tape.trans s02.tape), hb5.output.trans (sb.output.trans s02.output), Nat.le_trans hz2 (Nat.le_trans sb.size hb5.size), fun k hk => (hb5.block k (by have := sb.size; omega) (by have := hg.b; omega) (by have := hg.m1; omega) (by have := hg.m2; omega) (by have := hg.m3; omega)).trans ((sb.block k (by omega)).trans (s02.block k hk))⟩
  clear s1 i1
  go_enter Try.func8, Try.ntmps8
  go_upto_region 4 with (go_at_call 7; (try rw [HW1.out]); refine HN.out.mono ?_; rintro e w2 ⟨qb, rfl, W3, xb, HW3, Hxb, W4, HCV, HST⟩)
  have hcv := HCV.out
  rw [← HW3.out] at hcv
  rw [← Hxb.out] at hcv HST
  clear HW1 HW3 Hxb HN HCV
  go_wp2_with (first
    | (go_at_call 10; refine HST.out.mono ?_; rintro e w5 ⟨g, cap, rfl, c0, c5, c6, HPH, HE⟩)
    | (go_at_call 22; refine HPH.out.mono ?_; rintro e w6 ⟨rfl, rfl⟩))
  go_ret
  exact ⟨by simp, HE.out⟩
end Go.Proofs.Ytkcjmjaikobpoaa

/- QuorumOnce: what is heard twice. -/
namespace Go.Proofs.Ytkcjmjaikobpoaa
open Go.RowKit Go.Maps
set_option maxRecDepth 100000
set_option maxRecDepth 100000

theorem mem_addC (C : List Int) (k : Int) : k ∈ addC C k := by
  unfold addC
  by_cases h : k ∈ C
  · rw [if_pos h]; exact h
  · rw [if_neg h]; simp
theorem wro_again (d : Qd) (m : Mg) : wroM (wroM d m) m = wroM d m := by
  by_cases h : d.ph ≠ 2 ∨ ¬ (m.n 5 = (d.next.te : Nat) ∧ m.n 6 = (d.next.ts : Nat)) ∨ m.n 1 ∈ d.c1
  · have e : wroM d m = d := if_pos h
    rw [e, e]
  · by_cases h2 : d.L.length < 2 * (wroA d m).c1.length
    · have e : wroM d m = { wroA d m with ph := 3, chosen := d.next, next := tv0 } := (if_neg h).trans (if_pos h2)
      rw [e]
      exact if_pos (.inl (by show (3 : Int) ≠ 2; decide))
    · have e : wroM d m = wroA d m := (if_neg h).trans (if_neg h2)
      rw [e]
      exact if_pos (.inr (.inr (mem_addC _ _)))
theorem bet_again (d : Qd) (m : Mg) : betM (betM d m) m = betM d m := by
  by_cases h : ¬ holdB d ∨ d.begun = d.done ∨ ¬ m.n 4 = (d.ep : Nat) ∨ ¬ m.n 7 = (d.begun : Nat) ∨ m.n 1 ∈ d.c2
  · have e : betM d m = d := if_pos h
    rw [e, e]
  · by_cases h2 : d.L.length < 2 * (betA d m).c2.length
    · have e : betM d m = { betA d m with done := d.begun } := (if_neg h).trans (if_pos h2)
      rw [e]
      exact if_pos (.inr (.inl rfl))
    · have e : betM d m = betA d m := (if_neg h).trans (if_neg h2)
      rw [e]
      exact if_pos (.inr (.inr (.inr (.inr (mem_addC _ _)))))
theorem pro_again (d : Qd) (m : Mg) (S : Int) : promM (promM d m S).1 m S = ((promM d m S).1, []) := by
  by_cases h : d.ph ≠ 1 ∨ ¬ m.n 4 = (d.ep : Nat) ∨ m.n 1 ∈ d.c1
  · have e : promM d m S = (d, []) := if_pos h
    rw [e]
    exact e
  · by_cases h2 : d.L.length < 2 * (proA d m).c1.length
    · have e : promM d m S = (wrtM (proB d m) 1 (proB d m).next.v, writeMs (wrtM (proB d m) 1 (proB d m).next.v) S) := (if_neg h).trans (if_pos h2)
      rw [e]
      exact if_pos (.inl (by show (2 : Int) ≠ 1; decide))
    · have e : promM d m S = (proB d m, []) := (if_neg h).trans (if_neg h2)
      rw [e]
      refine if_pos (.inr (.inr ?_))
      have : (proB d m).c1 = addC d.c1 (m.n 1) := by unfold proB; split <;> rfl
      show m.n 1 ∈ (proB d m).c1
      rw [this]
      exact mem_addC _ _
theorem addC_twice (C : List Int) (k : Int) : addC (addC C k) k = addC C k := if_pos (mem_addC C k)
theorem refS_twice (d : Qd) (m : Mg) : refS (refS d m) m = refS d m := by
  show ({ d with seen := max (max d.seen (m.n 9).toNat) (m.n 9).toNat } : Qd) = { d with seen := max d.seen (m.n 9).toNat }
  rw [show max (max d.seen (m.n 9).toNat) (m.n 9).toNat = max d.seen (m.n 9).toNat by omega]
theorem refC_twice (d : Qd) (m : Mg) : refC (refC d m) m = refC d m := by
  show ({ d with seen := max (max d.seen (m.n 9).toNat) (m.n 9).toNat, c3 := addC (addC d.c3 (m.n 1)) (m.n 1) } : Qd) = { d with seen := max d.seen (m.n 9).toNat, c3 := addC d.c3 (m.n 1) }
  rw [show max (max d.seen (m.n 9).toNat) (m.n 9).toNat = max d.seen (m.n 9).toNat by omega, addC_twice]
theorem ref_stop (d : Qd) (m : Mg) (hs : (m.n 9).toNat ≤ d.seen) : refM (stopM d) m = stopM d := by
  have e : refM (stopM d) m = refS (stopM d) m := if_pos (.inl rfl)
  rw [e]
  show ({ stopM d with seen := max d.seen (m.n 9).toNat } : Qd) = stopM d
  rw [show max d.seen (m.n 9).toNat = d.seen by omega]
  rfl
theorem ref_again (d : Qd) (m : Mg) : refM (refM d m) m = refM d m := by
  by_cases h : d.ph = 0 ∨ ¬ m.n 4 = (d.ep : Nat) ∨ m.n 9 ≤ (d.ep : Nat)
  · have e : refM d m = refS d m := if_pos h
    rw [e]
    have e2 : refM (refS d m) m = refS (refS d m) m := if_pos h
    rw [e2, refS_twice]
  · by_cases h2 : holdB d
    · by_cases h3 : d.L.length < 2 * (d.L.length - (refC d m).c3.length)
      · have e : refM d m = refC d m := ((if_neg h).trans (if_pos h2)).trans (if_pos h3)
        rw [e]
        have h3' : d.L.length < 2 * (d.L.length - (refC (refC d m) m).c3.length) := by rw [refC_twice]; exact h3
        have e2 : refM (refC d m) m = refC (refC d m) m := ((if_neg h).trans (if_pos h2)).trans (if_pos h3')
        rw [e2, refC_twice]
      · have e : refM d m = stopM (refC d m) := ((if_neg h).trans (if_pos h2)).trans (if_neg h3)
        rw [e]
        exact ref_stop _ _ (by show _ ≤ max d.seen (m.n 9).toNat; omega)
    · have e : refM d m = stopM (refS d m) := (if_neg h).trans (if_neg h2)
      rw [e]
      exact ref_stop _ _ (by show _ ≤ max d.seen (m.n 9).toNat; omega)
theorem keep_wro (d : Qd) (m : Mg) : (wroM d m).node = d.node ∧ (wroM d m).shard = d.shard ∧ (wroM d m).L = d.L := by
  unfold wroM
  split
  · exact ⟨rfl, rfl, rfl⟩
  · split <;> exact ⟨rfl, rfl, rfl⟩
theorem keep_bet (d : Qd) (m : Mg) : (betM d m).node = d.node ∧ (betM d m).shard = d.shard ∧ (betM d m).L = d.L := by
  unfold betM
  split
  · exact ⟨rfl, rfl, rfl⟩
  · split <;> exact ⟨rfl, rfl, rfl⟩
theorem keep_pro (d : Qd) (m : Mg) (S : Int) : (promM d m S).1.node = d.node ∧ (promM d m S).1.shard = d.shard ∧ (promM d m S).1.L = d.L := by
  have hB : (proB d m).node = d.node ∧ (proB d m).shard = d.shard ∧ (proB d m).L = d.L := by unfold proB; split <;> exact ⟨rfl, rfl, rfl⟩
  unfold promM
  split
  · exact ⟨rfl, rfl, rfl⟩
  · split <;> exact hB
theorem keep_ref (d : Qd) (m : Mg) : (refM d m).node = d.node ∧ (refM d m).shard = d.shard ∧ (refM d m).L = d.L := by
  unfold refM
  split
  · exact ⟨rfl, rfl, rfl⟩
  · split
    · split <;> exact ⟨rfl, rfl, rfl⟩
    · exact ⟨rfl, rfl, rfl⟩
/-- What is heard again turns nothing and answers nothing. -/
theorem hear_again (d : Qd) (m : Mg) (S : Int) : hearM (hearM d m S).1 m S = ((hearM d m S).1, []) := by
  by_cases h : m.n 2 = d.node ∧ m.n 3 = d.shard ∧ m.n 1 ∈ d.L
  · have key : ∀ d' : Qd, d'.node = d.node ∧ d'.shard = d.shard ∧ d'.L = d.L → hearM d' m S = (if m.n 0 = 2 then promM d' m S else if m.n 0 = 5 then (wroM d' m, []) else if m.n 0 = 3 then (refM d' m, []) else if m.n 0 = 7 then (betM d' m, []) else (d', [])) := fun d' ⟨a, b, c⟩ => if_pos ⟨by rw [a]; exact h.1, by rw [b]; exact h.2.1, by rw [c]; exact h.2.2⟩
    have e0 := key d ⟨rfl, rfl, rfl⟩
    by_cases k2 : m.n 0 = 2
    · have e1 : hearM d m S = promM d m S := e0.trans (if_pos k2)
      rw [e1, key _ (keep_pro d m S), if_pos k2]
      exact pro_again d m S
    · by_cases k5 : m.n 0 = 5
      · have e1 : hearM d m S = (wroM d m, []) := (e0.trans (if_neg k2)).trans (if_pos k5)
        rw [e1, key _ (keep_wro d m), if_neg k2, if_pos k5]
        show (wroM (wroM d m) m, ([] : List Mg)) = _
        rw [wro_again]
      · by_cases k3 : m.n 0 = 3
        · have e1 : hearM d m S = (refM d m, []) := ((e0.trans (if_neg k2)).trans (if_neg k5)).trans (if_pos k3)
          rw [e1, key _ (keep_ref d m), if_neg k2, if_neg k5, if_pos k3]
          show (refM (refM d m) m, ([] : List Mg)) = _
          rw [ref_again]
        · by_cases k7 : m.n 0 = 7
          · have e1 : hearM d m S = (betM d m, []) := (((e0.trans (if_neg k2)).trans (if_neg k5)).trans (if_neg k3)).trans (if_pos k7)
            rw [e1, key _ (keep_bet d m), if_neg k2, if_neg k5, if_neg k3, if_pos k7]
            show (betM (betM d m) m, ([] : List Mg)) = _
            rw [bet_again]
          · have e1 : hearM d m S = (d, []) := (((e0.trans (if_neg k2)).trans (if_neg k5)).trans (if_neg k3)).trans (if_neg k7)
            rw [e1]
            exact e1
  · have e1 : hearM d m S = (d, []) := if_neg h
    rw [e1]
    exact e1
end Go.Proofs.Ytkcjmjaikobpoaa

/- Cmp and Eq of any bytes. -/
namespace Go.Proofs.Ytkcjmjaikobpoaa
open Go.RowKit
set_option maxRecDepth 100000
set_option maxRecDepth 100000

set_option maxHeartbeats 800000 in
theorem cmp_same (a b : Option Addr) (n c d : Nat) (x : Nat → Nat) (w : World) (ha : Byt w a n x) (hb : Byt w b n x) (hmax : n ≤ 281474976710656) :
    Calls Try.prog 49 #[.slice a n c, .slice b n d] w fun e w' => e = .returned (.int .i64 0) ∧ ∃ m, w' = w.drewN m := by
  go_enter Try.func49, Try.ntmps49
  go_wp2_with fail
  go_loopg [5] n (fun q s5 wx => ∃ (i m : Nat), i ≤ n ∧ q = n - i ∧ s5 = .int .i64 i ∧ wx = w.drewN m)
  case atStart => exact ⟨0, 0, Nat.zero_le _, rfl, rfl, rfl⟩
  case round =>
    obtain ⟨i, m, hi, rfl, rfl, rfl⟩ := hrel
    by_cases hlt : i < n
    · obtain ⟨b1, o1, rfl, hc1⟩ := ha i hlt
      obtain ⟨b2, o2, rfl, hc2⟩ := hb i hlt
      have hc1' : (w.drewN m).cell? ⟨b1, o1 + i, none⟩ = some (.int .u8 (x i : Nat)) := hc1
      have hc2' : (w.drewN m).cell? ⟨b2, o2 + i, none⟩ = some (.int .u8 (x i : Nat)) := hc2
      have hz : (i : Int) < (n : Int) := by omega
      have HD : Hid (∀ n, (w.drewN m).drewN n = w.drewN (m + n)) := fun n => World.drewN_drewN _ _ _
      generalize w.drewN m = wd at *
      clear hc1 hc2 ha hb
      go_wp2_with fail
      go_quiet (fail)
      go_wp2_with fail
      go_quiet (fail)
      go_wp2_with fail
      go_roundg (n - (i + 1))
      case measure => go_light; omega
      case rel => go_light; exact ⟨i + 1, _, by omega, rfl, by simp, (unhide HD) _⟩
    · obtain rfl : i = n := by omega
      clear ha hb
      go_wp2_with fail
      go_ret
      exact ⟨rfl, m, rfl⟩
theorem eq_same (a b : Option Addr) (n c d : Nat) (x : Nat → Nat) (w : World) (ha : Byt w a n x) (hb : Byt w b n x) (hmax : n ≤ 281474976710656) :
    Calls Try.prog 36 #[.slice a n c, .slice b n d] w fun e w' => e = .returned (.bool true) ∧ ∃ m, w' = w.drewN m := by
  have hc := cmp_same a b n c d x w ha hb hmax
  go_enter Try.func36, Try.ntmps36
  go_wp2_with fail
  refine hc.mono ?_
  rintro e w1 ⟨rfl, m, rfl⟩
  go_wp2_with fail
  go_ret
  exact ⟨rfl, m, rfl⟩

set_option maxHeartbeats 800000 in
/-- Cmp of bytes that differ. -/
theorem cmp_diff (a b : Option Addr) (n m c d : Nat) (x y : Nat → Nat) (w : World) (ha : Byt w a n x) (hb : Byt w b m y) (hn : n ≤ 140737488355328) (_hm : m ≤ 140737488355328) (hne : ¬ (n = m ∧ ∀ j, j < n → x j = y j)) :
    Calls Try.prog 49 #[.slice a n c, .slice b m d] w fun e w' => (e = .returned (.int .i64 (-1)) ∨ e = .returned (.int .i64 1)) ∧ ∃ k, w' = w.drewN k := by
  go_enter Try.func49, Try.ntmps49
  go_wp2_with fail
  go_loopg [5] n (fun q s5 wx => ∃ i k : Nat, i ≤ n ∧ i ≤ m ∧ q = n - i ∧ s5 = .int .i64 i ∧ wx = w.drewN k ∧ ∀ j, j < i → x j = y j)
  case atStart => exact ⟨0, 0, Nat.zero_le _, Nat.zero_le _, rfl, rfl, rfl, fun j hj => absurd hj (Nat.not_lt_zero _)⟩
  case round =>
    obtain ⟨i, k, hi, him, rfl, rfl, rfl, hq⟩ := hrel
    by_cases hlt : i < n ∧ i < m
    · obtain ⟨b1, o1, rfl, hc1⟩ := ha i hlt.1
      obtain ⟨b2, o2, rfl, hc2⟩ := hb i hlt.2
      have hc1' : (w.drewN k).cell? ⟨b1, o1 + i, none⟩ = some (.int .u8 (x i : Nat)) := hc1
      have hc2' : (w.drewN k).cell? ⟨b2, o2 + i, none⟩ = some (.int .u8 (y i : Nat)) := hc2
      have hz : (i : Int) < (n : Int) := by omega
      have hz2 : (i : Int) < (m : Int) := by omega
      have HD : Hid (∀ n, (w.drewN k).drewN n = w.drewN (k + n)) := fun n => World.drewN_drewN _ _ _
      generalize w.drewN k = wd at *
      clear hc1 hc2 ha hb
      by_cases h1 : x i < y i
      · have h1' : (x i : Int) < (y i : Int) := by omega
        clear hne hq
        go_wp2_with fail
        go_quiet (fail)
        go_wp2_with fail
        go_ret
        exact ⟨Or.inl rfl, _, (unhide HD) _⟩
      · have h1' : ¬ ((x i : Int) < (y i : Int)) := by omega
        by_cases h2 : y i < x i
        · have h2' : (y i : Int) < (x i : Int) := by omega
          clear hne hq
          go_wp2_with fail
          go_quiet (fail)
          go_wp2_with fail
          go_quiet (fail)
          go_wp2_with fail
          go_ret
          exact ⟨Or.inr rfl, _, by rw [World.drewN_drewN]; exact (unhide HD) _⟩
        · have h2' : ¬ ((y i : Int) < (x i : Int)) := by omega
          have hxy : ∀ j, j < i + 1 → x j = y j := fun j hj => by
            rcases Nat.lt_or_ge j i with h | h
            · exact hq j h
            · obtain rfl : j = i := by omega
              omega
          clear hne hq h1 h2
          have HX := hide hxy
          clear hxy
          go_wp2_with fail
          go_quiet (fail)
          go_wp2_with fail
          go_quiet (fail)
          go_wp2_with fail
          go_roundg (n - (i + 1))
          case measure => go_light; omega
          case rel => go_light; exact ⟨i + 1, _, by omega, by omega, rfl, by simp, by first | exact (unhide HD) _ | (rw [World.drewN_drewN]; exact (unhide HD) _), unhide HX⟩
    · clear ha hb
      have hnm : n ≠ m := fun e => hne ⟨e, fun j hj => hq j (by omega)⟩
      clear hq hne
      have hil : (i : Int) < (n : Int) → ¬ ((i : Int) < (m : Int)) := by omega
      by_cases hin : (i : Int) < (n : Int)
      · have := hil hin
        have h3 : ¬ ((n : Int) < (m : Int)) := by omega
        have h4 : (m : Int) < (n : Int) := by omega
        clear hil
        go_wp2_with fail
        go_ret
        exact ⟨Or.inr rfl, k, rfl⟩
      · have h4 : (n : Int) < (m : Int) := by omega
        clear hil
        go_wp2_with fail
        go_ret
        exact ⟨Or.inl rfl, k, rfl⟩
theorem eq_diff (a b : Option Addr) (n m c d : Nat) (x y : Nat → Nat) (w : World) (ha : Byt w a n x) (hb : Byt w b m y) (hn : n ≤ 140737488355328) (hm : m ≤ 140737488355328) (hne : ¬ (n = m ∧ ∀ j, j < n → x j = y j)) :
    Calls Try.prog 36 #[.slice a n c, .slice b m d] w fun e w' => e = .returned (.bool false) ∧ ∃ m, w' = w.drewN m := by
  have hc := cmp_diff a b n m c d x y w ha hb hn hm hne
  go_enter Try.func36, Try.ntmps36
  go_wp2_with fail
  refine hc.mono ?_
  rintro e w1 ⟨rfl | rfl, k, rfl⟩
  · go_wp2
    go_ret
    exact ⟨rfl, k, rfl⟩
  · go_wp2
    go_ret
    exact ⟨rfl, k, rfl⟩
theorem eq_any (a b : Option Addr) (n m c d : Nat) (x y : Nat → Nat) (w : World) (ha : Byt w a n x) (hb : Byt w b m y) (hn : n ≤ 140737488355328) (hm : m ≤ 140737488355328) :
    Calls Try.prog 36 #[.slice a n c, .slice b m d] w fun e w' => e = .returned (.bool (decide ((List.range n).map x = (List.range m).map y))) ∧ ∃ m, w' = w.drewN m := by
  by_cases h : n = m ∧ ∀ j, j < n → x j = y j
  · obtain ⟨rfl, hx⟩ := h
    have e : (List.range n).map x = (List.range n).map y := List.map_congr_left (fun j hj => hx j (List.mem_range.1 hj))
    rw [decide_eq_true e]
    exact eq_same a b n c d x w ha (fun j hj => by
      obtain ⟨p, q, e1, e2⟩ := hb j hj
      exact ⟨p, q, e1, by rw [hx j hj]; exact e2⟩) (by omega)
  · have e : (List.range n).map x ≠ (List.range m).map y := fun e => h (by
      have hl := congrArg List.length e
      simp only [List.length_map, List.length_range] at hl
      refine ⟨hl, fun j hj => ?_⟩
      have := congrArg (fun l => l[j]?) e
      simpa [hj, hl ▸ hj] using this)
    rw [decide_eq_false e]
    exact eq_diff a b n m c d x y w ha hb hn hm h
/-- Cmp of any bytes: zero just where they are the same. -/
theorem cmpB_any (a b : Option Addr) (n m c d : Nat) (x y : Nat → Nat) (w : World) (ha : Byt w a n x) (hb : Byt w b m y) (hn : n ≤ 140737488355328) (hm : m ≤ 140737488355328) :
    Calls Try.prog 49 #[.slice a n c, .slice b m d] w fun e w' => ∃ k : Int, e = .returned (.int .i64 k) ∧ (k == 0) = decide ((List.range n).map x = (List.range m).map y) ∧ ∃ m, w' = w.drewN m := by
  by_cases h : n = m ∧ ∀ j, j < n → x j = y j
  · obtain ⟨rfl, hx⟩ := h
    have e : (List.range n).map x = (List.range n).map y := List.map_congr_left (fun j hj => hx j (List.mem_range.1 hj))
    rw [decide_eq_true e]
    exact (cmp_same a b n c d x w ha (fun j hj => by
      obtain ⟨p, q, e1, e2⟩ := hb j hj
      exact ⟨p, q, e1, by rw [hx j hj]; exact e2⟩) (by omega)).mono fun e w' ⟨h1, h2⟩ => ⟨0, h1, rfl, h2⟩
  · have e : (List.range n).map x ≠ (List.range m).map y := fun e => h (by
      have hl := congrArg List.length e
      simp only [List.length_map, List.length_range] at hl
      refine ⟨hl, fun j hj => ?_⟩
      have := congrArg (fun l => l[j]?) e
      simpa [hj, hl ▸ hj] using this)
    rw [decide_eq_false e]
    refine (cmp_diff a b n m c d x y w ha hb hn hm h).mono fun e w' ⟨h1, h2⟩ => ?_
    rcases h1 with h1 | h1
    · exact ⟨-1, h1, rfl, h2⟩
    · exact ⟨1, h1, rfl, h2⟩
end Go.Proofs.Ytkcjmjaikobpoaa

/- The document's EqMsg, of messages that are the same. -/
namespace Go.Proofs.Ytkcjmjaikobpoaa
open Go.RowKit
set_option maxRecDepth 100000
set_option maxRecDepth 100000

theorem since_drewN' {B : Nat} {w w' : World} (h : w.Since B w') (n : Nat) : w.Since B (w'.drewN n) := ⟨h.os, h.tape, h.output, h.size, h.block⟩

set_option maxHeartbeats 4000000 in
theorem eqm22 (a b : Mg) (va vb : Option Addr) (vc vd : Nat) (w : World) (h0 : b.n 0 = a.n 0) (h1 : b.n 1 = a.n 1) (h2 : b.n 2 = a.n 2) (h3 : b.n 3 = a.n 3) (h4 : b.n 4 = a.n 4) (h5 : b.n 5 = a.n 5) (h6 : b.n 6 = a.n 6) (h7 : b.n 7 = a.n 7) (h8 : b.n 8 = a.n 8) (h9 : b.n 9 = a.n 9) (h11 : b.n 11 = a.n 11) (h12 : b.n 12 = a.n 12) (h13 : b.s 13 = a.s 13) (h14 : b.s 14 = a.s 14) (h15 : b.n 15 = a.n 15) (h16 : b.n 16 = a.n 16) (h17 : b.n 17 = a.n 17) (h18 : b.n 18 = a.n 18) (h19 : b.n 19 = a.n 19) (h20 : b.n 20 = a.n 20) (h21 : b.n 21 = a.n 21) (hcm : ∀ W, w.Since w.heap.size W → Calls Try.prog 49 #[.slice va (a.s 10).length vc, .slice vb (b.s 10).length vd] W fun e w' => e = .returned (.int .i64 0) ∧ ∃ m, w' = W.drewN m) :
    Calls Try.prog 23 #[mgV a va vc, mgV b vb vd] w fun e w' => e = .returned (.bool true) ∧ w.Since w.heap.size w' := by
  obtain ⟨MA, HMA⟩ : ∃ x, Hid ((mgL a va vc).toArray = x) := ⟨_, rfl⟩
  obtain ⟨MB, HMB⟩ : ∃ x, Hid ((mgL b vb vd).toArray = x) := ⟨_, rfl⟩
  have sw : w.Since w.heap.size ((w.alloc (.cells MA 52)).alloc (.cells MB 52)) := ((World.Since.refl _ _).alloc (Nat.le_refl _) _).alloc (by simp) _
  have gA : ∀ i, i < 22 → MA[i]? = some (mgCell a va vc i) := fun i hi => by rw [← HMA.out, List.getElem?_toArray]; exact mgL_get a va vc i hi
  have gB : ∀ i, i < 22 → MB[i]? = some (mgCell b vb vd i) := fun i hi => by rw [← HMB.out, List.getElem?_toArray]; exact mgL_get b vb vd i hi
  have a0 : MA[0]? = some (.int .i64 (a.n 0)) := gA 0 (by decide)
  have b0 : MB[0]? = some (.int .i64 (b.n 0)) := gB 0 (by decide)
  rw [h0] at b0
  have a1 : MA[1]? = some (.int .i64 (a.n 1)) := gA 1 (by decide)
  have b1 : MB[1]? = some (.int .i64 (b.n 1)) := gB 1 (by decide)
  rw [h1] at b1
  have a2 : MA[2]? = some (.int .i64 (a.n 2)) := gA 2 (by decide)
  have b2 : MB[2]? = some (.int .i64 (b.n 2)) := gB 2 (by decide)
  rw [h2] at b2
  have a3 : MA[3]? = some (.int .i64 (a.n 3)) := gA 3 (by decide)
  have b3 : MB[3]? = some (.int .i64 (b.n 3)) := gB 3 (by decide)
  rw [h3] at b3
  have a4 : MA[4]? = some (.int .u64 (a.n 4)) := gA 4 (by decide)
  have b4 : MB[4]? = some (.int .u64 (b.n 4)) := gB 4 (by decide)
  rw [h4] at b4
  have a5 : MA[5]? = some (.int .u64 (a.n 5)) := gA 5 (by decide)
  have b5 : MB[5]? = some (.int .u64 (b.n 5)) := gB 5 (by decide)
  rw [h5] at b5
  have a6 : MA[6]? = some (.int .u64 (a.n 6)) := gA 6 (by decide)
  have b6 : MB[6]? = some (.int .u64 (b.n 6)) := gB 6 (by decide)
  rw [h6] at b6
  have a7 : MA[7]? = some (.int .u64 (a.n 7)) := gA 7 (by decide)
  have b7 : MB[7]? = some (.int .u64 (b.n 7)) := gB 7 (by decide)
  rw [h7] at b7
  have a8 : MA[8]? = some (.int .i64 (a.n 8)) := gA 8 (by decide)
  have b8 : MB[8]? = some (.int .i64 (b.n 8)) := gB 8 (by decide)
  rw [h8] at b8
  have a9 : MA[9]? = some (.int .u64 (a.n 9)) := gA 9 (by decide)
  have b9 : MB[9]? = some (.int .u64 (b.n 9)) := gB 9 (by decide)
  rw [h9] at b9
  have a10 : MA[10]? = some (.slice va (a.s 10).length vc) := gA 10 (by decide)
  have b10 : MB[10]? = some (.slice vb (b.s 10).length vd) := gB 10 (by decide)
  have a11 : MA[11]? = some (.int .i64 (a.n 11)) := gA 11 (by decide)
  have b11 : MB[11]? = some (.int .i64 (b.n 11)) := gB 11 (by decide)
  rw [h11] at b11
  have a12 : MA[12]? = some (.int .u64 (a.n 12)) := gA 12 (by decide)
  have b12 : MB[12]? = some (.int .u64 (b.n 12)) := gB 12 (by decide)
  rw [h12] at b12
  have a13 : MA[13]? = some (.string (strL (a.s 13))) := gA 13 (by decide)
  have b13 : MB[13]? = some (.string (strL (b.s 13))) := gB 13 (by decide)
  rw [h13] at b13
  have a14 : MA[14]? = some (.string (strL (a.s 14))) := gA 14 (by decide)
  have b14 : MB[14]? = some (.string (strL (b.s 14))) := gB 14 (by decide)
  rw [h14] at b14
  have a15 : MA[15]? = some (.int .u64 (a.n 15)) := gA 15 (by decide)
  have b15 : MB[15]? = some (.int .u64 (b.n 15)) := gB 15 (by decide)
  rw [h15] at b15
  have a16 : MA[16]? = some (.int .u64 (a.n 16)) := gA 16 (by decide)
  have b16 : MB[16]? = some (.int .u64 (b.n 16)) := gB 16 (by decide)
  rw [h16] at b16
  have a17 : MA[17]? = some (.int .u64 (a.n 17)) := gA 17 (by decide)
  have b17 : MB[17]? = some (.int .u64 (b.n 17)) := gB 17 (by decide)
  rw [h17] at b17
  have a18 : MA[18]? = some (.int .i64 (a.n 18)) := gA 18 (by decide)
  have b18 : MB[18]? = some (.int .i64 (b.n 18)) := gB 18 (by decide)
  rw [h18] at b18
  have a19 : MA[19]? = some (.int .i64 (a.n 19)) := gA 19 (by decide)
  have b19 : MB[19]? = some (.int .i64 (b.n 19)) := gB 19 (by decide)
  rw [h19] at b19
  have a20 : MA[20]? = some (.int .i64 (a.n 20)) := gA 20 (by decide)
  have b20 : MB[20]? = some (.int .i64 (b.n 20)) := gB 20 (by decide)
  rw [h20] at b20
  have a21 : MA[21]? = some (.int .i64 (a.n 21)) := gA 21 (by decide)
  have b21 : MB[21]? = some (.int .i64 (b.n 21)) := gB 21 (by decide)
  rw [h21] at b21
  clear h0 h1 h2 h3 h4 h5 h6 h7 h8 h9 h11 h12 h13 h14 h15 h16 h17 h18 h19 h20 h21
  generalize a.n 0 = x0 at *
  generalize a.n 1 = x1 at *
  generalize a.n 2 = x2 at *
  generalize a.n 3 = x3 at *
  generalize a.n 4 = x4 at *
  generalize a.n 5 = x5 at *
  generalize a.n 6 = x6 at *
  generalize a.n 7 = x7 at *
  generalize a.n 8 = x8 at *
  generalize a.n 9 = x9 at *
  generalize a.n 11 = x11 at *
  generalize a.n 12 = x12 at *
  generalize strL (a.s 13) = s13 at *
  generalize strL (a.s 14) = s14 at *
  generalize a.n 15 = x15 at *
  generalize a.n 16 = x16 at *
  generalize a.n 17 = x17 at *
  generalize a.n 18 = x18 at *
  generalize a.n 19 = x19 at *
  generalize a.n 20 = x20 at *
  generalize a.n 21 = x21 at *
  have HCM := hide (hcm _ sw)
  clear hcm
  have HS := hide sw
  clear sw gA gB
  unfold mgV
  rw [HMA.out, HMB.out]
  go_enter Try.func23, Try.ntmps23
  go_wp2_with fail
  refine HCM.out.mono ?_
  rintro e w3 ⟨rfl, q, e3⟩
  subst e3
  have HS3 : Hid (w.Since w.heap.size (((w.alloc (.cells MA 52)).alloc (.cells MB 52)).drewN q)) := since_drewN' HS.out q
  clear HCM
  go_wp2_with fail
  go_ret
  exact ⟨rfl, HS3.out⟩
theorem eqMsg_same (m : Mg) (va vb : Option Addr) (vc vd : Nat) (w : World) (ha : Byt w va (m.s 10).length (fun j => (m.s 10).getD j 0)) (hb : Byt w vb (m.s 10).length (fun j => (m.s 10).getD j 0)) (hl : (m.s 10).length ≤ 140737488355328) :
    Calls Try.prog 23 #[mgV m va vc, mgV m vb vd] w fun e w' => e = .returned (.bool true) ∧ w.Since w.heap.size w' :=
  eqm22 m m va vb vc vd w rfl rfl rfl rfl rfl rfl rfl rfl rfl rfl rfl rfl rfl rfl rfl rfl rfl rfl rfl rfl rfl fun W hW => (cmpB_any va vb _ _ vc vd _ _ W (ha.since hW) (hb.since hW) hl hl).mono fun e w' ⟨k, he, hk, q, hq⟩ => ⟨by
    have : (k == 0) = true := by rw [hk]; simp
    have k0 : k = 0 := by simpa using this
    rw [he, k0], q, hq⟩
end Go.Proofs.Ytkcjmjaikobpoaa
