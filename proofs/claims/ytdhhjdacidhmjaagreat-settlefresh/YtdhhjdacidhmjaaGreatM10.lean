/- Own texts, joined: SE25, SE23, STF, SE26, SE12, SE27, SE28, SE29. -/
import Derived.Test.YtdhhjdacidhmjaaGreatM9
import Derived.Test.YtdhhjdacidhmjaaGreatRows
import Derived.Test.YtdhhjdacidhmjaaGreatM6
import Derived.ProofKit
import Derived.OpenShut
import Derived.SizedLaws
import Derived.Lib.SmallJoins
import Derived.Deep.Matrix
import Derived.Deep.Slices
import Derived.Test.YtdhhjdacidhmjaaGreatM4
import Derived.BigQuiet

/- Package settle: the law's plays: an even Look, walked (se25_gen.py). -/
namespace Go.Proofs.YtdhhjdacidhmjaaGreat
open Go.RowKit
set_option maxRecDepth 100000
set_option maxRecDepth 100000
set_option maxHeartbeats 8000000 in
theorem plays_even {O : Nat → Nat} {Q : Nat} {w : World} {tb bk : Nat} {mk : Bool} {x : Pk} (h : PlIs O Q w tb bk mk x) (htu : x.tu + 1 < 1000000) (hev : ((x.tu : Int) + 1) % 2 = 0) {qa : Option Addr} {qc : Nat} {l : List Ent} (hq : QIn w qa l) (hl : l.length ≤ 3518437208881) (hqO : ∀ b o, qa = some ⟨b, o, none⟩ → l ≠ [] → O b < Q ∨ Q + 62 ≤ O b) (wh peer : Int) (num : Nat) :
    Calls Tryz.prog 10 #[.pointer (some ⟨tb, 0, none⟩), .agg #[.int .i64 1, .int .i64 wh, .slice qa l.length qc, .int .i64 peer, .int .u64 (num : Nat)]] w fun e w' => e = .returned (.bool true) ∧ Hid (PlE O Q w tb bk mk x w') := by
  obtain ⟨L, hL⟩ : ∃ L, l.length = L := ⟨_, rfl⟩
  obtain ⟨W1, HW1⟩ : ∃ W, Hid (w.alloc (.cells #[.int .i64 1, .int .i64 wh, .slice qa L qc, .int .i64 peer, .int .u64 (num : Nat)] 62) = W) := ⟨_, rfl⟩
  have s1 : w.Since w.heap.size W1 := by rw [← HW1.out]; exact (World.Since.refl _ _).alloc (Nat.le_refl _) _
  have go : ∀ j v, (#[.int .i64 1, .int .i64 wh, .slice qa L qc, .int .i64 peer, .int .u64 (num : Nat)] : Array Value)[j]? = some v → W1.cell? ⟨w.heap.size, j, none⟩ = some v := fun j v hv => by rw [← HW1.out]; exact (World.cell?_alloc_at (w := w) _ _ _ j rfl).trans hv
  have o0 : W1.cell? ⟨w.heap.size, 0, none⟩ = some (.int .i64 1) := go 0 _ rfl
  have o2 : W1.cell? ⟨w.heap.size, 2, none⟩ = some (.slice qa l.length qc) := by rw [hL]; exact go 2 _ rfl
  have hA := odd_start h hq hqO s1 o2
  have h1 := h.since s1
  have c5 := h1.cells.2.2.2.2.2
  have f5 : W1.frozen? ⟨tb, 5, none⟩ = false := h1.row.1.frozen 5
  obtain ⟨tu, htu2⟩ : ∃ y, x.tu = y := ⟨_, rfl⟩
  obtain ⟨W2, HW2⟩ : ∃ W, Hid (W1.setCell ⟨tb, 5, none⟩ (.int .i64 ((tu : Int) + 1)) = W) := ⟨_, rfl⟩
  have e2 : W1.setCell ⟨tb, 5, none⟩ (.int .i64 (x.tu + 1 : Nat)) = W2 := by rw [← HW2.out, htu2, Int.natCast_add]; rfl
  rw [e2] at hA
  have hA2 := hA
  obtain ⟨OA, hP2, _, ho2, _⟩ := hA2
  have c25 : W2.cell? ⟨tb, 5, none⟩ = some (.int .i64 ((tu : Int) + 1)) := by have := hP2.cells.2.2.2.2.2; rw [this, ← htu2, Int.natCast_add]; rfl
  have zw : IntKind.i64.wrap ((tu : Int) + 1) = (tu : Int) + 1 := by rw [IntKind.wrap_i64]; omega
  have zm : ((tu : Int) + 1) % 2 = 0 := by rw [htu2] at hev; exact hev
  obtain ⟨pb, hpb⟩ : ∃ y, x.p.sb = y := ⟨_, rfl⟩
  obtain ⟨rb, hrb⟩ : ∃ y, x.p2.rb = y := ⟨_, rfl⟩
  obtain ⟨own, hown⟩ : ∃ y, x.r.own = y := ⟨_, rfl⟩
  obtain ⟨aa, haa⟩ : ∃ y, x.aa = y := ⟨_, rfl⟩
  obtain ⟨an, han⟩ : ∃ y, x.an = y := ⟨_, rfl⟩
  obtain ⟨ac, hac⟩ : ∃ y, x.ac = y := ⟨_, rfl⟩
  obtain ⟨ob, HOB⟩ : ∃ y, Hid (w.heap.size = y) := ⟨_, rfl⟩
  rw [HOB.out] at o0 ho2 hA
  rw [hL] at ho2
  rw [htu2] at c5
  obtain ⟨q4, q2, qf⟩ := (hA.drewN 1).cells
  have HAA : Hid ((aa = none ∧ ac = 0) ∨ ∃ b, aa = some ⟨b, 0, none⟩) := by rw [← haa, ← hac]; exact qf
  have HS0 : Hid (W2.drew.cell? ⟨ob, 2, none⟩ = some (.slice qa L qc)) := by
    rw [← hL]
    exact q2
  have q4' : W2.drew.cell? ⟨tb, 4, none⟩ = some (.slice aa an ac) := by
    rw [← haa, ← han, ← hac]
    exact q4
  obtain ⟨a2, c2, W3, eap, d4, f4, HS3, HS4, HE0⟩ := (hA.drewN 1).cut hl
  rw [hL] at eap HE0 HS3 HS4
  have HAP : Hid ((Builtin.append_ #[58, 58] 58 #[.slice aa 0 ac, .slice qa L qc]).run Tryz.prog W2.drew = .ok (.slice a2 L c2) W3) := by rw [← haa, ← hac]; exact eap
  have d4' : W3.cell? ⟨tb, 4, none⟩ = some (.slice aa an ac) := by rw [← haa, ← han, ← hac]; exact d4
  obtain ⟨W4, HW4⟩ : ∃ W, Hid (W3.setCell ⟨tb, 4, none⟩ (.slice a2 L c2) = W) := ⟨_, rfl⟩
  rw [HW4.out] at HE0 HS4
  have HS1 : Hid (W4.drew.cell? ⟨tb, 0, none⟩ = some (.pointer (some ⟨pb, 0, none⟩)) ∧ W4.drew.cell? ⟨tb, 1, none⟩ = some (.pointer (some ⟨rb, 0, none⟩)) ∧ W4.drew.cell? ⟨tb, 4, none⟩ = some (.slice a2 L c2) ∧ W4.drew.cell? ⟨rb, 10, none⟩ = some (.int .i64 (own : Nat))) := by
    rw [← hpb, ← hrb, ← hown]
    exact (HE0.out.drewN 1).cells
  have HLK : Hid (Calls Tryz.prog 17 #[.pointer (some ⟨pb, 0, none⟩), .agg #[.int .i64 (own : Nat), .slice none 0 0, .slice a2 L c2, .slice none 0 0, .slice none 0 0, .slice none 0 0]] W4.drew fun e w6 => e = .returned (.tuple #[]) ∧ Hid (w6.cell? ⟨tb, 0, none⟩ = some (.pointer (some ⟨pb, 0, none⟩)) ∧ w6.cell? ⟨tb, 1, none⟩ = some (.pointer (some ⟨rb, 0, none⟩)) ∧ w6.cell? ⟨tb, 4, none⟩ = some (.slice a2 L c2) ∧ w6.cell? ⟨rb, 10, none⟩ = some (.int .i64 (own : Nat))) ∧
      Hid (w6.drew.cell? ⟨tb, 1, none⟩ = some (.pointer (some ⟨rb, 0, none⟩)) ∧ w6.drew.cell? ⟨rb, 10, none⟩ = some (.int .i64 (own : Nat)) ∧ w6.drew.cell? ⟨ob, 2, none⟩ = some (.slice qa L qc)) ∧
      Hid (Calls Tryz.prog 18 #[.pointer (some ⟨rb, 0, none⟩), .agg #[.int .i64 (own : Nat), .slice none 0 0, .slice qa L qc, .slice none 0 0, .slice none 0 0, .slice none 0 0]] w6.drew fun e w7 => e = .returned (.tuple #[]) ∧ (w7.cell? ⟨tb, 1, none⟩ = some (.pointer (some ⟨rb, 0, none⟩)) ∧ w7.cell? ⟨rb, 10, none⟩ = some (.int .i64 (own : Nat)) ∧ w7.cell? ⟨ob, 2, none⟩ = some (.slice qa L qc)) ∧
      Hid (w7.drew.cell? ⟨tb, 4, none⟩ = some (.slice a2 L c2) ∧ w7.drew.cell? ⟨ob, 2, none⟩ = some (.slice qa L qc)) ∧
      Hid (Calls Tryz.prog 19 #[.slice a2 L c2, .slice qa L qc] w7.drew fun e w8 => e = .returned (.bool true) ∧ Hid (w8.cell? ⟨tb, 4, none⟩ = some (.slice a2 L c2) ∧ w8.cell? ⟨ob, 2, none⟩ = some (.slice qa L qc)) ∧ Hid (PlE O Q w tb bk mk x w8)))) := by
    rw [← hpb, ← hrb, ← hown]
    have q := (HE0.out.drewN 1).look hl (.int .i64 (x.r.own : Nat)) (.slice none 0 0) (.slice none 0 0) (.slice none 0 0) (.slice none 0 0)
    rw [hL] at q
    refine Calls.mono q fun e w6 ⟨he, hh⟩ => ⟨he, ?_, ?_, ?_⟩
    · exact (Ev1.cells hh.out).1
    · obtain ⟨⟨_, g1, _, g2⟩, g3⟩ := Ev1.cells (Ev1.drewN hh.out 1)
      rw [hL] at g3
      exact ⟨g1, g2, g3⟩
    · have q2 := (Ev1.drewN hh.out 1).look hl (.int .i64 (x.r.own : Nat)) (.slice none 0 0) (.slice none 0 0) (.slice none 0 0) (.slice none 0 0)
      rw [hL] at q2
      refine Calls.mono q2 fun e w7 ⟨he, hh, g1, g2⟩ => ⟨he, ⟨g1, g2, ?_⟩, ?_, ?_⟩
      · have := (Ev2.cells hh.out).2
        rw [hL] at this
        exact this
      · have := Ev2.cells (Ev2.drewN hh.out 1)
        rw [hL] at this
        exact this
      · have q3 := (Ev2.drewN hh.out 1).same hl
        rw [hL] at q3
        exact Calls.mono q3 fun e w8 ⟨he, g1, g2, g3⟩ => ⟨he, ⟨g2, g3⟩, PlE.even g1.out⟩
  rw [hL]
  clear h hq hqO s1 go o2 hA h1 e2 hP2 hev hpb hrb hown haa han hac q4 q2 qf eap d4 HE0 hL hl
  go_enter Tryz.func10, Tryz.ntmps10
  go_upto_region 1 with fail
  rw [HW1.out, HOB.out]
  clear HW1
  go_upto_region 4 with fail
  rw [HW2.out]
  clear HW2 c5 f5 o0
  go_upto_region 5 with fail
  refine wp_region_held_drew (S := fun W => W.cell? ⟨ob, 2, none⟩ = some (.slice qa L qc)) (by kernel_rfl) HS0.out fun _ => ?_
  refine wpAnyH_take (i := 0) (v := .pointer (some ⟨tb, 0, none⟩)) rfl (by kernel_rfl) (by kernel_rfl) (by kernel_rfl) (fun _ _ _ h => h) (.inl ⟨rfl, fun W hW => by first | kernel_rfl | go_simp⟩) HS0.out ?_
  simp only [List.getElem_toArray, List.getElem_cons_zero, Act.put, List.setIfInBounds_toArray]
  refine wpAnyH_take (i := 1) (v := .pointer (some ⟨tb, 0, none⟩)) rfl (by kernel_rfl) (by kernel_rfl) (by kernel_rfl) (fun _ _ _ h => h) (.inl ⟨rfl, fun W hW => by first | kernel_rfl | go_simp⟩) HS0.out ?_
  simp only [List.getElem_toArray, List.getElem_cons_zero, List.getElem_cons_succ, Act.put, List.setIfInBounds_toArray, List.set_cons_zero, List.set_cons_succ]
  refine wpAnyH_take (i := 2) (v := .pointer (some ⟨tb, 0, none⟩)) rfl (by kernel_rfl) (by kernel_rfl) (by kernel_rfl) (fun _ _ _ h => h) (.inl ⟨rfl, fun W hW => by first | kernel_rfl | go_simp⟩) HS0.out ?_
  simp only [List.getElem_toArray, List.getElem_cons_zero, List.getElem_cons_succ, Act.put, List.setIfInBounds_toArray, List.set_cons_zero, List.set_cons_succ]
  refine wpAnyH_take (i := 3) (v := .pointer (some ⟨tb, 4, none⟩)) rfl (by kernel_rfl) (by kernel_rfl) (by kernel_rfl) (fun _ _ _ h => h) (.inl ⟨rfl, fun W hW => by first | kernel_rfl | go_simp⟩) HS0.out ?_
  simp only [List.getElem_toArray, List.getElem_cons_zero, List.getElem_cons_succ, Act.put, List.setIfInBounds_toArray, List.set_cons_zero, List.set_cons_succ]
  refine wpAnyH_take (i := 6) (v := .pointer (some ⟨ob, 2, none⟩)) rfl (by kernel_rfl) (by kernel_rfl) (by kernel_rfl) (fun _ _ _ h => h) (.inl ⟨rfl, fun W hW => by first | kernel_rfl | go_simp⟩) HS0.out ?_
  simp only [List.getElem_toArray, List.getElem_cons_zero, List.getElem_cons_succ, Act.put, List.setIfInBounds_toArray, List.set_cons_zero, List.set_cons_succ]
  refine wpAnyH_take (i := 7) (v := .slice qa L qc) rfl (by kernel_rfl) (by kernel_rfl) (by kernel_rfl) (fun _ _ _ h => h) (.inl ⟨rfl, fun W hW => by go_simp⟩) HS0.out ?_
  simp only [List.getElem_toArray, List.getElem_cons_zero, List.getElem_cons_succ, Act.put, List.setIfInBounds_toArray, List.set_cons_zero, List.set_cons_succ]
  refine wpAnyH_ready (rs := [4]) (by kernel_rfl) (by simp) ?_
  refine AllReadyH.cons rfl (fun KC hKC => ?_) AllReadyH.nil
  refine step_storeM rfl (op_runW (w' := W2.drew) (.slice aa an ac) (by go_simp) ?_)
  refine hKC.out _ _ HS0.out fun _ => ?_
  clear hKC
  simp only [List.getElem_toArray, List.getElem_cons_zero, List.getElem_cons_succ, Act.put, List.setIfInBounds_toArray, List.set_cons_zero, List.set_cons_succ]
  refine wpAnyH_take (i := 5) (v := .slice aa 0 ac) rfl (by kernel_rfl) (by kernel_rfl) (by kernel_rfl) (fun _ _ _ h => h) (.inl ⟨rfl, fun W hW => by have q := HAA.out; rcases q with ⟨q1, q2⟩ | ⟨b, q1⟩ <;> subst q1 <;> (try subst q2) <;> go_simp⟩) HS0.out ?_
  simp only [List.getElem_toArray, List.getElem_cons_zero, List.getElem_cons_succ, Act.put, List.setIfInBounds_toArray, List.set_cons_zero, List.set_cons_succ]
  refine wpAnyH_ready (rs := [8]) (by kernel_rfl) (by simp) ?_
  refine AllReadyH.cons rfl (fun KC hKC => ?_) AllReadyH.nil
  refine step_apps2 rfl (.tmp 31) (.tmp 33) 58 rfl _ _ _ (by kernel_rfl) (by kernel_rfl) HAP.out ?_
  refine hKC.out _ _ HS3.out fun _ => ?_
  clear hKC HS0
  simp only [List.getElem_toArray, List.getElem_cons_zero, List.getElem_cons_succ, Act.put, List.setIfInBounds_toArray, List.set_cons_zero, List.set_cons_succ]
  refine wpAnyH_take (i := 9) (v := .pointer (some ⟨tb, 0, none⟩)) rfl (by kernel_rfl) (by kernel_rfl) (by kernel_rfl) (fun _ _ _ h => h) (.inl ⟨rfl, fun W hW => by first | kernel_rfl | go_simp⟩) HS3.out ?_
  simp only [List.getElem_toArray, List.getElem_cons_zero, List.getElem_cons_succ, Act.put, List.setIfInBounds_toArray, List.set_cons_zero, List.set_cons_succ]
  refine wpAnyH_take (i := 10) (v := .pointer (some ⟨tb, 4, none⟩)) rfl (by kernel_rfl) (by kernel_rfl) (by kernel_rfl) (fun _ _ _ h => h) (.inl ⟨rfl, fun W hW => by first | kernel_rfl | go_simp⟩) HS3.out ?_
  simp only [List.getElem_toArray, List.getElem_cons_zero, List.getElem_cons_succ, Act.put, List.setIfInBounds_toArray, List.set_cons_zero, List.set_cons_succ]
  refine wpAnyH_ready (rs := [11]) (by kernel_rfl) (by simp) ?_
  refine AllReadyH.cons rfl (fun KC hKC => ?_) AllReadyH.nil
  refine step_storeM rfl (wp_store_cell 58 (.tmp 36) (.tmp 34) rfl tb 4 (.slice a2 L c2) _ rfl rfl d4' f4 infoES rfl ?_)
  rw [HW4.out]
  refine hKC.out _ _ HS4.out fun _ => ?_
  clear hKC
  simp only [Act.put]
  refine wpAnyH_done (by kernel_rfl) ?_ _
  clear HW4 HAP d4' f4 HS3 HS4 q4'
  go_upto_region 6 with fail
  refine wp_region_held_drew (S := fun W => W.cell? ⟨tb, 0, none⟩ = some (.pointer (some ⟨pb, 0, none⟩)) ∧ W.cell? ⟨tb, 1, none⟩ = some (.pointer (some ⟨rb, 0, none⟩)) ∧ W.cell? ⟨tb, 4, none⟩ = some (.slice a2 L c2) ∧ W.cell? ⟨rb, 10, none⟩ = some (.int .i64 (own : Nat))) (by kernel_rfl) HS1.out fun _ => ?_
  refine wpAnyH_take (i := 0) (v := .pointer (some ⟨tb, 0, none⟩)) rfl (by kernel_rfl) (by kernel_rfl) (by kernel_rfl) (fun _ _ _ h => h) (.inl ⟨rfl, fun W hW => by first | kernel_rfl | go_simp⟩) HS1.out ?_
  simp only [List.getElem_toArray, List.getElem_cons_zero, Act.put, List.setIfInBounds_toArray]
  refine wpAnyH_take (i := 1) (v := .pointer (some ⟨tb, 0, none⟩)) rfl (by kernel_rfl) (by kernel_rfl) (by kernel_rfl) (fun _ _ _ h => h) (.inl ⟨rfl, fun W hW => by first | kernel_rfl | go_simp⟩) HS1.out ?_
  simp only [List.getElem_toArray, List.getElem_cons_zero, List.getElem_cons_succ, Act.put, List.setIfInBounds_toArray, List.set_cons_zero, List.set_cons_succ]
  refine wpAnyH_take (i := 2) (v := .pointer (some ⟨tb, 0, none⟩)) rfl (by kernel_rfl) (by kernel_rfl) (by kernel_rfl) (fun _ _ _ h => h) (.inl ⟨rfl, fun W hW => by first | kernel_rfl | go_simp⟩) HS1.out ?_
  simp only [List.getElem_toArray, List.getElem_cons_zero, List.getElem_cons_succ, Act.put, List.setIfInBounds_toArray, List.set_cons_zero, List.set_cons_succ]
  refine wpAnyH_take (i := 3) (v := .pointer (some ⟨pb, 0, none⟩)) rfl (by kernel_rfl) (by kernel_rfl) (by kernel_rfl) (fun _ _ _ h => h) (.inl ⟨rfl, fun W hW => by obtain ⟨c, _⟩ := hW; go_simp⟩) HS1.out ?_
  simp only [List.getElem_toArray, List.getElem_cons_zero, List.getElem_cons_succ, Act.put, List.setIfInBounds_toArray, List.set_cons_zero, List.set_cons_succ]
  refine wpAnyH_take (i := 4) (v := .pointer (some ⟨tb, 0, none⟩)) rfl (by kernel_rfl) (by kernel_rfl) (by kernel_rfl) (fun _ _ _ h => h) (.inl ⟨rfl, fun W hW => by first | kernel_rfl | go_simp⟩) HS1.out ?_
  simp only [List.getElem_toArray, List.getElem_cons_zero, List.getElem_cons_succ, Act.put, List.setIfInBounds_toArray, List.set_cons_zero, List.set_cons_succ]
  refine wpAnyH_take (i := 5) (v := .pointer (some ⟨tb, 0, none⟩)) rfl (by kernel_rfl) (by kernel_rfl) (by kernel_rfl) (fun _ _ _ h => h) (.inl ⟨rfl, fun W hW => by first | kernel_rfl | go_simp⟩) HS1.out ?_
  simp only [List.getElem_toArray, List.getElem_cons_zero, List.getElem_cons_succ, Act.put, List.setIfInBounds_toArray, List.set_cons_zero, List.set_cons_succ]
  refine wpAnyH_take (i := 6) (v := .pointer (some ⟨tb, 1, none⟩)) rfl (by kernel_rfl) (by kernel_rfl) (by kernel_rfl) (fun _ _ _ h => h) (.inl ⟨rfl, fun W hW => by first | kernel_rfl | go_simp⟩) HS1.out ?_
  simp only [List.getElem_toArray, List.getElem_cons_zero, List.getElem_cons_succ, Act.put, List.setIfInBounds_toArray, List.set_cons_zero, List.set_cons_succ]
  refine wpAnyH_take (i := 7) (v := .pointer (some ⟨rb, 0, none⟩)) rfl (by kernel_rfl) (by kernel_rfl) (by kernel_rfl) (fun _ _ _ h => h) (.inl ⟨rfl, fun W hW => by obtain ⟨_, c, _⟩ := hW; go_simp⟩) HS1.out ?_
  simp only [List.getElem_toArray, List.getElem_cons_zero, List.getElem_cons_succ, Act.put, List.setIfInBounds_toArray, List.set_cons_zero, List.set_cons_succ]
  refine wpAnyH_take (i := 8) (v := .pointer (some ⟨rb, 0, none⟩)) rfl (by kernel_rfl) (by kernel_rfl) (by kernel_rfl) (fun _ _ _ h => h) (.inl ⟨rfl, fun W hW => by first | kernel_rfl | go_simp⟩) HS1.out ?_
  simp only [List.getElem_toArray, List.getElem_cons_zero, List.getElem_cons_succ, Act.put, List.setIfInBounds_toArray, List.set_cons_zero, List.set_cons_succ]
  refine wpAnyH_take (i := 9) (v := .pointer (some ⟨rb, 10, none⟩)) rfl (by kernel_rfl) (by kernel_rfl) (by kernel_rfl) (fun _ _ _ h => h) (.inl ⟨rfl, fun W hW => by first | kernel_rfl | go_simp⟩) HS1.out ?_
  simp only [List.getElem_toArray, List.getElem_cons_zero, List.getElem_cons_succ, Act.put, List.setIfInBounds_toArray, List.set_cons_zero, List.set_cons_succ]
  refine wpAnyH_take (i := 10) (v := .int .i64 (own : Nat)) rfl (by kernel_rfl) (by kernel_rfl) (by kernel_rfl) (fun _ _ _ h => h) (.inl ⟨rfl, fun W hW => by obtain ⟨_, _, _, c⟩ := hW; go_simp⟩) HS1.out ?_
  simp only [List.getElem_toArray, List.getElem_cons_zero, List.getElem_cons_succ, Act.put, List.setIfInBounds_toArray, List.set_cons_zero, List.set_cons_succ]
  refine wpAnyH_take (i := 11) (v := .pointer (some ⟨tb, 0, none⟩)) rfl (by kernel_rfl) (by kernel_rfl) (by kernel_rfl) (fun _ _ _ h => h) (.inl ⟨rfl, fun W hW => by first | kernel_rfl | go_simp⟩) HS1.out ?_
  simp only [List.getElem_toArray, List.getElem_cons_zero, List.getElem_cons_succ, Act.put, List.setIfInBounds_toArray, List.set_cons_zero, List.set_cons_succ]
  refine wpAnyH_take (i := 12) (v := .pointer (some ⟨tb, 0, none⟩)) rfl (by kernel_rfl) (by kernel_rfl) (by kernel_rfl) (fun _ _ _ h => h) (.inl ⟨rfl, fun W hW => by first | kernel_rfl | go_simp⟩) HS1.out ?_
  simp only [List.getElem_toArray, List.getElem_cons_zero, List.getElem_cons_succ, Act.put, List.setIfInBounds_toArray, List.set_cons_zero, List.set_cons_succ]
  refine wpAnyH_take (i := 13) (v := .pointer (some ⟨tb, 4, none⟩)) rfl (by kernel_rfl) (by kernel_rfl) (by kernel_rfl) (fun _ _ _ h => h) (.inl ⟨rfl, fun W hW => by first | kernel_rfl | go_simp⟩) HS1.out ?_
  simp only [List.getElem_toArray, List.getElem_cons_zero, List.getElem_cons_succ, Act.put, List.setIfInBounds_toArray, List.set_cons_zero, List.set_cons_succ]
  refine wpAnyH_take (i := 14) (v := .slice a2 L c2) rfl (by kernel_rfl) (by kernel_rfl) (by kernel_rfl) (fun _ _ _ h => h) (.inl ⟨rfl, fun W hW => by obtain ⟨_, _, c, _⟩ := hW; go_simp⟩) HS1.out ?_
  simp only [List.getElem_toArray, List.getElem_cons_zero, List.getElem_cons_succ, Act.put, List.setIfInBounds_toArray, List.set_cons_zero, List.set_cons_succ]
  refine wpAnyH_take (i := 15) (v := .agg #[.int .i64 (own : Nat), .slice none 0 0, .slice a2 L c2, .slice none 0 0, .slice none 0 0, .slice none 0 0]) rfl (by kernel_rfl) (by kernel_rfl) (by kernel_rfl) (fun _ _ _ h => h) (.inl ⟨rfl, fun W hW => by first | kernel_rfl | go_simp⟩) HS1.out ?_
  simp only [List.getElem_toArray, List.getElem_cons_zero, List.getElem_cons_succ, Act.put, List.setIfInBounds_toArray, List.set_cons_zero, List.set_cons_succ]
  refine wpAnyH_ready (rs := [16]) (by kernel_rfl) (by simp) ?_
  refine AllReadyH.cons rfl (fun K hK => ?_) AllReadyH.nil
  refine step_callW rfl 17 #[.pointer (some ⟨pb, 0, none⟩), .agg #[.int .i64 (own : Nat), .slice none 0 0, .slice a2 L c2, .slice none 0 0, .slice none 0 0, .slice none 0 0]] (by kernel_rfl) HLK.out ?_
  rintro e w6 ⟨rfl, HS6, HT0, HRL⟩
  refine ⟨_, rfl, hK.out _ _ HS6.out fun _ => ?_⟩
  clear hK HS1 HLK
  refine wpAnyH_done (by kernel_rfl) ?_ _
  clear HS6
  go_upto_region 7 with fail
  refine wp_region_held_drew (S := fun W => W.cell? ⟨tb, 1, none⟩ = some (.pointer (some ⟨rb, 0, none⟩)) ∧ W.cell? ⟨rb, 10, none⟩ = some (.int .i64 (own : Nat)) ∧ W.cell? ⟨ob, 2, none⟩ = some (.slice qa L qc)) (by kernel_rfl) HT0.out fun _ => ?_
  refine wpAnyH_take (i := 0) (v := .pointer (some ⟨tb, 0, none⟩)) rfl (by kernel_rfl) (by kernel_rfl) (by kernel_rfl) (fun _ _ _ h => h) (.inl ⟨rfl, fun W hW => by first | kernel_rfl | go_simp⟩) HT0.out ?_
  simp only [List.getElem_toArray, List.getElem_cons_zero, Act.put, List.setIfInBounds_toArray]
  refine wpAnyH_take (i := 1) (v := .pointer (some ⟨tb, 0, none⟩)) rfl (by kernel_rfl) (by kernel_rfl) (by kernel_rfl) (fun _ _ _ h => h) (.inl ⟨rfl, fun W hW => by first | kernel_rfl | go_simp⟩) HT0.out ?_
  simp only [List.getElem_toArray, List.getElem_cons_zero, List.getElem_cons_succ, Act.put, List.setIfInBounds_toArray, List.set_cons_zero, List.set_cons_succ]
  refine wpAnyH_take (i := 2) (v := .pointer (some ⟨tb, 1, none⟩)) rfl (by kernel_rfl) (by kernel_rfl) (by kernel_rfl) (fun _ _ _ h => h) (.inl ⟨rfl, fun W hW => by first | kernel_rfl | go_simp⟩) HT0.out ?_
  simp only [List.getElem_toArray, List.getElem_cons_zero, List.getElem_cons_succ, Act.put, List.setIfInBounds_toArray, List.set_cons_zero, List.set_cons_succ]
  refine wpAnyH_take (i := 3) (v := .pointer (some ⟨rb, 0, none⟩)) rfl (by kernel_rfl) (by kernel_rfl) (by kernel_rfl) (fun _ _ _ h => h) (.inl ⟨rfl, fun W hW => by obtain ⟨c, _⟩ := hW; go_simp⟩) HT0.out ?_
  simp only [List.getElem_toArray, List.getElem_cons_zero, List.getElem_cons_succ, Act.put, List.setIfInBounds_toArray, List.set_cons_zero, List.set_cons_succ]
  refine wpAnyH_take (i := 4) (v := .pointer (some ⟨tb, 0, none⟩)) rfl (by kernel_rfl) (by kernel_rfl) (by kernel_rfl) (fun _ _ _ h => h) (.inl ⟨rfl, fun W hW => by first | kernel_rfl | go_simp⟩) HT0.out ?_
  simp only [List.getElem_toArray, List.getElem_cons_zero, List.getElem_cons_succ, Act.put, List.setIfInBounds_toArray, List.set_cons_zero, List.set_cons_succ]
  refine wpAnyH_take (i := 5) (v := .pointer (some ⟨tb, 0, none⟩)) rfl (by kernel_rfl) (by kernel_rfl) (by kernel_rfl) (fun _ _ _ h => h) (.inl ⟨rfl, fun W hW => by first | kernel_rfl | go_simp⟩) HT0.out ?_
  simp only [List.getElem_toArray, List.getElem_cons_zero, List.getElem_cons_succ, Act.put, List.setIfInBounds_toArray, List.set_cons_zero, List.set_cons_succ]
  refine wpAnyH_take (i := 6) (v := .pointer (some ⟨tb, 1, none⟩)) rfl (by kernel_rfl) (by kernel_rfl) (by kernel_rfl) (fun _ _ _ h => h) (.inl ⟨rfl, fun W hW => by first | kernel_rfl | go_simp⟩) HT0.out ?_
  simp only [List.getElem_toArray, List.getElem_cons_zero, List.getElem_cons_succ, Act.put, List.setIfInBounds_toArray, List.set_cons_zero, List.set_cons_succ]
  refine wpAnyH_take (i := 7) (v := .pointer (some ⟨rb, 0, none⟩)) rfl (by kernel_rfl) (by kernel_rfl) (by kernel_rfl) (fun _ _ _ h => h) (.inl ⟨rfl, fun W hW => by obtain ⟨c, _⟩ := hW; go_simp⟩) HT0.out ?_
  simp only [List.getElem_toArray, List.getElem_cons_zero, List.getElem_cons_succ, Act.put, List.setIfInBounds_toArray, List.set_cons_zero, List.set_cons_succ]
  refine wpAnyH_take (i := 8) (v := .pointer (some ⟨rb, 0, none⟩)) rfl (by kernel_rfl) (by kernel_rfl) (by kernel_rfl) (fun _ _ _ h => h) (.inl ⟨rfl, fun W hW => by first | kernel_rfl | go_simp⟩) HT0.out ?_
  simp only [List.getElem_toArray, List.getElem_cons_zero, List.getElem_cons_succ, Act.put, List.setIfInBounds_toArray, List.set_cons_zero, List.set_cons_succ]
  refine wpAnyH_take (i := 9) (v := .pointer (some ⟨rb, 10, none⟩)) rfl (by kernel_rfl) (by kernel_rfl) (by kernel_rfl) (fun _ _ _ h => h) (.inl ⟨rfl, fun W hW => by first | kernel_rfl | go_simp⟩) HT0.out ?_
  simp only [List.getElem_toArray, List.getElem_cons_zero, List.getElem_cons_succ, Act.put, List.setIfInBounds_toArray, List.set_cons_zero, List.set_cons_succ]
  refine wpAnyH_take (i := 10) (v := .int .i64 (own : Nat)) rfl (by kernel_rfl) (by kernel_rfl) (by kernel_rfl) (fun _ _ _ h => h) (.inl ⟨rfl, fun W hW => by obtain ⟨_, c, _⟩ := hW; go_simp⟩) HT0.out ?_
  simp only [List.getElem_toArray, List.getElem_cons_zero, List.getElem_cons_succ, Act.put, List.setIfInBounds_toArray, List.set_cons_zero, List.set_cons_succ]
  refine wpAnyH_take (i := 11) (v := .pointer (some ⟨ob, 2, none⟩)) rfl (by kernel_rfl) (by kernel_rfl) (by kernel_rfl) (fun _ _ _ h => h) (.inl ⟨rfl, fun W hW => by first | kernel_rfl | go_simp⟩) HT0.out ?_
  simp only [List.getElem_toArray, List.getElem_cons_zero, List.getElem_cons_succ, Act.put, List.setIfInBounds_toArray, List.set_cons_zero, List.set_cons_succ]
  refine wpAnyH_take (i := 12) (v := .slice qa L qc) rfl (by kernel_rfl) (by kernel_rfl) (by kernel_rfl) (fun _ _ _ h => h) (.inl ⟨rfl, fun W hW => by obtain ⟨_, _, c⟩ := hW; go_simp⟩) HT0.out ?_
  simp only [List.getElem_toArray, List.getElem_cons_zero, List.getElem_cons_succ, Act.put, List.setIfInBounds_toArray, List.set_cons_zero, List.set_cons_succ]
  refine wpAnyH_take (i := 13) (v := .agg #[.int .i64 (own : Nat), .slice none 0 0, .slice qa L qc, .slice none 0 0, .slice none 0 0, .slice none 0 0]) rfl (by kernel_rfl) (by kernel_rfl) (by kernel_rfl) (fun _ _ _ h => h) (.inl ⟨rfl, fun W hW => by first | kernel_rfl | go_simp⟩) HT0.out ?_
  simp only [List.getElem_toArray, List.getElem_cons_zero, List.getElem_cons_succ, Act.put, List.setIfInBounds_toArray, List.set_cons_zero, List.set_cons_succ]
  refine wpAnyH_ready (rs := [14]) (by kernel_rfl) (by simp) ?_
  refine AllReadyH.cons rfl (fun K hK => ?_) AllReadyH.nil
  refine step_callW rfl 18 #[.pointer (some ⟨rb, 0, none⟩), .agg #[.int .i64 (own : Nat), .slice none 0 0, .slice qa L qc, .slice none 0 0, .slice none 0 0, .slice none 0 0]] (by kernel_rfl) HRL.out ?_
  rintro e w7 ⟨rfl, HS7, HU0, HSM⟩
  refine ⟨_, rfl, hK.out _ _ HS7 fun _ => ?_⟩
  clear hK HT0 HRL
  refine wpAnyH_done (by kernel_rfl) ?_ _
  clear HS7
  go_upto_region 8 with fail
  refine wp_region_held_drew (S := fun W => W.cell? ⟨tb, 4, none⟩ = some (.slice a2 L c2) ∧ W.cell? ⟨ob, 2, none⟩ = some (.slice qa L qc)) (by kernel_rfl) HU0.out fun _ => ?_
  refine wpAnyH_take (i := 0) (v := .pointer (some ⟨tb, 0, none⟩)) rfl (by kernel_rfl) (by kernel_rfl) (by kernel_rfl) (fun _ _ _ h => h) (.inl ⟨rfl, fun W hW => by first | kernel_rfl | go_simp⟩) HU0.out ?_
  simp only [List.getElem_toArray, List.getElem_cons_zero, Act.put, List.setIfInBounds_toArray]
  refine wpAnyH_take (i := 1) (v := .pointer (some ⟨tb, 0, none⟩)) rfl (by kernel_rfl) (by kernel_rfl) (by kernel_rfl) (fun _ _ _ h => h) (.inl ⟨rfl, fun W hW => by first | kernel_rfl | go_simp⟩) HU0.out ?_
  simp only [List.getElem_toArray, List.getElem_cons_zero, List.getElem_cons_succ, Act.put, List.setIfInBounds_toArray, List.set_cons_zero, List.set_cons_succ]
  refine wpAnyH_take (i := 2) (v := .pointer (some ⟨tb, 4, none⟩)) rfl (by kernel_rfl) (by kernel_rfl) (by kernel_rfl) (fun _ _ _ h => h) (.inl ⟨rfl, fun W hW => by first | kernel_rfl | go_simp⟩) HU0.out ?_
  simp only [List.getElem_toArray, List.getElem_cons_zero, List.getElem_cons_succ, Act.put, List.setIfInBounds_toArray, List.set_cons_zero, List.set_cons_succ]
  refine wpAnyH_take (i := 3) (v := .slice a2 L c2) rfl (by kernel_rfl) (by kernel_rfl) (by kernel_rfl) (fun _ _ _ h => h) (.inl ⟨rfl, fun W hW => by obtain ⟨c, _⟩ := hW; go_simp⟩) HU0.out ?_
  simp only [List.getElem_toArray, List.getElem_cons_zero, List.getElem_cons_succ, Act.put, List.setIfInBounds_toArray, List.set_cons_zero, List.set_cons_succ]
  refine wpAnyH_take (i := 4) (v := .pointer (some ⟨ob, 2, none⟩)) rfl (by kernel_rfl) (by kernel_rfl) (by kernel_rfl) (fun _ _ _ h => h) (.inl ⟨rfl, fun W hW => by first | kernel_rfl | go_simp⟩) HU0.out ?_
  simp only [List.getElem_toArray, List.getElem_cons_zero, List.getElem_cons_succ, Act.put, List.setIfInBounds_toArray, List.set_cons_zero, List.set_cons_succ]
  refine wpAnyH_take (i := 5) (v := .slice qa L qc) rfl (by kernel_rfl) (by kernel_rfl) (by kernel_rfl) (fun _ _ _ h => h) (.inl ⟨rfl, fun W hW => by obtain ⟨_, c⟩ := hW; go_simp⟩) HU0.out ?_
  simp only [List.getElem_toArray, List.getElem_cons_zero, List.getElem_cons_succ, Act.put, List.setIfInBounds_toArray, List.set_cons_zero, List.set_cons_succ]
  refine wpAnyH_ready (rs := [6]) (by kernel_rfl) (by simp) ?_
  refine AllReadyH.cons rfl (fun K hK => ?_) AllReadyH.nil
  refine step_callW rfl 19 #[.slice a2 L c2, .slice qa L qc] (by kernel_rfl) HSM.out ?_
  rintro e w8 ⟨rfl, HS8, HE⟩
  refine ⟨_, rfl, hK.out _ _ HS8.out fun _ => ?_⟩
  clear hK HU0 HSM
  simp only [List.getElem_toArray, List.getElem_cons_zero, List.getElem_cons_succ, Act.put, List.setIfInBounds_toArray, List.set_cons_zero, List.set_cons_succ]
  refine wpAnyH_take (i := 7) (v := .bool true) rfl (by kernel_rfl) (by kernel_rfl) (by kernel_rfl) (fun _ _ _ h => h) (.inl ⟨rfl, fun W hW => by first | kernel_rfl | go_simp⟩) HS8.out ?_
  simp only [List.getElem_toArray, List.getElem_cons_zero, List.getElem_cons_succ, Act.put, List.setIfInBounds_toArray, List.set_cons_zero, List.set_cons_succ]
  refine wpAnyH_done (by kernel_rfl) ?_ _
  clear HS8
  go_wp2_with fail
  go_ret
  exact ⟨rfl, HE⟩
end Go.Proofs.YtdhhjdacidhmjaaGreat

/- Package settle: the law's plays: an odd Look, walked (se23_gen.py). -/
namespace Go.Proofs.YtdhhjdacidhmjaaGreat
open Go.RowKit
set_option maxRecDepth 100000
set_option maxRecDepth 100000
theorem wpList_load_midG {P : Program} {ops : Array Oper} {rest : List Oper} {o : Oper} {a : Act} {w : World} {Q : Exit → Act → World → Prop} (hw : Region.wanted o (yielded ops a.tmps) = true) (ty : TypeId) (x : Operand) (ho : o.op = .load ty x)
    (b c : Nat) (hx : a.eval x = .pointer (some ⟨b, c, none⟩)) (cs : List Value) (d : TypeDesc) (hc : w.rangeAt b c cs)
    (hu : P.underlying ty = some d) (hd : d.isRow = true) (hi : (P.info? ty).map (·.size) = some cs.length)
    (h : wpList P ops Q rest (a.put o.dst (.agg cs.toArray)) w) : wpList P ops Q (o :: rest) a w :=
  wpList_step fun _ hK => by
    rw [if_pos hw]
    exact wp_load_mid ty x ho b c hx cs d hc hu hd hi (hK _ _ h)
set_option maxHeartbeats 8000000 in
theorem plays_odd {O : Nat → Nat} {Q : Nat} {w : World} {tb bk : Nat} {mk : Bool} {x : Pk} (h : PlIs O Q w tb bk mk x) (htu : x.tu + 1 < 1000000) (hodd : ¬ ((x.tu : Int) + 1) % 2 = 0) {qa : Option Addr} {qc : Nat} {l : List Ent} (hq : QIn w qa l) (hl : l.length ≤ 3518437208881) (hqO : ∀ b o, qa = some ⟨b, o, none⟩ → l ≠ [] → O b < Q ∨ Q + 62 ≤ O b) (wh peer : Int) (num : Nat) :
    Calls Tryz.prog 10 #[.pointer (some ⟨tb, 0, none⟩), .agg #[.int .i64 1, .int .i64 wh, .slice qa l.length qc, .int .i64 peer, .int .u64 (num : Nat)]] w fun e w' => e = .returned (.bool true) ∧ Hid (PlE O Q w tb bk mk x w') := by
  obtain ⟨L, hL⟩ : ∃ L, l.length = L := ⟨_, rfl⟩
  obtain ⟨W1, HW1⟩ : ∃ W, Hid (w.alloc (.cells #[.int .i64 1, .int .i64 wh, .slice qa L qc, .int .i64 peer, .int .u64 (num : Nat)] 62) = W) := ⟨_, rfl⟩
  have s1 : w.Since w.heap.size W1 := by rw [← HW1.out]; exact (World.Since.refl _ _).alloc (Nat.le_refl _) _
  have go : ∀ j v, (#[.int .i64 1, .int .i64 wh, .slice qa L qc, .int .i64 peer, .int .u64 (num : Nat)] : Array Value)[j]? = some v → W1.cell? ⟨w.heap.size, j, none⟩ = some v := fun j v hv => by rw [← HW1.out]; exact (World.cell?_alloc_at (w := w) _ _ _ j rfl).trans hv
  have o0 : W1.cell? ⟨w.heap.size, 0, none⟩ = some (.int .i64 1) := go 0 _ rfl
  have o2 : W1.cell? ⟨w.heap.size, 2, none⟩ = some (.slice qa l.length qc) := by rw [hL]; exact go 2 _ rfl
  have hA := odd_start h hq hqO s1 o2
  have h1 := h.since s1
  have c5 := h1.cells.2.2.2.2.2
  have f5 : W1.frozen? ⟨tb, 5, none⟩ = false := h1.row.1.frozen 5
  obtain ⟨tu, htu2⟩ : ∃ y, x.tu = y := ⟨_, rfl⟩
  obtain ⟨W2, HW2⟩ : ∃ W, Hid (W1.setCell ⟨tb, 5, none⟩ (.int .i64 ((tu : Int) + 1)) = W) := ⟨_, rfl⟩
  have e2 : W1.setCell ⟨tb, 5, none⟩ (.int .i64 (x.tu + 1 : Nat)) = W2 := by rw [← HW2.out, htu2, Int.natCast_add]; rfl
  rw [e2] at hA
  have hA2 := hA
  obtain ⟨OA, hP2, _, ho2, _⟩ := hA2
  have c25 : W2.cell? ⟨tb, 5, none⟩ = some (.int .i64 ((tu : Int) + 1)) := by have := hP2.cells.2.2.2.2.2; rw [this, ← htu2, Int.natCast_add]; rfl
  have zw : IntKind.i64.wrap ((tu : Int) + 1) = (tu : Int) + 1 := by rw [IntKind.wrap_i64]; omega
  have zm : ((tu : Int) + 1) % 2 = 1 := by rw [htu2] at hodd; omega
  have HLN : Hid (Calls Tryz.prog 20 #[.slice qa L qc] W2 fun e w3 => ∃ g cap, e = .returned (.slice (some ⟨g, 0, none⟩) L cap) ∧ Hid (OdB O Q w tb bk mk { x with tu := x.tu + 1 } w.heap.size g cap qa qc l w3)) := by
    have q := hA.lent hl
    rw [hL] at q
    exact q
  obtain ⟨ob, HOB⟩ : ∃ y, Hid (w.heap.size = y) := ⟨_, rfl⟩
  rw [HOB.out] at o0 ho2 HLN
  rw [hL] at ho2
  rw [htu2] at c5
  clear h hq hqO s1 go o2 hA h1 e2 hP2 hodd
  go_enter Tryz.func10, Tryz.ntmps10
  go_upto_region 1 with fail
  rw [HW1.out, HOB.out]
  clear HW1
  go_upto_region 4 with fail
  rw [HW2.out]
  clear HW2 c5 f5 o0
  go_upto_region 10 with (go_at_call 20; refine HLN.out.mono ?_; rintro e w3 ⟨g, cap, rfl, HB⟩)
  obtain ⟨t1, r10⟩ := HB.out.own
  have hWP := whole_put w3 (x.r.own : Nat) (.slice (some ⟨g, 0, none⟩) L cap)
  have HWP : Hid (Calls Tryz.prog 21 #[.int .i64 (x.r.own : Nat)] w3 fun e w4 => ∃ BA, e = .returned (.agg BA) ∧ ∃ W4 vb, Hid (w4.heap.size = vb) ∧ Hid (w4.alloc (.cells #[.int .i64 0, .slice none 0 0, .slice none 0 0, .slice none 0 0, .slice none 0 0, .slice none 0 0] 89) = W4) ∧ Hid (W4.there vb 0 BA.size) ∧ Hid ((Tryz.prog.info? 89).map (·.size) = some BA.size) ∧ Hid (BA.all (·.oneCell') = true) ∧
      ∃ W5, Hid (W4.setCells vb 0 BA.toList = W5) ∧ W5.cell? ⟨vb, 2, none⟩ = some (.slice none 0 0) ∧ W5.frozen? ⟨vb, 2, none⟩ = false ∧ ∃ W6, Hid (W5.setCell ⟨vb, 2, none⟩ (.slice (some ⟨g, 0, none⟩) L cap) = W6) ∧ Hid (∃ A N M S, Od0 O Q w tb bk mk { x with tu := x.tu + 1 } ob vb g cap A N M S (bkQ (x.r.own : Nat) A N M S (.slice (some ⟨g, 0, none⟩) L cap)) qa qc l W6)) :=
    hWP.mono fun e w4 ⟨A, N, M, S, BA, he, W4, vb, q1, q2, q3, q4, q5, W5, q6, q7, q8, W6, q9, q10⟩ => by
      obtain ⟨z1, z2, z3, z4, z5, z6⟩ := q10.out
      exact ⟨BA, he, W4, vb, q1, q2, q3, q4, q5, W5, q6, q7, q8, W6, q9, A, N, M, S, HB.out.mid z1 z2 z3 z4 z5 z6⟩
  clear hWP HB
  obtain ⟨own, hown⟩ : ∃ y, x.r.own = y := ⟨_, rfl⟩
  obtain ⟨rb, hrb⟩ : ∃ y, x.p2.rb = y := ⟨_, rfl⟩
  obtain ⟨pb, hpb⟩ : ∃ y, x.p.sb = y := ⟨_, rfl⟩
  have t1' : w3.cell? ⟨tb, 1, none⟩ = some (.pointer (some ⟨rb, 0, none⟩)) := by rw [← hrb]; exact t1
  have r10' : w3.cell? ⟨rb, 10, none⟩ = some (.int .i64 (own : Nat)) := by rw [← hrb, ← hown]; exact r10
  rw [hown] at HWP
  clear t1 r10
  go_upto_region 12 with (first
    | (go_at_call 21; refine HWP.out.mono ?_; rintro e w4 ⟨BA, rfl, W4, vb, HVB, HW4, HT, HI, HO, W5, HW5, v2, fv2, W6, HW6, HD⟩)
    | (rw [HW4.out, HVB.out]; clear HW4)
    | (refine wpList_store_mid rfl 89 _ _ rfl vb 0 BA rfl rfl HT.out HI.out HO.out ?_; rw [HW5.out]))
  rw [HW6.out]
  clear HW5 HW6 HT HI HO v2 fv2 HWP HLN t1' r10' HVB
  obtain ⟨A, N, M, S, hD0⟩ := HD.out
  obtain ⟨QL, HQL⟩ : ∃ y, Hid ((bkQ (own : Nat) A N M S (.slice (some ⟨g, 0, none⟩) L cap)).toList = y) := ⟨_, rfl⟩
  have eQ : QL.toArray = bkQ (own : Nat) A N M S (.slice (some ⟨g, 0, none⟩) L cap) := by have := HQL.out; subst this; rfl
  have HIQ : Hid ((Tryz.prog.info? 89).map (·.size) = some QL.length) := by have := HQL.out; subst this; exact infoB6
  have HS0 : Hid (W6.drew.cell? ⟨tb, 0, none⟩ = some (.pointer (some ⟨pb, 0, none⟩)) ∧ W6.drew.rangeAt vb 0 QL) := by
    have q := hD0.at0 _ rfl
    rw [HQL.out] at q
    exact ⟨by rw [← hpb]; exact q.1, q.2⟩
  have HLK : Hid (Calls Tryz.prog 17 #[.pointer (some ⟨pb, 0, none⟩), .agg QL.toArray] W6.drew fun e w6 => e = .returned (.tuple #[]) ∧ Hid (w6.cell? ⟨tb, 0, none⟩ = some (.pointer (some ⟨pb, 0, none⟩)) ∧ w6.rangeAt vb 0 QL) ∧ Hid (Od1 O Q w tb bk mk { x with tu := x.tu + 1 } ob vb g cap A N M S (bkQ (own : Nat) A N M S (.slice (some ⟨g, 0, none⟩) L cap)) qa qc l w6)) := by
    rw [eQ, ← hpb]
    have q := (hD0.drewN 1).look hl (.int .i64 (own : Nat)) (.slice (some ⟨A, 0, none⟩) 1 2) (.slice (some ⟨N, 0, none⟩) 1 2) (.slice (some ⟨M, 0, none⟩) 1 2) (.slice (some ⟨S, 0, none⟩) 1 2)
    rw [hL] at q
    refine Calls.mono q fun e w6 ⟨he, hh⟩ => ⟨he, ?_, hh⟩
    have q2 := hh.out.at0 _ rfl
    rw [HQL.out] at q2
    exact q2
  clear hD0 HD
  refine wp_region_held_drew (S := fun W => W.cell? ⟨tb, 0, none⟩ = some (.pointer (some ⟨pb, 0, none⟩)) ∧ W.rangeAt vb 0 QL) (by kernel_rfl) HS0.out fun _ => ?_
  refine wpAnyH_take (i := 0) (v := .pointer (some ⟨tb, 0, none⟩)) rfl (by kernel_rfl) (by kernel_rfl) (by kernel_rfl) (fun _ _ _ h => h) (.inl ⟨rfl, fun W hW => by first | kernel_rfl | go_simp⟩) HS0.out ?_
  simp only [List.getElem_toArray, List.getElem_cons_zero, Act.put, List.setIfInBounds_toArray, List.set_cons_zero, List.set_cons_succ]
  refine wpAnyH_take (i := 1) (v := .pointer (some ⟨tb, 0, none⟩)) rfl (by kernel_rfl) (by kernel_rfl) (by kernel_rfl) (fun _ _ _ h => h) (.inl ⟨rfl, fun W hW => by first | kernel_rfl | go_simp⟩) HS0.out ?_
  simp only [List.getElem_toArray, List.getElem_cons_zero, List.getElem_cons_succ, Act.put, List.setIfInBounds_toArray, List.set_cons_zero, List.set_cons_succ]
  refine wpAnyH_take (i := 2) (v := .pointer (some ⟨tb, 0, none⟩)) rfl (by kernel_rfl) (by kernel_rfl) (by kernel_rfl) (fun _ _ _ h => h) (.inl ⟨rfl, fun W hW => by first | kernel_rfl | go_simp⟩) HS0.out ?_
  simp only [List.getElem_toArray, List.getElem_cons_zero, List.getElem_cons_succ, Act.put, List.setIfInBounds_toArray, List.set_cons_zero, List.set_cons_succ]
  refine wpAnyH_take (i := 3) (v := .pointer (some ⟨pb, 0, none⟩)) rfl (by kernel_rfl) (by kernel_rfl) (by kernel_rfl) (fun _ _ _ h => h) (.inl ⟨rfl, fun W hW => by obtain ⟨c, _⟩ := hW; go_simp⟩) HS0.out ?_
  simp only [List.getElem_toArray, List.getElem_cons_zero, List.getElem_cons_succ, Act.put, List.setIfInBounds_toArray, List.set_cons_zero, List.set_cons_succ]
  refine wpAnyH_take (i := 4) (v := .agg QL.toArray) rfl (by kernel_rfl) (by kernel_rfl) (by kernel_rfl) (fun _ _ _ h => h) (yieldsIf_load_mid rfl 89 (.tmp 6) rfl vb 0 rfl QL _ (fun W hW => hW.2) Tryz.underlying89 rfl HIQ.out) HS0.out ?_
  simp only [List.getElem_toArray, List.getElem_cons_zero, List.getElem_cons_succ, Act.put, List.setIfInBounds_toArray, List.set_cons_zero, List.set_cons_succ]
  refine wpAnyH_ready (rs := [5]) (by kernel_rfl) (by simp) ?_
  refine AllReadyH.cons rfl (fun K hK => ?_) AllReadyH.nil
  refine step_callW rfl 17 #[.pointer (some ⟨pb, 0, none⟩), .agg QL.toArray] (by kernel_rfl) HLK.out ?_
  rintro e w6 ⟨rfl, HS6, HD1⟩
  refine ⟨_, rfl, hK.out _ _ HS6.out fun _ => ?_⟩
  clear hK HS0 HLK
  refine wpAnyH_done (by kernel_rfl) ?_ _
  clear HS6
  have HT0 : Hid (w6.drew.cell? ⟨tb, 1, none⟩ = some (.pointer (some ⟨rb, 0, none⟩)) ∧ w6.drew.cell? ⟨rb, 10, none⟩ = some (.int .i64 (own : Nat)) ∧ w6.drew.cell? ⟨ob, 2, none⟩ = some (.slice qa L qc)) := by
    have q := HD1.out.cells
    rw [← hrb, ← hown, ← hL]
    exact q
  have HRL : Hid (Calls Tryz.prog 18 #[.pointer (some ⟨rb, 0, none⟩), .agg #[.int .i64 (own : Nat), .slice none 0 0, .slice qa L qc, .slice none 0 0, .slice none 0 0, .slice none 0 0]] w6.drew fun e w7 => e = .returned (.tuple #[]) ∧ (w7.cell? ⟨tb, 1, none⟩ = some (.pointer (some ⟨rb, 0, none⟩)) ∧ w7.cell? ⟨rb, 10, none⟩ = some (.int .i64 (own : Nat)) ∧ w7.cell? ⟨ob, 2, none⟩ = some (.slice qa L qc)) ∧
      Hid (Calls Tryz.prog 22 #[.slice (some ⟨g, 0, none⟩) L cap, .slice qa L qc] w7 fun e w8 => e = .returned (.bool true) ∧ Hid (w8.rangeAt vb 0 QL) ∧ Hid (Calls Tryz.prog 23 #[.agg QL.toArray] w8 fun e w9 => e = .returned (.bool true) ∧ Hid (PlE O Q w tb bk mk x w9)))) := by
    rw [eQ, ← hrb, ← hown]
    have q := (HD1.out.drewN 1).look hl (.int .i64 (x.r.own : Nat)) (.slice none 0 0) (.slice none 0 0) (.slice none 0 0) (.slice none 0 0)
    rw [hL] at q
    refine Calls.mono q fun e w7 ⟨he, hh⟩ => ⟨he, ?_, ?_⟩
    · have q2 := Od2.cells hh.out
      rw [hL] at q2
      exact q2
    · have q3 := Od2.intact hh.out hl _ rfl
      rw [hL] at q3
      refine Calls.mono q3 fun e w8 ⟨he, g1, g2, g3⟩ => ⟨he, by rw [← HQL.out]; exact g3, ?_⟩
      rw [hown]
      exact (OdE.kept g1.out g2.out (own : Nat) _).mono fun e w9 ⟨he, hh⟩ => ⟨he, OdE.e hh.out⟩
  clear HD1 hrb hown hpb hL hl eQ
  go_upto_region 13 with fail
  refine wp_region_held_drew (S := fun W => W.cell? ⟨tb, 1, none⟩ = some (.pointer (some ⟨rb, 0, none⟩)) ∧ W.cell? ⟨rb, 10, none⟩ = some (.int .i64 (own : Nat)) ∧ W.cell? ⟨ob, 2, none⟩ = some (.slice qa L qc)) (by kernel_rfl) HT0.out fun _ => ?_
  refine wpAnyH_take (i := 0) (v := .pointer (some ⟨tb, 0, none⟩)) rfl (by kernel_rfl) (by kernel_rfl) (by kernel_rfl) (fun _ _ _ h => h) (.inl ⟨rfl, fun W hW => by first | kernel_rfl | go_simp⟩) HT0.out ?_
  simp only [List.getElem_toArray, List.getElem_cons_zero, Act.put, List.setIfInBounds_toArray]
  refine wpAnyH_take (i := 1) (v := .pointer (some ⟨tb, 0, none⟩)) rfl (by kernel_rfl) (by kernel_rfl) (by kernel_rfl) (fun _ _ _ h => h) (.inl ⟨rfl, fun W hW => by first | kernel_rfl | go_simp⟩) HT0.out ?_
  simp only [List.getElem_toArray, List.getElem_cons_zero, List.getElem_cons_succ, Act.put, List.setIfInBounds_toArray, List.set_cons_zero, List.set_cons_succ]
  refine wpAnyH_take (i := 2) (v := .pointer (some ⟨tb, 1, none⟩)) rfl (by kernel_rfl) (by kernel_rfl) (by kernel_rfl) (fun _ _ _ h => h) (.inl ⟨rfl, fun W hW => by first | kernel_rfl | go_simp⟩) HT0.out ?_
  simp only [List.getElem_toArray, List.getElem_cons_zero, List.getElem_cons_succ, Act.put, List.setIfInBounds_toArray, List.set_cons_zero, List.set_cons_succ]
  refine wpAnyH_take (i := 3) (v := .pointer (some ⟨rb, 0, none⟩)) rfl (by kernel_rfl) (by kernel_rfl) (by kernel_rfl) (fun _ _ _ h => h) (.inl ⟨rfl, fun W hW => by obtain ⟨c, _⟩ := hW; go_simp⟩) HT0.out ?_
  simp only [List.getElem_toArray, List.getElem_cons_zero, List.getElem_cons_succ, Act.put, List.setIfInBounds_toArray, List.set_cons_zero, List.set_cons_succ]
  refine wpAnyH_take (i := 4) (v := .pointer (some ⟨tb, 0, none⟩)) rfl (by kernel_rfl) (by kernel_rfl) (by kernel_rfl) (fun _ _ _ h => h) (.inl ⟨rfl, fun W hW => by first | kernel_rfl | go_simp⟩) HT0.out ?_
  simp only [List.getElem_toArray, List.getElem_cons_zero, List.getElem_cons_succ, Act.put, List.setIfInBounds_toArray, List.set_cons_zero, List.set_cons_succ]
  refine wpAnyH_take (i := 5) (v := .pointer (some ⟨tb, 0, none⟩)) rfl (by kernel_rfl) (by kernel_rfl) (by kernel_rfl) (fun _ _ _ h => h) (.inl ⟨rfl, fun W hW => by first | kernel_rfl | go_simp⟩) HT0.out ?_
  simp only [List.getElem_toArray, List.getElem_cons_zero, List.getElem_cons_succ, Act.put, List.setIfInBounds_toArray, List.set_cons_zero, List.set_cons_succ]
  refine wpAnyH_take (i := 6) (v := .pointer (some ⟨tb, 1, none⟩)) rfl (by kernel_rfl) (by kernel_rfl) (by kernel_rfl) (fun _ _ _ h => h) (.inl ⟨rfl, fun W hW => by first | kernel_rfl | go_simp⟩) HT0.out ?_
  simp only [List.getElem_toArray, List.getElem_cons_zero, List.getElem_cons_succ, Act.put, List.setIfInBounds_toArray, List.set_cons_zero, List.set_cons_succ]
  refine wpAnyH_take (i := 7) (v := .pointer (some ⟨rb, 0, none⟩)) rfl (by kernel_rfl) (by kernel_rfl) (by kernel_rfl) (fun _ _ _ h => h) (.inl ⟨rfl, fun W hW => by obtain ⟨c, _⟩ := hW; go_simp⟩) HT0.out ?_
  simp only [List.getElem_toArray, List.getElem_cons_zero, List.getElem_cons_succ, Act.put, List.setIfInBounds_toArray, List.set_cons_zero, List.set_cons_succ]
  refine wpAnyH_take (i := 8) (v := .pointer (some ⟨rb, 0, none⟩)) rfl (by kernel_rfl) (by kernel_rfl) (by kernel_rfl) (fun _ _ _ h => h) (.inl ⟨rfl, fun W hW => by first | kernel_rfl | go_simp⟩) HT0.out ?_
  simp only [List.getElem_toArray, List.getElem_cons_zero, List.getElem_cons_succ, Act.put, List.setIfInBounds_toArray, List.set_cons_zero, List.set_cons_succ]
  refine wpAnyH_take (i := 9) (v := .pointer (some ⟨rb, 10, none⟩)) rfl (by kernel_rfl) (by kernel_rfl) (by kernel_rfl) (fun _ _ _ h => h) (.inl ⟨rfl, fun W hW => by first | kernel_rfl | go_simp⟩) HT0.out ?_
  simp only [List.getElem_toArray, List.getElem_cons_zero, List.getElem_cons_succ, Act.put, List.setIfInBounds_toArray, List.set_cons_zero, List.set_cons_succ]
  refine wpAnyH_take (i := 10) (v := .int .i64 (own : Nat)) rfl (by kernel_rfl) (by kernel_rfl) (by kernel_rfl) (fun _ _ _ h => h) (.inl ⟨rfl, fun W hW => by obtain ⟨_, c, _⟩ := hW; go_simp⟩) HT0.out ?_
  simp only [List.getElem_toArray, List.getElem_cons_zero, List.getElem_cons_succ, Act.put, List.setIfInBounds_toArray, List.set_cons_zero, List.set_cons_succ]
  refine wpAnyH_take (i := 11) (v := .pointer (some ⟨ob, 2, none⟩)) rfl (by kernel_rfl) (by kernel_rfl) (by kernel_rfl) (fun _ _ _ h => h) (.inl ⟨rfl, fun W hW => by first | kernel_rfl | go_simp⟩) HT0.out ?_
  simp only [List.getElem_toArray, List.getElem_cons_zero, List.getElem_cons_succ, Act.put, List.setIfInBounds_toArray, List.set_cons_zero, List.set_cons_succ]
  refine wpAnyH_take (i := 12) (v := .slice qa L qc) rfl (by kernel_rfl) (by kernel_rfl) (by kernel_rfl) (fun _ _ _ h => h) (.inl ⟨rfl, fun W hW => by obtain ⟨_, _, c⟩ := hW; go_simp⟩) HT0.out ?_
  simp only [List.getElem_toArray, List.getElem_cons_zero, List.getElem_cons_succ, Act.put, List.setIfInBounds_toArray, List.set_cons_zero, List.set_cons_succ]
  refine wpAnyH_take (i := 13) (v := .agg #[.int .i64 (own : Nat), .slice none 0 0, .slice qa L qc, .slice none 0 0, .slice none 0 0, .slice none 0 0]) rfl (by kernel_rfl) (by kernel_rfl) (by kernel_rfl) (fun _ _ _ h => h) (.inl ⟨rfl, fun W hW => by first | kernel_rfl | go_simp⟩) HT0.out ?_
  simp only [List.getElem_toArray, List.getElem_cons_zero, List.getElem_cons_succ, Act.put, List.setIfInBounds_toArray, List.set_cons_zero, List.set_cons_succ]
  refine wpAnyH_ready (rs := [14]) (by kernel_rfl) (by simp) ?_
  refine AllReadyH.cons rfl (fun K hK => ?_) AllReadyH.nil
  refine step_callW rfl 18 #[.pointer (some ⟨rb, 0, none⟩), .agg #[.int .i64 (own : Nat), .slice none 0 0, .slice qa L qc, .slice none 0 0, .slice none 0 0, .slice none 0 0]] (by kernel_rfl) HRL.out ?_
  rintro e w7 ⟨rfl, HS7, HIT⟩
  refine ⟨_, rfl, hK.out _ _ HS7 fun _ => ?_⟩
  clear hK HT0 HRL
  refine wpAnyH_done (by kernel_rfl) ?_ _
  obtain ⟨_, _, o27⟩ := HS7
  go_wp2_with (first
    | (go_at_call 22; refine HIT.out.mono ?_; rintro e w8 ⟨rfl, HRQ, HKP⟩)
    | (refine wpList_load_midG rfl 89 _ rfl vb 0 rfl QL _ HRQ.out Tryz.underlying89 rfl HIQ.out ?_)
    | (go_at_call 23; refine HKP.out.mono ?_; rintro e w9 ⟨rfl, HE⟩))
  go_ret
  exact ⟨rfl, HE⟩
end Go.Proofs.YtdhhjdacidhmjaaGreat

/- What the laws of settle without the document's answer are handed, read out of memory. -/
namespace Go.Proofs.YtdhhjdacidhmjaaGreat
open Go.ChangeShapes Go.WideShapes Go.ChangeAt Go.RowKit Go.Deep Go.Joins
set_option maxRecDepth 100000
set_option maxRecDepth 100000

theorem cellsI : Tryz.prog.cellsOf 3 = 1 := by kernel_rfl
theorem cellsIs : Tryz.prog.cellsOf 30 = 1 := by kernel_rfl
theorem bytesI : Tryz.prog.bytesOf 3 = 8 := by kernel_rfl
theorem reach_eq : reachBytes = 140737488351232 := rfl
theorem add_at (b o : Nat) (r : Nat) : (⟨b, o, none⟩ : Addr).add r = ⟨b, o + r, none⟩ := by simp [Addr.add]
theorem cells1_of {w : World} {a : Addr} {cs : List Value} (h : w.cells? 0 a 1 = some cs) : ∃ v0, cs = [v0] ∧ w.cell? (a.add 0) = some v0 := by
  obtain ⟨_, hl, hc⟩ := World.cells?_some h
  match cs, hl with
  | [v0], _ => exact ⟨v0, rfl, hc 0 (by decide)⟩
def Fits {H : Type} (t : TypeId) (d : DataW H) : Prop := ∀ n, n ∈ d.weights Tryz.prog t → n ≤ reachBytes
theorem fits_of_each {H : Type} {ts : List TypeId} {ds : List (DataW H)} (h : ∀ n, n ∈ DataW.weightsEach Tryz.prog ts ds → n ≤ reachBytes) {j : Nat} {t : TypeId} {d : DataW H} (ht : ts[j]? = some t) (hd : ds[j]? = some d) : Fits t d :=
  fun n hn => h n (DataW.weights_mem_each ht hd n hn)
theorem each_of_all {H : Type} {ts : List TypeId} {ds : List (DataW H)} (h : (DataW.weightsEach Tryz.prog ts ds).all (· ≤ reachBytes) = true) : ∀ n, n ∈ DataW.weightsEach Tryz.prog ts ds → n ≤ reachBytes :=
  fun n hn => of_decide_eq_true (List.all_eq_true.1 h n hn)
theorem cell_ltF {W : World} {b o : Nat} {v : Value} (hc : W.cell? ⟨b, o, none⟩ = some v) : b < W.heap.size := by
  by_cases h : b < W.heap.size
  · exact h
  · have : W.heap[b]? = none := by simp; omega
    simp [World.cell?, this] at hc
theorem open_ints {H : Type} {enc : TypeId × Value → H} {W : World} {fuel : Nat} {v : Value} {y : DataW H × List MemPlace} (h : DataW.trod enc Tryz.prog W 0 (fun _ => true) true fuel 30 [v] = some y) (hf : Fits 30 y.1) :
    ∃ (a : Option Addr) (c : Nat) (l : List Int), v = .slice a l.length c ∧ IL W a l ∧ l.length ≤ 20000000000000 := by
  rcases open_slice Tryz.underlying30 h with ⟨hcs, _⟩ | ⟨a, len, cap, m, n, D, Pl, hcs, _, hl, _, hm, hyx, hel⟩
  · exact ⟨none, 0, [], by simpa using hcs, fun i d ho => by simp at ho, Nat.zero_le _⟩
  · simp only [if_true] at hm
    subst hm
    obtain ⟨b, o, sp⟩ := a
    rw [hyx] at hf
    have hcount : len ≤ 20000000000000 := by
      have := hf _ (by
        simp only [DataW.weights, Tryz.underlying30]
        exact List.mem_cons_self ..)
      simp only [List.length_map, List.length_range, bytesI, reach_eq] at this
      omega
    have hsp : 0 < len → sp = none := fun h0 => by
      obtain ⟨cs', hc, _⟩ := hel 0 (by omega)
      rw [cellsI] at hc
      obtain ⟨v0, rfl, h0⟩ := cells1_of hc
      simpa [Addr.add] using World.cell?_spot h0
    have hall : ∀ i, ∃ q : Int, i < len → W.cell? ⟨b, o + i, none⟩ = some (.int .i64 q) := fun i => by
      by_cases hi : i < len
      · obtain rfl := hsp (by omega)
        obtain ⟨cs', hc, ht⟩ := hel i (by omega)
        rw [cellsI, add_at] at hc
        obtain ⟨v0, rfl, h0⟩ := cells1_of hc
        obtain ⟨k0, e0, _, _⟩ := DataW.trod_int Tryz.underlying3 ht
        obtain rfl : v0 = .int .i64 k0 := by simpa using e0
        rw [add_at] at h0
        refine ⟨k0, fun _ => ?_⟩
        simpa using h0
      · exact ⟨0, fun h => absurd h hi⟩
    obtain ⟨Q, hQ⟩ := Classical.axiomOfChoice hall
    have hlen : ((List.range len).map Q).length = len := by simp
    refine ⟨some ⟨b, o, sp⟩, m, (List.range len).map Q, by rw [hlen]; simpa using hcs, fun i d hq => ?_, by rw [hlen]; exact hcount⟩
    have hi : i < len := by have := (List.getElem?_eq_some_iff.1 hq).1; rwa [hlen] at this
    rw [List.getElem?_map, List.getElem?_range hi] at hq
    have e : Q i = d := Option.some.inj hq
    obtain rfl := hsp (by omega)
    have := hQ i hi
    rw [e] at this
    exact ⟨b, o, rfl, this, cell_ltF this⟩
end Go.Proofs.YtdhhjdacidhmjaaGreat

/- Package settle: what the laws SettleExact and SettleFresh are handed, read out of memory. -/
namespace Go.Proofs.YtdhhjdacidhmjaaGreat
open Go.ChangeShapes Go.WideShapes Go.ChangeAt Go.RowKit Go.Deep Go.Joins
set_option maxRecDepth 100000
set_option maxRecDepth 100000
/-- A step as plain data. -/
structure Sop where
  kd : Int
  wh : Int
  qa : Option Addr
  qc : Nat
  l : List Ent
  peer : Int
  num : Nat
def sopL (o : Sop) : List Value := [.int .i64 o.kd, .int .i64 o.wh, .slice o.qa o.l.length o.qc, .int .i64 o.peer, .int .u64 (o.num : Nat)]
/-- The steps, as they lie. -/
structure SopsIn (W : World) (oa : Option Addr) (on : Nat) (O : Nat → Sop) : Prop where
  at' : ∀ i, i < on → ∃ b o, oa = some ⟨b, o, none⟩ ∧ W.rangeAt b (o + i * 5) (sopL (O i)) ∧ b < W.heap.size
  q : ∀ i, i < on → QIn W (O i).qa (O i).l ∧ (O i).l.length ≤ 3518437208881
theorem SopsIn.since {W W' : World} {oa : Option Addr} {on : Nat} {O : Nat → Sop} (h : SopsIn W oa on O) (s : W.Since W.heap.size W') : SopsIn W' oa on O :=
  ⟨fun i hi => by
    obtain ⟨b, o, h1, h2, h3⟩ := h.at' i hi
    exact ⟨b, o, h1, rangeAt_on h2 (s.block _ h3), Nat.lt_of_lt_of_le h3 s.size⟩, fun i hi => ⟨(h.q i hi).1.since s, (h.q i hi).2⟩⟩
theorem cellsU : Tryz.prog.cellsOf 51 = 1 := by kernel_rfl
theorem cellsS : Tryz.prog.cellsOf 9 = 1 := by kernel_rfl
theorem cellsEn : Tryz.prog.cellsOf 82 = 4 := by kernel_rfl
theorem bytesEn : Tryz.prog.bytesOf 82 = 40 := by kernel_rfl
theorem cellsEs : Tryz.prog.cellsOf 58 = 1 := by kernel_rfl
theorem cellsOp : Tryz.prog.cellsOf 62 = 5 := by kernel_rfl
theorem bytesOp : Tryz.prog.bytesOf 62 = 56 := by kernel_rfl
theorem cellsOps : Tryz.prog.cellsOf 23 = 1 := by kernel_rfl
theorem cells2 : Tryz.prog.cellsOf 22 = 2 := by kernel_rfl
theorem weightsAll_mem {H : Type} {P : Program} {e : TypeId} : ∀ {l : List (DataW H)} {d : DataW H}, d ∈ l → ∀ n ∈ d.weights P e, n ∈ DataW.weightsAll P e l
  | d' :: r, d, hd, n, hn => by
    simp only [DataW.weightsAll, List.mem_append]
    rcases List.mem_cons.1 hd with rfl | h
    · exact Or.inl hn
    · exact Or.inr (weightsAll_mem h n hn)
/-- Two whole numbers in an array. -/
theorem open_pair {H : Type} {enc : TypeId × Value → H} {W : World} {fuel : Nat} {a b : Value} {y : DataW H × List MemPlace} (h : DataW.trod enc Tryz.prog W 0 (fun _ => true) true fuel 22 [a, b] = some y) : ∃ p q : Int, a = .int .i64 p ∧ b = .int .i64 q := by
  obtain ⟨ys, m2, _, hy, _, hylen, hys⟩ := DataW.trod_array Tryz.underlying22 h
  obtain ⟨y0, y1, rfl⟩ : ∃ y0 y1, ys = [y0, y1] := by
    match ys, hylen with
    | [a, b], _ => exact ⟨a, b, rfl⟩
  have g0 := hys 0 (by decide)
  have g1 := hys 1 (by decide)
  simp [cellsI] at g0
  simp [cellsI] at g1
  obtain ⟨p, e0, _, _⟩ := DataW.trod_int Tryz.underlying3 g0
  obtain ⟨q, e1, _, _⟩ := DataW.trod_int Tryz.underlying3 g1
  exact ⟨p, q, by simpa using e0, by simpa using e1⟩
/-- An entry. -/
theorem open_ent {H : Type} {enc : TypeId × Value → H} {W : World} {fuel : Nat} {v0 v1 v2 v3 : Value} {y : DataW H × List MemPlace} (h : DataW.trod enc Tryz.prog W 0 (fun _ => true) true fuel 82 [v0, v1, v2, v3] = some y) :
    ∃ e : Ent, [v0, v1, v2, v3] = entL e ∧ e.nu < 18446744073709551616 ∧ e.am < 18446744073709551616 := by
  obtain ⟨xs, m, _, hx, _, hlen, hfs⟩ := DataW.trod_struct Tryz.underlying82 h
  obtain ⟨y0, y1, y2, y3, rfl⟩ : ∃ y0 y1 y2 y3, xs = [y0, y1, y2, y3] := by
    match xs, hlen with
    | [a, b, c, d], _ => exact ⟨a, b, c, d, rfl⟩
  have f0 := hfs 0 _ rfl
  have f1 := hfs 1 _ rfl
  have f2 := hfs 2 _ rfl
  have f3 := hfs 3 _ rfl
  simp [cellsI] at f0
  simp [cellsU] at f1
  simp [cellsS] at f2
  simp [cellsU] at f3
  obtain ⟨k0, e0, _, w0⟩ := DataW.trod_int Tryz.underlying3 f0
  obtain ⟨k1, e1, _, w1⟩ := DataW.trod_int Tryz.underlying51 f1
  obtain ⟨s2, e2, _, _⟩ := DataW.trod_string Tryz.underlying9 f2
  obtain ⟨k3, e3, _, w3⟩ := DataW.trod_int Tryz.underlying51 f3
  have b1 := bounds_u64 w1
  have b3 := bounds_u64 w3
  obtain ⟨n1, rfl⟩ : ∃ n : Nat, k1 = (n : Int) := ⟨k1.toNat, by omega⟩
  obtain ⟨n3, rfl⟩ : ∃ n : Nat, k3 = (n : Int) := ⟨k3.toNat, by omega⟩
  obtain rfl : v0 = .int .i64 k0 := by simpa using e0
  obtain rfl : v1 = .int .u64 (n1 : Nat) := by simpa using e1
  obtain rfl : v2 = .string s2 := by simpa using e2
  obtain rfl : v3 = .int .u64 (n3 : Nat) := by simpa using e3
  refine ⟨⟨k0, n1, listS s2, n3⟩, ?_, by show n1 < _; omega, by show n3 < _; omega⟩
  show _ = ([.int .i64 k0, .int .u64 (n1 : Nat), .string (strL (listS s2)), .int .u64 (n3 : Nat)] : List Value)
  rw [strL_listS]
/-- A queue. -/
theorem open_ents {H : Type} {enc : TypeId × Value → H} {W : World} {fuel : Nat} {v : Value} {y : DataW H × List MemPlace} (h : DataW.trod enc Tryz.prog W 0 (fun _ => true) true fuel 58 [v] = some y) (hf : Fits 58 y.1) :
    ∃ (qa : Option Addr) (qc : Nat) (l : List Ent), v = .slice qa l.length qc ∧ QIn W qa l ∧ l.length ≤ 3518437208881 := by
  rcases open_slice Tryz.underlying58 h with ⟨hcs, _⟩ | ⟨a, len, cap, m, n, D, Pl, hcs, _, hl, _, hm, hyx, hel⟩
  · exact ⟨none, 0, [], by simpa using hcs, ⟨fun j e he => by simp at he, fun e he => by cases he⟩, Nat.zero_le _⟩
  · simp only [if_true] at hm
    subst hm
    obtain ⟨b, o, sp⟩ := a
    rw [hyx] at hf
    have hcount : len ≤ 3518437208881 := by
      have := hf _ (by
        simp only [DataW.weights, Tryz.underlying58]
        exact List.mem_cons_self ..)
      simp only [List.length_map, List.length_range, bytesEn, reach_eq] at this
      omega
    have hsp : 0 < len → sp = none := fun h0 => by
      obtain ⟨cs', hc, _⟩ := hel 0 (by omega)
      rw [cellsEn] at hc
      obtain ⟨_, hl', hcell⟩ := World.cells?_some hc
      have := hcell 0 (by decide)
      rw [List.getElem?_eq_getElem (by rw [hl']; decide)] at this
      simpa [Addr.add] using World.cell?_spot this
    have hall : ∀ i, ∃ q : Ent, i < len → W.rangeAt b (o + i * 4) (entL q) ∧ q.nu < 18446744073709551616 ∧ q.am < 18446744073709551616 := fun i => by
      by_cases hi : i < len
      · obtain ⟨cs', hc, ht⟩ := hel i (by omega)
        rw [cellsEn] at hc
        obtain ⟨_, hl', hcell⟩ := World.cells?_some hc
        obtain rfl := hsp (by omega)
        obtain ⟨v0, v1, v2, v3, rfl⟩ : ∃ v0 v1 v2 v3, cs' = [v0, v1, v2, v3] := by
          match cs', hl' with
          | [a, b, c, d], _ => exact ⟨a, b, c, d, rfl⟩
        obtain ⟨q, hq, h1, h2⟩ := open_ent ht
        refine ⟨q, fun _ => ⟨fun j v hv => ?_, h1, h2⟩⟩
        have hj : j < 4 := (List.getElem?_eq_some_iff.1 hv).1
        have h5 := hcell j hj
        rw [add_at, add_at] at h5
        rw [h5, hq]
        exact hv
      · exact ⟨ent0, fun h => absurd h hi⟩
    obtain ⟨Q, hQ⟩ := Classical.axiomOfChoice hall
    have hlen : ((List.range len).map Q).length = len := by simp
    refine ⟨some ⟨b, o, sp⟩, m, (List.range len).map Q, by rw [hlen]; simpa using hcs, ⟨fun i d hq => ?_, fun e he => ?_⟩, by rw [hlen]; exact hcount⟩
    · have hi : i < len := by have := (List.getElem?_eq_some_iff.1 hq).1; rwa [hlen] at this
      rw [List.getElem?_map, List.getElem?_range hi] at hq
      have e : Q i = d := Option.some.inj hq
      obtain rfl := hsp (by omega)
      have h5 := (hQ i hi).1
      rw [e] at h5
      exact ⟨b, o, rfl, h5, cell_lt2 (h5 0 _ rfl)⟩
    · obtain ⟨i, hi, rfl⟩ := List.mem_map.1 he
      exact (hQ i (List.mem_range.1 hi)).2
def sop0 : Sop := ⟨0, 0, none, 0, [], 0, 0⟩
set_option maxHeartbeats 2000000 in
/-- The steps. -/
theorem open_sops {H : Type} {enc : TypeId × Value → H} {W : World} {fuel : Nat} {v : Value} {y : DataW H × List MemPlace} (h : DataW.trod enc Tryz.prog W 0 (fun _ => true) true fuel 23 [v] = some y) (hf : Fits 23 y.1) :
    ∃ (oa : Option Addr) (on oc : Nat) (O : Nat → Sop), v = .slice oa on oc ∧ SopsIn W oa on O ∧ on ≤ 1000000000000000 := by
  rcases open_slice Tryz.underlying23 h with ⟨hcs, _⟩ | ⟨a, len, cap, m, n, D, Pl, hcs, _, hl, _, hm, hyx, hel⟩
  · exact ⟨none, 0, 0, fun _ => sop0, by simpa using hcs, ⟨fun i hi => absurd hi (Nat.not_lt_zero i), fun i hi => absurd hi (Nat.not_lt_zero i)⟩, Nat.zero_le _⟩
  · simp only [if_true] at hm
    subst hm
    obtain ⟨b, o, sp⟩ := a
    rw [hyx] at hf
    have hcount : len ≤ 1000000000000000 := by
      have := hf _ (by
        simp only [DataW.weights, Tryz.underlying23]
        exact List.mem_cons_self ..)
      simp only [List.length_map, List.length_range, bytesOp, reach_eq] at this
      omega
    have hele : ∀ i, i < len → Fits 62 (D i) := fun i hi n hn => hf n (by
      simp only [DataW.weights, Tryz.underlying23]
      exact List.mem_cons_of_mem _ (List.mem_append_left _ (weightsAll_mem (List.mem_map.2 ⟨i, List.mem_range.2 hi, rfl⟩) n hn)))
    have hsp : 0 < len → sp = none := fun h0 => by
      obtain ⟨cs', hc, _⟩ := hel 0 (by omega)
      rw [cellsOp] at hc
      obtain ⟨_, hl', hcell⟩ := World.cells?_some hc
      have := hcell 0 (by decide)
      rw [List.getElem?_eq_getElem (by rw [hl']; decide)] at this
      simpa [Addr.add] using World.cell?_spot this
    have hall : ∀ i, ∃ q : Sop, i < len → sp = none ∧ W.rangeAt b (o + i * 5) (sopL q) ∧ QIn W q.qa q.l ∧ q.l.length ≤ 3518437208881 := fun i => by
      by_cases hi : i < len
      · obtain ⟨cs', hc, ht⟩ := hel i (by omega)
        rw [cellsOp] at hc
        obtain ⟨_, hl', hcell⟩ := World.cells?_some hc
        obtain rfl := hsp (by omega)
        obtain ⟨v0, v1, v2, v3, v4, rfl⟩ : ∃ v0 v1 v2 v3 v4, cs' = [v0, v1, v2, v3, v4] := by
          match cs', hl' with
          | [a, b, c, d, e], _ => exact ⟨a, b, c, d, e, rfl⟩
        obtain ⟨xs, m2, _, hx, _, hlen, hfs⟩ := DataW.trod_struct Tryz.underlying62 ht
        obtain ⟨y0, y1, y2, y3, y4, rfl⟩ : ∃ y0 y1 y2 y3 y4, xs = [y0, y1, y2, y3, y4] := by
          match xs, hlen with
          | [a, b, c, d, e], _ => exact ⟨a, b, c, d, e, rfl⟩
        have f0 := hfs 0 _ rfl
        have f1 := hfs 1 _ rfl
        have f2 := hfs 2 _ rfl
        have f3 := hfs 3 _ rfl
        have f4 := hfs 4 _ rfl
        simp [cellsI] at f0
        simp [cellsI] at f1
        simp [cellsEs] at f2
        simp [cellsI] at f3
        simp [cellsU] at f4
        obtain ⟨k0, e0, _, _⟩ := DataW.trod_int Tryz.underlying3 f0
        obtain ⟨k1, e1, _, _⟩ := DataW.trod_int Tryz.underlying3 f1
        obtain ⟨k3, e3, _, _⟩ := DataW.trod_int Tryz.underlying3 f3
        obtain ⟨k4, e4, _, w4⟩ := DataW.trod_int Tryz.underlying51 f4
        have hb4 := bounds_u64 w4
        have hf2 : Fits 58 y2.1 := fun n hn => hele i hi n (by
          rw [show D i = _ from congrArg Prod.fst hx]
          simp only [DataW.weights, Tryz.underlying62]
          exact DataW.weights_mem_each (j := 2) rfl rfl n hn)
        obtain ⟨qa, qc, l, rfl, hq, hql⟩ := open_ents f2 hf2
        obtain ⟨n4, rfl⟩ : ∃ n : Nat, k4 = (n : Int) := ⟨k4.toNat, by omega⟩
        obtain rfl : v0 = .int .i64 k0 := by simpa using e0
        obtain rfl : v1 = .int .i64 k1 := by simpa using e1
        obtain rfl : v3 = .int .i64 k3 := by simpa using e3
        obtain rfl : v4 = .int .u64 (n4 : Nat) := by simpa using e4
        refine ⟨⟨k0, k1, qa, qc, l, k3, n4⟩, fun _ => ⟨rfl, fun j v hv => ?_, hq, hql⟩⟩
        have hj : j < 5 := (List.getElem?_eq_some_iff.1 hv).1
        have h5 := hcell j hj
        rw [add_at, add_at] at h5
        rw [h5]
        exact hv
      · exact ⟨sop0, fun h => absurd h hi⟩
    obtain ⟨Q, hQ⟩ := Classical.axiomOfChoice hall
    refine ⟨some ⟨b, o, sp⟩, len, m, Q, by simpa using hcs, ⟨fun i hi => ?_, fun i hi => ?_⟩, hcount⟩
    · obtain ⟨h1, h2, _⟩ := hQ i hi
      subst h1
      exact ⟨b, o, rfl, h2, cell_lt2 (h2 0 _ rfl)⟩
    · obtain ⟨_, _, h3, h4⟩ := hQ i hi
      exact ⟨h3, h4⟩
end Go.Proofs.YtdhhjdacidhmjaaGreat

/- The empty Book's looks. -/
namespace Go.Proofs.YtdhhjdacidhmjaaGreat
open Go.RowKit
set_option maxRecDepth 100000
def book0 (i : Nat) : Value := if i = 36 then .int .i64 0 else if i = 37 then .int .i64 0 else if i = 38 then .int .i64 0 else if i % 3 = 2 then .int .i64 0 else .slice none 0 0
set_option maxHeartbeats 1600000 in
set_option maxRecDepth 100000 in
theorem book_kept (bk : Nat) (f : Nat → Value) (w : World) (h : w.rowIs bk 43 39 f) (h6 : f 6 = .slice none 0 0) (h9 : f 9 = .slice none 0 0) (h12 : f 12 = .slice none 0 0) (h15 : f 15 = .slice none 0 0) :
    Calls Tryz.prog 55 #[.pointer (some ⟨bk, 0, none⟩)] w fun e w' => e = .returned (.bool true) ∧ w' = w := by
  have c6 := h.cell (i := 6) (by decide)
  rw [h6] at c6
  have c9 := h.cell (i := 9) (by decide)
  rw [h9] at c9
  have c12 := h.cell (i := 12) (by decide)
  rw [h12] at c12
  have c15 := h.cell (i := 15) (by decide)
  rw [h15] at c15
  clear h h6 h9 h12 h15
  go_enter Tryz.func55, Tryz.ntmps55
  go_wp2_with fail
  go_loopg [3] 0 (fun q s3 wx => q = 0 ∧ s3 = .int .i64 0 ∧ w = wx)
  case atStart => exact ⟨rfl, rfl, rfl⟩
  case round =>
    obtain ⟨rfl, rfl, rfl⟩ := hrel
    go_wp2_with fail
    go_loopg [5] 0 (fun q s5 wx => q = 0 ∧ s5 = .int .i64 0 ∧ w = wx)
    case atStart => exact ⟨rfl, rfl, rfl⟩
    case round =>
      obtain ⟨rfl, rfl, rfl⟩ := hrel
      go_wp2_with fail
      go_loopg [7] 0 (fun q s7 wx => q = 0 ∧ s7 = .int .i64 0 ∧ w = wx)
      case atStart => exact ⟨rfl, rfl, rfl⟩
      case round =>
        obtain ⟨rfl, rfl, rfl⟩ := hrel
        go_wp2_with fail
        go_loopg [9] 0 (fun q s9 wx => q = 0 ∧ s9 = .int .i64 0 ∧ w = wx)
        case atStart => exact ⟨rfl, rfl, rfl⟩
        case round =>
          obtain ⟨rfl, rfl, rfl⟩ := hrel
          go_wp2_with fail
          go_ret
          exact ⟨rfl, rfl⟩
set_option maxHeartbeats 1600000 in
set_option maxRecDepth 100000 in
theorem book_told (bk : Nat) (f : Nat → Value) (w : World) (h : w.rowIs bk 43 39 f) (h18 : f 18 = .slice none 0 0) (h21 : f 21 = .slice none 0 0) (h24 : f 24 = .slice none 0 0) (h27 : f 27 = .slice none 0 0) :
    Calls Tryz.prog 56 #[.pointer (some ⟨bk, 0, none⟩)] w fun e w' => e = .returned (.bool true) ∧ w' = w := by
  have c18 := h.cell (i := 18) (by decide)
  rw [h18] at c18
  have c21 := h.cell (i := 21) (by decide)
  rw [h21] at c21
  have c24 := h.cell (i := 24) (by decide)
  rw [h24] at c24
  have c27 := h.cell (i := 27) (by decide)
  rw [h27] at c27
  clear h h18 h21 h24 h27
  go_enter Tryz.func56, Tryz.ntmps56
  go_wp2_with fail
  go_loopg [3] 0 (fun q s3 wx => q = 0 ∧ s3 = .int .i64 0 ∧ w = wx)
  case atStart => exact ⟨rfl, rfl, rfl⟩
  case round =>
    obtain ⟨rfl, rfl, rfl⟩ := hrel
    go_wp2_with fail
    go_loopg [5] 0 (fun q s5 wx => q = 0 ∧ s5 = .int .i64 0 ∧ w = wx)
    case atStart => exact ⟨rfl, rfl, rfl⟩
    case round =>
      obtain ⟨rfl, rfl, rfl⟩ := hrel
      go_wp2_with fail
      go_loopg [7] 0 (fun q s7 wx => q = 0 ∧ s7 = .int .i64 0 ∧ w = wx)
      case atStart => exact ⟨rfl, rfl, rfl⟩
      case round =>
        obtain ⟨rfl, rfl, rfl⟩ := hrel
        go_wp2_with fail
        go_loopg [9] 0 (fun q s9 wx => q = 0 ∧ s9 = .int .i64 0 ∧ w = wx)
        case atStart => exact ⟨rfl, rfl, rfl⟩
        case round =>
          obtain ⟨rfl, rfl, rfl⟩ := hrel
          go_wp2_with fail
          go_ret
          exact ⟨rfl, rfl⟩
set_option maxHeartbeats 1600000 in
set_option maxRecDepth 100000 in
theorem book_held (bk : Nat) (f : Nat → Value) (w : World) (h : w.rowIs bk 43 39 f) (h30 : f 30 = .slice none 0 0) (h33 : f 33 = .slice none 0 0) :
    Calls Tryz.prog 57 #[.pointer (some ⟨bk, 0, none⟩)] w fun e w' => e = .returned (.bool true) ∧ w' = w := by
  have c30 := h.cell (i := 30) (by decide)
  rw [h30] at c30
  have c33 := h.cell (i := 33) (by decide)
  rw [h33] at c33
  clear h h30 h33
  go_enter Tryz.func57, Tryz.ntmps57
  go_wp2_with fail
  go_loopg [3] 0 (fun q s3 wx => q = 0 ∧ s3 = .int .i64 0 ∧ w = wx)
  case atStart => exact ⟨rfl, rfl, rfl⟩
  case round =>
    obtain ⟨rfl, rfl, rfl⟩ := hrel
    go_wp2_with fail
    go_loopg [7] 0 (fun q s7 wx => q = 0 ∧ s7 = .int .i64 0 ∧ w = wx)
    case atStart => exact ⟨rfl, rfl, rfl⟩
    case round =>
      obtain ⟨rfl, rfl, rfl⟩ := hrel
      go_wp2_with fail
      go_ret
      exact ⟨rfl, rfl⟩
set_option maxHeartbeats 1600000 in
set_option maxRecDepth 100000 in
theorem book_plain0 (bk : Nat) (f : Nat → Value) (w : World) (h : w.rowIs bk 43 39 f) (h0 : f 0 = .slice none 0 0) (h3 : f 3 = .slice none 0 0) :
    Calls Tryz.prog 54 #[.pointer (some ⟨bk, 0, none⟩)] w fun e w' => e = .returned (.bool true) ∧ w' = w := by
  have c0 := h.cell (i := 0) (by decide)
  rw [h0] at c0
  have c3 := h.cell (i := 3) (by decide)
  rw [h3] at c3
  clear h h0 h3
  go_enter Tryz.func54, Tryz.ntmps54
  go_wp2_with fail
  go_loopg [3] 0 (fun q s3 wx => q = 0 ∧ s3 = .int .i64 0 ∧ w = wx)
  case atStart => exact ⟨rfl, rfl, rfl⟩
  case round =>
    obtain ⟨rfl, rfl, rfl⟩ := hrel
    go_wp2_with fail
    go_loopg [5] 0 (fun q s7 wx => q = 0 ∧ s7 = .int .i64 0 ∧ w = wx)
    case atStart => exact ⟨rfl, rfl, rfl⟩
    case round =>
      obtain ⟨rfl, rfl, rfl⟩ := hrel
      go_wp2_with fail
      go_ret
      exact ⟨rfl, rfl⟩

set_option maxHeartbeats 1600000 in
theorem book_look0 (bk : Nat) (w : World) (h : w.rowIs bk 43 39 book0) :
    Calls Tryz.prog 11 #[.pointer (some ⟨bk, 0, none⟩)] w fun e w' => e = .returned (.bool true) ∧ ∃ q, w' = w.drewN q := by
  have hp := book_plain0 bk book0 w h rfl rfl
  have hk := book_kept bk book0 w h rfl rfl rfl rfl
  have ht := book_told bk book0 w h rfl rfl rfl rfl
  have hh := book_held bk book0 w h rfl rfl
  have c36 : w.cell? ⟨bk, 36, none⟩ = some (.int .i64 0) := h.cell (i := 36) (by decide)
  have c37 : w.cell? ⟨bk, 37, none⟩ = some (.int .i64 0) := h.cell (i := 37) (by decide)
  have HO : Calls Tryz.prog 32 #[.pointer (some ⟨bk, 0, none⟩)] w fun e w' => e = .returned (.bool true) ∧ w' = w := by
    clear h c36 c37
    go_enter Tryz.func32, Tryz.ntmps32
    go_wp2_with fail
    refine hp.mono ?_
    rintro e w1 ⟨rfl, e1⟩
    subst e1
    go_wp2_with fail
    refine hk.mono ?_
    rintro e w2 ⟨rfl, e2⟩
    subst e2
    go_wp2_with fail
    refine ht.mono ?_
    rintro e w3 ⟨rfl, e3⟩
    subst e3
    go_wp2_with fail
    refine hh.mono ?_
    rintro e w4 ⟨rfl, e4⟩
    subst e4
    go_wp2_with fail
    go_ret
    exact ⟨rfl, rfl⟩
  clear h hp hk ht hh
  go_enter Tryz.func11, Tryz.ntmps11
  go_wp2_with fail
  refine HO.mono ?_
  rintro e w1 ⟨rfl, e1⟩
  subst e1
  go_wp2_with fail
  go_quiet (fail)
  go_wp2_with fail
  go_ret
  exact ⟨rfl, _, rfl⟩
end Go.Proofs.YtdhhjdacidhmjaaGreat

/- Package settle: what the laws SettleExact and SettleFresh keep in memory. -/
namespace Go.Proofs.YtdhhjdacidhmjaaGreat
open Go.RowKit
set_option maxRecDepth 100000
set_option maxRecDepth 100000
/-- The Book's object, as it is built. -/
def bookZ : Array Value := #[.slice none 0 0, .slice none 0 0, .int .i64 0, .slice none 0 0, .slice none 0 0, .int .i64 0, .slice none 0 0, .slice none 0 0, .int .i64 0, .slice none 0 0, .slice none 0 0, .int .i64 0, .slice none 0 0, .slice none 0 0, .int .i64 0, .slice none 0 0, .slice none 0 0, .int .i64 0, .slice none 0 0, .slice none 0 0, .int .i64 0, .slice none 0 0, .slice none 0 0, .int .i64 0, .slice none 0 0, .slice none 0 0, .int .i64 0, .slice none 0 0, .slice none 0 0, .int .i64 0, .slice none 0 0, .slice none 0 0, .int .i64 0, .slice none 0 0, .slice none 0 0, .int .i64 0, .int .i64 0, .int .i64 0, .int .i64 0]
theorem bookZ_at : ∀ i, i < 39 → bookZ[i]? = some (book0 i)
  | 0, _ => rfl
  | 1, _ => rfl
  | 2, _ => rfl
  | 3, _ => rfl
  | 4, _ => rfl
  | 5, _ => rfl
  | 6, _ => rfl
  | 7, _ => rfl
  | 8, _ => rfl
  | 9, _ => rfl
  | 10, _ => rfl
  | 11, _ => rfl
  | 12, _ => rfl
  | 13, _ => rfl
  | 14, _ => rfl
  | 15, _ => rfl
  | 16, _ => rfl
  | 17, _ => rfl
  | 18, _ => rfl
  | 19, _ => rfl
  | 20, _ => rfl
  | 21, _ => rfl
  | 22, _ => rfl
  | 23, _ => rfl
  | 24, _ => rfl
  | 25, _ => rfl
  | 26, _ => rfl
  | 27, _ => rfl
  | 28, _ => rfl
  | 29, _ => rfl
  | 30, _ => rfl
  | 31, _ => rfl
  | 32, _ => rfl
  | 33, _ => rfl
  | 34, _ => rfl
  | 35, _ => rfl
  | 36, _ => rfl
  | 37, _ => rfl
  | 38, _ => rfl
  | k + 39, h => absurd h (by omega)
theorem SIs.paint {O O' : Nat → Nat} {q : Nat} {w : World} {p : Sp} {d : Sd} (h : SIs O q w p d) (e : ∀ k, q ≤ O k → O k < q + 40 → O' k = O k) : SIs O' q w p d := by
  obtain ⟨_, l2, l3, _⟩ := h.lim
  have rc : ∀ {b t n c : Nat} {f : Nat → Value}, RowC O c w b t n f → q ≤ c → c < q + 40 → RowC O' c w b t n f := fun h h1 h2 => ⟨h.1, (e _ (by rw [h.2]; exact h1) (by rw [h.2]; exact h2)).trans h.2⟩
  refine ⟨rc h.row (by omega) (by omega), rc h.roads (by omega) (by omega), fun i hi ho => rc (h.rd i hi ho) (by omega) (by omega), fun i hi ho => ⟨(h.pc i hi ho).1, ?_⟩, fun i hi ho => ⟨(h.cps i hi ho).1, fun k hk => ?_⟩, h.tl, fun f hf => ⟨rc (h.dues f hf).1 (by omega) (by omega), fun i hi => ?_, (h.dues f hf).2.2⟩, h.lim⟩
  · have := (h.pc i hi ho).2
    rw [e _ (by omega) (by omega)]
    exact this
  · have := (h.cps i hi ho).2 k hk
    rw [e _ (by omega) (by omega)]
    exact this
  · rcases (h.dues f hf).2.1 i hi with h1 | ⟨u, b, h1, h2, h3⟩
    · exact .inl h1
    · exact .inr ⟨u, b, h1, h2, rc h3 (by omega) (by omega)⟩
theorem RIs.paint {O O' : Nat → Nat} {q : Nat} {w : World} {p : Rp2} {r : Rd} (h : RIs O q w p r) (e : ∀ k, q + 50 ≤ O k → O k < q + 53 → O' k = O k) : RIs O' q w p r := by
  have rc : ∀ {b t n c : Nat} {f : Nat → Value}, RowC O c w b t n f → q + 50 ≤ c → c < q + 53 → RowC O' c w b t n f := fun h h1 h2 => ⟨h.1, (e _ (by rw [h.2]; exact h1) (by rw [h.2]; exact h2)).trans h.2⟩
  have lc : ∀ {t sz n c : Nat} {v : Value} {f : Nat → Value}, Li O c w t sz v n f → q + 50 ≤ c → c < q + 53 → Li O' c w t sz v n f := fun h h1 h2 => ⟨h.1, fun k hk => (e _ (by rw [h.2 k hk]; exact h1) (by rw [h.2 k hk]; exact h2)).trans (h.2 k hk)⟩
  obtain ⟨v8, h8⟩ := h.row
  exact ⟨⟨v8, rc h8 (by omega) (by omega)⟩, lc h.peers (by omega) (by omega), ⟨lc h.que.1 (by omega) (by omega), h.que.2⟩, h.lim, h.tl⟩
/-- What the walk asks of the Book (colours 1000 to 1999). -/
structure BkS (BI : Nat → Nat → (Nat → Nat) → World → Prop) : Prop where
  start : ∀ {bk : Nat} {O : Nat → Nat} {W : World}, RowC O 1003 W bk 43 39 book0 → BI bk 0 O W
  keep : ∀ {bk N lo hi : Nat} {O O' : Nat → Nat} {W W' : World}, BI bk N O W → ChR lo hi O O' W W' → hi ≤ 1000 → BI bk N O' W'
  look : ∀ {bk N : Nat} {O : Nat → Nat} {W : World}, BI bk N O W → N ≤ 700 → Calls Tryz.prog 11 #[.pointer (some ⟨bk, 0, none⟩)] W fun e W' => e = .returned (.bool true) ∧ Hid (∃ O', BI bk N O' W' ∧ ChR 1000 2000 O O' W W')
/-- What a step leaves. -/
def PlF (BI : Nat → Nat → (Nat → Nat) → World → Prop) (O : Nat → Nat) (Q : Nat) (w : World) (tb bk : Nat) (mk : Bool) (x : Pk) (N : Nat) (w' : World) : Prop :=
  ∃ O1 w1 O2 y, PlIs O1 Q w1 tb bk mk y ∧ ChR Q (Q + 62) O O1 w w1 ∧ BI bk (N + 1) O2 w' ∧ ChR 1000 2000 O1 O2 w1 w' ∧ y.T ≤ x.T + 1 ∧ y.tu ≤ x.tu + 1
/-- What is asked of plays. -/
def PlayS (BI : Nat → Nat → (Nat → Nat) → World → Prop) (mk : Bool) : Prop := ∀ {O : Nat → Nat} {Q : Nat} {w : World} {tb bk : Nat} {x : Pk} {N : Nat} (o : Sop), PlIs O Q w tb bk mk x → BI bk N O w → Q + 62 ≤ 1000 → N < 700 → x.T < 5000 → x.tu + 1 < 1000000 → QIn w o.qa o.l → o.l.length ≤ 3518437208881 → (∀ b p, o.qa = some ⟨b, p, none⟩ → o.l ≠ [] → O b < Q ∨ Q + 62 ≤ O b) →
  Calls Tryz.prog 10 #[.pointer (some ⟨tb, 0, none⟩), .agg (sopL o).toArray] w fun e w' => e = .returned (.bool true) ∧ Hid (PlF BI O Q w tb bk mk x N w')
def arF (pl : Nat → Nat) (i j : Nat) : Value := .pointer (if j < i then some ⟨pl j, 0, none⟩ else none)
/-- What the law keeps: the script, the Book, the row of Plays, the first i Plays. -/
structure EX (BI : Nat → Nat → (Nat → Nat) → World → Prop) (w : World) (O : Nat → Nat) (W : World) (sb bk ab : Nat) (s : Nat → Int) (ov : Value) (mk : Bool) (i T N : Nat) (pl : Nat → Nat) (X : Nat → Pk) : Prop where
  sc : ∀ j, j < 12 → W.cell? ⟨sb, j, none⟩ = some (.int .i64 (s j))
  so : W.cell? ⟨sb, 12, none⟩ = some ov
  scc : O sb = 900
  bok : BI bk N O W
  arr : RowC O 902 W ab 45 8 (arF pl i)
  ple : ∀ j, j < i → PlIs O (100 * (j + 1)) W (pl j) bk mk (X j) ∧ (X j).T ≤ T ∧ (X j).tu ≤ T
  le : i ≤ 8
  old : ∀ k, k < w.heap.size → O k = 0
  new : ∀ k, k < W.heap.size → O k < 100 * (i + 1) ∨ 900 ≤ O k
  since : w.Since w.heap.size W
section
variable {BI : Nat → Nat → (Nat → Nat) → World → Prop} {w : World} {O O' : Nat → Nat} {W W' : World} {sb bk ab : Nat} {s : Nat → Int} {ov : Value} {mk : Bool} {i T N lo hi : Nat} {pl : Nat → Nat} {X : Nat → Pk}
theorem EX.keep (h : EX BI w O W sb bk ab s ov mk i T N pl X) (bs : BkS BI) (k : ChR lo hi O O' W W') (h1 : 903 ≤ lo) (h2 : hi ≤ 1000) (hn : ∀ k, W.heap.size ≤ k → k < W'.heap.size → 900 ≤ O' k) : EX BI w O' W' sb bk ab s ov mk i T N pl X := by
  obtain ⟨g1, g2⟩ := ChR.base h.since h.old (by omega) k
  have hle := h.le
  refine ⟨fun j hj => cell_R k (by rw [h.scc]; omega) (h.sc j hj), cell_R k (by rw [h.scc]; omega) h.so, (k.col _ (World.block_lt_of_cell? _ _ h.so)).trans h.scc, bs.keep h.bok k h2, h.arr.keepR k (by omega), fun j hj => ⟨(h.ple j hj).1.keepR k (by omega), (h.ple j hj).2⟩, h.le, g2, fun b hb => ?_, g1⟩
  by_cases hlt : b < W.heap.size
  · rw [k.col _ hlt]
    exact h.new b hlt
  · exact .inr (hn b (by omega) hb)
theorem EX.later (h : EX BI w O W sb bk ab s ov mk i T N pl X) (bs : BkS BI) (sn : W.Since W.heap.size W') : EX BI w (paint O W.heap.size 0 904 904) W' sb bk ab s ov mk i T N pl X :=
  h.keep bs (lo := 903) (hi := 903) (ChR.paint sn) (Nat.le_refl _) (by omega) fun k hk _ => by
    unfold paint
    rw [if_neg (by omega)]
    split <;> omega
theorem EX.drewN (h : EX BI w O W sb bk ab s ov mk i T N pl X) (bs : BkS BI) (n : Nat) : EX BI w O (W.drewN n) sb bk ab s ov mk i T N pl X :=
  h.keep bs (lo := 903) (hi := 903) (ChR.since (since_drew _ _)) (Nat.le_refl _) (by omega) fun k hk hk2 => by
    have : k < W.heap.size := hk2
    omega
/-- The configuration is made. -/
def EC (BI : Nat → Nat → (Nat → Nat) → World → Prop) (w : World) (W : World) (sb bk ab : Nat) (s : Nat → Int) (ov : Value) (mk : Bool) (i : Nat) (cb nodes n c m : Nat) : Prop := ∃ O pl X, EX BI w O W sb bk ab s ov mk i 0 0 pl X ∧ RowC O 903 W cb 48 9 (cfgF nodes n c m) ∧ (1 ≤ nodes ∧ nodes ≤ 9 ∧ 1 ≤ n ∧ n ≤ 8 ∧ 1 ≤ c ∧ c ≤ 7 ∧ 1 ≤ m ∧ m ≤ 64) ∧ ∀ j : Nat, j < n → goodM j nodes c
theorem EX.ec {cb nodes n c m : Nat} (h : EX BI w O W sb bk ab s ov mk i 0 0 pl X) (bs : BkS BI) (sn : W.Since W.heap.size W') (hcb : W.heap.size ≤ cb) (hr : W'.rowIs cb 48 9 (cfgF nodes n c m)) (hb : 1 ≤ nodes ∧ nodes ≤ 9 ∧ 1 ≤ n ∧ n ≤ 8 ∧ 1 ≤ c ∧ c ≤ 7 ∧ 1 ≤ m ∧ m ≤ 64) (hg : ∀ j : Nat, j < n → goodM j nodes c) : EC BI w W' sb bk ab s ov mk i cb nodes n c m :=
  ⟨paint O W.heap.size cb 903 904, pl, X, h.keep bs (lo := 903) (hi := 903) (ChR.paint sn) (Nat.le_refl _) (by omega) (fun k hk _ => by
    unfold paint
    rw [if_neg (by omega)]
    split <;> omega), ⟨hr, paint_g hcb⟩, hb, hg⟩
theorem EC.drewN {cb nodes n c m : Nat} (h : EC BI w W sb bk ab s ov mk i cb nodes n c m) (bs : BkS BI) (q : Nat) : EC BI w (W.drewN q) sb bk ab s ov mk i cb nodes n c m := by
  obtain ⟨O, pl, X, h1, h2, h3⟩ := h
  exact ⟨O, pl, X, h1.drewN bs q, h2.keepR (lo := 0) (hi := 0) (ChR.since (since_drew _ _)) (.inr (Nat.zero_le _)), h3⟩
theorem EC.cells {cb nodes n c m : Nat} (h : EC BI w W sb bk ab s ov mk i cb nodes n c m) : (∀ j, j < 12 → W.cell? ⟨sb, j, none⟩ = some (.int .i64 (s j))) ∧ W.cell? ⟨cb, 0, none⟩ = some (.int .i64 (nodes : Nat)) ∧ W.cell? ⟨cb, 1, none⟩ = some (.int .i64 (n : Nat)) := by
  obtain ⟨O, pl, X, h1, h2, h3⟩ := h
  exact ⟨h1.sc, h2.1.cell (i := 0) (by decide), h2.1.cell (i := 1) (by decide)⟩
/-- The configuration's accounts, with a mark behind them. -/
def cfgX (acb nodes n c m : Nat) (i : Nat) : Value := if i = 8 then .slice (some ⟨acb, 0, none⟩) 1 2 else cfgF nodes n c m i
def acF (i : Nat) : Value := ([.string ⟨#[97]⟩, .int .u64 5, .string ⟨#[109, 97, 114, 107]⟩, .int .u64 0] : List Value).getD i undef
/-- The configuration has its accounts. -/
def ED (BI : Nat → Nat → (Nat → Nat) → World → Prop) (w : World) (W : World) (sb bk ab : Nat) (s : Nat → Int) (ov : Value) (mk : Bool) (i : Nat) (cb acb nodes n c m : Nat) : Prop := ∃ O pl X, EX BI w O W sb bk ab s ov mk i 0 0 pl X ∧ RowC O 903 W cb 48 9 (cfgX acb nodes n c m) ∧ RowC O 904 W acb 53 4 acF ∧ (1 ≤ nodes ∧ nodes ≤ 9 ∧ 1 ≤ n ∧ n ≤ 8 ∧ 1 ≤ c ∧ c ≤ 7 ∧ 1 ≤ m ∧ m ≤ 64) ∧ ∀ j : Nat, j < n → goodM j nodes c
theorem EC.ed {cb nodes n c m : Nat} (h : EC BI w W sb bk ab s ov mk i cb nodes n c m) (bs : BkS BI) : ∃ acb W1, Hid (W.heap.size = acb) ∧ Hid (W.alloc (.cells #[.string ⟨#[97]⟩, .int .u64 5, .string ⟨#[109, 97, 114, 107]⟩, .int .u64 0] 53) = W1) ∧ W1.cell? ⟨cb, 8, none⟩ = some (.slice none 0 0) ∧ W1.frozen? ⟨cb, 8, none⟩ = false ∧ ∃ W2, Hid (W1.setCell ⟨cb, 8, none⟩ (.slice (some ⟨acb, 0, none⟩) 1 2) = W2) ∧ Hid (ED BI w W2 sb bk ab s ov mk i cb acb nodes n c m) := by
  obtain ⟨O, pl, X, h1, h2, h3, h4⟩ := h
  have sn : W.Since W.heap.size (W.alloc (.cells #[.string ⟨#[97]⟩, .int .u64 5, .string ⟨#[109, 97, 114, 107]⟩, .int .u64 0] 53)) := (World.Since.refl _ _).alloc (Nat.le_refl _) _
  have ra : (W.alloc (.cells #[.string ⟨#[97]⟩, .int .u64 5, .string ⟨#[109, 97, 114, 107]⟩, .int .u64 0] 53)).rowIs W.heap.size 53 4 acF := World.rowIs_alloc W _ _ _ (fun i hi => by
    have hi' : i < 4 := hi
    match i, hi' with
    | 0, _ => rfl
    | 1, _ => rfl
    | 2, _ => rfl
    | 3, _ => rfl)
  have k0 : ChR 0 0 O (paint O W.heap.size W.heap.size 904 904) W (W.alloc (.cells #[.string ⟨#[97]⟩, .int .u64 5, .string ⟨#[109, 97, 114, 107]⟩, .int .u64 0] 53)) := ChR.paint sn
  have e1 := h1.keep bs (lo := 903) (hi := 903) (ChR.paint (g := W.heap.size) (a := 904) (c := 904) sn) (Nat.le_refl _) (by omega) (fun k hk _ => by
    unfold paint
    rw [if_neg (by omega)]
    split <;> omega)
  have r1 := h2.keepR k0 (.inr (Nat.zero_le _))
  have hp : paint O W.heap.size W.heap.size 904 904 W.heap.size = 904 := paint_g (Nat.le_refl _)
  generalize hO : paint O W.heap.size W.heap.size 904 904 = O1 at *
  refine ⟨_, _, rfl, rfl, r1.1.cell (i := 8) (by decide), r1.1.frozen 8, _, rfl, O1, pl, X, ?_, ?_, ?_, h3, h4⟩
  · exact e1.keep bs (ChR.of (Ch.set r1.2 8 _) (Nat.le_refl _) (Nat.lt_succ_self _)) (Nat.le_refl _) (by omega) fun k hk hk2 => by
      have e : ((W.alloc (.cells #[.string ⟨#[97]⟩, .int .u64 5, .string ⟨#[109, 97, 114, 107]⟩, .int .u64 0] 53)).setCell ⟨cb, 8, none⟩ (.slice (some ⟨W.heap.size, 0, none⟩) 1 2)).heap.size = (W.alloc (.cells #[.string ⟨#[97]⟩, .int .u64 5, .string ⟨#[109, 97, 114, 107]⟩, .int .u64 0] 53)).heap.size := by simp [World.setCell]
      omega
  · have r2 := r1.set 8 (.slice (some ⟨W.heap.size, 0, none⟩) 1 2)
    exact ⟨r2.1.congr fun j hj => by unfold cfgX; rfl, r2.2⟩
  · exact (show RowC O1 904 _ W.heap.size 53 4 acF from ⟨ra, hp⟩).keep (x := 903) (Ch.set r1.2 8 _) (by decide)
end
end Go.Proofs.YtdhhjdacidhmjaaGreat

/- Package settle: the laws' first loop: a Play is made. -/
namespace Go.Proofs.YtdhhjdacidhmjaaGreat
open Go.RowKit
set_option maxRecDepth 100000
set_option maxRecDepth 100000
/-- The configuration that is handed to both. -/
def CLx (acb nodes n c m : Nat) : Array Value := cfL nodes n c m (.int .i64 1) (.int .i64 16) (.int .i64 64) (.int .i64 100) (.slice (some ⟨acb, 0, none⟩) 1 2)
theorem infoCx (acb nodes n c m : Nat) : (Tryz.prog.info? 48).map (·.size) = some (CLx acb nodes n c m).toList.length := infoC9
theorem clx_range {W : World} {cb acb nodes n c m : Nat} (h : W.rowIs cb 48 9 (cfgX acb nodes n c m)) : W.rangeAt cb 0 (CLx acb nodes n c m).toList := fun j v hv => by
  have hj : j < 9 := (List.getElem?_eq_some_iff.1 hv).1
  rw [Nat.zero_add, h.cell hj, ← hv]
  match j, hj with
  | 0, _ => rfl
  | 1, _ => rfl
  | 2, _ => rfl
  | 3, _ => rfl
  | 4, _ => rfl
  | 5, _ => rfl
  | 6, _ => rfl
  | 7, _ => rfl
  | 8, _ => rfl
section
variable {BI : Nat → Nat → (Nat → Nat) → World → Prop} {w : World} {O O' : Nat → Nat} {W W' : World} {sb bk ab : Nat} {s : Nat → Int} {ov : Value} {mk : Bool} {i T N lo hi : Nat} {pl : Nat → Nat} {X : Nat → Pk}
theorem EX.grow {O3 : Nat → Nat} {W4 : World} (h : EX BI w O W sb bk ab s ov mk i 0 0 pl X) (bs : BkS BI) (hi : i < 8) (k : ChR 0 0 O O3 W W4) {x : Pk} {tb : Nat} (hx : PlIs O3 (100 * (i + 1)) W4 tb bk mk x) (hT : x.T = 0 ∧ x.tu = 0) (hn : ∀ k, W.heap.size ≤ k → k < W4.heap.size → O3 k < 100 * (i + 2) ∨ 900 ≤ O3 k) :
    W4.cell? ⟨ab, i, none⟩ = some (.pointer none) ∧ W4.frozen? ⟨ab, i, none⟩ = false ∧ EX BI w O3 (W4.setCell ⟨ab, i, none⟩ (.pointer (some ⟨tb, 0, none⟩))) sb bk ab s ov mk (i + 1) 0 0 (fun j => if j = i then tb else pl j) (fun j => if j = i then x else X j) := by
  have h0 : ∀ c, c < 0 ∨ 0 ≤ c := fun c => .inr (Nat.zero_le _)
  have ha := h.arr.keepR k (h0 _)
  have k2 : ChR 902 903 O3 O3 W4 (W4.setCell ⟨ab, i, none⟩ (.pointer (some ⟨tb, 0, none⟩))) := ChR.of (Ch.set ha.2 i _) (Nat.le_refl _) (Nat.lt_succ_self _)
  obtain ⟨g1, g2⟩ := ChR.base h.since h.old (h0 _) k
  obtain ⟨g3, g4⟩ := ChR.base g1 g2 (by omega) k2
  have hs3 : O3 sb = 900 := (k.col _ (World.block_lt_of_cell? _ _ h.so)).trans h.scc
  have hc := ha.1.cell (i := i) hi
  refine ⟨?_, ha.1.frozen i, ⟨fun j hj => cell_R k2 (by rw [hs3]; omega) (cell_R k (h0 _) (h.sc j hj)), cell_R k2 (by rw [hs3]; omega) (cell_R k (h0 _) h.so), hs3, bs.keep (bs.keep h.bok k (Nat.zero_le _)) k2 (by omega), ?_, fun j hj => ?_, hi, g4, fun b hb => ?_, g3⟩⟩
  · rw [hc]
    unfold arF
    rw [if_neg (Nat.lt_irrefl _)]
  · have hr := ha.set i (.pointer (some ⟨tb, 0, none⟩))
    refine ⟨hr.1.congr fun j hj => ?_, hr.2⟩
    show (if j = i then Value.pointer (some ⟨tb, 0, none⟩) else .pointer (if j < i then some ⟨pl j, 0, none⟩ else none)) = .pointer (if j < i + 1 then some ⟨if j = i then tb else pl j, 0, none⟩ else none)
    by_cases e : j = i
    · rw [if_pos e, if_pos (by omega), if_pos e]
    · rw [if_neg e, if_neg e]
      by_cases e2 : j < i
      · rw [if_pos e2, if_pos (by omega)]
      · rw [if_neg e2, if_neg (by omega)]
  · show PlIs O3 (100 * (j + 1)) _ (if j = i then tb else pl j) bk mk (if j = i then x else X j) ∧ (if j = i then x else X j).T ≤ 0 ∧ (if j = i then x else X j).tu ≤ 0
    by_cases e : j = i
    · subst e
      simp only [if_true]
      exact ⟨hx.keepR k2 (by omega), by omega, by omega⟩
    · simp only [if_neg e]
      obtain ⟨p1, p2⟩ := h.ple j (by omega)
      exact ⟨(p1.keepR k (.inr (Nat.zero_le _))).keepR k2 (by omega), p2⟩
  · have hb' : b < W4.heap.size := by
      have e : (W4.setCell ⟨ab, i, none⟩ (.pointer (some ⟨tb, 0, none⟩))).heap.size = W4.heap.size := by simp [World.setCell]
      omega
    by_cases hlt : b < W.heap.size
    · rw [k.col _ hlt]
      have := h.new b hlt
      omega
    · exact hn b (by omega) hb'
/-- A Play is made. -/
def EF (BI : Nat → Nat → (Nat → Nat) → World → Prop) (w : World) (W : World) (sb bk ab : Nat) (s : Nat → Int) (ov : Value) (mk : Bool) (i : Nat) (cb acb nodes n c m tb s1 : Nat) : Prop := ∃ O pl X, EX BI w O W sb bk ab s ov mk (i + 1) 0 0 pl X ∧ RowC O 903 W cb 48 9 (cfgX acb nodes n c m) ∧ RowC O 904 W acb 53 4 acF ∧ pl i = tb ∧ (X i).p.sb = s1
theorem ED.range {cb acb nodes n c m : Nat} (h : ED BI w W sb bk ab s ov mk i cb acb nodes n c m) : W.rangeAt cb 0 (CLx acb nodes n c m).toList := by
  obtain ⟨O, pl, X, _, h2, _⟩ := h
  exact clx_range h2.1
set_option maxHeartbeats 1000000 in
theorem ED.new {cb acb nodes n c m : Nat} (h : ED BI w W sb bk ab s ov mk i cb acb nodes n c m) (bs : BkS BI) (hi : i < 8) (nd : Int) (ow : Nat) (ho : ow < n) :
    Calls Tryz.prog 8 #[.agg (CLx acb nodes n c m), .int .i64 nd, .int .i64 (ow : Nat)] W fun e w2 => ∃ s1, e = .returned (.pointer (some ⟨s1, 0, none⟩)) ∧ Hid (w2.rangeAt cb 0 (CLx acb nodes n c m).toList) ∧
      Hid (Calls Tryz.prog 9 #[.agg (CLx acb nodes n c m), .int .i64 nd, .int .i64 (ow : Nat)] w2 fun e w3 => ∃ r1, e = .returned (.pointer (some ⟨r1, 0, none⟩)) ∧ Hid (w3.rangeAt cb 0 (CLx acb nodes n c m).toList) ∧
        ∃ tb W4, Hid (w3.heap.size = tb) ∧ Hid (w3.alloc (.cells #[.pointer (some ⟨s1, 0, none⟩), .pointer (some ⟨r1, 0, none⟩), .pointer (some ⟨bk, 0, none⟩), .bool mk, .slice none 0 0, .int .i64 0] 60) = W4) ∧ Hid (W4.rangeAt cb 0 (CLx acb nodes n c m).toList) ∧ W4.cell? ⟨ab, i, none⟩ = some (.pointer none) ∧ W4.frozen? ⟨ab, i, none⟩ = false ∧
          ∃ W5, Hid (W4.setCell ⟨ab, i, none⟩ (.pointer (some ⟨tb, 0, none⟩)) = W5) ∧ Hid (W5.rangeAt cb 0 (CLx acb nodes n c m).toList) ∧ Hid (EF BI w W5 sb bk ab s ov mk i cb acb nodes n c m tb s1)) := by
  have h0 : ∀ c, c < 0 ∨ 0 ≤ c := fun c => .inr (Nat.zero_le _)
  obtain ⟨O, pl, X, h1, h2, h3, hb, hg⟩ := h
  obtain ⟨Q, hQ⟩ : ∃ Q, 100 * (i + 1) = Q := ⟨_, rfl⟩
  have hQ2 : 100 * (i + 2) = Q + 100 := by omega
  refine (newS_any (q := Q) hg hb.2.2.2.2.2.2.1 hb.2.2.2.2.2.2.2 hb.2.2.1 hb.2.2.2.1 ho nd O _ _ _ _ _).mono fun e w2 ⟨s1, he, ⟨O1, p, hS, hp, hO1⟩, s2⟩ => ?_
  obtain ⟨P1, hP1⟩ : ∃ f : Nat → Nat, f = fun k => if k < W.heap.size then O k else if Q ≤ O1 k ∧ O1 k < Q + 40 then O1 k else 905 := ⟨_, rfl⟩
  have hS' : SIs P1 Q w2 p (newS nd ow nodes n c m) := hS.paint fun k q1 q2 => by
    rw [hP1]
    show (if k < W.heap.size then O k else if Q ≤ O1 k ∧ O1 k < Q + 40 then O1 k else 905) = O1 k
    split
    · rename_i hlt
      exact (hO1 k hlt).symm
    · rw [if_pos ⟨q1, q2⟩]
  have hP1o : ∀ k, k < W.heap.size → P1 k = O k := fun k hk => by rw [hP1]; exact if_pos hk
  have hP1n : ∀ k, W.heap.size ≤ k → (Q ≤ P1 k ∧ P1 k < Q + 40) ∨ P1 k = 905 := fun k hk => by
    rw [hP1]
    show (Q ≤ (if k < W.heap.size then O k else if Q ≤ O1 k ∧ O1 k < Q + 40 then O1 k else 905) ∧ _) ∨ _
    simp only [if_neg (show ¬ k < W.heap.size by omega)]
    by_cases hc : Q ≤ O1 k ∧ O1 k < Q + 40
    · rw [if_pos hc]
      exact .inl hc
    · rw [if_neg hc]
      exact .inr rfl
  clear hP1
  have k1 : ChR 0 0 O P1 W w2 := ⟨s2.os, s2.tape, s2.output, s2.size, hP1o, fun k hk _ => s2.block k hk⟩
  have c2 := h2.keepR k1 (h0 _)
  have a2 := h3.keepR k1 (h0 _)
  refine ⟨s1, he, clx_range c2.1, ?_⟩
  have hcn : c ≤ nodes := by
    have := hg 0 (by omega)
    obtain ⟨_, _, _, _, _⟩ := this
    omega
  refine (rnew_any (q := Q) hb.2.2.2.2.2.2.1 hb.2.2.2.2.2.2.2 hb.2.2.1 hb.2.2.2.1 ho ⟨hb.2.2.2.2.1, hb.2.2.2.2.2.1, hcn, hb.2.1⟩ nd P1 (fun k hk => ?_) _).mono fun e w3 ⟨r1, he, hh⟩ => ?_
  · by_cases hlt : k < W.heap.size
    · rw [hP1o k hlt]
      have := h1.new k hlt
      omega
    · have := hP1n k (by omega)
      omega
  obtain ⟨⟨O2, p2, hR, hp2, hqv, hO2⟩, s3⟩ := hh.out
  obtain ⟨P2, hP2⟩ : ∃ f : Nat → Nat, f = fun k => if k < w2.heap.size then P1 k else if Q + 50 ≤ O2 k ∧ O2 k < Q + 53 then O2 k else 905 := ⟨_, rfl⟩
  have hR' : RIs P2 Q w3 p2 (newR nd ow nodes n c m) := hR.paint fun k q1 q2 => by
    rw [hP2]
    show (if k < w2.heap.size then P1 k else if Q + 50 ≤ O2 k ∧ O2 k < Q + 53 then O2 k else 905) = O2 k
    split
    · rename_i hlt
      exact (hO2 k hlt).symm
    · rw [if_pos ⟨q1, q2⟩]
  have hP2o : ∀ k, k < w2.heap.size → P2 k = P1 k := fun k hk => by rw [hP2]; exact if_pos hk
  have hP2n : ∀ k, w2.heap.size ≤ k → (Q + 50 ≤ P2 k ∧ P2 k < Q + 53) ∨ P2 k = 905 := fun k hk => by
    rw [hP2]
    show (Q + 50 ≤ (if k < w2.heap.size then P1 k else if Q + 50 ≤ O2 k ∧ O2 k < Q + 53 then O2 k else 905) ∧ _) ∨ _
    simp only [if_neg (show ¬ k < w2.heap.size by omega)]
    by_cases hc : Q + 50 ≤ O2 k ∧ O2 k < Q + 53
    · rw [if_pos hc]
      exact .inl hc
    · rw [if_neg hc]
      exact .inr rfl
  clear hP2
  have k2 : ChR 0 0 P1 P2 w2 w3 := ⟨s3.os, s3.tape, s3.output, s3.size, hP2o, fun k hk _ => s3.block k hk⟩
  have c3 := c2.keepR k2 (h0 _)
  have a3 := a2.keepR k2 (h0 _)
  refine ⟨r1, he, clx_range c3.1, _, _, rfl, rfl, ?_⟩
  have s4 : w3.Since w3.heap.size (w3.alloc (.cells #[.pointer (some ⟨s1, 0, none⟩), .pointer (some ⟨r1, 0, none⟩), .pointer (some ⟨bk, 0, none⟩), .bool mk, .slice none 0 0, .int .i64 0] 60)) := (World.Since.refl _ _).alloc (Nat.le_refl _) _
  have r4 : (w3.alloc (.cells #[.pointer (some ⟨s1, 0, none⟩), .pointer (some ⟨r1, 0, none⟩), .pointer (some ⟨bk, 0, none⟩), .bool mk, .slice none 0 0, .int .i64 0] 60)).rowIs w3.heap.size 60 6 (plF ⟨p, p2, newS nd ow nodes n c m, newR nd ow nodes n c m, 0, 0, none, 0, 0⟩ bk mk) := World.rowIs_alloc w3 _ _ _ (fun j hj => by
    have hj' : j < 6 := hj
    subst hp hp2
    match j, hj' with
    | 0, _ => rfl
    | 1, _ => rfl
    | 2, _ => rfl
    | 3, _ => rfl
    | 4, _ => rfl
    | 5, _ => rfl)
  have hz4 : (w3.alloc (.cells #[.pointer (some ⟨s1, 0, none⟩), .pointer (some ⟨r1, 0, none⟩), .pointer (some ⟨bk, 0, none⟩), .bool mk, .slice none 0 0, .int .i64 0] 60)).heap.size = w3.heap.size + 1 := by simp
  generalize hW4 : w3.alloc (.cells #[.pointer (some ⟨s1, 0, none⟩), .pointer (some ⟨r1, 0, none⟩), .pointer (some ⟨bk, 0, none⟩), .bool mk, .slice none 0 0, .int .i64 0] 60) = W4 at *
  obtain ⟨P3, hP3⟩ : ∃ f : Nat → Nat, f = fun k => if k = w3.heap.size then Q + 60 else P2 k := ⟨_, rfl⟩
  have hP3o : ∀ k, k ≠ w3.heap.size → P3 k = P2 k := fun k hk => by rw [hP3]; exact if_neg hk
  have hP3n : P3 w3.heap.size = Q + 60 := by rw [hP3]; exact if_pos rfl
  clear hP3
  have k4 : ChR 0 0 P2 P3 w3 W4 := ⟨s4.os, s4.tape, s4.output, s4.size, fun k hk => hP3o k (by omega), fun k hk _ => s4.block k hk⟩
  have c4 := c3.keepR k4 (h0 _)
  have a4 := a3.keepR k4 (h0 _)
  have hx : PlIs P3 Q W4 w3.heap.size bk mk ⟨p, p2, newS nd ow nodes n c m, newR nd ow nodes n c m, 0, 0, none, 0, 0⟩ :=
    ⟨⟨r4, hP3n⟩, ⟨(hS'.keepR k2 (.inr (Nat.zero_le _))).keepR k4 (.inr (Nat.zero_le _)), hR'.keepR' k4 (.inr (Nat.zero_le _)), JT.new nd ow nodes n c m hb.2.2.2.2.2.2.1, fun j hj => hg j hj, ⟨none, 0, hqv⟩, Nat.zero_le _⟩, Qu.nil _ _ _⟩
  have kk : ChR 0 0 O P3 W W4 := (k1.trans k2).trans k4
  have hz2 := s2.size
  have hz3 := s3.size
  rw [← hQ] at hx
  obtain ⟨q1, q2, q3⟩ := h1.grow bs hi kk hx ⟨rfl, rfl⟩ (fun k hk hk4 => by
    rw [hQ2]
    by_cases e1 : k = w3.heap.size
    · rw [e1, hP3n]
      omega
    · rw [hP3o k e1]
      by_cases e2 : k < w2.heap.size
      · rw [hP2o k e2]
        have := hP1n k hk
        omega
      · have := hP2n k (by omega)
        omega)
  have k5 : ChR 902 903 P3 P3 W4 (W4.setCell ⟨ab, i, none⟩ (.pointer (some ⟨w3.heap.size, 0, none⟩))) := ChR.of (Ch.set (h1.arr.keepR kk (h0 _)).2 i _) (Nat.le_refl _) (Nat.lt_succ_self _)
  have c5 := c4.keepR k5 (by omega)
  refine ⟨clx_range c4.1, q1, q2, _, rfl, clx_range c5.1, P3, _, _, q3, c5, a4.keepR k5 (by omega), if_pos rfl, ?_⟩
  show (if i = i then (⟨p, p2, newS nd ow nodes n c m, newR nd ow nodes n c m, 0, 0, none, 0, 0⟩ : Pk) else X i).p.sb = s1
  rw [if_pos rfl]
  exact hp
theorem EF.cells {cb acb nodes n c m tb s1 : Nat} (h : EF BI w W sb bk ab s ov mk i cb acb nodes n c m tb s1) : W.cell? ⟨ab, i, none⟩ = some (.pointer (some ⟨tb, 0, none⟩)) ∧ W.cell? ⟨tb, 0, none⟩ = some (.pointer (some ⟨s1, 0, none⟩)) ∧ W.cell? ⟨cb, 8, none⟩ = some (.slice (some ⟨acb, 0, none⟩) 1 2) ∧ W.cell? ⟨acb, 1, none⟩ = some (.int .u64 5) ∧ W.cell? ⟨acb, 2, none⟩ = some (.string ⟨#[109, 97, 114, 107]⟩) := by
  obtain ⟨O, pl, X, h1, h2, h3, rfl, rfl⟩ := h
  have hle := h1.le
  refine ⟨?_, ((h1.ple i (Nat.lt_succ_self _)).1).cells.1, h2.1.cell (i := 8) (by decide), h3.1.cell (i := 1) (by decide), h3.1.cell (i := 2) (by decide)⟩
  rw [h1.arr.1.cell (i := i) (by omega)]
  unfold arF
  rw [if_pos (Nat.lt_succ_self _)]
theorem EF.over {cb acb nodes n c m tb s1 : Nat} (h : EF BI w W sb bk ab s ov mk i cb acb nodes n c m tb s1) (bs : BkS BI) : ∃ W6, Hid (W.setCells acb 0 [.string ⟨#[111, 118, 101, 114]⟩, .int .u64 0] = W6) ∧ Hid (W.there acb 0 2) ∧ Hid (∃ O pl X, EX BI w O W6 sb bk ab s ov mk (i + 1) 0 0 pl X) := by
  obtain ⟨O, pl, X, h1, h2, h3, _⟩ := h
  refine ⟨_, rfl, fun j hj => ⟨?_, h3.1.frozen _⟩, O, pl, X, h1.keep bs (ChR.of (Ch.sets h3.2 _ _ _) (Nat.le_refl _) (Nat.lt_succ_self _)) (by omega) (by omega) fun k hk hk2 => ?_⟩
  · rw [h3.1.cell (i := 0 + j) (by omega)]
    rfl
  · have e : (W.setCells acb 0 [.string ⟨#[111, 118, 101, 114]⟩, .int .u64 0]).heap.size = W.heap.size := by simp [World.setCells, World.setCell]
    omega
end
end Go.Proofs.YtdhhjdacidhmjaaGreat

/- Package settle: the laws' second loop: a step; what SettleExact's Book is. -/
namespace Go.Proofs.YtdhhjdacidhmjaaGreat
open Go.RowKit
set_option maxRecDepth 100000
set_option maxRecDepth 100000
section
variable {BI : Nat → Nat → (Nat → Nat) → World → Prop} {w : World} {O O' : Nat → Nat} {W W' : World} {sb bk ab : Nat} {s : Nat → Int} {ov : Value} {mk : Bool} {i T N lo hi : Nat} {pl : Nat → Nat} {X : Nat → Pk}
theorem EX.wide {N' : Nat} (h : EX BI w O W sb bk ab s ov mk 8 T N pl X) (hb : BI bk N' O' W') (k : ChR 1000 2000 O O' W W') : EX BI w O' W' sb bk ab s ov mk 8 T N' pl X := by
  obtain ⟨g1, g2⟩ := ChR.base h.since h.old (by omega) k
  exact ⟨fun j hj => cell_R k (by rw [h.scc]; omega) (h.sc j hj), cell_R k (by rw [h.scc]; omega) h.so, (k.col _ (World.block_lt_of_cell? _ _ h.so)).trans h.scc, hb, h.arr.keepR k (by omega), fun j hj => ⟨(h.ple j hj).1.keepR k (by omega), (h.ple j hj).2⟩, h.le, g2, fun b hb => by omega, g1⟩
theorem EX.look (h : EX BI w O W sb bk ab s ov mk 8 T N pl X) (bs : BkS BI) (hN : N ≤ 700) :
    Calls Tryz.prog 11 #[.pointer (some ⟨bk, 0, none⟩)] W fun e W' => e = .returned (.bool true) ∧ Hid (∃ O', EX BI w O' W' sb bk ab s ov mk 8 T N pl X) :=
  (bs.look h.bok hN).mono fun e W' ⟨he, hh⟩ => by
    obtain ⟨O', h1, h2⟩ := hh.out
    exact ⟨he, O', h.wide h1 h2⟩
theorem EX.step (h : EX BI w O W sb bk ab s ov mk 8 T N pl X) (hp : PlayS BI mk) (hT : T < 650) (hN : N < 650) (o : Sop) (hq : QIn W o.qa o.l) (hql : o.l.length ≤ 3518437208881) (hqb : ∀ b p, o.qa = some ⟨b, p, none⟩ → o.l ≠ [] → b < w.heap.size) {j : Nat} (hj : j < 8) :
    Calls Tryz.prog 10 #[.pointer (some ⟨pl j, 0, none⟩), .agg (sopL o).toArray] W fun e W' => e = .returned (.bool true) ∧ Hid (∃ O' X', EX BI w O' W' sb bk ab s ov mk 8 (T + 1) (N + 1) pl X') := by
  obtain ⟨p1, p2, p3⟩ := h.ple j hj
  refine (hp o p1 h.bok (by omega) (by omega) (by omega) (by omega) hq hql fun b p e1 e2 => ?_).mono fun e W' ⟨he, hh⟩ => ⟨he, ?_⟩
  · rw [h.old b (hqb b p e1 e2)]
    omega
  obtain ⟨O1, w1, O2, y, h1, k1, h2, k2, h3, h4⟩ := hh.out
  obtain ⟨g1, g2⟩ := ChR.base h.since h.old (by omega) k1
  obtain ⟨g3, g4⟩ := ChR.base g1 g2 (by omega) k2
  have hs1 : O1 sb = 900 := (k1.col _ (World.block_lt_of_cell? _ _ h.so)).trans h.scc
  have so1 := cell_R k1 (by rw [h.scc]; omega) h.so
  refine ⟨O2, fun j' => if j' = j then y else X j', ⟨fun j' hj' => cell_R k2 (by rw [hs1]; omega) (cell_R k1 (by rw [h.scc]; omega) (h.sc j' hj')), cell_R k2 (by rw [hs1]; omega) so1, (k2.col _ (World.block_lt_of_cell? _ _ so1)).trans hs1, h2, (h.arr.keepR k1 (by omega)).keepR k2 (by omega), fun j' hj' => ?_, h.le, g4, fun b hb => by omega, g3⟩⟩
  by_cases e1 : j' = j
  · subst e1
    simp only [if_true]
    exact ⟨h1.keepR k2 (by omega), by omega, by omega⟩
  · simp only [if_neg e1]
    obtain ⟨q1, q2, q3⟩ := h.ple j' hj'
    exact ⟨(q1.keepR k1 (by omega)).keepR k2 (by omega), by omega, by omega⟩
theorem EX.at' (h : EX BI w O W sb bk ab s ov mk 8 T N pl X) {j : Nat} (hj : j < 8) : W.cell? ⟨ab, j, none⟩ = some (.pointer (some ⟨pl j, 0, none⟩)) := by
  rw [h.arr.1.cell (i := j) hj]
  unfold arF
  rw [if_pos hj]
end
/-- A Book in which nothing is kept. -/
def BI0 (bk _N : Nat) (O : Nat → Nat) (W : World) : Prop := RowC O 1003 W bk 43 39 book0
theorem bkS0 : BkS BI0 :=
  ⟨fun h => h, fun h k hx => RowC.keepR h k (.inr (by omega)), fun {bk N O W} h _ => (book_look0 bk W h.1).mono fun e W' ⟨he, q, hw⟩ => by
    subst hw
    exact ⟨he, O, RowC.keepR h (lo := 0) (hi := 0) (ChR.since (since_drew _ _)) (.inr (Nat.zero_le _)), ChR.since (since_drew _ _)⟩⟩
theorem PlE.f {O : Nat → Nat} {Q : Nat} {w : World} {tb bk : Nat} {mk : Bool} {x : Pk} {N : Nat} {w' : World} (h : PlE O Q w tb bk mk x w') (hb : BI0 bk N O w) (hQ : Q + 62 ≤ 1000) : PlF BI0 O Q w tb bk mk x N w' := by
  obtain ⟨O', y, h1, h2, h3, h4⟩ := h
  exact ⟨O', w', O', y, h1, h2, RowC.keepR hb h2 (.inr (by omega)), ChR.refl, h3, h4⟩
/-- What a step does where nothing is kept, but for Tick. -/
theorem plays_but {O : Nat → Nat} {Q : Nat} {w : World} {tb bk : Nat} {mk : Bool} {x : Pk} (o : Sop) (h : PlIs O Q w tb bk mk x) (htu : x.tu + 1 < 1000000) (hq : QIn w o.qa o.l) (hl : o.l.length ≤ 3518437208881) (hqO : ∀ b p, o.qa = some ⟨b, p, none⟩ → o.l ≠ [] → O b < Q ∨ Q + 62 ≤ O b) (n3 : ¬ o.kd = 3) :
    Calls Tryz.prog 10 #[.pointer (some ⟨tb, 0, none⟩), .agg (sopL o).toArray] w fun e w' => e = .returned (.bool true) ∧ Hid (PlE O Q w tb bk mk x w') := by
  obtain ⟨kd, wh, qa, qc, l, peer, num⟩ := o
  by_cases n1 : kd = 1
  · subst n1
    by_cases he : ((x.tu : Int) + 1) % 2 = 0
    · exact plays_even h htu he hq hl hqO wh peer num
    · exact plays_odd h htu he hq hl hqO wh peer num
  · by_cases n2 : kd = 2
    · subst n2
      exact plays_stop h wh peer _ num
    · by_cases n4 : kd = 4
      · subst n4
        exact plays_wants h wh peer _ num
      · exact plays_other h kd wh peer n1 n2 n3 n4 _ num
theorem playS0 : PlayS BI0 false := fun {O Q w tb bk x N} o h hb hQ _ hT htu hq hl hqO => by
  by_cases n3 : o.kd = 3
  · obtain ⟨kd, wh, qa, qc, l, peer, num⟩ := o
    obtain rfl : kd = 3 := n3
    exact Calls.mono (plays_tick h hT wh peer _ num) fun e w' ⟨he, hh⟩ => ⟨he, PlE.f hh.out hb hQ⟩
  · exact (plays_but o h htu hq hl hqO n3).mono fun e w' ⟨he, hh⟩ => ⟨he, PlE.f hh.out hb hQ⟩
end Go.Proofs.YtdhhjdacidhmjaaGreat
