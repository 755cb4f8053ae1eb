/- Own texts, joined: QU13, QU14, QU15, QU16, QU17, QU18, QU19, QU20. -/
import Derived.Test.YtkcjmjaikobpoaaM2

/- Package quorum: writes. -/
namespace Go.Proofs.Ytkcjmjaikobpoaa
open Go.RowKit Go.Maps
set_option maxRecDepth 100000
set_option maxRecDepth 100000

def wrM (d : Qd) (S : Int) : Mg := (((abG d 4).setN 5 (d.next.te : Nat)).setN 6 (d.next.ts : Nat)).setN 8 S
/-- The first i of a list bear a value. -/
def wl (V : List Nat) (G Cp : Nat → Nat) (i : Nat) (b : List Me) : List Me := b.mapIdx fun j e => if j < i then ⟨e.m.setS 10 V, some ⟨G j, 0, none⟩, Cp j⟩ else e
theorem wl_len (V : List Nat) (G Cp : Nat → Nat) (i : Nat) (b : List Me) : (wl V G Cp i b).length = b.length := by simp [wl]
theorem wl_zero (V : List Nat) (G Cp : Nat → Nat) (b : List Me) : wl V G Cp 0 b = b := by
  refine List.ext_getElem? (fun j => ?_)
  simp [wl]
theorem wl_next (V : List Nat) (G Cp : Nat → Nat) (i g c : Nat) (b : List Me) (hi : i < b.length) : wl V (fun j => if j = i then g else G j) (fun j => if j = i then c else Cp j) (i + 1) b = (wl V G Cp i b).set i ⟨(b[i]).m.setS 10 V, some ⟨g, 0, none⟩, c⟩ := by
  refine List.ext_getElem? (fun j => ?_)
  rw [List.getElem?_set, wl_len]
  by_cases e : i = j
  · subst e
    rw [if_pos rfl, if_pos hi]
    simp [wl, hi]
  · rw [if_neg e]
    simp only [wl, List.getElem?_mapIdx]
    by_cases h : j < i
    · simp [h, show j < i + 1 by omega, show j ≠ i by omega]
    · simp [h, show ¬ j < i + 1 by omega]
/-- While the values are laid. -/
structure WS (w : World) (p : Qp) (d : Qd) (v : Value) (b : List Me) (G Cp : Nat → Nat) (i : Nat) (W : World) : Prop where
  q : QIs W p d
  own : OwnM W w.heap.size v (wl d.next.v G Cp i b)
  val : ∀ j, j < i → w.heap.size ≤ G j ∧ FlB W (G j) (Cp j) (strL d.next.v)
  since : w.Since w.heap.size W
theorem fl_row {W : World} {g c b t n : Nat} {s : ByteArray} {f : Nat → Value} (h : FlB W g c s) (hr : W.rowIs b t n f) : g ≠ b := by
  rintro rfl
  obtain ⟨cs, h1, _⟩ := h.blk
  obtain ⟨cs', h2, _⟩ := hr
  rw [h1] at h2
  simp at h2
theorem FlB.lt' {W : World} {g c : Nat} {s : ByteArray} (h : FlB W g c s) : g < W.heap.size := by
  obtain ⟨cs, h1, _⟩ := h.blk
  exact (Array.getElem?_eq_some_iff.1 h1).1
section
variable {w W W' : World} {p : Qp} {d : Qd} {v : Value} {b : List Me} {G Cp : Nat → Nat} {i : Nat}
theorem WS.step (h : WS w p d v b G Cp i W) (hi : i < b.length) : ∃ (g cap C : Nat) (W2 W3 : World) (y : Value), v = .slice (some ⟨g, 0, none⟩) b.length cap ∧ W.cell? ⟨p.b, 8, none⟩ = some (.string (strL d.next.v)) ∧ Hid ((convert 9 43 (.string (strL d.next.v))).run Try.prog W = .ok (.slice (some ⟨W.heap.size, 0, none⟩) d.next.v.length C) W2) ∧ W2.cell? ⟨g, i * 22 + 10, none⟩ = some y ∧ W2.frozen? ⟨g, i * 22 + 10, none⟩ = false ∧ Hid (W2.setCell ⟨g, i * 22 + 10, none⟩ (.slice (some ⟨W.heap.size, 0, none⟩) d.next.v.length C) = W3) ∧ Hid (∃ G' Cp', WS w p d v b G' Cp' (i + 1) W3) := by
  have hcv := Lib.run_convert_string_bytes (P := Try.prog) W 9 43 5 (strL d.next.v) Try.underlying9 Try.underlying43 Try.underlying5
  have hF := flb_new W (strL d.next.v)
  have hs2 := since_bytes W (strL d.next.v)
  rw [strL_size] at hcv
  generalize grownCap W (strL d.next.v).size 0 5 = C0 at hF
  generalize hC : grownCap W d.next.v.length 0 5 = C at hcv
  have hF2 : FlB (Lib.bytesWorld W 5 (strL d.next.v)) W.heap.size C (strL d.next.v) := by
    have := flb_new W (strL d.next.v)
    rw [strL_size, hC] at this
    exact this
  generalize Lib.bytesWorld W 5 (strL d.next.v) = W2 at *
  have ow2 : OwnM W2 w.heap.size v (wl d.next.v G Cp i b) := ownM_on h.own (fun k _ hk => hs2.block k hk)
  have hll := wl_len d.next.v G Cp i b
  obtain ⟨g, cap, f, e, hb, hnc, hr, hf⟩ := ownM_at ow2 (by omega)
  rw [hll] at e
  subst e
  rw [← hll] at ow2
  have hi' : i < (wl d.next.v G Cp i b).length := by omega
  have hel : (wl d.next.v G Cp i b)[i] = b[i] := by simp [wl]
  have hcap : i * 22 + 10 < cap * 22 := by
    have : (i + 1) * 22 ≤ cap * 22 := Nat.mul_le_mul_right 22 (by omega)
    omega
  have os := ownM_set ow2 i hi' ⟨(b[i]).m.setS 10 d.next.v, some ⟨W.heap.size, 0, none⟩, C⟩ (.slice (some ⟨W.heap.size, 0, none⟩) d.next.v.length C) (by rw [hel]; exact mgL_setV _ _ _ _ _ _)
  rw [← wl_next _ _ _ _ _ _ _ hi, hll] at os
  have hB : But g W2 (W2.setCell ⟨g, i * 22 + 10, none⟩ (.slice (some ⟨W.heap.size, 0, none⟩) d.next.v.length C)) := (But.of_since (World.Since.refl _ _)).setCell _ _
  have q2 := h.q.since hs2
  obtain ⟨l1, l2, l3, l4, l5⟩ := q2.lts
  obtain ⟨f', f1, f2, f3⟩ := q2.cop
  have sw2 : w.Since w.heap.size W2 := h.since.trans (since_mono hs2 h.since.size)
  refine ⟨g, cap, C, W2, _, _, rfl, h.q.cell 8 (by decide), hcv, hr.cell hcap, hr.frozen _, rfl, _, _, ⟨q2.on (hB.block _ l1 (row_row (show W2.rowIs p.b 80 17 _ from q2.row) hr (by decide))) (hB.block _ l2 (row_row f1 hr (by decide))) (hB.block _ l3 (fun e => cr_row q2.k1 hr e.symm)) (hB.block _ l4 (fun e => cr_row q2.k2 hr e.symm)) (hB.block _ l5 (fun e => cr_row q2.k3 hr e.symm)), os, fun j hj => ?_, hB.since sw2 hb sw2.size⟩⟩
  by_cases e : j = i
  · subst e
    simp only [if_true]
    exact ⟨h.since.size, hF2.on (hB.block _ hF2.lt' (fl_row hF2 hr))⟩
  · simp only [if_neg e]
    obtain ⟨v1, v2⟩ := h.val j (by omega)
    have v3 : FlB W2 (G j) (Cp j) (strL d.next.v) := v2.on (hs2.block _ v2.lt')
    exact ⟨v1, v3.on (hB.block _ v3.lt' (fl_row v3 hr))⟩
end
end Go.Proofs.Ytkcjmjaikobpoaa

/- Package quorum: writes, its walk. -/
namespace Go.Proofs.Ytkcjmjaikobpoaa
open Go.RowKit Go.Maps
set_option maxRecDepth 100000
set_option maxRecDepth 100000

/-- What writes tells. -/
structure WrL (w : World) (d : Qd) (b : List Me) (l : List Me) (w' : World) : Prop where
  ms : l.map (fun e => e.m) = b.map (fun e => e.m.setS 10 d.next.v)
  val : ∀ e ∈ l, ∃ g, e.va = some ⟨g, 0, none⟩ ∧ w.heap.size ≤ g ∧ FlB w' g e.vc (strL d.next.v)
theorem wl_all {w w' : World} {d : Qd} {b : List Me} {G Cp : Nat → Nat} (h : ∀ j, j < b.length → w.heap.size ≤ G j ∧ FlB w' (G j) (Cp j) (strL d.next.v)) : WrL w d b (wl d.next.v G Cp b.length b) w' := by
  refine ⟨List.ext_getElem? (fun j => ?_), fun e he => ?_⟩
  · by_cases hj : j < b.length
    · simp [wl, hj]
    · simp [wl, hj]
  · obtain ⟨j, hj, rfl⟩ := List.mem_iff_getElem.1 he
    have hj' : j < b.length := by simpa [wl] using hj
    obtain ⟨h1, h2⟩ := h j hj'
    refine ⟨G j, ?_, h1, ?_⟩
    · simp [wl, hj']
    · simpa [wl, hj'] using h2
set_option maxHeartbeats 4000000 in
theorem writes_any {w : World} {p : Qp} {d : Qd} (h : QIs w p d) (S : Int) : Calls Try.prog 31 #[.pointer (some ⟨p.b, 0, none⟩), .int .i64 S] w fun e w' => ∃ v l, e = .returned v ∧ OwnM w' w.heap.size v l ∧ WrL w d (toL d.L d.c1 (wrM d S)) l w' ∧ w.Since w.heap.size w' := by
  have HB := hide (about_put h 4)
  have hl7 := h.ok.l7
  clear h
  go_enter Try.func31, Try.ntmps31
  go_upto_region 2 with (first
    | (go_at_call 50; refine HB.out.mono ?_; rintro e w1 ⟨MA, W2, rfl, HT, HW2, HI, HA, HM⟩)
    | (refine wpList_store_mid rfl 52 (.tmp 5) (.tmp 9) rfl w1.heap.size 0 MA (by rfl) (by rfl) HT.out HI.out HA.out ?_; rw [HW2.out]))
  clear HB HT HW2 HI HA
  obtain ⟨mb, Hmb⟩ : ∃ x, Hid (w1.heap.size = x) := ⟨_, rfl⟩
  rw [Hmb.out] at HM ⊢
  have c6 : W2.cell? ⟨p.b, 6, none⟩ = some (.int .u64 (d.next.te : Nat)) := HM.out.q.cell 6 (by decide)
  have c7 : W2.cell? ⟨p.b, 7, none⟩ = some (.int .u64 (d.next.ts : Nat)) := HM.out.q.cell 7 (by decide)
  have HT5 : Hid (W2.there mb 5 (#[.int .u64 (d.next.te : Nat), .int .u64 (d.next.ts : Nat)] : Array Value).size) := fun j hj => by
    have hj' : j < 2 := hj
    exact ⟨by rw [HM.out.row.cell (i := 5 + j) (by omega)]; rfl, HM.out.row.frozen _⟩
  have HM3 : MI w p d mb (((abG d 4).setN 5 (d.next.te : Nat)).setN 6 (d.next.ts : Nat)) (W2.setCells mb 5 [.int .u64 (d.next.te : Nat), .int .u64 (d.next.ts : Nat)]) := (HM.out.num 5 (d.next.te : Nat) (by decide)).num 6 (d.next.ts : Nat) (by decide)
  obtain ⟨W3, HW3⟩ : ∃ W, Hid (W2.setCells mb 5 [.int .u64 (d.next.te : Nat), .int .u64 (d.next.ts : Nat)] = W) := ⟨_, rfl⟩
  rw [HW3.out] at HM3
  obtain ⟨y8, d8⟩ : ∃ y, W3.cell? ⟨mb, 8, none⟩ = some y := ⟨_, HM3.row.cell (i := 8) (by decide)⟩
  have f8 : W3.frozen? ⟨mb, 8, none⟩ = false := HM3.row.frozen 8
  have HM4 : MI w p d mb (wrM d S) (W3.setCell ⟨mb, 8, none⟩ (.int .i64 S)) := HM3.num 8 S (by decide)
  obtain ⟨W4, HW4⟩ : ∃ W, Hid (W3.setCell ⟨mb, 8, none⟩ (.int .i64 S) = W) := ⟨_, rfl⟩
  rw [HW4.out] at HM4
  have HIT : Hid ((Try.prog.info? 42).map (·.size) = some 2) := by show _ = _; kernel_rfl
  clear HM HM3
  go_upto_region 2 with fail
  refine wp_region_lit ?_
  refine wpList_plain rfl fun _ hK => op_run (.pointer (some ⟨p.b, 0, none⟩)) (by kernel_rfl) (hK _ _ ?_)
  simp only [Act.put, List.setIfInBounds_toArray, List.set_cons_zero, List.set_cons_succ]
  refine wpList_plain rfl fun _ hK => op_run (.pointer (some ⟨p.b, 0, none⟩)) (by first | kernel_rfl | go_simp) (hK _ _ ?_)
  simp only [Act.put, List.setIfInBounds_toArray, List.set_cons_zero, List.set_cons_succ]
  refine wpList_plain rfl fun _ hK => op_run (.pointer (some ⟨p.b, 6, none⟩)) (by kernel_rfl) (hK _ _ ?_)
  simp only [Act.put, List.setIfInBounds_toArray, List.set_cons_zero, List.set_cons_succ]
  refine wpList_plain rfl fun _ hK => op_run (.pointer (some ⟨p.b, 6, none⟩)) (by kernel_rfl) (hK _ _ ?_)
  simp only [Act.put, List.setIfInBounds_toArray, List.set_cons_zero, List.set_cons_succ]
  refine wpList_plain rfl fun _ hK => op_run (.agg #[.int .u64 (d.next.te : Nat), .int .u64 (d.next.ts : Nat)]) (by go_simp) (hK _ _ ?_)
  simp only [Act.put, List.setIfInBounds_toArray, List.set_cons_zero, List.set_cons_succ]
  refine wpList_plain rfl fun _ hK => op_run (.int .i64 S) (by kernel_rfl) (hK _ _ ?_)
  simp only [Act.put, List.setIfInBounds_toArray, List.set_cons_zero, List.set_cons_succ]
  refine wpList_plain rfl fun _ hK => op_run (.pointer (some ⟨mb, 5, none⟩)) (by kernel_rfl) (hK _ _ ?_)
  simp only [Act.put, List.setIfInBounds_toArray, List.set_cons_zero, List.set_cons_succ]
  refine wpList_store_mid rfl 42 (.tmp 16) (.tmp 14) rfl mb 5 #[.int .u64 (d.next.te : Nat), .int .u64 (d.next.ts : Nat)] rfl rfl HT5.out HIT.out (by simp [Value.oneCell']) ?_
  rw [show (#[.int .u64 (d.next.te : Nat), .int .u64 (d.next.ts : Nat)] : Array Value).toList = [.int .u64 (d.next.te : Nat), .int .u64 (d.next.ts : Nat)] from rfl, HW3.out]
  simp only [Act.put]
  refine wpList_plain rfl fun _ hK => op_run (.pointer (some ⟨mb, 8, none⟩)) (by kernel_rfl) (hK _ _ ?_)
  simp only [Act.put, List.setIfInBounds_toArray, List.set_cons_zero, List.set_cons_succ]
  refine wpList_plain rfl fun _ hK => wp_store_cell 3 (.tmp 17) (.tmp 15) rfl mb 8 (.int .i64 S) y8 rfl rfl d8 f8 (by kernel_rfl) rfl (hK _ _ ?_)
  rw [HW4.out]
  simp only [Act.put]
  clear HT5 HW3 HW4 d8 f8 c6 c7 HIT
  have HS0 : Hid (MI w p d mb (wrM d S) W4.drew) := HM4.sin ((World.Since.refl _ _).drew)
  obtain ⟨ML, HML⟩ : ∃ x, Hid (mgL (wrM d S) none 0 = x) := ⟨_, rfl⟩
  have HRG : Hid (∀ W, MI w p d mb (wrM d S) W → W.rangeAt mb 0 ML) := fun W hW => by rw [← HML.out]; exact mgL_range hW.row
  have HIN : Hid ((Try.prog.info? 52).map (·.size) = some ML.length) := by rw [← HML.out]; exact infoMg' _ _ _
  have HTA : Hid (∀ W, MI w p d mb (wrM d S) W → Calls Try.prog 51 #[.pointer (some ⟨p.b, 0, none⟩), .map (some p.m1), .agg ML.toArray] W fun e w' => ∃ va vc, e = .returned (.slice va (toL d.L d.c1 (wrM d S)).length vc) ∧ Hid (MI w p d mb (wrM d S) w') ∧ Hid (WS w p d (.slice va (toL d.L d.c1 (wrM d S)).length vc) (toL d.L d.c1 (wrM d S)) (fun _ => 0) (fun _ => 0) 0 w')) := fun W hW => by
    have q := toAllBut_any hW.q hW.q.k1 (wrM d S)
    unfold mgV at q
    rw [HML.out] at q
    exact q.mono fun e w' ⟨v, he, ho, hs⟩ => by
      obtain ⟨va, vc, ev⟩ := ownM_form ho
      rw [ev] at he ho
      have hI := hW.sin hs
      exact ⟨va, vc, he, hI, hI.q, by rw [wl_zero]; exact ownM_mono ho (by have := hW.since.size; omega), fun j hj => absurd hj (Nat.not_lt_zero _), hI.since⟩
  have hbl : (toL d.L d.c1 (wrM d S)).length ≤ 1000 := Nat.le_trans (toL_len _ _ _) hl7
  obtain ⟨b, Hb⟩ : ∃ x, Hid (toL d.L d.c1 (wrM d S) = x) := ⟨_, rfl⟩
  rw [Hb.out] at HTA hbl
  clear HML HM4
  go_upto_region 3 with fail
  refine wp_region_held_drew (S := fun W => MI w p d mb (wrM d S) W) (by kernel_rfl) HS0.out fun _ => ?_
  refine wpAnyH_take (i := 0) (v := .pointer (some ⟨p.b, 0, none⟩)) rfl (by kernel_rfl) (by kernel_rfl) (by kernel_rfl) (fun _ _ _ h => h) (.inl ⟨rfl, fun W hW => by kernel_rfl⟩) HS0.out ?_
  simp only [List.getElem_toArray, List.getElem_cons_zero, Act.put, List.setIfInBounds_toArray, List.set_cons_zero, List.set_cons_succ]
  refine wpAnyH_take (i := 1) (v := .pointer (some ⟨p.b, 0, none⟩)) rfl (by kernel_rfl) (by kernel_rfl) (by kernel_rfl) (fun _ _ _ h => h) (.inl ⟨rfl, fun W hW => by kernel_rfl⟩) HS0.out ?_
  simp only [List.getElem_toArray, List.getElem_cons_zero, List.getElem_cons_succ, Act.put, List.setIfInBounds_toArray, List.set_cons_zero, List.set_cons_succ]
  refine wpAnyH_take (i := 2) (v := .pointer (some ⟨p.b, 0, none⟩)) rfl (by kernel_rfl) (by kernel_rfl) (by kernel_rfl) (fun _ _ _ h => h) (.inl ⟨rfl, fun W hW => by first | kernel_rfl | go_simp⟩) HS0.out ?_
  simp only [List.getElem_toArray, List.getElem_cons_zero, List.getElem_cons_succ, Act.put, List.setIfInBounds_toArray, List.set_cons_zero, List.set_cons_succ]
  refine wpAnyH_take (i := 3) (v := .pointer (some ⟨p.b, 14, none⟩)) rfl (by kernel_rfl) (by kernel_rfl) (by kernel_rfl) (fun _ _ _ h => h) (.inl ⟨rfl, fun W hW => by kernel_rfl⟩) HS0.out ?_
  simp only [List.getElem_toArray, List.getElem_cons_zero, List.getElem_cons_succ, Act.put, List.setIfInBounds_toArray, List.set_cons_zero, List.set_cons_succ]
  refine wpAnyH_take (i := 4) (v := .map (some p.m1)) rfl (by kernel_rfl) (by kernel_rfl) (by kernel_rfl) (fun _ _ _ h => h) (.inl ⟨rfl, fun W hW => by have c : W.cell? ⟨p.b, 14, none⟩ = some (.map (some p.m1)) := hW.q.cell 14 (by decide); go_simp⟩) HS0.out ?_
  simp only [List.getElem_toArray, List.getElem_cons_zero, List.getElem_cons_succ, Act.put, List.setIfInBounds_toArray, List.set_cons_zero, List.set_cons_succ]
  refine wpAnyH_take (i := 5) (v := .agg ML.toArray) rfl (by kernel_rfl) (by kernel_rfl) (by kernel_rfl) (fun _ _ _ h => h) (yieldsIf_load_mid rfl 52 (.tmp 5) rfl mb 0 rfl ML _ (fun W hW => HRG.out W hW) Try.underlying52 rfl HIN.out) HS0.out ?_
  simp only [List.getElem_toArray, List.getElem_cons_zero, List.getElem_cons_succ, Act.put, List.setIfInBounds_toArray, List.set_cons_zero, List.set_cons_succ]
  refine wpAnyH_ready (rs := [6]) (by kernel_rfl) (by simp) ?_
  refine AllReadyH.cons rfl (fun K hK => ?_) AllReadyH.nil
  refine step_callW rfl 51 #[.pointer (some ⟨p.b, 0, none⟩), .map (some p.m1), .agg ML.toArray] (by kernel_rfl) (HTA.out _ HS0.out) ?_
  rintro e w6 ⟨va, vc, rfl, HS6, HX0⟩
  refine ⟨_, rfl, hK.out _ _ HS6.out fun _ => ?_⟩
  clear hK
  simp only [List.getElem_toArray, List.getElem_cons_zero, List.getElem_cons_succ, Act.put, List.setIfInBounds_toArray, List.set_cons_zero, List.set_cons_succ]
  refine wpAnyH_take (i := 7) (v := .slice va b.length vc) rfl (by kernel_rfl) (by kernel_rfl) (by kernel_rfl) (fun _ _ _ h => h) (.inl ⟨rfl, fun W hW => by kernel_rfl⟩) HS6.out ?_
  simp only [List.getElem_toArray, List.getElem_cons_zero, List.getElem_cons_succ, Act.put, List.setIfInBounds_toArray, List.set_cons_zero, List.set_cons_succ]
  refine wpAnyH_done (by kernel_rfl) ?_ _
  clear HTA HRG HIN HS0 HS6
  go_wp2_with fail
  go_loopg [27] b.length (fun q s27 wx => ∃ (i : Nat) (G Cp : Nat → Nat), i ≤ b.length ∧ q = b.length - i ∧ s27 = .int .i64 (i : Nat) ∧ Hid (WS w p d (.slice va b.length vc) b G Cp i wx))
  case atStart => exact ⟨0, _, _, Nat.zero_le _, rfl, rfl, HX0⟩
  case round =>
    clear HX0
    obtain ⟨i, G, Cp, hi, rfl, rfl, HX⟩ := hrel
    by_cases hlt : i < b.length
    · have hz : (i : Int) < (b.length : Int) := by omega
      have hz0 : (0 : Int) ≤ (i : Int) := by omega
      have hwi : IntKind.i64.wrap ((i : Int) + 1) = (i : Int) + 1 := by rw [IntKind.wrap_i64]; omega
      have hme : b.length - (i + 1) < b.length - i := by omega
      obtain ⟨g, cap, C, V2, V3, y, ev, c8, HCV, cy, fy, HV3, HN⟩ := HX.out.step hlt
      obtain ⟨rfl, rfl⟩ : va = some ⟨g, 0, none⟩ ∧ vc = cap := by
        simp only [Value.slice.injEq] at ev
        exact ⟨ev.1, ev.2.2⟩
      generalize strL d.next.v = SV at *
      clear HX ev
      go_upto_region 7 with fail
      refine wp_region_lit ?_
      refine wpList_plain rfl fun _ hK => op_run (.slice (some ⟨g, 0, none⟩) b.length vc) (by kernel_rfl) (hK _ _ ?_)
      simp only [Act.put, List.setIfInBounds_toArray, List.set_cons_zero, List.set_cons_succ]
      refine wpList_plain rfl fun _ hK => op_run (.int .i64 (i : Nat)) (by kernel_rfl) (hK _ _ ?_)
      simp only [Act.put, List.setIfInBounds_toArray, List.set_cons_zero, List.set_cons_succ]
      refine wpList_plain rfl fun _ hK => op_run (.pointer (some ⟨p.b, 0, none⟩)) (by kernel_rfl) (hK _ _ ?_)
      simp only [Act.put, List.setIfInBounds_toArray, List.set_cons_zero, List.set_cons_succ]
      refine wpList_plain rfl fun _ hK => op_run (.pointer (some ⟨p.b, 0, none⟩)) (by first | kernel_rfl | go_simp) (hK _ _ ?_)
      simp only [Act.put, List.setIfInBounds_toArray, List.set_cons_zero, List.set_cons_succ]
      refine wpList_plain rfl fun _ hK => op_run (.pointer (some ⟨p.b, 6, none⟩)) (by kernel_rfl) (hK _ _ ?_)
      simp only [Act.put, List.setIfInBounds_toArray, List.set_cons_zero, List.set_cons_succ]
      refine wpList_plain rfl fun _ hK => op_run (.pointer (some ⟨p.b, 8, none⟩)) (by kernel_rfl) (hK _ _ ?_)
      simp only [Act.put, List.setIfInBounds_toArray, List.set_cons_zero, List.set_cons_succ]
      refine wpList_plain rfl fun _ hK => op_run (.string SV) (by go_simp) (hK _ _ ?_)
      simp only [Act.put, List.setIfInBounds_toArray, List.set_cons_zero, List.set_cons_succ]
      refine wpList_plain rfl fun _ hK => op_runW (w' := V2) (.slice (some ⟨wr.heap.size, 0, none⟩) d.next.v.length C) (by have r := HCV.out; go_simp) (hK _ _ ?_)
      simp only [Act.put, List.setIfInBounds_toArray, List.set_cons_zero, List.set_cons_succ]
      refine wpList_plain rfl fun _ hK => op_run (.pointer (some ⟨g, i * 22, none⟩)) (by go_simp) (hK _ _ ?_)
      simp only [Act.put, List.setIfInBounds_toArray, List.set_cons_zero, List.set_cons_succ]
      refine wpList_plain rfl fun _ hK => op_run (.pointer (some ⟨g, i * 22 + 10, none⟩)) (by kernel_rfl) (hK _ _ ?_)
      simp only [Act.put, List.setIfInBounds_toArray, List.set_cons_zero, List.set_cons_succ]
      refine wpList_plain rfl fun _ hK => wp_store_cell 43 (.tmp 39) (.tmp 37) rfl g (i * 22 + 10) (.slice (some ⟨wr.heap.size, 0, none⟩) d.next.v.length C) y rfl rfl cy fy (by kernel_rfl) rfl (hK _ _ ?_)
      rw [HV3.out]
      simp only [Act.put]
      clear HCV cy fy HV3 c8
      go_wp2_with fail
      go_roundg (b.length - (i + 1))
      case measure => go_light; exact hme
      case rel => go_light; exact (let ⟨G', Cp', hh⟩ := HN.out; ⟨i + 1, G', Cp', hlt, rfl, by simp, hh⟩)
    · obtain rfl : i = b.length := by omega
      have HE : Hid (∃ l, OwnM wr w.heap.size (.slice va b.length vc) l ∧ WrL w d b l wr ∧ w.Since w.heap.size wr) := ⟨_, HX.out.own, wl_all HX.out.val, HX.out.since⟩
      clear HX
      go_wp2_with fail
      go_ret
      exact (let ⟨l, h1, h2, h3⟩ := HE.out; ⟨_, l, rfl, h1, by rw [Hb.out]; exact h2, h3⟩)
end Go.Proofs.Ytkcjmjaikobpoaa

/- Package quorum: underWay, write, takeUp, what it tells of itself. -/
namespace Go.Proofs.Ytkcjmjaikobpoaa
open Go.RowKit Go.Maps
set_option maxRecDepth 100000
set_option maxRecDepth 100000

theorem WrL.mono {w w1 w' : World} {d : Qd} {b l : List Me} (h : WrL w1 d b l w') (hs : w.heap.size ≤ w1.heap.size) : WrL w d b l w' := ⟨h.ms, fun e he => by
  obtain ⟨g, h1, h2, h3⟩ := h.val e he
  exact ⟨g, h1, Nat.le_trans hs h2, h3⟩⟩
section
variable {w : World} {p : Qp} {d : Qd}
theorem phaseQ_any (h : QIs w p d) : Calls Try.prog 22 #[.pointer (some ⟨p.b, 0, none⟩)] w fun e w' => e = .returned (.int .i64 d.ph) ∧ w = w' := phase_any h.row
theorem holdsQ_any (h : QIs w p d) : Calls Try.prog 32 #[.pointer (some ⟨p.b, 0, none⟩)] w fun e w' => e = .returned (.bool (decide (d.ph = 3 ∨ (d.ph = 2 ∧ 1 < d.next.ts)))) ∧ w = w' := holds_any h.row
theorem majorQ_any (h : QIs w p d) (n : Nat) (hn : n ≤ 1000000000) : Calls Try.prog 25 #[.pointer (some ⟨p.b, 0, none⟩), .int .i64 (n : Nat)] w fun e w' => e = .returned (.bool (decide (d.L.length < 2 * n))) ∧ w = w' := majority_any h.row n hn
theorem epochQ_any (h : QIs w p d) : Calls Try.prog 37 #[.pointer (some ⟨p.b, 0, none⟩)] w fun e w' => e = .returned (.int .u64 (d.ep : Nat)) ∧ w = w' := by
  have c : w.cell? ⟨p.b, 5, none⟩ = some (.int .u64 (d.ep : Nat)) := h.cell 5 (by decide)
  clear h
  go_enter Try.func37, Try.ntmps37
  go_wp2
  go_ret
  exact ⟨rfl, rfl⟩
theorem seenQ_any (h : QIs w p d) : Calls Try.prog 38 #[.pointer (some ⟨p.b, 0, none⟩)] w fun e w' => e = .returned (.int .u64 (d.seen : Nat)) ∧ w = w' := by
  have c : w.cell? ⟨p.b, 3, none⟩ = some (.int .u64 (d.seen : Nat)) := h.cell 3 (by decide)
  clear h
  go_enter Try.func38, Try.ntmps38
  go_wp2
  go_ret
  exact ⟨rfl, rfl⟩
theorem roundQ_any (h : QIs w p d) : Calls Try.prog 35 #[.pointer (some ⟨p.b, 0, none⟩)] w fun e w' => e = .returned (.tuple #[.int .u64 (d.begun : Nat), .int .u64 (d.done : Nat)]) ∧ ∃ m, w' = w.drewN m := by
  have c : w.cell? ⟨p.b, 12, none⟩ = some (.int .u64 (d.begun : Nat)) := h.cell 12 (by decide)
  have c2 : w.cell? ⟨p.b, 13, none⟩ = some (.int .u64 (d.done : Nat)) := h.cell 13 (by decide)
  clear h
  go_enter Try.func35, Try.ntmps35
  go_upto_region 1 with fail
  first
    | (go_quiet (fail); go_wp2; go_ret2; exact ⟨rfl, _, rfl⟩)
    | (go_wp2; go_ret2; exact ⟨rfl, 0, rfl⟩)
theorem underWay_any (h : QIs w p d) : Calls Try.prog 57 #[.pointer (some ⟨p.b, 0, none⟩)] w fun e w' => e = .returned (.bool (decide (d.begun ≠ d.done))) ∧ ∃ m, w' = w.drewN m := by
  have c : w.cell? ⟨p.b, 12, none⟩ = some (.int .u64 (d.begun : Nat)) := h.cell 12 (by decide)
  have c2 : w.cell? ⟨p.b, 13, none⟩ = some (.int .u64 (d.done : Nat)) := h.cell 13 (by decide)
  clear h
  have e : decide (d.begun ≠ d.done) = ((d.begun : Int) != (d.done : Int)) := by
    by_cases h : d.begun = d.done
    · simp [h]
    · have : ((d.begun : Int) != (d.done : Int)) = true := bne_iff_ne.2 (by omega)
      rw [this, decide_eq_true h]
  rw [e]
  go_enter Try.func57, Try.ntmps57
  go_upto_region 1 with fail
  first
    | (go_quiet (fail); go_wp2; go_ret; exact ⟨rfl, _, rfl⟩)
    | (go_wp2; go_ret; exact ⟨rfl, 0, rfl⟩)
end
/-- A write has begun. -/
def wrtM (d : Qd) (q : Nat) (v : List Nat) : Qd := { d with ph := 2, next := ⟨d.ep, q, v⟩, c1 := [] }
set_option maxHeartbeats 1000000 in
theorem write_any {w : World} {p : Qp} {d : Qd} (h : QIs w p d) (q : Nat) (hq : q < 18446744073709551616) (v : List Nat) (hv : v.length ≤ 140737488351232) (hvb : ∀ x ∈ v, x < 256) (S : Int) :
    Calls Try.prog 30 #[.pointer (some ⟨p.b, 0, none⟩), .int .u64 (q : Nat), .string (strL v), .int .i64 S] w fun e w' => ∃ r l, e = .returned r ∧ OwnM w' w.heap.size r l ∧ WrL w (wrtM d q v) (toL d.L [] (wrM (wrtM d q v) S)) l w' ∧ QIs w' p (wrtM d q v) ∧ Bq p w w' := by
  obtain ⟨x4, c4⟩ : ∃ x, w.cell? ⟨p.b, 4, none⟩ = some x := ⟨_, h.cell 4 (by decide)⟩
  have f4 := h.fz 4
  obtain ⟨q1, b1⟩ := h.setPh 2 (by decide)
  obtain ⟨W1, HW1⟩ : ∃ W, Hid (w.setCell ⟨p.b, 4, none⟩ (.int .i64 2) = W) := ⟨_, rfl⟩
  rw [HW1.out] at q1 b1
  have c5 : W1.cell? ⟨p.b, 5, none⟩ = some (.int .u64 (d.ep : Nat)) := q1.cell 5 (by decide)
  obtain ⟨q2, b2⟩ := q1.setNext ⟨d.ep, q, v⟩ ⟨h.ok.ep, hq, hv, hvb⟩
  have HT : Hid (W1.there p.b 6 (tvA ⟨d.ep, q, v⟩).size) := q1.there 6 3 (by decide)
  obtain ⟨W2, HW2⟩ : ∃ W, Hid (W1.setCells p.b 6 (tvA ⟨d.ep, q, v⟩).toList = W) := ⟨_, rfl⟩
  rw [HW2.out] at q2 b2
  have k1 : W2.cell? ⟨p.b, 14, none⟩ = some (.map (some p.m1)) := q2.cell 14 (by decide)
  obtain ⟨W3, r3, q3, b3⟩ := q2.clear1 0
  have HI : Hid ((Try.prog.info? 78).map (·.size) = some (tvA ⟨d.ep, q, v⟩).size) := infoTv
  have HA : Hid ((tvA ⟨d.ep, q, v⟩).all (·.oneCell') = true) := allTv _
  have hb : Bq p w W3 := (b1.trans b2).trans b3
  have HC : Hid (Calls Try.prog 31 #[.pointer (some ⟨p.b, 0, none⟩), .int .i64 S] W3 fun e w' => ∃ r, e = .returned r ∧ Hid (∃ l, OwnM w' w.heap.size r l ∧ WrL w (wrtM d q v) (toL d.L [] (wrM (wrtM d q v) S)) l w' ∧ QIs w' p (wrtM d q v) ∧ Bq p w w')) :=
    (writes_any q3 S).mono fun e w' ⟨r, l, he, ho, hl, hs⟩ => ⟨r, he, l, ownM_mono ho hb.size, hl.mono hb.size, q3.since hs, hb.sin hs⟩
  have r3 := r3.out
  clear q1 q2 q3 b1 b2 b3 hb h
  unfold tvA at HT HW2 HI HA
  generalize strL v = SV at *
  generalize p.b = B at *
  go_enter Try.func30, Try.ntmps30
  go_upto_region 2 with fail
  rw [HW1.out]
  clear HW1 c4 f4
  go_upto_region 3 with (refine wpList_store_mid rfl 78 (.tmp 22) (.tmp 20) rfl B 6 _ (by rfl) (by rfl) HT.out HI.out HA.out ?_; rw [HW2.out])
  clear HW2 HT HI HA c5
  go_wp2_with (go_at_call 31; refine HC.out.mono ?_; rintro e w4 ⟨r, rfl, HE⟩)
  go_ret
  exact (let ⟨l, hh⟩ := HE.out; ⟨r, l, rfl, hh⟩)
theorem takeUp_any {w : World} {p : Qp} {d : Qd} (h : QIs w p d) (S : Int) :
    Calls Try.prog 26 #[.pointer (some ⟨p.b, 0, none⟩), .int .i64 S] w fun e w' => ∃ r l, e = .returned r ∧ OwnM w' w.heap.size r l ∧ WrL w (wrtM d 1 d.next.v) (toL d.L [] (wrM (wrtM d 1 d.next.v) S)) l w' ∧ QIs w' p (wrtM d 1 d.next.v) ∧ Bq p w w' := by
  have c8 : w.cell? ⟨p.b, 8, none⟩ = some (.string (strL d.next.v)) := h.cell 8 (by decide)
  have HC : Hid (Calls Try.prog 30 #[.pointer (some ⟨p.b, 0, none⟩), .int .u64 1, .string (strL d.next.v), .int .i64 S] w fun e w' => ∃ r, e = .returned r ∧ Hid (∃ l, OwnM w' w.heap.size r l ∧ WrL w (wrtM d 1 d.next.v) (toL d.L [] (wrM (wrtM d 1 d.next.v) S)) l w' ∧ QIs w' p (wrtM d 1 d.next.v) ∧ Bq p w w')) :=
    (write_any h 1 (by decide) d.next.v h.ok.next.len h.ok.next.byte S).mono fun e w' ⟨r, l, he, hh⟩ => ⟨r, he, l, hh⟩
  clear h
  generalize strL d.next.v = SV at *
  go_enter Try.func26, Try.ntmps26
  go_wp2_with (go_at_call 30; refine HC.out.mono ?_; rintro e w4 ⟨r, rfl, HE⟩)
  go_ret
  exact (let ⟨l, hh⟩ := HE.out; ⟨r, l, rfl, hh⟩)
end Go.Proofs.Ytkcjmjaikobpoaa

/- Package quorum: what is told, as plain data; Start. -/
namespace Go.Proofs.Ytkcjmjaikobpoaa
open Go.RowKit Go.Maps
set_option maxRecDepth 100000
set_option maxRecDepth 100000

/-- Where the value of a message lies: nowhere, or in new memory. -/
def AnV (lo : Nat) (w : World) (a : Mg) (ga : Option Addr) (gc : Nat) : Prop := (ga = none ∧ gc = 0 ∧ a.s 10 = []) ∨ ∃ g, ga = some ⟨g, 0, none⟩ ∧ lo ≤ g ∧ FlB w g gc (strL (a.s 10))
theorem AnV.on {lo lo' : Nat} {w w' : World} {a : Mg} {ga : Option Addr} {gc : Nat} (h : AnV lo w a ga gc) (hl : lo' ≤ lo) (hb : ∀ g, lo ≤ g → g < w.heap.size → w'.heap[g]? = w.heap[g]?) : AnV lo' w' a ga gc := by
  rcases h with h | ⟨g, h1, h2, h3⟩
  · exact .inl h
  · exact .inr ⟨g, h1, Nat.le_trans hl h2, h3.on (hb g h2 h3.lt')⟩
/-- A list of messages that is told. -/
def OutM (B : Nat) (w' : World) (r : Value) (ms : List Mg) : Prop := ∃ l : List Me, OwnM w' B r l ∧ l.map (fun e => e.m) = ms ∧ ∀ e ∈ l, AnV B w' e.m e.va e.vc
def toMs (L C : List Int) (m : Mg) : List Mg := (L.filter (fun x => !decide (x ∈ C))).map (fun x => m.setN 2 x)
def prepMs (d : Qd) : List Mg := toMs d.L [d.node] (prM d)
def beatMs (d : Qd) (S : Int) : List Mg := toMs d.L d.c2 (beM d S)
def writeMs (d : Qd) (S : Int) : List Mg := (toMs d.L d.c1 (wrM d S)).map (fun m => m.setS 10 d.next.v)
theorem toL_ms (L C : List Int) (m : Mg) : (toL L C m).map (fun e => e.m) = toMs L C m := by simp [toL, toMs]
theorem OutM.nil (B : Nat) (w : World) : OutM B w (.slice none 0 0) [] := ⟨[], ownM_nil w B, rfl, fun _ he => absurd he List.not_mem_nil⟩
theorem OutM.of_toL {B : Nat} {w' : World} {r : Value} {L C : List Int} {m : Mg} (h : OwnM w' B r (toL L C m)) (hm : m.s 10 = []) : OutM B w' r (toMs L C m) :=
  ⟨_, h, toL_ms _ _ _, fun e he => by
    simp only [toL, List.mem_map] at he
    obtain ⟨x, _, rfl⟩ := he
    exact .inl ⟨rfl, rfl, hm⟩⟩
theorem OutM.of_wr {w w' : World} {r : Value} {d : Qd} {l : List Me} {C : List Int} {m : Mg} (h : OwnM w' w.heap.size r l) (hl : WrL w d (toL d.L C m) l w') : OutM w.heap.size w' r ((toMs d.L C m).map (fun m => m.setS 10 d.next.v)) := by
  refine ⟨l, h, ?_, fun e he => ?_⟩
  · rw [hl.ms, ← toL_ms, List.map_map]
    rfl
  · obtain ⟨g, h1, h2, h3⟩ := hl.val e he
    have hs : e.m.s 10 = d.next.v := by
      have : e.m ∈ l.map (fun e => e.m) := List.mem_map_of_mem he
      rw [hl.ms, List.mem_map] at this
      obtain ⟨x, _, hx⟩ := this
      rw [← hx]
      rfl
    exact .inr ⟨g, h1, h2, by rw [hs]; exact h3⟩
theorem OutM.on {B : Nat} {w w' : World} {r : Value} {ms : List Mg} (h : OutM B w r ms) {B' : Nat} (hB : B' ≤ B) (hb : ∀ g, B ≤ g → g < w.heap.size → w'.heap[g]? = w.heap[g]?) : OutM B' w' r ms := by
  obtain ⟨l, h1, h2, h3⟩ := h
  exact ⟨l, ownM_mono (ownM_on h1 hb) hB, h2, fun e he => (h3 e he).on hB hb⟩
theorem OutM.sin {B : Nat} {w w' : World} {r : Value} {ms : List Mg} (h : OutM B w r ms) (hs : w.Since w.heap.size w') : OutM B w' r ms := h.on (Nat.le_refl _) (fun g _ hg => hs.block g hg)
section
variable {w : World} {p : Qp} {d : Qd}
theorem prep_any (h : QIs w p d) : Calls Try.prog 27 #[.pointer (some ⟨p.b, 0, none⟩)] w fun e w' => ∃ r, e = .returned r ∧ OutM w.heap.size w' r (prepMs d) ∧ QIs w' p d ∧ Bq p w w' :=
  (prepares_any h).mono fun _ _ ⟨v, he, ho, hs⟩ => ⟨v, he, OutM.of_toL ho rfl, h.since hs, Bq.of_since hs⟩
theorem beat_any (h : QIs w p d) (S : Int) : Calls Try.prog 58 #[.pointer (some ⟨p.b, 0, none⟩), .int .i64 S] w fun e w' => ∃ r, e = .returned r ∧ OutM w.heap.size w' r (beatMs d S) ∧ QIs w' p d ∧ Bq p w w' :=
  (beats_any h S).mono fun _ _ ⟨v, he, ho, hs⟩ => ⟨v, he, OutM.of_toL ho rfl, h.since hs, Bq.of_since hs⟩
theorem wr_any (h : QIs w p d) (S : Int) : Calls Try.prog 31 #[.pointer (some ⟨p.b, 0, none⟩), .int .i64 S] w fun e w' => ∃ r, e = .returned r ∧ OutM w.heap.size w' r (writeMs d S) ∧ QIs w' p d ∧ Bq p w w' :=
  (writes_any h S).mono fun _ _ ⟨v, _, he, ho, hl, hs⟩ => ⟨v, he, OutM.of_wr ho hl, h.since hs, Bq.of_since hs⟩
theorem wrt_any (h : QIs w p d) (q : Nat) (hq : q < 18446744073709551616) (v : List Nat) (hv : v.length ≤ 140737488351232) (hvb : ∀ x ∈ v, x < 256) (S : Int) : Calls Try.prog 30 #[.pointer (some ⟨p.b, 0, none⟩), .int .u64 (q : Nat), .string (strL v), .int .i64 S] w fun e w' => ∃ r, e = .returned r ∧ OutM w.heap.size w' r (writeMs (wrtM d q v) S) ∧ QIs w' p (wrtM d q v) ∧ Bq p w w' :=
  (write_any h q hq v hv hvb S).mono fun _ _ ⟨r, _, he, ho, hl, hq, hb⟩ => ⟨r, he, OutM.of_wr ho hl, hq, hb⟩
theorem take_any (h : QIs w p d) (S : Int) : Calls Try.prog 26 #[.pointer (some ⟨p.b, 0, none⟩), .int .i64 S] w fun e w' => ∃ r, e = .returned r ∧ OutM w.heap.size w' r (writeMs (wrtM d 1 d.next.v) S) ∧ QIs w' p (wrtM d 1 d.next.v) ∧ Bq p w w' :=
  (takeUp_any h S).mono fun _ _ ⟨r, _, he, ho, hl, hq, hb⟩ => ⟨r, he, OutM.of_wr ho hl, hq, hb⟩
end
end Go.Proofs.Ytkcjmjaikobpoaa

/- Package quorum: Start, round, Propose. -/
namespace Go.Proofs.Ytkcjmjaikobpoaa
open Go.RowKit Go.Maps
set_option maxRecDepth 100000
set_option maxRecDepth 100000

/-- Start, ahead of what it tells. -/
def begM (d : Qd) (E : Nat) (t : Tv) : Qd := { stopM d with ph := 1, ep := E, next := t, c1 := [d.node] }
def startM (d : Qd) (E : Nat) (t : Tv) (S : Int) : Qd × List Mg := if d.L.length < 2 then (wrtM (begM d E t) 1 t.v, writeMs (wrtM (begM d E t) 1 t.v) S) else (begM d E t, prepMs (begM d E t))
theorem qm_no8 (d : Qd) (p : Qp) (i : Nat) (hi : i < 17) (n : Int) : qmCell (d.q p) i ≠ .int .u8 n := by
  match i, hi with
  | 0, _ => show (Value.int .i64 d.node) ≠ .int .u8 n; simp
  | 1, _ => show (Value.int .i64 d.shard) ≠ .int .u8 n; simp
  | 2, _ => show (Value.slice (some ⟨p.cb, 0, none⟩) d.L.length p.cc) ≠ .int .u8 n; simp
  | 3, _ => show (Value.int .u64 (d.seen : Nat)) ≠ .int .u8 n; simp
  | 4, _ => show (Value.int .i64 d.ph) ≠ .int .u8 n; simp
  | 5, _ => show (Value.int .u64 (d.ep : Nat)) ≠ .int .u8 n; simp
  | 6, _ => show (Value.int .u64 (d.next.te : Nat)) ≠ .int .u8 n; simp
  | 7, _ => show (Value.int .u64 (d.next.ts : Nat)) ≠ .int .u8 n; simp
  | 8, _ => show (Value.string (strL d.next.v)) ≠ .int .u8 n; simp
  | 9, _ => show (Value.int .u64 (d.chosen.te : Nat)) ≠ .int .u8 n; simp
  | 10, _ => show (Value.int .u64 (d.chosen.ts : Nat)) ≠ .int .u8 n; simp
  | 11, _ => show (Value.string (strL d.chosen.v)) ≠ .int .u8 n; simp
  | 12, _ => show (Value.int .u64 (d.begun : Nat)) ≠ .int .u8 n; simp
  | 13, _ => show (Value.int .u64 (d.done : Nat)) ≠ .int .u8 n; simp
  | 14, _ => show (Value.map (some p.m1)) ≠ .int .u8 n; simp
  | 15, _ => show (Value.map (some p.m2)) ≠ .int .u8 n; simp
  | 16, _ => show (Value.map (some p.m3)) ≠ .int .u8 n; simp
  | n + 17, hh => exact absurd hh (by omega)
theorem byt_bq {w w' : World} {p : Qp} {d : Qd} {va : Option Addr} {n : Nat} {x : Nat → Nat} (h : QIs w p d) (hb : Bq p w w') (hv : Byt w va n x) : Byt w' va n x := fun j hj => by
  obtain ⟨g, off, e, hc⟩ := hv j hj
  have hl := World.block_lt_of_cell? _ _ hc
  refine ⟨g, off, e, ?_⟩
  have h0 : g ≠ p.b := fun e => by
    subst e
    by_cases hi : off + j < 17
    · rw [h.cell _ hi] at hc
      exact qm_no8 d p _ hi _ (Option.some.inj hc)
    · obtain ⟨cs, h1, h2, h3⟩ := h.row
      simp only [World.cell?, h1] at hc
      rw [Array.getElem?_eq_none (by omega)] at hc
      exact absurd hc (by simp)
  have hm : ∀ (m : Nat) (C : List Int), Cr w m C → g ≠ m := fun m C hC e => by
    subst e
    obtain ⟨D, ⟨es, clock, hb, _⟩, _⟩ := hC.own
    simp [World.cell?, hb] at hc
  rw [World.cell?_of_block (a := ⟨g, off + j, none⟩) (hb.block g hl h0 (hm _ _ h.k1) (hm _ _ h.k2) (hm _ _ h.k3))]
  exact hc
end Go.Proofs.Ytkcjmjaikobpoaa

/- Package quorum: Start. -/
namespace Go.Proofs.Ytkcjmjaikobpoaa
open Go.RowKit Go.Maps
set_option maxRecDepth 100000
set_option maxRecDepth 100000

theorem Bq.cell {p : Qp} {w w' : World} {a : Addr} {v : Value} (h : Bq p w w') (hc : w.cell? a = some v) (h0 : a.block ≠ p.b) (h1 : a.block ≠ p.m1) (h2 : a.block ≠ p.m2) (h3 : a.block ≠ p.m3) : w'.cell? a = some v := by
  rw [World.cell?_of_block (h.block _ (World.block_lt_of_cell? _ _ hc) h0 h1 h2 h3)]
  exact hc
set_option maxHeartbeats 4000000 in
theorem start_any {w : World} {p : Qp} {d : Qd} (h : QIs w p d) (E : Nat) (hE : E < 18446744073709551616) (P te ts : Nat) (hte : te < 18446744073709551616) (hts : ts < 18446744073709551616) (va : Option Addr) (n vc : Nat) (x : Nat → Nat) (hb : Byt w va n x) (hx : ∀ j, x j < 256) (hnil : va = none → n = 0) (hn : n ≤ 140737488351232) (S : Int) :
    Calls Try.prog 10 #[.pointer (some ⟨p.b, 0, none⟩), .int .u64 (E : Nat), .agg #[.int .u64 (P : Nat), .int .u64 (te : Nat), .int .u64 (ts : Nat), .slice va n vc], .int .i64 S] w fun e w' => ∃ r, e = .returned r ∧ OutM w.heap.size w' r (startM d E ⟨te, ts, (List.range n).map x⟩ S).2 ∧ QIs w' p (startM d E ⟨te, ts, (List.range n).map x⟩ S).1 ∧ Bq p w w' := by
  obtain ⟨V, hV⟩ : ∃ V, (List.range n).map x = V := ⟨_, rfl⟩
  have hVl : V.length ≤ 140737488351232 := by rw [← hV]; simpa using hn
  have hVb : ∀ y ∈ V, y < 256 := fun y hy => by
    rw [← hV] at hy
    obtain ⟨j, _, rfl⟩ := List.mem_map.1 hy
    exact hx j
  have htv : Tv.ok ⟨te, ts, V⟩ := ⟨hte, hts, hVl, hVb⟩
  rw [hV]
  obtain ⟨W0, HW0⟩ : ∃ W, Hid (w.alloc (.cells #[.int .u64 (P : Nat), .int .u64 (te : Nat), .int .u64 (ts : Nat), .slice va n vc] 45) = W) := ⟨_, rfl⟩
  have s0 : w.Since w.heap.size W0 := by rw [← HW0.out]; exact (World.Since.refl _ _).alloc (Nat.le_refl _) _
  have z0 : W0.heap.size = w.heap.size + 1 := by rw [← HW0.out]; simp
  have r1 : W0.cell? ⟨w.heap.size, 1, none⟩ = some (.int .u64 (te : Nat)) := by rw [← HW0.out]; simp
  have r2 : W0.cell? ⟨w.heap.size, 2, none⟩ = some (.int .u64 (ts : Nat)) := by rw [← HW0.out]; simp
  have r3 : W0.cell? ⟨w.heap.size, 3, none⟩ = some (.slice va n vc) := by rw [← HW0.out]; simp
  have q0 := h.since s0
  have hb0 := hb.since s0
  obtain ⟨l1, l2, l3, l4, l5⟩ := h.lts
  have hL := h.ok.l7
  have hnl := h.ok.node
  obtain ⟨sb, Hsb⟩ : ∃ x, Hid (w.heap.size = x) := ⟨_, rfl⟩
  rw [Hsb.out] at r1 r2 r3 l1 l2 l3 l4 l5
  have HST : Hid (Calls Try.prog 15 #[.pointer (some ⟨p.b, 0, none⟩)] W0 fun e w1 => e = .returned (.tuple #[]) ∧ ∃ (x4 x5 : Value) (W2 W3 : World), w1.cell? ⟨p.b, 4, none⟩ = some x4 ∧ w1.frozen? ⟨p.b, 4, none⟩ = false ∧ w1.cell? ⟨p.b, 5, none⟩ = some x5 ∧ w1.frozen? ⟨p.b, 5, none⟩ = false ∧ Hid ((w1.setCell ⟨p.b, 4, none⟩ (.int .i64 1)).setCell ⟨p.b, 5, none⟩ (.int .u64 (E : Nat)) = W2) ∧
      W2.cell? ⟨sb, 1, none⟩ = some (.int .u64 (te : Nat)) ∧ W2.cell? ⟨sb, 2, none⟩ = some (.int .u64 (ts : Nat)) ∧ W2.cell? ⟨sb, 3, none⟩ = some (.slice va n vc) ∧ Hid ((convert 43 9 (.slice va n vc)).run Try.prog W2 = .ok (.string (strL V)) W2) ∧ Hid (W2.there p.b 6 (tvA ⟨te, ts, V⟩).size) ∧ Hid (W2.setCells p.b 6 (tvA ⟨te, ts, V⟩).toList = W3) ∧ Hid (QIs W3 p { begM d E ⟨te, ts, V⟩ with c1 := [] } ∧ Bq p w W3)) :=
    (stop_any q0).mono fun e w1 ⟨he, q1, b1⟩ => by
      obtain ⟨q2, b2⟩ := q1.setPh 1 (by decide)
      obtain ⟨q3, b3⟩ := q2.setEp E hE
      have b03 := (b1.trans b2).trans b3
      have hbW := byt_bq q0 b03 hb0
      have hcv := str_byt va n vc x _ hbW hnil
      rw [strOf_strL, hV] at hcv
      obtain ⟨q4, b4⟩ := q3.setNext ⟨te, ts, V⟩ htv
      refine ⟨he, _, _, _, _, q1.cell 4 (by decide), q1.fz 4, q1.cell 5 (by decide), q1.fz 5, rfl, b03.cell r1 (by show sb ≠ _; omega) (by show sb ≠ _; omega) (by show sb ≠ _; omega) (by show sb ≠ _; omega), b03.cell r2 (by show sb ≠ _; omega) (by show sb ≠ _; omega) (by show sb ≠ _; omega) (by show sb ≠ _; omega), b03.cell r3 (by show sb ≠ _; omega) (by show sb ≠ _; omega) (by show sb ≠ _; omega) (by show sb ≠ _; omega), hcv, q3.there 6 3 (by decide), rfl, q4, ?_⟩
      exact (Bq.of_since s0).trans (b03.trans b4)
  have HI : Hid ((Try.prog.info? 78).map (·.size) = some (tvA ⟨te, ts, V⟩).size) := infoTv
  have HA : Hid ((tvA ⟨te, ts, V⟩).all (·.oneCell') = true) := allTv _
  clear s0 q0 hb0 r1 r2 r3 z0 l1 l2 l3 l4 l5 hb hx hVb htv h
  unfold tvA at HST HI HA
  go_enter Try.func10, Try.ntmps10
  go_upto_region 1 with fail
  rw [HW0.out, Hsb.out]
  go_upto_region 3 with (go_at_call 15; refine HST.out.mono ?_; rintro e w1 ⟨rfl, x4, x5, W2, W3, c4, f4, c5, f5, HW2, r1, r2, r3, HCV, HT, HW3, HQ⟩)
  rw [HW2.out]
  clear HW2 c4 f4 c5 f5 HST HW0
  have hcv := HCV.out
  generalize strL V = SV at *
  go_upto_region 4 with (refine wpList_store_mid rfl 78 (.tmp 26) (.tmp 24) rfl p.b 6 _ (by rfl) (by rfl) HT.out HI.out HA.out ?_; rw [HW3.out])
  clear HW3 HT HI HA hcv HCV r1 r2 r3
  have hS : ∀ {W : World} {D : Qd}, QIs W p D → D.node = d.node → W.cell? ⟨p.b, 14, none⟩ = some (.map (some p.m1)) ∧ W.cell? ⟨p.b, 0, none⟩ = some (.int .i64 d.node) := fun {W D} q e => ⟨q.cell 14 (by decide), by rw [← e]; exact q.cell 0 (by decide)⟩
  have hd : W3.Since W3.heap.size W3.drew := (World.Since.refl _ _).drew
  have qd := HQ.out.1.since hd
  have HS0 : Hid (W3.drew.cell? ⟨p.b, 14, none⟩ = some (.map (some p.m1)) ∧ W3.drew.cell? ⟨p.b, 0, none⟩ = some (.int .i64 d.node)) := hS qd rfl
  have HAD : Hid (Calls Try.prog 24 #[.map (some p.m1), .int .i64 d.node] W3.drew fun e w4 => e = .returned (.bool true) ∧ Hid (w4.cell? ⟨p.b, 14, none⟩ = some (.map (some p.m1)) ∧ w4.cell? ⟨p.b, 0, none⟩ = some (.int .i64 d.node)) ∧ Hid (QIs w4 p (begM d E ⟨te, ts, V⟩) ∧ Bq p w w4)) :=
    (qd.add1 d.node hnl).mono fun e w4 ⟨he, q, b⟩ => ⟨he, hS q rfl, q, (HQ.out.2.sin hd).trans b⟩
  clear hS hd qd
  refine wp_region_held_drew (S := fun W => W.cell? ⟨p.b, 14, none⟩ = some (.map (some p.m1)) ∧ W.cell? ⟨p.b, 0, none⟩ = some (.int .i64 d.node)) (by kernel_rfl) HS0.out fun _ => ?_
  refine wpAnyH_take (i := 0) (v := .pointer (some ⟨p.b, 0, none⟩)) rfl (by kernel_rfl) (by kernel_rfl) (by kernel_rfl) (fun _ _ _ h => h) (.inl ⟨rfl, fun W hW => by kernel_rfl⟩) HS0.out ?_
  simp only [List.getElem_toArray, List.getElem_cons_zero, Act.put, List.setIfInBounds_toArray, List.set_cons_zero, List.set_cons_succ]
  refine wpAnyH_take (i := 1) (v := .pointer (some ⟨p.b, 0, none⟩)) rfl (by kernel_rfl) (by kernel_rfl) (by kernel_rfl) (fun _ _ _ h => h) (.inl ⟨rfl, fun W hW => by first | kernel_rfl | go_simp⟩) HS0.out ?_
  simp only [List.getElem_toArray, List.getElem_cons_zero, List.getElem_cons_succ, Act.put, List.setIfInBounds_toArray, List.set_cons_zero, List.set_cons_succ]
  refine wpAnyH_take (i := 2) (v := .pointer (some ⟨p.b, 14, none⟩)) rfl (by kernel_rfl) (by kernel_rfl) (by kernel_rfl) (fun _ _ _ h => h) (.inl ⟨rfl, fun W hW => by kernel_rfl⟩) HS0.out ?_
  simp only [List.getElem_toArray, List.getElem_cons_zero, List.getElem_cons_succ, Act.put, List.setIfInBounds_toArray, List.set_cons_zero, List.set_cons_succ]
  refine wpAnyH_take (i := 3) (v := .map (some p.m1)) rfl (by kernel_rfl) (by kernel_rfl) (by kernel_rfl) (fun _ _ _ h => h) (.inl ⟨rfl, fun W hW => by have c := hW.1; go_simp⟩) HS0.out ?_
  simp only [List.getElem_toArray, List.getElem_cons_zero, List.getElem_cons_succ, Act.put, List.setIfInBounds_toArray, List.set_cons_zero, List.set_cons_succ]
  refine wpAnyH_take (i := 4) (v := .pointer (some ⟨p.b, 0, none⟩)) rfl (by kernel_rfl) (by kernel_rfl) (by kernel_rfl) (fun _ _ _ h => h) (.inl ⟨rfl, fun W hW => by kernel_rfl⟩) HS0.out ?_
  simp only [List.getElem_toArray, List.getElem_cons_zero, List.getElem_cons_succ, Act.put, List.setIfInBounds_toArray, List.set_cons_zero, List.set_cons_succ]
  refine wpAnyH_take (i := 5) (v := .pointer (some ⟨p.b, 0, none⟩)) rfl (by kernel_rfl) (by kernel_rfl) (by kernel_rfl) (fun _ _ _ h => h) (.inl ⟨rfl, fun W hW => by first | kernel_rfl | go_simp⟩) HS0.out ?_
  simp only [List.getElem_toArray, List.getElem_cons_zero, List.getElem_cons_succ, Act.put, List.setIfInBounds_toArray, List.set_cons_zero, List.set_cons_succ]
  refine wpAnyH_take (i := 6) (v := .pointer (some ⟨p.b, 0, none⟩)) rfl (by kernel_rfl) (by kernel_rfl) (by kernel_rfl) (fun _ _ _ h => h) (.inl ⟨rfl, fun W hW => by kernel_rfl⟩) HS0.out ?_
  simp only [List.getElem_toArray, List.getElem_cons_zero, List.getElem_cons_succ, Act.put, List.setIfInBounds_toArray, List.set_cons_zero, List.set_cons_succ]
  refine wpAnyH_take (i := 7) (v := .int .i64 d.node) rfl (by kernel_rfl) (by kernel_rfl) (by kernel_rfl) (fun _ _ _ h => h) (.inl ⟨rfl, fun W hW => by have c := hW.2; go_simp⟩) HS0.out ?_
  simp only [List.getElem_toArray, List.getElem_cons_zero, List.getElem_cons_succ, Act.put, List.setIfInBounds_toArray, List.set_cons_zero, List.set_cons_succ]
  refine wpAnyH_ready (rs := [8]) (by kernel_rfl) (by simp) ?_
  refine AllReadyH.cons rfl (fun K hK => ?_) AllReadyH.nil
  refine step_callW rfl 24 #[.map (some p.m1), .int .i64 d.node] (by kernel_rfl) HAD.out ?_
  rintro e w4 ⟨rfl, HS4, HQ4⟩
  refine ⟨_, rfl, hK.out _ _ HS4.out fun _ => ?_⟩
  clear hK HAD HS0 HQ
  simp only [List.getElem_toArray, List.getElem_cons_zero, List.getElem_cons_succ, Act.put, List.setIfInBounds_toArray, List.set_cons_zero, List.set_cons_succ]
  refine wpAnyH_done (by kernel_rfl) ?_ _
  have k1 := HS4.out.1
  have hlen : ∀ ty, (Builtin.len_ #[76] ty #[.map (some p.m1)]).run Try.prog w4 = .ok (.int .i64 1) w4 := fun ty => HQ4.out.1.len1 ty
  have HMJ : Hid (Calls Try.prog 25 #[.pointer (some ⟨p.b, 0, none⟩), .int .i64 1] w4 fun e w' => e = .returned (.bool (decide (d.L.length < 2))) ∧ w4 = w') := majorQ_any HQ4.out.1 1 (by decide)
  have HTK : Hid (Calls Try.prog 26 #[.pointer (some ⟨p.b, 0, none⟩), .int .i64 S] w4 fun e w' => ∃ r, e = .returned r ∧ Hid (OutM w.heap.size w' r (writeMs (wrtM (begM d E ⟨te, ts, V⟩) 1 V) S) ∧ QIs w' p (wrtM (begM d E ⟨te, ts, V⟩) 1 V) ∧ Bq p w w')) :=
    (take_any HQ4.out.1 S).mono fun e w' ⟨r, he, ho, hq, hb⟩ => ⟨r, he, ho.on HQ4.out.2.size (fun _ _ _ => rfl), hq, HQ4.out.2.trans hb⟩
  have HPR : Hid (Calls Try.prog 27 #[.pointer (some ⟨p.b, 0, none⟩)] w4 fun e w' => ∃ r, e = .returned r ∧ Hid (OutM w.heap.size w' r (prepMs (begM d E ⟨te, ts, V⟩)) ∧ QIs w' p (begM d E ⟨te, ts, V⟩) ∧ Bq p w w')) :=
    (prep_any HQ4.out.1).mono fun e w' ⟨r, he, ho, hq, hb⟩ => ⟨r, he, ho.on HQ4.out.2.size (fun _ _ _ => rfl), hq, HQ4.out.2.trans hb⟩
  clear HQ4 HS4
  by_cases hl : d.L.length < 2
  · rw [decide_eq_true hl] at HMJ
    have HSM : Hid (startM d E ⟨te, ts, V⟩ S = (wrtM (begM d E ⟨te, ts, V⟩) 1 V, writeMs (wrtM (begM d E ⟨te, ts, V⟩) 1 V) S)) := if_pos hl
    clear HPR hl
    go_wp2_with (first
      | (go_at_call 25; refine HMJ.out.mono ?_; rintro e w5 ⟨rfl, rfl⟩)
      | (go_at_call 26; refine HTK.out.mono ?_; rintro e w6 ⟨r, rfl, HE⟩))
    go_ret
    rw [HSM.out]
    exact ⟨r, rfl, HE.out⟩
  · rw [decide_eq_false hl] at HMJ
    have HSM : Hid (startM d E ⟨te, ts, V⟩ S = (begM d E ⟨te, ts, V⟩, prepMs (begM d E ⟨te, ts, V⟩))) := if_neg hl
    clear HTK hl
    go_wp2_with (first
      | (go_at_call 25; refine HMJ.out.mono ?_; rintro e w5 ⟨rfl, rfl⟩)
      | (go_at_call 27; refine HPR.out.mono ?_; rintro e w6 ⟨r, rfl, HE⟩))
    go_ret
    rw [HSM.out]
    exact ⟨r, rfl, HE.out⟩
end Go.Proofs.Ytkcjmjaikobpoaa

/- Package quorum: round, Propose. -/
namespace Go.Proofs.Ytkcjmjaikobpoaa
open Go.RowKit Go.Maps
set_option maxRecDepth 100000
set_option maxRecDepth 100000

/-- A round is begun. -/
def rdM (d : Qd) : Qd := { d with begun := d.begun + 1, c2 := [] }
def roundM (d : Qd) (S : Int) : Qd × List Mg := if d.begun = d.done then (if 1099511627776 ≤ d.begun then (d, []) else (rdM d, beatMs (rdM d) S)) else (d, beatMs d S)
theorem drewN_since (w : World) (m : Nat) : w.Since w.heap.size (w.drewN m) := ⟨rfl, rfl, rfl, Nat.le_refl _, fun _ _ => rfl⟩
set_option maxHeartbeats 1000000 in
theorem round_any {w : World} {p : Qp} {d : Qd} (h : QIs w p d) (S : Int) : Calls Try.prog 33 #[.pointer (some ⟨p.b, 0, none⟩), .int .i64 S] w fun e w' => ∃ r, e = .returned r ∧ OutM w.heap.size w' r (roundM d S).2 ∧ QIs w' p (roundM d S).1 ∧ Bq p w w' := by
  by_cases hu : d.begun = d.done
  · by_cases hm : 1099511627776 ≤ d.begun
    · have HSM : Hid (roundM d S = (d, [])) := (if_pos hu).trans (if_pos hm)
      have HU : Hid (Calls Try.prog 57 #[.pointer (some ⟨p.b, 0, none⟩)] w fun e w1 => e = .returned (.bool false) ∧ w1.cell? ⟨p.b, 12, none⟩ = some (.int .u64 (d.begun : Nat)) ∧ Hid (OutM w.heap.size w1 (.slice none 0 0) [] ∧ QIs w1 p d ∧ Bq p w w1)) :=
        (underWay_any h).mono fun e w1 ⟨he, m, hw⟩ => by
          subst hw
          have q1 := h.since (drewN_since w m)
          exact ⟨by rw [he, decide_eq_false (by simp [hu])], q1.cell 12 (by decide), OutM.nil _ _, q1, Bq.of_since (drewN_since w m)⟩
      have hz : (d.begun : Int) ≥ 1099511627776 := by omega
      clear h hu hm
      go_enter Try.func33, Try.ntmps33
      go_wp2_with (go_at_call 57; refine HU.out.mono ?_; rintro e w1 ⟨rfl, c12, HE⟩)
      go_ret
      rw [HSM.out]
      exact ⟨_, rfl, HE.out⟩
    · have HSM : Hid (roundM d S = (rdM d, beatMs (rdM d) S)) := (if_pos hu).trans (if_neg hm)
      obtain ⟨B1, hB1⟩ : ∃ B : Int, ((d.begun + 1 : Nat) : Int) = B := ⟨_, rfl⟩
      have HU : Hid (Calls Try.prog 57 #[.pointer (some ⟨p.b, 0, none⟩)] w fun e w1 => e = .returned (.bool false) ∧ w1.cell? ⟨p.b, 12, none⟩ = some (.int .u64 (d.begun : Nat)) ∧ w1.frozen? ⟨p.b, 12, none⟩ = false ∧ ∃ W2 W3, Hid (w1.setCell ⟨p.b, 12, none⟩ (.int .u64 B1) = W2) ∧ W2.cell? ⟨p.b, 15, none⟩ = some (.map (some p.m2)) ∧ (Builtin.clear_ #[76] 0 #[.map (some p.m2)]).run Try.prog W2 = .ok (.tuple #[]) W3 ∧
          Hid (Calls Try.prog 58 #[.pointer (some ⟨p.b, 0, none⟩), .int .i64 S] W3 fun e w' => ∃ r, e = .returned r ∧ Hid (OutM w.heap.size w' r (beatMs (rdM d) S) ∧ QIs w' p (rdM d) ∧ Bq p w w'))) :=
        (underWay_any h).mono fun e w1 ⟨he, m, hw⟩ => by
          subst hw
          have q1 := h.since (drewN_since w m)
          have b1 : Bq p w (w.drewN m) := Bq.of_since (drewN_since w m)
          obtain ⟨q2, b2⟩ := q1.setBegun (d.begun + 1) (by omega)
          rw [hB1] at q2 b2
          obtain ⟨W3, r3, q3, b3⟩ := q2.clear2 0
          have b := (b1.trans b2).trans b3
          exact ⟨by rw [he, decide_eq_false (by simp [hu])], q1.cell 12 (by decide), q1.fz 12, _, W3, rfl, q2.cell 15 (by decide), r3.out, (beat_any q3 S).mono fun e w' ⟨r, he, ho, hq, hb⟩ => ⟨r, he, ho.on b.size (fun _ _ _ => rfl), hq, b.trans hb⟩⟩
      have hz : decide ((d.begun : Int) ≥ 1099511627776) = false := decide_eq_false (by omega)
      obtain ⟨BB, hBB⟩ : ∃ B : Int, (d.begun : Int) = B := ⟨_, rfl⟩
      have hwr : IntKind.u64.wrap ((d.begun : Int) + 1) = B1 := by rw [IntKind.wrap_u64]; omega
      clear h hu hm hB1
      rw [hBB] at hz hwr
      simp only [hBB] at HU
      clear hBB
      go_enter Try.func33, Try.ntmps33
      go_upto_region 5 with (go_at_call 57; refine HU.out.mono ?_; rintro e w1 ⟨rfl, c12, f12, W2, W3, HW2, k2, r3, HBE⟩)
      rw [HW2.out]
      clear HW2 c12 f12
      go_wp2_with (go_at_call 58; refine HBE.out.mono ?_; rintro e w2 ⟨r, rfl, HE⟩)
      go_ret
      rw [HSM.out]
      exact ⟨r, rfl, HE.out⟩
  · have HSM : Hid (roundM d S = (d, beatMs d S)) := if_neg hu
    have HU : Hid (Calls Try.prog 57 #[.pointer (some ⟨p.b, 0, none⟩)] w fun e w1 => e = .returned (.bool true) ∧
        Hid (Calls Try.prog 58 #[.pointer (some ⟨p.b, 0, none⟩), .int .i64 S] w1 fun e w' => ∃ r, e = .returned r ∧ Hid (OutM w.heap.size w' r (beatMs d S) ∧ QIs w' p d ∧ Bq p w w'))) :=
      (underWay_any h).mono fun e w1 ⟨he, m, hw⟩ => by
        subst hw
        have q1 := h.since (drewN_since w m)
        have b1 : Bq p w (w.drewN m) := Bq.of_since (drewN_since w m)
        exact ⟨by rw [he, decide_eq_true hu], (beat_any q1 S).mono fun e w' ⟨r, he, ho, hq, hb⟩ => ⟨r, he, ho.on b1.size (fun _ _ _ => rfl), hq, b1.trans hb⟩⟩
    clear h hu
    go_enter Try.func33, Try.ntmps33
    go_wp2_with (first
      | (go_at_call 57; refine HU.out.mono ?_; rintro e w1 ⟨rfl, HBE⟩)
      | (go_at_call 58; refine HBE.out.mono ?_; rintro e w2 ⟨r, rfl, HE⟩))
    go_ret
    rw [HSM.out]
    exact ⟨r, rfl, HE.out⟩
end Go.Proofs.Ytkcjmjaikobpoaa

/- Package quorum: two lists of messages are joined. -/
namespace Go.Proofs.Ytkcjmjaikobpoaa
open Go.RowKit Go.Maps
set_option maxRecDepth 100000
set_option maxRecDepth 100000

theorem ownM_fl {w : World} {K : Nat} {v : Value} {l : List Me} (h : OwnM w K v l) {g c : Nat} {s : ByteArray} (hf : FlB w g c s) : v.ownBlock ≠ some g := fun e => by
  rcases h.2 with ⟨e2, _⟩ | ⟨g2, cap, cur, e2, hB, hq, _⟩
  · rw [e2] at e; simp [Value.ownBlock] at e
  · rw [e2] at e
    obtain rfl : g2 = g := by simpa [Value.ownBlock] using e
    obtain ⟨cs, h1, _⟩ := hf.blk
    rw [hq] at h1
    simp at h1
theorem ownM_own {w : World} {K : Nat} {v : Value} {l : List Me} (h : OwnM w K v l) : ∀ b, v.ownBlock = some b → K ≤ b := fun b e => by
  rcases h.2 with ⟨e2, _⟩ | ⟨g2, cap, cur, e2, hB, hq, _⟩
  · rw [e2] at e; simp [Value.ownBlock] at e
  · rw [e2] at e
    obtain rfl : g2 = b := by simpa [Value.ownBlock] using e
    exact hB
theorem app_two {w : World} {B : Nat} {v u : Value} {l k : List Me} (h : OwnM w B v l) (h2 : OwnM w B u k) (hl : l.length ≤ 1000000) (hk : k.length ≤ 1000000) (hB : B ≤ w.heap.size) :
    ∃ v' w', (∀ ty, (Builtin.append_ #[56, 56] ty #[v, u]).run Try.prog w = .ok v' w') ∧ OwnM w' B v' (l ++ k) ∧ w.grownBy w' v.ownBlock := by
  obtain ⟨i0, hi, hh⟩ := Option.map_eq_some_iff.1 infoMM
  simp only [Prod.mk.injEq] at hh
  obtain ⟨hz0, hz1, hz2⟩ := hh
  have hml : maxLen = 9223372036854775807 := rfl
  have hnone : u = .slice none 0 0 → k = [] → ∃ v' w', (∀ ty, (Builtin.append_ #[56, 56] ty #[v, u]).run Try.prog w = .ok v' w') ∧ OwnM w' B v' (l ++ k) ∧ w.grownBy w' v.ownBlock := fun e1 e2 => by
    rw [e1, e2, List.append_nil]
    exact ⟨v, w, fun ty => run_append_owned_none w B 56 ty 52 i0 22 Try.underlying56 hi v l.length (msCells l) h, h, ⟨rfl, rfl, rfl, Nat.le_refl _, fun _ _ _ => rfl⟩⟩
  by_cases h0 : 0 < k.length
  · obtain ⟨g, cap, f, rfl, hb, hnc, hr, hf⟩ := ownM_at h2 h0
    have hle : k.length * 22 ≤ cap * 22 := Nat.mul_le_mul_right 22 hnc
    have key : ∀ ty, ∃ v' w', (Builtin.append_ #[56, 56] ty #[v, .slice (some ⟨g, 0, none⟩) k.length cap]).run Try.prog w = .ok v' w' ∧ w'.ownsRow B 52 22 v' (l.length + k.length) (msCells l ++ msCells k) ∧ w.grownBy w' v.ownBlock := fun ty => by
      obtain ⟨v', w', a1, a2, a3, _⟩ := run_append_own_at (P := Try.prog) w B 56 ty 52 i0 _ 22 208 Try.underlying56 hi hz0 hz1 hz2 (by kernel_rfl) (by decide) v l.length (msCells l) h ⟨g, 0, none⟩ k.length cap (msCells k) (msCells_len k) (fun j u hj => by
        have hjl : j < k.length * 22 := by have := (List.getElem?_eq_some_iff.1 hj).1; rwa [msCells_len] at this
        rw [Addr.add_mid, Nat.zero_add, hr.cell (by omega), hf j hjl, hj]) (fun u hu => by
        simp only [msCells, List.mem_flatMap] at hu
        obtain ⟨e, _, he⟩ := hu
        exact mgL_one _ _ _ u he) (by omega) (by omega) hB
      exact ⟨v', w', a1, a2, a3⟩
    obtain ⟨v', w', a1, a2, a3⟩ := key 0
    refine ⟨v', w', fun ty => a1, ?_, a3⟩
    unfold OwnM
    rw [msCells_app, List.length_append]
    exact a2
  · have hk0 : k = [] := List.eq_nil_of_length_eq_zero (by omega)
    rcases h2.2 with ⟨e2, _⟩ | ⟨g, cap, cur, e2, hB2, hq, hnc, hm, hsz, htk⟩
    · exact hnone e2 hk0
    · subst hk0
      subst e2
      obtain ⟨v', w', a1, a2, a3, _⟩ := run_append_own_at (P := Try.prog) w B 56 0 52 i0 _ 22 208 Try.underlying56 hi hz0 hz1 hz2 (by kernel_rfl) (by decide) v l.length (msCells l) h ⟨g, 0, none⟩ 0 cap [] rfl (fun j u hj => by simp at hj) (fun u hu => absurd hu List.not_mem_nil) (by omega) (by omega) hB
      refine ⟨v', w', fun ty => a1, ?_, a3⟩
      unfold OwnM
      rw [List.append_nil]
      simpa using a2
theorem OutM.app {w : World} {B : Nat} {v u : Value} {ms ns : List Mg} (h : OutM B w v ms) (h2 : OutM B w u ns) (hl : ms.length ≤ 1000000) (hk : ns.length ≤ 1000000) (hB : B ≤ w.heap.size) :
    ∃ v' w', (∀ ty, (Builtin.append_ #[56, 56] ty #[v, u]).run Try.prog w = .ok v' w') ∧ OutM B w' v' (ms ++ ns) ∧ w.Since B w' := by
  obtain ⟨l, o1, rfl, a1⟩ := h
  obtain ⟨k, o2, rfl, a2⟩ := h2
  obtain ⟨v', w', hr, ho, hg⟩ := app_two o1 o2 (by simpa using hl) (by simpa using hk) hB
  refine ⟨v', w', hr, ⟨l ++ k, ho, List.map_append, fun e he => ?_⟩, (World.Since.refl _ _).grown hg hB (ownM_own o1)⟩
  have key : AnV B w e.m e.va e.vc := by
    rcases List.mem_append.1 he with q | q
    · exact a1 e q
    · exact a2 e q
  rcases key with q | ⟨g, e1, e2, e3⟩
  · exact .inl q
  · exact .inr ⟨g, e1, e2, e3.on (hg.block g e3.lt' (fun q => ownM_fl o1 e3 q.symm))⟩
theorem QIs.below {w w' : World} {p : Qp} {d : Qd} {B : Nat} (h : QIs w p d) (hl : p.b < B ∧ p.cb < B ∧ p.m1 < B ∧ p.m2 < B ∧ p.m3 < B) (hs : w.Since B w') : QIs w' p d :=
  h.on (hs.block _ hl.1) (hs.block _ hl.2.1) (hs.block _ hl.2.2.1) (hs.block _ hl.2.2.2.1) (hs.block _ hl.2.2.2.2)
theorem Bq.below {w w1 w' : World} {p : Qp} (h : Bq p w w1) (hs : w1.Since w.heap.size w') : Bq p w w' :=
  ⟨hs.os.trans h.os, hs.tape.trans h.tape, hs.output.trans h.output, Nat.le_trans h.size hs.size, fun k hk a b c e => (hs.block k hk).trans (h.block k hk a b c e)⟩
end Go.Proofs.Ytkcjmjaikobpoaa
