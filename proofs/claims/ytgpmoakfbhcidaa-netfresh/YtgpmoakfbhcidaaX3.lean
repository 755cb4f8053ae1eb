/- The document's own net: Look, Drop. -/
import Derived.Test.YtgpmoakfbhcidaaX2
namespace Go.Proofs.Ytgpmoakfbhcidaa
open Go.RowKit
set_option maxRecDepth 100000
set_option maxRecDepth 100000
section
variable {w w' : World} {B rb : Nat} {fv : Value} {room lost : Nat} {xs : List (Ms × Value)}
set_option maxHeartbeats 1600000 in
theorem rlook_some (h : RefIs w B rb fv xs room lost) (i : Nat) (x : Int) (s : ByteArray) (v : Value) (hm : xs[i]? = some (⟨x, s⟩, v)) :
    Calls Try.prog 27 #[.pointer (some ⟨rb, 0, none⟩), .int .i64 (i : Nat)] w fun e w' => ∃ g, e = .returned (.tuple #[.agg #[.int .i64 x, .slice (some ⟨g, 0, none⟩) s.size s.size], .bool true]) ∧ w.heap.size ≤ g ∧ w'.rowIs g 5 s.size (fun j => .int .u8 (bx s j : Nat)) ∧ Below w.heap.size w w' := by
  have hi := (List.getElem?_eq_some_iff.1 hm).1
  have hrm := h.rm
  have hle := h.le
  obtain ⟨W0, HW0⟩ : ∃ W, Hid (w.alloc flZ = W) := ⟨_, rfl⟩
  have hz0 : W0.heap.size = w.heap.size + 1 := by rw [← HW0.out]; simp
  have hb0 : Below w.heap.size w W0 := by rw [← HW0.out]; exact (Below.refl _ _).alloc (Nat.le_refl _) _
  have hr0 := flZ_row w
  rw [HW0.out] at hr0
  have h0 : RefIs W0 B rb fv xs room lost := h.on hb0
  obtain ⟨g, c, rfl, hc, p0, p1⟩ := h0.msg hm
  obtain ⟨vg, ev, hvb⟩ := (h0.byt _ (List.mem_of_getElem? hm)).byt
  have hss : s.size ≤ 140737488351232 := by obtain ⟨_, _, _, _, h4⟩ := h0.byt _ (List.mem_of_getElem? hm); exact h4
  have ev : v = .slice (some ⟨vg, 0, none⟩) s.size s.size := ev
  subst ev
  replace p0 : W0.cell? ⟨g, i * 2, none⟩ = some (.int .i64 x) := p0
  replace p1 : W0.cell? ⟨g, i * 2 + 1, none⟩ = some (.slice (some ⟨vg, 0, none⟩) s.size s.size) := p1
  have c0 := h0.c0
  have hf := twin_any x (some ⟨vg, 0, none⟩) s.size s W0 hss hvb
  have hzi : ¬ (i : Int) ≥ (xs.length : Int) := by omega
  have hzi2 : (i : Int) < (xs.length : Int) := by omega
  have hz00 : ¬ (i : Int) < 0 := by omega
  have HF : Hid (∀ w2, Below W0.heap.size W0 w2 → Below w.heap.size w w2 ∧ w2.rowIs w.heap.size 70 2 (fun i => (#[Value.int .i64 0, .slice none 0 0])[i]!)) := fun w2 hb => ⟨hb0.trans (hb.mono hb0.size), hr0.of_block (hb.block _ (by omega))⟩
  have HG : Hid (∀ g, W0.heap.size ≤ g → w.heap.size ≤ g ∧ g ≠ w.heap.size) := fun g hg => ⟨by omega, by omega⟩
  generalize xs.length = n at *
  obtain ⟨S, HS⟩ : ∃ S, Hid (s.size = S) := ⟨_, rfl⟩
  rw [HS.out] at hf p1 ⊢
  clear h h0 hb0 hr0 hm hi hrm hvb hss hz0
  unfold flZ at HW0
  go_enter Try.func27, Try.ntmps27
  go_upto_region 1 with fail
  rw [HW0.out]
  go_wp2_with fail
  refine hf.mono ?_
  rintro e w2 ⟨g2, rfl, hg2, hrw2, hb2⟩
  obtain ⟨hbw, hr2⟩ := HF.out w2 hb2
  have q0 : (w2.cell? ⟨w.heap.size, 0, none⟩) = some (.int .i64 0) := hr2.cell (i := 0) (by decide)
  have q1 : (w2.cell? ⟨w.heap.size, 1, none⟩) = some (.slice none 0 0) := hr2.cell (i := 1) (by decide)
  have z0 := hr2.frozen 0
  have z1 := hr2.frozen 1
  obtain ⟨W3, HW3⟩ : ∃ W, Hid ((w2.setCell ⟨w.heap.size, 0, none⟩ (.int .i64 x)).setCell ⟨w.heap.size, 1, none⟩ (.slice (some ⟨g2, 0, none⟩) S S) = W) := ⟨_, rfl⟩
  have hr3 := (hr2.set 0 (.int .i64 x)).set 1 (.slice (some ⟨g2, 0, none⟩) S S)
  rw [HW3.out] at hr3
  have r0 : W3.cell? ⟨w.heap.size, 0, none⟩ = some (.int .i64 x) := hr3.cell (i := 0) (by decide)
  have r1 : W3.cell? ⟨w.heap.size, 1, none⟩ = some (.slice (some ⟨g2, 0, none⟩) S S) := hr3.cell (i := 1) (by decide)
  have hgn := HG.out g2 hg2
  have hF3 : W3.rowIs g2 5 S (fun j => .int .u8 (bx s j : Nat)) := hrw2.of_block (by rw [← HW3.out]; exact (Below.heap_setCell _ _ _ _ hgn.2).trans (Below.heap_setCell _ _ _ _ hgn.2))
  have hb3 : Below w.heap.size w W3 := by
    rw [← HW3.out]
    exact (hbw.setCell (by simp) _).setCell (by simp) _
  have HE : Hid (w.heap.size ≤ g2 ∧ W3.rowIs g2 5 S (fun j => .int .u8 (bx s j : Nat)) ∧ Below w.heap.size w W3) := ⟨hgn.1, hF3, hb3⟩
  clear hf hb2 hbw hr2 hr3 hF3 hb3 HF hgn hrw2 HG
  go_wp2
  rw [HW3.out]
  refine bodyPost_ret_by (v := .tuple #[.agg #[.int .i64 x, .slice (some ⟨g2, 0, none⟩) S S], .bool true]) ?_ rfl ⟨g2, rfl, HE.out⟩
  rw [results_cell_tmp rfl]
  go_simp
set_option maxHeartbeats 1600000 in
theorem rlook_none (h : RefIs w B rb fv xs room lost) (i : Int) (hi : ¬ (0 ≤ i ∧ i < xs.length)) :
    Calls Try.prog 27 #[.pointer (some ⟨rb, 0, none⟩), .int .i64 i] w fun e w' => e = .returned (.tuple #[.agg #[.int .i64 0, .slice none 0 0], .bool false]) ∧ Below w.heap.size w w' := by
  obtain ⟨W0, HW0⟩ : ∃ W, Hid (w.alloc flZ = W) := ⟨_, rfl⟩
  have hb0 : Below w.heap.size w W0 := by rw [← HW0.out]; exact (Below.refl _ _).alloc (Nat.le_refl _) _
  have hr0 := flZ_row w
  rw [HW0.out] at hr0
  have h0 : RefIs W0 B rb fv xs room lost := h.on hb0
  obtain ⟨a, c, rfl, hc, hm⟩ := h0.sl
  have c0 := h0.c0
  have q0 : (W0.cell? ⟨w.heap.size, 0, none⟩) = some (.int .i64 0) := hr0.cell (i := 0) (by decide)
  have q1 : (W0.cell? ⟨w.heap.size, 1, none⟩) = some (.slice none 0 0) := hr0.cell (i := 1) (by decide)
  have z0 := hr0.frozen 0
  have z1 := hr0.frozen 1
  obtain ⟨W3, HW3⟩ : ∃ W, Hid ((W0.setCell ⟨w.heap.size, 0, none⟩ (.int .i64 0)).setCell ⟨w.heap.size, 1, none⟩ (.slice none 0 0) = W) := ⟨_, rfl⟩
  have hr3 := (hr0.set 0 (.int .i64 0)).set 1 (.slice none 0 0)
  rw [HW3.out] at hr3
  have r0 : W3.cell? ⟨w.heap.size, 0, none⟩ = some (.int .i64 0) := hr3.cell (i := 0) (by decide)
  have r1 : W3.cell? ⟨w.heap.size, 1, none⟩ = some (.slice none 0 0) := hr3.cell (i := 1) (by decide)
  have hb3 : Below w.heap.size w W3 := by
    rw [← HW3.out]
    exact (hb0.setCell (by simp) _).setCell (by simp) _
  have HE : Hid (Below w.heap.size w W3) := hb3
  clear h h0 hb0 hr0 hr3 hb3
  generalize xs.length = n at *
  unfold flZ at HW0
  by_cases hn : i < 0
  · go_enter Try.func27, Try.ntmps27
    go_upto_region 1 with fail
    rw [HW0.out]
    go_wp2
    rw [HW3.out]
    refine bodyPost_ret_by (v := .tuple #[.agg #[.int .i64 0, .slice none 0 0], .bool false]) ?_ rfl ⟨rfl, HE.out⟩
    rw [results_cell_tmp rfl]
    go_simp
  · have hge : i ≥ (n : Int) := by omega
    go_enter Try.func27, Try.ntmps27
    go_upto_region 1 with fail
    rw [HW0.out]
    go_wp2
    rw [HW3.out]
    refine bodyPost_ret_by (v := .tuple #[.agg #[.int .i64 0, .slice none 0 0], .bool false]) ?_ rfl ⟨rfl, HE.out⟩
    rw [results_cell_tmp rfl]
    go_simp
theorem rdrop_none (h : RefIs w B rb fv xs room lost) (i : Int) (hi : ¬ (0 ≤ i ∧ i < xs.length)) :
    Calls Try.prog 31 #[.pointer (some ⟨rb, 0, none⟩), .int .i64 i] w fun e w' => e = .returned (.bool false) ∧ w' = w := by
  obtain ⟨a, c, rfl, hc, hm⟩ := h.sl
  have c0 := h.c0
  clear h
  generalize xs.length = n at *
  by_cases hn : i < 0
  · go_enter Try.func31, Try.ntmps31
    go_wp2
    go_ret
    exact ⟨rfl, rfl⟩
  · have hge : i ≥ (n : Int) := by omega
    go_enter Try.func31, Try.ntmps31
    go_wp2
    go_ret
    exact ⟨rfl, rfl⟩
/-- What Drop has gathered behind k of the row. -/
def dropK (xs : List (Ms × Value)) (i k : Nat) : List (Ms × Value) := if k ≤ i then xs.take k else (xs.take k).eraseIdx i
theorem dropK_step (xs : List (Ms × Value)) (i k : Nat) (m : Ms × Value) (hm : xs[k]? = some m) (hne : k ≠ i) : dropK xs i (k + 1) = dropK xs i k ++ [m] := by
  have hk := (List.getElem?_eq_some_iff.1 hm).1
  have e : xs.take (k + 1) = xs.take k ++ [m] := by rw [List.take_add_one, hm]; rfl
  unfold dropK
  rw [e]
  have hl : (xs.take k).length = k := by rw [List.length_take]; omega
  by_cases h : k ≤ i
  · rw [if_pos (by omega), if_pos h]
  · rw [if_neg (by omega), if_neg h, List.eraseIdx_append_of_lt_length (by omega)]
theorem dropK_skip (xs : List (Ms × Value)) (i : Nat) (m : Ms × Value) (hm : xs[i]? = some m) : dropK xs i (i + 1) = dropK xs i i := by
  have hk := (List.getElem?_eq_some_iff.1 hm).1
  have e : xs.take (i + 1) = xs.take i ++ [m] := by rw [List.take_add_one, hm]; rfl
  unfold dropK
  have hl : (xs.take i).length = i := by rw [List.length_take]; omega
  rw [if_neg (by omega), if_pos (Nat.le_refl _), e, List.eraseIdx_append_of_length_le (by omega), hl, Nat.sub_self]
  simp
theorem dropK_end (xs : List (Ms × Value)) (i : Nat) (hi : i < xs.length) : dropK xs i xs.length = xs.eraseIdx i := by
  unfold dropK
  rw [if_neg (by omega), List.take_length]
theorem dropK_len (xs : List (Ms × Value)) (i k : Nat) : (dropK xs i k).length ≤ k := by
  unfold dropK
  split
  · rw [List.length_take]; omega
  · rw [List.length_eraseIdx]; split <;> (try rw [List.length_take]) <;> omega
set_option maxHeartbeats 3200000 in
theorem rdrop_some (h : RefIs w B rb fv xs room lost) (hB : B ≤ w.heap.size) (i : Nat) (hi : i < xs.length) :
    Calls Try.prog 31 #[.pointer (some ⟨rb, 0, none⟩), .int .i64 (i : Nat)] w fun e w' => e = .returned (.bool true) ∧ ∃ fv', RefIs w' B rb fv' (xs.eraseIdx i) room lost ∧ Mv (RFt rb fv xs) (RFt rb fv' (xs.eraseIdx i)) w w' := by
  obtain ⟨a, c, rfl, hc, hm⟩ := h.sl
  have hrm := h.rm
  have hle := h.le
  have c0 := h.c0
  have HH : Hid (RefIs w B rb (.slice a xs.length c) xs room lost) := h
  obtain ⟨n, Hn⟩ : ∃ n, Hid (xs.length = n) := ⟨_, rfl⟩
  have hi' : i < n := by rw [← Hn.out]; exact hi
  have hn8 : n ≤ 8192 := by rw [← Hn.out]; omega
  rw [Hn.out] at c0 HH hc ⊢
  have hz1 : ¬ (i : Int) < 0 := by omega
  have hz2 : ¬ (i : Int) ≥ (n : Int) := by omega
  have hz3 : (i : Int) < (n : Int) := by omega
  clear h hle
  go_enter Try.func31, Try.ntmps31
  go_wp2_with fail
  go_loopg [5, 6] n (fun q s5 s6 wx => ∃ (k m : Nat) (va : Option Addr) (vc : Nat), k ≤ n ∧ q = n - k ∧ s6 = .int .i64 (k : Nat) ∧ s5 = .slice va m vc ∧ (dropK xs i k).length = m ∧ Hid (wx.ownsRow w.heap.size 70 2 (.slice va m vc) m (flCells (dropK xs i k)) ∧ Below w.heap.size w wx))
  case atStart => exact ⟨0, 0, none, 0, Nat.zero_le _, rfl, rfl, rfl, by have := dropK_len xs i 0; omega, ⟨⟨by have := dropK_len xs i 0; rw [flCells_len]; omega, .inl ⟨rfl, rfl⟩⟩, Below.refl _ _⟩⟩
  case round =>
    obtain ⟨k, m, va, vc, hk, rfl, rfl, rfl, hm', HO⟩ := hrel
    have k0 : wr.cell? ⟨rb, 0, none⟩ = some (.slice a n c) := cel_on HO.out.2 c0
    by_cases hlt : k < n
    · have hzk : (k : Int) < (n : Int) := by omega
      have hwk : IntKind.i64.wrap ((k : Int) + 1) = (k : Int) + 1 := by rw [IntKind.wrap_i64]; omega
      obtain ⟨y, hy⟩ : ∃ y, xs[k]? = some y := ⟨_, List.getElem?_eq_getElem (by rw [Hn.out]; exact hlt)⟩
      by_cases hki : k = i
      · subst hki
        have hkk : ((k : Int) != (k : Int)) = false := by simp
        have HO2 : Hid (wr.ownsRow w.heap.size 70 2 (.slice va m vc) m (flCells (dropK xs k (k + 1))) ∧ Below w.heap.size w wr) := by rw [dropK_skip xs k y hy]; exact HO.out
        have hm2 : (dropK xs k (k + 1)).length = m := by rw [dropK_skip xs k y hy]; exact hm'
        clear HO hm' hy
        go_wp2_with fail
        go_roundg (n - (k + 1))
        case measure => go_light; omega
        case rel => go_light; exact ⟨k + 1, m, va, vc, by omega, rfl, by simp, rfl, hm2, HO2⟩
      · have hkk : ((k : Int) != (i : Int)) = true := by simp; omega
        have hR := HH.out.on HO.out.2
        obtain ⟨g, cc, ev, hcc, p0, p1⟩ := hR.msg hy
        obtain rfl : a = some ⟨g, 0, none⟩ := by injection ev
        clear ev hcc
        obtain ⟨vg, ev2, _⟩ := (hR.byt y (List.mem_of_getElem? hy)).byt
        obtain ⟨⟨yx, ys⟩, yv⟩ := y
        have ev2 : yv = .slice (some ⟨vg, 0, none⟩) ys.size ys.size := ev2
        subst ev2
        replace p0 : wr.cell? ⟨g, k * 2, none⟩ = some (.int .i64 yx) := p0
        replace p1 : wr.cell? ⟨g, k * 2 + 1, none⟩ = some (.slice (some ⟨vg, 0, none⟩) ys.size ys.size) := p1
        obtain ⟨a1, c1, w2, hrun, ho2, hg2, _⟩ := app_fl HO.out.1 (.int .i64 yx) (.slice (some ⟨vg, 0, none⟩) ys.size ys.size) rfl rfl (by have := dropK_len xs i k; omega) HO.out.2.size
        have eS := dropK_step xs i k _ hy hki
        have HO2 : Hid (w2.ownsRow w.heap.size 70 2 (.slice a1 (m + 1) c1) (m + 1) (flCells (dropK xs i (k + 1))) ∧ Below w.heap.size w w2) := by
          refine ⟨by rw [eS, flCells_app]; exact ho2, ?_⟩
          have hbw := HO.out.2
          have := hg2.size
          exact ⟨hg2.os.trans hbw.os, hg2.tape.trans hbw.tape, hg2.output.trans hbw.output, by have := hbw.size; omega, fun q hq => (hg2.block q (by have := hbw.size; omega) (fun e => by have := (rows_lt HO.out.1 q e.symm).1; omega)).trans (hbw.block q hq)⟩
        have hm2 : (dropK xs i (k + 1)).length = m + 1 := by rw [eS, List.length_append, hm']; rfl
        obtain ⟨m1, Hm1⟩ : ∃ m1, Hid (m + 1 = m1) := ⟨_, rfl⟩
        rw [Hm1.out] at hrun HO2 hm2
        have HR : Hid ((Builtin.append_ #[94, 94] 94 #[.slice va m vc, .slice (some ⟨wr.heap.size, 0, none⟩) 1 1]).run Try.prog (wr.alloc (.cells #[.int .i64 yx, .slice (some ⟨vg, 0, none⟩) ys.size ys.size] 70)) = .ok (.slice a1 m1 c1) w2) := hrun
        generalize ys.size = yn at *
        clear hrun HO hm' hy hR ho2 hg2 eS
        go_wp2_with (at_builtin; refine wpList_append_eq rfl _ _ 94 rfl _ _ _ (by rfl) (by rfl) HR.out ?_)
        go_roundg (n - (k + 1))
        case measure => go_light; omega
        case rel => go_light; exact ⟨k + 1, m1, a1, c1, by omega, rfl, by simp, rfl, hm2, HO2⟩
    · obtain rfl : k = n := by omega
      have hzk : ¬ (k : Int) < (k : Int) := by omega
      have eE : dropK xs i k = xs.eraseIdx i := by rw [← Hn.out]; exact dropK_end xs i hi
      rw [eE] at HO hm'
      have hR := HH.out.on HO.out.2
      have fz : wr.frozen? ⟨rb, 0, none⟩ = false := hR.row.frozen 0
      have HE : Hid (∃ fv', RefIs (wr.setCell ⟨rb, 0, none⟩ (.slice va m vc)) B rb fv' (xs.eraseIdx i) room lost ∧ Mv (RFt rb (.slice a k c) xs) (RFt rb fv' (xs.eraseIdx i)) w (wr.setCell ⟨rb, 0, none⟩ (.slice va m vc))) := by
        obtain ⟨ho, hb⟩ := HO.out
        refine HH.out.turn hR.row (by rw [hm']; exact ⟨ho.1, ho.2.imp_right (fun ⟨g, cap, cur, e, hk, hr⟩ => ⟨g, cap, cur, e, Nat.le_trans hB hk, hr⟩)⟩) (fun x hx => hR.byt x (List.mem_of_mem_eraseIdx hx)) (by have := HH.out.le; rw [List.length_eraseIdx]; split <;> omega) hb.os hb.tape hb.output hb.size (fun q hq _ _ => hb.block q hq) (fun q e => .inr (rows_lt ho q e).1) (fun x hx => .inl (List.mem_of_mem_eraseIdx hx))
      clear HO hR HH hm' eE
      go_wp2_with fail
      go_ret
      exact ⟨rfl, HE.out⟩
end
end Go.Proofs.Ytgpmoakfbhcidaa
