/- Own texts, joined: QO3, QO4, QO5, QO6, QO7, QO8, QO9, QO10. -/
import Derived.Test.YtkcjmjaikobpoaaM5
import Derived.Deep.OwnRows
import Derived.Laws.ResultCell

/- QuorumOnce: EqMsgs of what is the same. -/
namespace Go.Proofs.Ytkcjmjaikobpoaa
open Go.RowKit Go.Maps
set_option maxRecDepth 100000
set_option maxRecDepth 100000

theorem anv_byt {lo : Nat} {w : World} {a : Mg} {ga : Option Addr} {gc : Nat} (h : AnV lo w a ga gc) (hb : ∀ v ∈ a.s 10, v < 256) : Byt w ga (a.s 10).length (fun j => (a.s 10).getD j 0) := by
  rcases h with ⟨_, _, h⟩ | ⟨g, rfl, _, h⟩
  · rw [h]; exact fun j hj => absurd hj (Nat.not_lt_zero _)
  · intro j hj
    obtain ⟨b, o, e, hc⟩ := h.byt j (by rw [strL_size]; exact hj)
    exact ⟨b, o, e, by rw [hc, bx_strL hb]⟩
/-- Messages of a list, in memory. -/
def MsAt (w : World) (a : Option Addr) (ms : List Mg) : Prop := ∀ j m, ms[j]? = some m → ∃ g va vc, a = some ⟨g, 0, none⟩ ∧ w.rangeAt g (j * 22) (mgL m va vc) ∧ Byt w va (m.s 10).length (fun i => (m.s 10).getD i 0)
theorem range_since {w w' : World} {g o : Nat} {cs : List Value} (h : w.rangeAt g o cs) (hs : w.Since w.heap.size w') : w'.rangeAt g o cs := fun j v hv => cell_later hs (h j v hv)
theorem MsAt.since {w w' : World} {a : Option Addr} {ms : List Mg} (h : MsAt w a ms) (hs : w.Since w.heap.size w') : MsAt w' a ms := fun j m hm => by
  obtain ⟨g, va, vc, e, h1, h2⟩ := h j m hm
  exact ⟨g, va, vc, e, range_since h1 hs, h2.since hs⟩
theorem OutM.at' {B : Nat} {w : World} {r : Value} {ms : List Mg} (h : OutM B w r ms) (hb : ∀ m ∈ ms, ∀ v ∈ m.s 10, v < 256) : ∃ a c, r = .slice a ms.length c ∧ MsAt w a ms := by
  obtain ⟨l, ho, rfl, hv⟩ := h
  by_cases h0 : 0 < l.length
  · obtain ⟨g, cap, f, e, _, hc, hr, hf⟩ := ownM_at ho h0
    refine ⟨_, _, by rw [e, List.length_map], fun j m hm => ?_⟩
    rw [List.getElem?_map] at hm
    obtain ⟨x, hx, rfl⟩ := Option.map_eq_some_iff.1 hm
    have hj := (List.getElem?_eq_some_iff.1 hx).1
    refine ⟨g, x.va, x.vc, rfl, fun i v hi => ?_, anv_byt (hv x (List.mem_of_getElem? hx)) (hb _ (List.mem_map_of_mem (List.mem_of_getElem? hx)))⟩
    have hi22 : i < 22 := by have := (List.getElem?_eq_some_iff.1 hi).1; rwa [mgL_len] at this
    have h1 := hf (j * 22 + i) (by omega)
    rw [msCells_get l j i hi22, hx] at h1
    have h2 : some (f (j * 22 + i)) = some v := h1.trans hi
    rw [hr.cell (by omega)]
    exact h2
  · obtain ⟨a, c, e⟩ := ownM_form ho
    refine ⟨a, c, by rw [e, List.length_map], fun j m hm => ?_⟩
    have hj := (List.getElem?_eq_some_iff.1 hm).1
    rw [List.length_map] at hj
    omega
end Go.Proofs.Ytkcjmjaikobpoaa

/- QuorumOnce: EqMsgs of what is the same. -/
namespace Go.Proofs.Ytkcjmjaikobpoaa
open Go.RowKit Go.Maps
set_option maxRecDepth 100000
set_option maxRecDepth 100000

set_option maxHeartbeats 4000000 in
theorem eqMsgs_same {w : World} {ax ay : Option Addr} {ms : List Mg} (hx : MsAt w ax ms) (hy : MsAt w ay ms) (cx cy n : Nat) (hn : ms.length = n) (hn2 : n ≤ 1000000) (hl : ∀ m ∈ ms, (m.s 10).length ≤ 140737488355328) :
    Calls Try.prog 9 #[.slice ax n cx, .slice ay n cy] w fun e w' => e = .returned (.bool true) ∧ w.Since w.heap.size w' := by
  have HX := hide hx
  have HY := hide hy
  have HL := hide hl
  have HS0 : Hid (w.Since w.heap.size w) := World.Since.refl _ _
  have zn : ((n : Int) == (n : Int)) = true := by simp
  clear hx hy hl
  go_enter Try.func9, Try.ntmps9
  go_wp2_with fail
  go_loopg [5] n (fun q s5 wx => ∃ i : Nat, i ≤ n ∧ q = n - i ∧ s5 = .int .i64 (i : Nat) ∧ Hid (w.Since w.heap.size wx))
  case atStart => exact ⟨0, Nat.zero_le _, rfl, rfl, HS0⟩
  case round =>
    clear HS0
    obtain ⟨i, hi, rfl, rfl, HS⟩ := hrel
    by_cases hgo : i < n
    · have z1 : (i : Int) < (n : Int) := by omega
      have z0 : (0 : Int) ≤ (i : Int) := by omega
      have hwi : IntKind.i64.wrap ((i : Int) + 1) = (i : Int) + 1 := by rw [IntKind.wrap_i64]; omega
      have hme : n - (i + 1) < n - i := by omega
      have hi1 : i + 1 ≤ n := by omega
      obtain ⟨m, hm⟩ : ∃ m, ms[i]? = some m := ⟨_, List.getElem?_eq_getElem (by omega)⟩
      obtain ⟨g1, va, vc, rfl, r1, b1⟩ := HX.out i m hm
      obtain ⟨g2, vb, vd, rfl, r2, b2⟩ := HY.out i m hm
      have hml := HL.out m (List.mem_of_getElem? hm)
      have HSD : Hid (w.Since w.heap.size wr.drew) := HS.out.trans (since_mono ((World.Since.refl _ _).drew) HS.out.size)
      obtain ⟨MA, HMA⟩ : ∃ x, Hid (mgL m va vc = x) := ⟨_, rfl⟩
      obtain ⟨MB, HMB⟩ : ∃ x, Hid (mgL m vb vd = x) := ⟨_, rfl⟩
      have HIA : Hid ((Try.prog.info? 52).map (·.size) = some MA.length) := by rw [← HMA.out]; exact infoMg' _ _ _
      have HIB : Hid ((Try.prog.info? 52).map (·.size) = some MB.length) := by rw [← HMB.out]; exact infoMg' _ _ _
      have HRA : Hid (∀ W, w.Since w.heap.size W → W.rangeAt g1 (i * 22) MA) := fun W hW => by rw [← HMA.out]; exact range_since r1 hW
      have HRB : Hid (∀ W, w.Since w.heap.size W → W.rangeAt g2 (i * 22) MB) := fun W hW => by rw [← HMB.out]; exact range_since r2 hW
      have HEQ : Hid (∀ W, w.Since w.heap.size W → Calls Try.prog 23 #[.agg MA.toArray, .agg MB.toArray] W fun e w' => e = .returned (.bool true) ∧ Hid (w.Since w.heap.size w')) := fun W hW => by
        have q := eqMsg_same m va vb vc vd W (b1.since hW) (b2.since hW) hml
        unfold mgV at q
        rw [HMA.out, HMB.out] at q
        exact q.mono fun e w' ⟨he, hs⟩ => ⟨he, hW.trans (since_mono hs hW.size)⟩
      clear HMA HMB b1 b2 r1 r2 hml hm HX HY HL
      go_upto_region 6 with fail
      refine wp_region_held_drew (S := fun W => w.Since w.heap.size W) (by kernel_rfl) HSD.out fun _ => ?_
      refine wpAnyH_take (i := 0) (v := .slice (some ⟨g1, 0, none⟩) n cx) rfl (by kernel_rfl) (by kernel_rfl) (by kernel_rfl) (fun _ _ _ h => h) (.inl ⟨rfl, fun W hW => by kernel_rfl⟩) HSD.out ?_
      simp only [List.getElem_toArray, List.getElem_cons_zero, Act.put, List.setIfInBounds_toArray, List.set_cons_zero, List.set_cons_succ]
      refine wpAnyH_take (i := 1) (v := .int .i64 (i : Nat)) rfl (by kernel_rfl) (by kernel_rfl) (by kernel_rfl) (fun _ _ _ h => h) (.inl ⟨rfl, fun W hW => by kernel_rfl⟩) HSD.out ?_
      simp only [List.getElem_toArray, List.getElem_cons_zero, List.getElem_cons_succ, Act.put, List.setIfInBounds_toArray, List.set_cons_zero, List.set_cons_succ]
      refine wpAnyH_take (i := 2) (v := .pointer (some ⟨g1, i * 22, none⟩)) rfl (by kernel_rfl) (by kernel_rfl) (by kernel_rfl) (fun _ _ _ h => h) (.inl ⟨rfl, fun W hW => by first | go_simp | kernel_rfl⟩) HSD.out ?_
      simp only [List.getElem_toArray, List.getElem_cons_zero, List.getElem_cons_succ, Act.put, List.setIfInBounds_toArray, List.set_cons_zero, List.set_cons_succ]
      refine wpAnyH_take (i := 3) (v := .agg MA.toArray) rfl (by kernel_rfl) (by kernel_rfl) (by kernel_rfl) (fun _ _ _ h => h) (yieldsIf_load_mid rfl 52 (.tmp 19) rfl g1 (i * 22) rfl MA _ (fun W hW => HRA.out W hW) Try.underlying52 rfl HIA.out) HSD.out ?_
      simp only [List.getElem_toArray, List.getElem_cons_zero, List.getElem_cons_succ, Act.put, List.setIfInBounds_toArray, List.set_cons_zero, List.set_cons_succ]
      refine wpAnyH_take (i := 4) (v := .slice (some ⟨g2, 0, none⟩) n cy) rfl (by kernel_rfl) (by kernel_rfl) (by kernel_rfl) (fun _ _ _ h => h) (.inl ⟨rfl, fun W hW => by kernel_rfl⟩) HSD.out ?_
      simp only [List.getElem_toArray, List.getElem_cons_zero, List.getElem_cons_succ, Act.put, List.setIfInBounds_toArray, List.set_cons_zero, List.set_cons_succ]
      refine wpAnyH_take (i := 5) (v := .int .i64 (i : Nat)) rfl (by kernel_rfl) (by kernel_rfl) (by kernel_rfl) (fun _ _ _ h => h) (.inl ⟨rfl, fun W hW => by kernel_rfl⟩) HSD.out ?_
      simp only [List.getElem_toArray, List.getElem_cons_zero, List.getElem_cons_succ, Act.put, List.setIfInBounds_toArray, List.set_cons_zero, List.set_cons_succ]
      refine wpAnyH_take (i := 6) (v := .pointer (some ⟨g2, i * 22, none⟩)) rfl (by kernel_rfl) (by kernel_rfl) (by kernel_rfl) (fun _ _ _ h => h) (.inl ⟨rfl, fun W hW => by first | go_simp | kernel_rfl⟩) HSD.out ?_
      simp only [List.getElem_toArray, List.getElem_cons_zero, List.getElem_cons_succ, Act.put, List.setIfInBounds_toArray, List.set_cons_zero, List.set_cons_succ]
      refine wpAnyH_take (i := 7) (v := .agg MB.toArray) rfl (by kernel_rfl) (by kernel_rfl) (by kernel_rfl) (fun _ _ _ h => h) (yieldsIf_load_mid rfl 52 (.tmp 23) rfl g2 (i * 22) rfl MB _ (fun W hW => HRB.out W hW) Try.underlying52 rfl HIB.out) HSD.out ?_
      simp only [List.getElem_toArray, List.getElem_cons_zero, List.getElem_cons_succ, Act.put, List.setIfInBounds_toArray, List.set_cons_zero, List.set_cons_succ]
      refine wpAnyH_ready (rs := [8]) (by kernel_rfl) (by simp) ?_
      refine AllReadyH.cons rfl (fun K hK => ?_) AllReadyH.nil
      refine step_callW rfl 23 #[.agg MA.toArray, .agg MB.toArray] (by kernel_rfl) (HEQ.out _ HSD.out) ?_
      rintro e w6 ⟨rfl, HS6⟩
      refine ⟨_, rfl, hK.out _ _ HS6.out fun _ => ?_⟩
      clear hK
      simp only [List.getElem_toArray, List.getElem_cons_zero, List.getElem_cons_succ, Act.put, List.setIfInBounds_toArray, List.set_cons_zero, List.set_cons_succ]
      refine wpAnyH_take (i := 9) (v := .bool false) rfl (by kernel_rfl) (by kernel_rfl) (by kernel_rfl) (fun _ _ _ h => h) (.inl ⟨rfl, fun W hW => by kernel_rfl⟩) HS6.out ?_
      simp only [List.getElem_toArray, List.getElem_cons_zero, List.getElem_cons_succ, Act.put, List.setIfInBounds_toArray, List.set_cons_zero, List.set_cons_succ]
      refine wpAnyH_done (by kernel_rfl) ?_ _
      clear HEQ HRA HRB HIA HIB
      go_wp2_with fail
      go_roundg (n - (i + 1))
      case measure => go_light; exact hme
      case rel => go_light; exact ⟨i + 1, hi1, rfl, by simp, HS6⟩
    · have z1 : ¬ (i : Int) < (n : Int) := by omega
      go_wp2_with fail
      go_ret
      exact ⟨rfl, HS.out⟩
end Go.Proofs.Ytkcjmjaikobpoaa

/- Package quorum: Chosen. -/
namespace Go.Proofs.Ytkcjmjaikobpoaa
open Go.RowKit Go.Maps
set_option maxRecDepth 100000
set_option maxRecDepth 100000

theorem cells_stored {W : World} {qb t n : Nat} {f : Nat → Value} (h : W.rowIs qb t n f) (vs : List Value) (hl : vs.length = n) : ∃ W1, Hid (W.setCells qb 0 vs = W1) ∧ W1.heap[qb]? = some (.cells vs.toArray t (0, 0)) ∧ W1.heap.size = W.heap.size ∧ (∀ k, k ≠ qb → W1.heap[k]? = W.heap[k]?) ∧ W1.os = W.os ∧ W1.tape = W.tape ∧ W1.output = W.output := by
  have hr := rowIs_setCells vs 0 W f h
  have hr2 : (W.setCells qb 0 vs).rowIs qb t n (fun j => vs.getD j undef) := hr.congr (fun j hj => by
    rw [if_pos ⟨Nat.zero_le _, by omega⟩, Nat.sub_zero])
  have hk : ∀ (vs : List Value) (o : Nat) (W : World), (∀ k, k ≠ qb → (W.setCells qb o vs).heap[k]? = W.heap[k]?) ∧ (W.setCells qb o vs).os = W.os ∧ (W.setCells qb o vs).tape = W.tape ∧ (W.setCells qb o vs).output = W.output := by
    intro vs
    induction vs with
    | nil => intro o W; exact ⟨fun _ _ => rfl, rfl, rfl, rfl⟩
    | cons v r ih =>
      intro o W
      obtain ⟨i1, i2, i3, i4⟩ := ih (o + 1) (W.setCell ⟨qb, o, none⟩ v)
      exact ⟨fun k hk => (i1 k hk).trans (Below.heap_setCell _ _ _ _ hk), i2, i3, i4⟩
  obtain ⟨h1, h2, h3, h4⟩ := hk vs 0 W
  refine ⟨_, rfl, ?_, size_setCells _ _ _ _, h1, h2, h3, h4⟩
  rw [row_heap hr2]
  have e : (List.range n).map (fun j => vs.getD j undef) = vs := by
    refine List.ext_getElem (by simp [hl]) (fun j j1 j2 => ?_)
    simp [List.getD, j2]
  rw [e]
theorem results_cell_row_tmp {P : Program} {fn : Func} {p u : Tmp} {ty : TypeId} (h : fn.results = #[.cell p ty, .tmp u]) (tmps : Array Value) (w : World) (g : Nat) (t : TypeId) (cs : Array Value) (fr : Nat × Nat) (d : TypeDesc)
    (hp : tmps.getD p undef = .pointer (some ⟨g, 0, none⟩)) (hg : w.heap[g]? = some (.cells cs t fr))
    (hu : P.underlying ty = some d) (hd : (match d with | .struct _ | .array _ _ => true | _ => false) = true) (hi : (P.info? ty).map (·.size) = some cs.size) (v : Value) (hv : tmps.getD u undef = v) :
    (results fn tmps).run P w = .ok (.tuple #[.agg cs, v]) w := by
  rw [results_cell_tmp h, hp, hv]
  simp [asAddr, run_loadVar_row w g t ty cs fr d hg hu hd hi, Result.andThen]
/-- A string's bytes, made new. -/
theorem conv_str (W : World) (v : List Nat) (hb : ∀ x ∈ v, x < 256) : ∃ (W' : World) (C : Nat), Hid ((convert 9 43 (.string (strL v))).run Try.prog W = .ok (.slice (some ⟨W.heap.size, 0, none⟩) v.length C) W') ∧ v.length ≤ C ∧ Byt W' (some ⟨W.heap.size, 0, none⟩) v.length (fun j => v.getD j 0) ∧ W.Since W.heap.size W' ∧ W.heap.size < W'.heap.size := by
  have hcv := Lib.run_convert_string_bytes (P := Try.prog) W 9 43 5 (strL v) Try.underlying9 Try.underlying43 Try.underlying5
  have hF := flb_new W (strL v)
  have hs2 := since_bytes W (strL v)
  rw [strL_size] at hcv hF
  refine ⟨_, _, hcv, ?_, ?_, hs2, hF.lt'⟩
  · have := hF.le
    rw [strL_size] at this
    exact this
  · have := hF.byt
    rw [strL_size] at this
    exact fun j hj => by
      obtain ⟨b, o, e, hc⟩ := this j hj
      exact ⟨b, o, e, by rw [hc, bx_strL hb]⟩
theorem bytT_on {w w' : World} {g n : Nat} {x : Nat → Nat} (h : Byt w (some ⟨g, 0, none⟩) n x) (e : w'.heap[g]? = w.heap[g]?) : Byt w' (some ⟨g, 0, none⟩) n x := fun j hj => by
  obtain ⟨b, o, q, hc⟩ := h j hj
  cases q
  exact ⟨_, _, rfl, by rw [World.cell?_of_block (a := ⟨g, _, none⟩) e]; exact hc⟩
set_option maxHeartbeats 4000000 in
theorem chosen_any {w : World} {p : Qp} {d : Qd} (h : QIs w p d) :
    Calls Try.prog 34 #[.pointer (some ⟨p.b, 0, none⟩)] w fun e w' => ∃ g c, e = .returned (.tuple #[.agg #[.int .u64 (d.chosen.te : Nat), .int .u64 (d.chosen.ts : Nat)], .slice (some ⟨g, 0, none⟩) d.chosen.v.length c]) ∧ d.chosen.v.length ≤ c ∧ Byt w' (some ⟨g, 0, none⟩) d.chosen.v.length (fun j => d.chosen.v.getD j 0) ∧ w.Since w.heap.size w' := by
  obtain ⟨W0, HW0⟩ : ∃ W, Hid (w.alloc (.cells #[.int .u64 0, .int .u64 0] 42) = W) := ⟨_, rfl⟩
  have s0 : w.Since w.heap.size W0 := by rw [← HW0.out]; exact (World.Since.refl _ _).alloc (Nat.le_refl _) _
  have z0 : W0.heap.size = w.heap.size + 1 := by rw [← HW0.out]; simp
  have hr0 : W0.rowIs w.heap.size 42 2 (fun i => .int .u64 0) := by
    rw [← HW0.out]
    exact World.rowIs_alloc w _ _ _ (fun i hi => by
      have hi' : i < 2 := hi
      match i, hi' with
      | 0, _ => rfl
      | 1, _ => rfl
      | n + 2, hh => exact absurd hh (by omega))
  have hd : W0.Since W0.heap.size W0.drew := (World.Since.refl _ _).drew
  have h0 : QIs W0.drew p d := (h.since s0).since hd
  have hbt := h.ok.chosen.byte
  have hpb : p.b < w.heap.size := h.row.lt
  obtain ⟨te, hte⟩ : ∃ x, d.chosen.te = x := ⟨_, rfl⟩
  obtain ⟨ts, hts⟩ : ∃ x, d.chosen.ts = x := ⟨_, rfl⟩
  obtain ⟨V, hV⟩ : ∃ x, d.chosen.v = x := ⟨_, rfl⟩
  have HC9 : Hid (∀ W, QIs W p d → W.cell? ⟨p.b, 9, none⟩ = some (.int .u64 (te : Nat))) := fun W q => by rw [← hte]; exact q.cell 9 (by decide)
  have HC10 : Hid (∀ W, QIs W p d → W.cell? ⟨p.b, 10, none⟩ = some (.int .u64 (ts : Nat))) := fun W q => by rw [← hts]; exact q.cell 10 (by decide)
  have HC11 : Hid (∀ W, QIs W p d → W.cell? ⟨p.b, 11, none⟩ = some (.string (strL V))) := fun W q => by rw [← hV]; exact q.cell 11 (by decide)
  rw [hV] at hbt
  rw [hte, hts, hV]
  have hzd : W0.drew.heap.size = W0.heap.size := rfl
  -- the bytes first
  obtain ⟨WA, CA, HCA, lA, bA, sA, xA⟩ := conv_str W0.drew V hbt
  rw [hzd] at HCA bA sA xA
  have hsA : W0.Since W0.heap.size WA := hd.trans sA
  have hrA := row_since hr0 hsA
  obtain ⟨XA, HXA, hhA, zA, kA, oA, tA, pA⟩ := cells_stored hrA [.int .u64 (te : Nat), .int .u64 (ts : Nat)] rfl
  have HQA : Hid (QIs WA p d) := (h.since s0).since hsA
  have HTA : Hid (WA.there w.heap.size 0 2) := row_there hrA
  have swA : w.Since w.heap.size WA := s0.trans (since_mono hsA s0.size)
  have HEA : Hid (V.length ≤ CA ∧ Byt XA (some ⟨W0.heap.size, 0, none⟩) V.length (fun j => V.getD j 0) ∧ w.Since w.heap.size XA) := ⟨lA, bytT_on bA (kA _ (by omega)), ⟨oA.trans swA.os, tA.trans swA.tape, pA.trans swA.output, by rw [zA]; exact swA.size, fun k hk => (kA k (by omega)).trans (swA.block k hk)⟩⟩
  have HHA := hide hhA
  have HQXA : Hid (QIs XA p d) := HQA.out.on (kA _ (by omega)) (kA _ (by have := h.lts; omega)) (kA _ (by have := h.lts; omega)) (kA _ (by have := h.lts; omega)) (kA _ (by have := h.lts; omega))
  -- the tag first
  obtain ⟨Y0, HY0, hhB, zB, kB, oB, tB, pB⟩ := cells_stored (row_since hr0 hd) [.int .u64 (te : Nat), .int .u64 (ts : Nat)] rfl
  have HTB : Hid (W0.drew.there w.heap.size 0 2) := row_there (row_since hr0 hd)
  have HQB : Hid (QIs Y0 p d) := h0.on (kB _ (by omega)) (kB _ (by have := h.lts; omega)) (kB _ (by have := h.lts; omega)) (kB _ (by have := h.lts; omega)) (kB _ (by have := h.lts; omega))
  obtain ⟨WB, CB, HCB, lB, bB, sB, xB⟩ := conv_str Y0 V hbt
  have zB' : Y0.heap.size = W0.heap.size := zB.trans hzd
  rw [zB'] at HCB bB sB
  have hs0d : w.Since w.heap.size W0.drew := s0.trans (since_mono hd s0.size)
  have swB0 : w.Since w.heap.size Y0 := ⟨oB.trans hs0d.os, tB.trans hs0d.tape, pB.trans hs0d.output, by rw [zB]; exact hs0d.size, fun k hk => (kB k (by omega)).trans (hs0d.block k hk)⟩
  have HEB : Hid (V.length ≤ CB ∧ Byt WB (some ⟨W0.heap.size, 0, none⟩) V.length (fun j => V.getD j 0) ∧ w.Since w.heap.size WB) := ⟨lB, bB, swB0.trans (since_mono sB s0.size)⟩
  have HHB : Hid (WB.heap[w.heap.size]? = some (.cells #[.int .u64 (te : Nat), .int .u64 (ts : Nat)] 42 (0, 0))) := (sB.block _ (by omega)).trans hhB
  have HQXB : Hid (QIs WB p d) := HQB.out.since (by rw [zB']; exact sB)
  have HQ0 := hide h0
  clear s0 z0 hr0 hd h0 hbt hpb hte hts hV hzd lA bA sA xA hsA hrA hhA zA kA oA tA pA swA hhB zB kB oB tB pB lB bB sB xB zB' hs0d swB0 h
  go_enter Try.func34, Try.ntmps34
  go_upto_region 1 with fail
  rw [HW0.out]
  refine wp_region_held_drew (S := fun W => QIs W p d) (by kernel_rfl) HQ0.out fun _ => ?_
  refine wpAnyH_take (i := 0) (v := .pointer (some ⟨p.b, 0, none⟩)) rfl (by kernel_rfl) (by kernel_rfl) (by kernel_rfl) (fun _ _ _ h => h) (.inl ⟨rfl, fun W hW => by kernel_rfl⟩) HQ0.out ?_
  simp only [List.getElem_toArray, List.getElem_cons_zero, Act.put, List.setIfInBounds_toArray, List.set_cons_zero, List.set_cons_succ]
  refine wpAnyH_take (i := 1) (v := .pointer (some ⟨p.b, 0, none⟩)) rfl (by kernel_rfl) (by kernel_rfl) (by kernel_rfl) (fun _ _ _ h => h) (.inl ⟨rfl, fun W hW => by first | kernel_rfl | go_simp⟩) HQ0.out ?_
  simp only [List.getElem_toArray, List.getElem_cons_zero, List.getElem_cons_succ, Act.put, List.setIfInBounds_toArray, List.set_cons_zero, List.set_cons_succ]
  refine wpAnyH_take (i := 2) (v := .pointer (some ⟨p.b, 9, none⟩)) rfl (by kernel_rfl) (by kernel_rfl) (by kernel_rfl) (fun _ _ _ h => h) (.inl ⟨rfl, fun W hW => by kernel_rfl⟩) HQ0.out ?_
  simp only [List.getElem_toArray, List.getElem_cons_zero, List.getElem_cons_succ, Act.put, List.setIfInBounds_toArray, List.set_cons_zero, List.set_cons_succ]
  refine wpAnyH_take (i := 3) (v := .pointer (some ⟨p.b, 9, none⟩)) rfl (by kernel_rfl) (by kernel_rfl) (by kernel_rfl) (fun _ _ _ h => h) (.inl ⟨rfl, fun W hW => by kernel_rfl⟩) HQ0.out ?_
  simp only [List.getElem_toArray, List.getElem_cons_zero, List.getElem_cons_succ, Act.put, List.setIfInBounds_toArray, List.set_cons_zero, List.set_cons_succ]
  refine wpAnyH_take (i := 4) (v := .agg #[.int .u64 (te : Nat), .int .u64 (ts : Nat)]) rfl (by kernel_rfl) (by kernel_rfl) (by kernel_rfl) (fun _ _ _ h => h) (.inl ⟨rfl, fun W hW => by have c := HC9.out W hW; have c2 := HC10.out W hW; go_simp⟩) HQ0.out ?_
  simp only [List.getElem_toArray, List.getElem_cons_zero, List.getElem_cons_succ, Act.put, List.setIfInBounds_toArray, List.set_cons_zero, List.set_cons_succ]
  refine wpAnyH_take (i := 5) (v := .pointer (some ⟨p.b, 0, none⟩)) rfl (by kernel_rfl) (by kernel_rfl) (by kernel_rfl) (fun _ _ _ h => h) (.inl ⟨rfl, fun W hW => by kernel_rfl⟩) HQ0.out ?_
  simp only [List.getElem_toArray, List.getElem_cons_zero, List.getElem_cons_succ, Act.put, List.setIfInBounds_toArray, List.set_cons_zero, List.set_cons_succ]
  refine wpAnyH_take (i := 6) (v := .pointer (some ⟨p.b, 0, none⟩)) rfl (by kernel_rfl) (by kernel_rfl) (by kernel_rfl) (fun _ _ _ h => h) (.inl ⟨rfl, fun W hW => by first | kernel_rfl | go_simp⟩) HQ0.out ?_
  simp only [List.getElem_toArray, List.getElem_cons_zero, List.getElem_cons_succ, Act.put, List.setIfInBounds_toArray, List.set_cons_zero, List.set_cons_succ]
  refine wpAnyH_take (i := 7) (v := .pointer (some ⟨p.b, 9, none⟩)) rfl (by kernel_rfl) (by kernel_rfl) (by kernel_rfl) (fun _ _ _ h => h) (.inl ⟨rfl, fun W hW => by kernel_rfl⟩) HQ0.out ?_
  simp only [List.getElem_toArray, List.getElem_cons_zero, List.getElem_cons_succ, Act.put, List.setIfInBounds_toArray, List.set_cons_zero, List.set_cons_succ]
  refine wpAnyH_take (i := 8) (v := .pointer (some ⟨p.b, 11, none⟩)) rfl (by kernel_rfl) (by kernel_rfl) (by kernel_rfl) (fun _ _ _ h => h) (.inl ⟨rfl, fun W hW => by kernel_rfl⟩) HQ0.out ?_
  simp only [List.getElem_toArray, List.getElem_cons_zero, List.getElem_cons_succ, Act.put, List.setIfInBounds_toArray, List.set_cons_zero, List.set_cons_succ]
  refine wpAnyH_take (i := 9) (v := .string (strL V)) rfl (by kernel_rfl) (by kernel_rfl) (by kernel_rfl) (fun _ _ _ h => h) (.inl ⟨rfl, fun W hW => by have c := HC11.out W hW; go_simp⟩) HQ0.out ?_
  simp only [List.getElem_toArray, List.getElem_cons_zero, List.getElem_cons_succ, Act.put, List.setIfInBounds_toArray, List.set_cons_zero, List.set_cons_succ]
  refine wpAnyH_ready (rs := [10, 11]) (by kernel_rfl) (by simp) ?_
  refine AllReadyH.cons rfl (fun K hK => ?_) (AllReadyH.cons rfl (fun K hK => ?_) AllReadyH.nil)
  · refine step_storeM rfl (op_runW (w' := WA) (.slice (some ⟨W0.heap.size, 0, none⟩) V.length CA) ?_ ?_)
    · have r := HCA.out
      go_simp
    refine hK.out _ _ HQA.out fun _ => ?_
    clear hK
    simp only [List.getElem_toArray, List.getElem_cons_zero, List.getElem_cons_succ, Act.put, List.setIfInBounds_toArray, List.set_cons_zero, List.set_cons_succ]
    refine wpAnyH_ready (rs := [11]) (by kernel_rfl) (by simp) ?_
    refine AllReadyH.cons rfl (fun K hK => ?_) AllReadyH.nil
    refine step_storeM rfl (wp_store_mid 42 (.tmp 2) (.tmp 8) rfl w.heap.size 0 _ rfl rfl HTA.out infoTg (by simp [Value.oneCell']) ?_)
    rw [show (WA.setCells w.heap.size 0 _) = XA from HXA.out]
    refine hK.out _ _ HQXA.out fun _ => ?_
    clear hK
    simp only [List.getElem_toArray, List.getElem_cons_zero, List.getElem_cons_succ, Act.put]
    refine wpAnyH_take (i := 12) (v := .slice (some ⟨W0.heap.size, 0, none⟩) V.length CA) rfl (by kernel_rfl) (by kernel_rfl) (by kernel_rfl) (fun _ _ _ h => h) (.inl ⟨rfl, fun W hW => by kernel_rfl⟩) HQXA.out ?_
    simp only [List.getElem_toArray, List.getElem_cons_zero, List.getElem_cons_succ, Act.put, List.setIfInBounds_toArray, List.set_cons_zero, List.set_cons_succ]
    refine wpAnyH_done (by kernel_rfl) ?_ _
    go_wp2_with fail
    exact bodyPost_ret_by (results_cell_row_tmp rfl _ _ w.heap.size 42 _ (0, 0) _ rfl HHA.out Try.underlying42 rfl infoTg _ rfl) rfl ⟨_, _, rfl, HEA.out⟩
  · refine step_storeM rfl (wp_store_mid 42 (.tmp 2) (.tmp 8) rfl w.heap.size 0 _ rfl rfl HTB.out infoTg (by simp [Value.oneCell']) ?_)
    rw [show (W0.drew.setCells w.heap.size 0 _) = Y0 from HY0.out]
    refine hK.out _ _ HQB.out fun _ => ?_
    clear hK
    simp only [List.getElem_toArray, List.getElem_cons_zero, List.getElem_cons_succ, Act.put]
    refine wpAnyH_ready (rs := [10]) (by kernel_rfl) (by simp) ?_
    refine AllReadyH.cons rfl (fun K hK => ?_) AllReadyH.nil
    refine step_storeM rfl (op_runW (w' := WB) (.slice (some ⟨W0.heap.size, 0, none⟩) V.length CB) ?_ ?_)
    · have r := HCB.out
      go_simp
    refine hK.out _ _ HQXB.out fun _ => ?_
    clear hK
    simp only [List.getElem_toArray, List.getElem_cons_zero, List.getElem_cons_succ, Act.put, List.setIfInBounds_toArray, List.set_cons_zero, List.set_cons_succ]
    refine wpAnyH_take (i := 12) (v := .slice (some ⟨W0.heap.size, 0, none⟩) V.length CB) rfl (by kernel_rfl) (by kernel_rfl) (by kernel_rfl) (fun _ _ _ h => h) (.inl ⟨rfl, fun W hW => by kernel_rfl⟩) HQXB.out ?_
    simp only [List.getElem_toArray, List.getElem_cons_zero, List.getElem_cons_succ, Act.put, List.setIfInBounds_toArray, List.set_cons_zero, List.set_cons_succ]
    refine wpAnyH_done (by kernel_rfl) ?_ _
    go_wp2_with fail
    exact bodyPost_ret_by (results_cell_row_tmp rfl _ _ w.heap.size 42 _ (0, 0) _ rfl HHB.out Try.underlying42 rfl infoTg _ rfl) rfl ⟨_, _, rfl, HEB.out⟩
end Go.Proofs.Ytkcjmjaikobpoaa

/- QuorumOnce: like. -/
namespace Go.Proofs.Ytkcjmjaikobpoaa
open Go.RowKit Go.Maps
set_option maxRecDepth 100000
set_option maxRecDepth 100000

/-- What like keeps of what the two have chosen. -/
structure LS (w : World) (V : List Nat) (te ts t1 t2 g1 g2 : Nat) (W : World) : Prop where
  s : w.Since w.heap.size W
  a0 : W.cell? ⟨t1, 0, none⟩ = some (.int .u64 (te : Nat))
  a1 : W.cell? ⟨t1, 1, none⟩ = some (.int .u64 (ts : Nat))
  b0 : W.cell? ⟨t2, 0, none⟩ = some (.int .u64 (te : Nat))
  b1 : W.cell? ⟨t2, 1, none⟩ = some (.int .u64 (ts : Nat))
  va : Byt W (some ⟨g1, 0, none⟩) V.length (fun j => V.getD j 0)
  vb : Byt W (some ⟨g2, 0, none⟩) V.length (fun j => V.getD j 0)
theorem LS.since {w W W' : World} {V : List Nat} {te ts t1 t2 g1 g2 : Nat} (h : LS w V te ts t1 t2 g1 g2 W) (hs : W.Since W.heap.size W') : LS w V te ts t1 t2 g1 g2 W' :=
  ⟨h.s.trans (since_mono hs h.s.size), cell_later hs h.a0, cell_later hs h.a1, cell_later hs h.b0, cell_later hs h.b1, h.va.since hs, h.vb.since hs⟩
set_option maxHeartbeats 8000000 in
theorem like_any {w : World} {pa pb : Qp} {d : Qd} (ha : QIs w pa d) (hb : QIs w pb d) :
    Calls Try.prog 16 #[.pointer (some ⟨pa.b, 0, none⟩), .pointer (some ⟨pb.b, 0, none⟩)] w fun e w' => e = .returned (.bool true) ∧ w.Since w.heap.size w' := by
  have hvl := ha.ok.chosen.len
  obtain ⟨te, hte⟩ : ∃ x, d.chosen.te = x := ⟨_, rfl⟩
  obtain ⟨ts, hts⟩ : ∃ x, d.chosen.ts = x := ⟨_, rfl⟩
  obtain ⟨V, hV⟩ : ∃ x, d.chosen.v = x := ⟨_, rfl⟩
  rw [hV] at hvl
  have HC : Hid (∀ p W, QIs W p d → Calls Try.prog 34 #[.pointer (some ⟨p.b, 0, none⟩)] W fun e w' => ∃ g c, e = .returned (.tuple #[.agg #[.int .u64 (te : Nat), .int .u64 (ts : Nat)], .slice (some ⟨g, 0, none⟩) V.length c]) ∧
      ∃ W2 tb, Hid (w'.alloc (.cells #[.int .u64 (te : Nat), .int .u64 (ts : Nat)] 42) = W2) ∧ Hid (w'.heap.size = tb) ∧ Hid (W2.cell? ⟨tb, 0, none⟩ = some (.int .u64 (te : Nat)) ∧ W2.cell? ⟨tb, 1, none⟩ = some (.int .u64 (ts : Nat)) ∧ Byt W2 (some ⟨g, 0, none⟩) V.length (fun j => V.getD j 0) ∧ W.Since W.heap.size W2)) := fun p W hq => by
    have q := chosen_any hq
    rw [hte, hts, hV] at q
    refine q.mono fun e w' ⟨g, c, he, _, hb, hs⟩ => ⟨g, c, he, _, _, rfl, rfl, by simp, by simp, ?_, ?_⟩
    · exact hb.since ((World.Since.refl _ _).alloc (Nat.le_refl _) _)
    · exact hs.trans (since_mono ((World.Since.refl _ _).alloc (Nat.le_refl _) _) hs.size)
  obtain ⟨bg, hbg⟩ : ∃ x, d.begun = x := ⟨_, rfl⟩
  obtain ⟨dn, hdn⟩ : ∃ x, d.done = x := ⟨_, rfl⟩
  obtain ⟨ph, hph⟩ : ∃ x, d.ph = x := ⟨_, rfl⟩
  obtain ⟨ep, hep⟩ : ∃ x, d.ep = x := ⟨_, rfl⟩
  obtain ⟨se, hse⟩ : ∃ x, d.seen = x := ⟨_, rfl⟩
  obtain ⟨ho, hho⟩ : ∃ x, decide (d.ph = 3 ∨ (d.ph = 2 ∧ 1 < d.next.ts)) = x := ⟨_, rfl⟩
  have HRD : Hid (∀ p W, QIs W p d → Calls Try.prog 35 #[.pointer (some ⟨p.b, 0, none⟩)] W fun e w' => e = .returned (.tuple #[.int .u64 (bg : Nat), .int .u64 (dn : Nat)]) ∧ Hid (W.Since W.heap.size w')) := fun p W hq => by
    have q := roundQ_any hq
    rw [hbg, hdn] at q
    exact q.mono fun e w' ⟨he, m, hw⟩ => ⟨he, by rw [hw]; exact drewN_since W m⟩
  have HPH : Hid (∀ p W, QIs W p d → Calls Try.prog 22 #[.pointer (some ⟨p.b, 0, none⟩)] W fun e w' => e = .returned (.int .i64 ph) ∧ W = w') := fun p W hq => by rw [← hph]; exact phaseQ_any hq
  have HEP : Hid (∀ p W, QIs W p d → Calls Try.prog 37 #[.pointer (some ⟨p.b, 0, none⟩)] W fun e w' => e = .returned (.int .u64 (ep : Nat)) ∧ W = w') := fun p W hq => by rw [← hep]; exact epochQ_any hq
  have HSE : Hid (∀ p W, QIs W p d → Calls Try.prog 38 #[.pointer (some ⟨p.b, 0, none⟩)] W fun e w' => e = .returned (.int .u64 (se : Nat)) ∧ W = w') := fun p W hq => by rw [← hse]; exact seenQ_any hq
  have HHO : Hid (∀ p W, QIs W p d → Calls Try.prog 32 #[.pointer (some ⟨p.b, 0, none⟩)] W fun e w' => e = .returned (.bool ho) ∧ W = w') := fun p W hq => by rw [← hho]; exact holdsQ_any hq
  have HA := hide ha
  have HB := hide hb
  have HLA : Hid (∀ W, w.Since w.heap.size W → QIs W pa d) := fun W hW => ha.since hW
  have HLB : Hid (∀ W, w.Since w.heap.size W → QIs W pb d) := fun W hW => hb.since hW
  have HVL := hide hvl
  have z1 : ((te : Int) == (te : Int)) = true := by simp
  have z2 : ((ts : Int) == (ts : Int)) = true := by simp
  have z3 : ((bg : Int) == (bg : Int)) = true := by simp
  have z4 : ((dn : Int) == (dn : Int)) = true := by simp
  have z5 : (ph == ph) = true := by simp
  have z6 : ((ep : Int) == (ep : Int)) = true := by simp
  have z7 : ((se : Int) == (se : Int)) = true := by simp
  have z8 : (ho == ho) = true := by simp
  clear ha hb hvl hte hts hV hbg hdn hph hep hse hho
  go_enter Try.func16, Try.ntmps16
  go_upto_region 2 with (go_at_call 34; refine (HC.out pa _ HA.out).mono ?_; rintro e w1 ⟨g1, c1, rfl, W1, t1, HW1, Ht1, HF1⟩)
  rw [HW1.out, Ht1.out]
  have HQ1 := hide (HLB.out _ HF1.out.2.2.2)
  clear HW1 Ht1 HA HB
  go_upto_region 3 with (go_at_call 34; refine (HC.out pb _ HQ1.out).mono ?_; rintro e w2 ⟨g2, c2, rfl, W2, t2, HW2, Ht2, HF2⟩)
  rw [HW2.out, Ht2.out]
  have HS : Hid (LS w V te ts t1 t2 g1 g2 W2) := by
    obtain ⟨a0, a1, va, s1⟩ := HF1.out
    obtain ⟨b0, b1, vb, s2⟩ := HF2.out
    exact ⟨s1.trans (since_mono s2 s1.size), cell_later s2 a0, cell_later s2 a1, b0, b1, va.since s2, vb⟩
  clear HW2 Ht2 HF1 HF2 HQ1 HC
  have HR1 := hide (HRD.out pa _ (HLA.out _ HS.out.s))
  go_upto_region 4 with (go_at_call 35; refine HR1.out.mono ?_; rintro e w3 ⟨rfl, HS3⟩)
  have HT3 := hide (HS.out.since HS3.out)
  clear HS HS3 HR1
  have HR2 := hide (HRD.out pb _ (HLB.out _ HT3.out.s))
  go_upto_region 5 with (go_at_call 35; refine HR2.out.mono ?_; rintro e w4 ⟨rfl, HS4⟩)
  have HT4 := hide (HT3.out.since HS4.out)
  clear HT3 HS4 HR2 HRD
  have a0 := HT4.out.a0
  have a1 := HT4.out.a1
  have b0 := HT4.out.b0
  have b1 := HT4.out.b1
  have HEQ : Hid (Calls Try.prog 36 #[.slice (some ⟨g1, 0, none⟩) V.length c1, .slice (some ⟨g2, 0, none⟩) V.length c2] w4 fun e w' => e = .returned (.bool true) ∧ Hid (LS w V te ts t1 t2 g1 g2 w')) :=
    (eq_any _ _ V.length V.length c1 c2 _ _ w4 HT4.out.va HT4.out.vb (by have := HVL.out; omega) (by have := HVL.out; omega)).mono fun e w' ⟨he, m, hw⟩ => ⟨by rw [he]; simp, HT4.out.since (by rw [hw]; exact drewN_since w4 m)⟩
  clear HVL
  refine wp_region_lit ?_
  refine wpList_plain rfl fun _ hK => op_run (.agg #[.int .u64 (te : Nat), .int .u64 (ts : Nat)]) (by go_simp) (hK _ _ ?_)
  simp only [Act.put, List.setIfInBounds_toArray, List.set_cons_zero, List.set_cons_succ]
  refine wpList_plain rfl fun _ hK => op_run (.agg #[.int .u64 (te : Nat), .int .u64 (ts : Nat)]) (by go_simp) (hK _ _ ?_)
  simp only [Act.put, List.setIfInBounds_toArray, List.set_cons_zero, List.set_cons_succ]
  refine wpList_plain rfl fun _ hK => op_run (.bool true) (by go_simp) (hK _ _ ?_)
  simp only [Act.put, List.setIfInBounds_toArray, List.set_cons_zero, List.set_cons_succ]
  refine wpList_plain rfl fun _ hK => op_run (.bool true) (by kernel_rfl) (hK _ _ ?_)
  simp only [Act.put, List.setIfInBounds_toArray, List.set_cons_zero, List.set_cons_succ]
  refine wpList_want rfl fun _ hK => op_run (.slice (some ⟨g1, 0, none⟩) V.length c1) (by kernel_rfl) (hK _ _ ?_)
  simp only [Act.put, List.setIfInBounds_toArray, List.set_cons_zero, List.set_cons_succ]
  refine wpList_want rfl fun _ hK => op_run (.slice (some ⟨g2, 0, none⟩) V.length c2) (by kernel_rfl) (hK _ _ ?_)
  simp only [Act.put, List.setIfInBounds_toArray, List.set_cons_zero, List.set_cons_succ]
  refine wpList_want rfl fun _ hK => op_call 36 #[.slice (some ⟨g1, 0, none⟩) V.length c1, .slice (some ⟨g2, 0, none⟩) V.length c2] (by kernel_rfl) HEQ.out ?_
  rintro e w5 ⟨rfl, HT5⟩
  refine ⟨_, rfl, hK _ _ ?_⟩
  clear hK
  simp only [Act.put, List.setIfInBounds_toArray, List.set_cons_zero, List.set_cons_succ]
  refine wpList_plain rfl fun _ hK => op_run (.bool true) (by kernel_rfl) (hK _ _ ?_)
  simp only [Act.put, List.setIfInBounds_toArray, List.set_cons_zero, List.set_cons_succ]
  refine wpList_plain rfl fun _ hK => op_run (.bool true) (by kernel_rfl) (hK _ _ ?_)
  simp only [Act.put, List.setIfInBounds_toArray, List.set_cons_zero, List.set_cons_succ]
  refine wpList_want rfl fun _ hK => op_run (.int .u64 (bg : Nat)) (by kernel_rfl) (hK _ _ ?_)
  simp only [Act.put, List.setIfInBounds_toArray, List.set_cons_zero, List.set_cons_succ]
  refine wpList_want rfl fun _ hK => op_run (.int .u64 (bg : Nat)) (by kernel_rfl) (hK _ _ ?_)
  simp only [Act.put, List.setIfInBounds_toArray, List.set_cons_zero, List.set_cons_succ]
  refine wpList_want rfl fun _ hK => op_run (.bool true) (by go_simp) (hK _ _ ?_)
  simp only [Act.put, List.setIfInBounds_toArray, List.set_cons_zero, List.set_cons_succ]
  refine wpList_plain rfl fun _ hK => op_run (.bool true) (by kernel_rfl) (hK _ _ ?_)
  simp only [Act.put, List.setIfInBounds_toArray, List.set_cons_zero, List.set_cons_succ]
  refine wpList_plain rfl fun _ hK => op_run (.bool true) (by kernel_rfl) (hK _ _ ?_)
  simp only [Act.put, List.setIfInBounds_toArray, List.set_cons_zero, List.set_cons_succ]
  refine wpList_want rfl fun _ hK => op_run (.int .u64 (dn : Nat)) (by kernel_rfl) (hK _ _ ?_)
  simp only [Act.put, List.setIfInBounds_toArray, List.set_cons_zero, List.set_cons_succ]
  refine wpList_want rfl fun _ hK => op_run (.int .u64 (dn : Nat)) (by kernel_rfl) (hK _ _ ?_)
  simp only [Act.put, List.setIfInBounds_toArray, List.set_cons_zero, List.set_cons_succ]
  refine wpList_want rfl fun _ hK => op_run (.bool true) (by go_simp) (hK _ _ ?_)
  simp only [Act.put, List.setIfInBounds_toArray, List.set_cons_zero, List.set_cons_succ]
  refine wpList_plain rfl fun _ hK => op_run (.bool true) (by kernel_rfl) (hK _ _ ?_)
  simp only [Act.put, List.setIfInBounds_toArray, List.set_cons_zero, List.set_cons_succ]
  refine wpList_plain rfl fun _ hK => op_run (.bool true) (by kernel_rfl) (hK _ _ ?_)
  simp only [Act.put, List.setIfInBounds_toArray, List.set_cons_zero, List.set_cons_succ]
  refine wpList_want rfl fun _ hK => op_run (.pointer (some ⟨pa.b, 0, none⟩)) (by kernel_rfl) (hK _ _ ?_)
  simp only [Act.put, List.setIfInBounds_toArray, List.set_cons_zero, List.set_cons_succ]
  refine wpList_want rfl fun _ hK => op_call 22 #[.pointer (some ⟨pa.b, 0, none⟩)] (by kernel_rfl) (HPH.out pa _ (HLA.out _ HT5.out.s)) ?_
  rintro e w5 ⟨rfl, rfl⟩
  refine ⟨_, rfl, hK _ _ ?_⟩
  clear hK
  simp only [Act.put, List.setIfInBounds_toArray, List.set_cons_zero, List.set_cons_succ]
  refine wpList_want rfl fun _ hK => op_run (.pointer (some ⟨pb.b, 0, none⟩)) (by kernel_rfl) (hK _ _ ?_)
  simp only [Act.put, List.setIfInBounds_toArray, List.set_cons_zero, List.set_cons_succ]
  refine wpList_want rfl fun _ hK => op_call 22 #[.pointer (some ⟨pb.b, 0, none⟩)] (by kernel_rfl) (HPH.out pb _ (HLB.out _ HT5.out.s)) ?_
  rintro e w5 ⟨rfl, rfl⟩
  refine ⟨_, rfl, hK _ _ ?_⟩
  clear hK
  simp only [Act.put, List.setIfInBounds_toArray, List.set_cons_zero, List.set_cons_succ]
  refine wpList_want rfl fun _ hK => op_run (.bool true) (by go_simp) (hK _ _ ?_)
  simp only [Act.put, List.setIfInBounds_toArray, List.set_cons_zero, List.set_cons_succ]
  refine wpList_plain rfl fun _ hK => op_run (.bool true) (by kernel_rfl) (hK _ _ ?_)
  simp only [Act.put, List.setIfInBounds_toArray, List.set_cons_zero, List.set_cons_succ]
  refine wpList_plain rfl fun _ hK => op_run (.bool true) (by kernel_rfl) (hK _ _ ?_)
  simp only [Act.put, List.setIfInBounds_toArray, List.set_cons_zero, List.set_cons_succ]
  refine wpList_want rfl fun _ hK => op_run (.pointer (some ⟨pa.b, 0, none⟩)) (by kernel_rfl) (hK _ _ ?_)
  simp only [Act.put, List.setIfInBounds_toArray, List.set_cons_zero, List.set_cons_succ]
  refine wpList_want rfl fun _ hK => op_call 37 #[.pointer (some ⟨pa.b, 0, none⟩)] (by kernel_rfl) (HEP.out pa _ (HLA.out _ HT5.out.s)) ?_
  rintro e w5 ⟨rfl, rfl⟩
  refine ⟨_, rfl, hK _ _ ?_⟩
  clear hK
  simp only [Act.put, List.setIfInBounds_toArray, List.set_cons_zero, List.set_cons_succ]
  refine wpList_want rfl fun _ hK => op_run (.pointer (some ⟨pb.b, 0, none⟩)) (by kernel_rfl) (hK _ _ ?_)
  simp only [Act.put, List.setIfInBounds_toArray, List.set_cons_zero, List.set_cons_succ]
  refine wpList_want rfl fun _ hK => op_call 37 #[.pointer (some ⟨pb.b, 0, none⟩)] (by kernel_rfl) (HEP.out pb _ (HLB.out _ HT5.out.s)) ?_
  rintro e w5 ⟨rfl, rfl⟩
  refine ⟨_, rfl, hK _ _ ?_⟩
  clear hK
  simp only [Act.put, List.setIfInBounds_toArray, List.set_cons_zero, List.set_cons_succ]
  refine wpList_want rfl fun _ hK => op_run (.bool true) (by go_simp) (hK _ _ ?_)
  simp only [Act.put, List.setIfInBounds_toArray, List.set_cons_zero, List.set_cons_succ]
  refine wpList_plain rfl fun _ hK => op_run (.bool true) (by kernel_rfl) (hK _ _ ?_)
  simp only [Act.put, List.setIfInBounds_toArray, List.set_cons_zero, List.set_cons_succ]
  refine wpList_plain rfl fun _ hK => op_run (.bool true) (by kernel_rfl) (hK _ _ ?_)
  simp only [Act.put, List.setIfInBounds_toArray, List.set_cons_zero, List.set_cons_succ]
  refine wpList_want rfl fun _ hK => op_run (.pointer (some ⟨pa.b, 0, none⟩)) (by kernel_rfl) (hK _ _ ?_)
  simp only [Act.put, List.setIfInBounds_toArray, List.set_cons_zero, List.set_cons_succ]
  refine wpList_want rfl fun _ hK => op_call 38 #[.pointer (some ⟨pa.b, 0, none⟩)] (by kernel_rfl) (HSE.out pa _ (HLA.out _ HT5.out.s)) ?_
  rintro e w5 ⟨rfl, rfl⟩
  refine ⟨_, rfl, hK _ _ ?_⟩
  clear hK
  simp only [Act.put, List.setIfInBounds_toArray, List.set_cons_zero, List.set_cons_succ]
  refine wpList_want rfl fun _ hK => op_run (.pointer (some ⟨pb.b, 0, none⟩)) (by kernel_rfl) (hK _ _ ?_)
  simp only [Act.put, List.setIfInBounds_toArray, List.set_cons_zero, List.set_cons_succ]
  refine wpList_want rfl fun _ hK => op_call 38 #[.pointer (some ⟨pb.b, 0, none⟩)] (by kernel_rfl) (HSE.out pb _ (HLB.out _ HT5.out.s)) ?_
  rintro e w5 ⟨rfl, rfl⟩
  refine ⟨_, rfl, hK _ _ ?_⟩
  clear hK
  simp only [Act.put, List.setIfInBounds_toArray, List.set_cons_zero, List.set_cons_succ]
  refine wpList_want rfl fun _ hK => op_run (.bool true) (by go_simp) (hK _ _ ?_)
  simp only [Act.put, List.setIfInBounds_toArray, List.set_cons_zero, List.set_cons_succ]
  refine wpList_plain rfl fun _ hK => op_run (.bool true) (by kernel_rfl) (hK _ _ ?_)
  simp only [Act.put, List.setIfInBounds_toArray, List.set_cons_zero, List.set_cons_succ]
  refine wpList_plain rfl fun _ hK => op_run (.bool true) (by kernel_rfl) (hK _ _ ?_)
  simp only [Act.put, List.setIfInBounds_toArray, List.set_cons_zero, List.set_cons_succ]
  refine wpList_want rfl fun _ hK => op_run (.pointer (some ⟨pa.b, 0, none⟩)) (by kernel_rfl) (hK _ _ ?_)
  simp only [Act.put, List.setIfInBounds_toArray, List.set_cons_zero, List.set_cons_succ]
  refine wpList_want rfl fun _ hK => op_call 32 #[.pointer (some ⟨pa.b, 0, none⟩)] (by kernel_rfl) (HHO.out pa _ (HLA.out _ HT5.out.s)) ?_
  rintro e w5 ⟨rfl, rfl⟩
  refine ⟨_, rfl, hK _ _ ?_⟩
  clear hK
  simp only [Act.put, List.setIfInBounds_toArray, List.set_cons_zero, List.set_cons_succ]
  refine wpList_want rfl fun _ hK => op_run (.pointer (some ⟨pb.b, 0, none⟩)) (by kernel_rfl) (hK _ _ ?_)
  simp only [Act.put, List.setIfInBounds_toArray, List.set_cons_zero, List.set_cons_succ]
  refine wpList_want rfl fun _ hK => op_call 32 #[.pointer (some ⟨pb.b, 0, none⟩)] (by kernel_rfl) (HHO.out pb _ (HLB.out _ HT5.out.s)) ?_
  rintro e w5 ⟨rfl, rfl⟩
  refine ⟨_, rfl, hK _ _ ?_⟩
  clear hK
  simp only [Act.put, List.setIfInBounds_toArray, List.set_cons_zero, List.set_cons_succ]
  refine wpList_want rfl fun _ hK => op_run (.bool true) (by go_simp) (hK _ _ ?_)
  simp only [Act.put, List.setIfInBounds_toArray, List.set_cons_zero, List.set_cons_succ]
  refine wpList_plain rfl fun _ hK => op_run (.bool true) (by kernel_rfl) (hK _ _ ?_)
  simp only [Act.put, List.setIfInBounds_toArray, List.set_cons_zero, List.set_cons_succ]
  refine wpList_plain rfl fun _ hK => op_run (.bool true) (by kernel_rfl) (hK _ _ ?_)
  simp only [Act.put, List.setIfInBounds_toArray, List.set_cons_zero, List.set_cons_succ]
  go_wp2_with fail
  go_ret
  exact ⟨rfl, HT5.out.s⟩
end Go.Proofs.Ytkcjmjaikobpoaa

/- QuorumOnce: two quorums side by side. -/
namespace Go.Proofs.Ytkcjmjaikobpoaa
open Go.RowKit Go.Maps
set_option maxRecDepth 100000
set_option maxRecDepth 100000

/-- No block of the one is one that the other's deeds turn. -/
structure Apart (pa pb : Qp) : Prop where
  b : pb.b ≠ pa.b ∧ pb.b ≠ pa.m1 ∧ pb.b ≠ pa.m2 ∧ pb.b ≠ pa.m3
  cb : pb.cb ≠ pa.b ∧ pb.cb ≠ pa.m1 ∧ pb.cb ≠ pa.m2 ∧ pb.cb ≠ pa.m3
  m1 : pb.m1 ≠ pa.b ∧ pb.m1 ≠ pa.m1 ∧ pb.m1 ≠ pa.m2 ∧ pb.m1 ≠ pa.m3
  m2 : pb.m2 ≠ pa.b ∧ pb.m2 ≠ pa.m1 ∧ pb.m2 ≠ pa.m2 ∧ pb.m2 ≠ pa.m3
  m3 : pb.m3 ≠ pa.b ∧ pb.m3 ≠ pa.m1 ∧ pb.m3 ≠ pa.m2 ∧ pb.m3 ≠ pa.m3
theorem apart_of {w : World} {pa pb : Qp} {d : Qd} (h : QIs w pa d) (hg : pb.ge w.heap.size) : Apart pa pb ∧ Apart pb pa := by
  obtain ⟨l1, l2, l3, l4, l5⟩ := h.lts
  obtain ⟨g1, g2, g3, g4, g5⟩ := hg
  exact ⟨⟨by omega, by omega, by omega, by omega, by omega⟩, ⟨by omega, by omega, by omega, by omega, by omega⟩⟩
theorem QIs.beside {w w' : World} {pa pb : Qp} {d : Qd} (h : QIs w pb d) (b : Bq pa w w') (ap : Apart pa pb) : QIs w' pb d := by
  obtain ⟨l1, l2, l3, l4, l5⟩ := h.lts
  exact h.on (b.block _ l1 ap.b.1 ap.b.2.1 ap.b.2.2.1 ap.b.2.2.2) (b.block _ l2 ap.cb.1 ap.cb.2.1 ap.cb.2.2.1 ap.cb.2.2.2) (b.block _ l3 ap.m1.1 ap.m1.2.1 ap.m1.2.2.1 ap.m1.2.2.2) (b.block _ l4 ap.m2.1 ap.m2.2.1 ap.m2.2.2.1 ap.m2.2.2.2) (b.block _ l5 ap.m3.1 ap.m3.2.1 ap.m3.2.2.1 ap.m3.2.2.2)
/-- What one told stands while the other acts. -/
theorem OutM.beside {B : Nat} {w w' : World} {p : Qp} {r : Value} {ms : List Mg} (h : OutM B w r ms) (b : Bq p w w') (h0 : p.b < B) (h1 : p.m1 < B) (h2 : p.m2 < B) (h3 : p.m3 < B) : OutM B w' r ms :=
  h.on (Nat.le_refl _) (fun g hg hl => b.block g hl (by omega) (by omega) (by omega) (by omega))
/-- The values that are told are bytes, and no more than may be. -/
def Bys (ms : List Mg) : Prop := ∀ m ∈ ms, (∀ v ∈ m.s 10, v < 256) ∧ (m.s 10).length ≤ 140737488351232
theorem bys_nil : Bys [] := fun _ hm => absurd hm List.not_mem_nil
theorem bys_app {a b : List Mg} (ha : Bys a) (hb : Bys b) : Bys (a ++ b) := fun m hm => by
  rcases List.mem_append.1 hm with h | h
  · exact ha m h
  · exact hb m h
theorem bys_toMs (L C : List Int) (m : Mg) (h : m.s 10 = []) : Bys (toMs L C m) := fun x hx => by
  obtain ⟨y, _, rfl⟩ := List.mem_map.1 hx
  have e : (m.setN 2 y).s 10 = [] := h
  rw [e]
  exact ⟨fun v hv => absurd hv List.not_mem_nil, Nat.zero_le _⟩
theorem bys_write (d : Qd) (S : Int) (h : d.next.ok) : Bys (writeMs d S) := fun x hx => by
  obtain ⟨y, _, rfl⟩ := List.mem_map.1 hx
  exact ⟨h.byte, h.len⟩
theorem bys_prep (d : Qd) : Bys (prepMs d) := bys_toMs _ _ _ rfl
theorem bys_beat (d : Qd) (S : Int) : Bys (beatMs d S) := bys_toMs _ _ _ rfl
theorem bys_pre (d : Qd) (S : Int) (h : d.next.ok) : Bys (preMs d S) := by
  unfold preMs
  split
  · exact bys_prep d
  · split
    · exact bys_write d S h
    · exact bys_nil
theorem bys_round (d : Qd) (S : Int) : Bys (roundM d S).2 := by
  unfold roundM
  split
  · split
    · exact bys_nil
    · exact bys_beat _ S
  · exact bys_beat d S
theorem bys_tick (d : Qd) (S : Int) (h : d.next.ok) : Bys (tickM d S).2 := by
  unfold tickM
  split
  · exact bys_app (bys_pre d S h) (bys_round d S)
  · exact bys_pre d S h
theorem bys_prop (d : Qd) (v : List Nat) (S : Int) (hl : v.length ≤ 140737488351232) (hb : ∀ x ∈ v, x < 256) : Bys (propM d v S).2.1 := by
  unfold propM
  split
  · intro x hx
    obtain ⟨y, _, rfl⟩ := List.mem_map.1 hx
    exact ⟨hb, hl⟩
  · exact bys_nil
theorem bys_start (d : Qd) (E : Nat) (t : Tv) (S : Int) (h : t.ok) : Bys (startM d E t S).2 := by
  unfold startM
  split
  · intro x hx
    obtain ⟨y, _, rfl⟩ := List.mem_map.1 hx
    exact ⟨h.byte, h.len⟩
  · exact bys_prep _
theorem bys_hear (d : Qd) (m : Mg) (S : Int) (h : d.next.ok) (hb : ∀ v ∈ m.s 10, v < 256) (hl : (m.s 10).length ≤ 140737488351232) : Bys (hearM d m S).2 := by
  have hp : Bys (promM d m S).2 := by
    unfold promM
    split
    · exact bys_nil
    · split
      · have hB : (∀ v ∈ (proB d m).next.v, v < 256) ∧ (proB d m).next.v.length ≤ 140737488351232 := by
          unfold proB
          split
          · exact ⟨hb, hl⟩
          · exact ⟨h.byte, h.len⟩
        intro x hx
        obtain ⟨y, _, rfl⟩ := List.mem_map.1 hx
        exact hB
      · exact bys_nil
  unfold hearM
  split
  · split
    · exact hp
    · split
      · exact bys_nil
      · split
        · exact bys_nil
        · split
          · exact bys_nil
          · exact bys_nil
  · exact bys_nil
/-- What two told alike is the same to EqMsgs. -/
theorem eqMsgs_out {w : World} {B B' : Nat} {x y : Value} {ms : List Mg} (hx : OutM B w x ms) (hy : OutM B' w y ms) (hb : Bys ms) (hn : ms.length ≤ 1000000) :
    Calls Try.prog 9 #[x, y] w fun e w' => e = .returned (.bool true) ∧ w.Since w.heap.size w' := by
  obtain ⟨ax, cx, rfl, mx⟩ := hx.at' (fun m hm => (hb m hm).1)
  obtain ⟨ay, cy, rfl, my⟩ := hy.at' (fun m hm => (hb m hm).1)
  exact eqMsgs_same mx my cx cy _ rfl hn (fun m hm => by have := (hb m hm).2; omega)
end Go.Proofs.Ytkcjmjaikobpoaa

/- QuorumOnce: the same is given to both. -/
namespace Go.Proofs.Ytkcjmjaikobpoaa
open Go.RowKit Go.Maps
set_option maxRecDepth 100000
set_option maxRecDepth 100000

/-- Two quorums that stand alike. -/
structure Two (pa pb : Qp) (d : Qd) (W : World) : Prop where
  a : QIs W pa d
  b : QIs W pb d
  ab : Apart pa pb
  ba : Apart pb pa
/-- Nothing has turned but what is the two's own. -/
structure Bq2 (pa pb : Qp) (w w' : World) : Prop where
  os : w'.os = w.os
  tape : w'.tape = w.tape
  output : w'.output = w.output
  size : w.heap.size ≤ w'.heap.size
  block : ∀ k, k < w.heap.size → k ≠ pa.b → k ≠ pa.m1 → k ≠ pa.m2 → k ≠ pa.m3 → k ≠ pb.b → k ≠ pb.m1 → k ≠ pb.m2 → k ≠ pb.m3 → w'.heap[k]? = w.heap[k]?
section
variable {pa pb : Qp} {d d' : Qd} {w w' w'' : World}
theorem Two.symm (h : Two pa pb d w) : Two pb pa d w := ⟨h.b, h.a, h.ba, h.ab⟩
theorem Two.since (h : Two pa pb d w) (hs : w.Since w.heap.size w') : Two pa pb d w' := ⟨h.a.since hs, h.b.since hs, h.ab, h.ba⟩
theorem Bq2.refl : Bq2 pa pb w w := ⟨rfl, rfl, rfl, Nat.le_refl _, fun _ _ _ _ _ _ _ _ _ _ => rfl⟩
theorem Bq2.trans (h : Bq2 pa pb w w') (k : Bq2 pa pb w' w'') : Bq2 pa pb w w'' :=
  ⟨k.os.trans h.os, k.tape.trans h.tape, k.output.trans h.output, Nat.le_trans h.size k.size, fun i hi a1 a2 a3 a4 b1 b2 b3 b4 => (k.block i (Nat.lt_of_lt_of_le hi h.size) a1 a2 a3 a4 b1 b2 b3 b4).trans (h.block i hi a1 a2 a3 a4 b1 b2 b3 b4)⟩
theorem Bq2.symm (h : Bq2 pa pb w w') : Bq2 pb pa w w' := ⟨h.os, h.tape, h.output, h.size, fun i hi b1 b2 b3 b4 a1 a2 a3 a4 => h.block i hi a1 a2 a3 a4 b1 b2 b3 b4⟩
theorem Bq2.of_a (h : Bq pa w w') : Bq2 pa pb w w' := ⟨h.os, h.tape, h.output, h.size, fun i hi a1 a2 a3 a4 _ _ _ _ => h.block i hi a1 a2 a3 a4⟩
theorem Bq2.of_b (h : Bq pb w w') : Bq2 pa pb w w' := ⟨h.os, h.tape, h.output, h.size, fun i hi _ _ _ _ b1 b2 b3 b4 => h.block i hi b1 b2 b3 b4⟩
/-- The same deed at both, first a, then b: what they tell is the same, and they stand alike. -/
theorem Two.both {W : World} {f : FuncId} {args : Qp → Array Value} {ms : List Mg} {S : World → Prop} (hS : ∀ W W', S W → Bq2 pa pb W W' → S W')
    (H : ∀ p W, (p = pa ∨ p = pb) → S W → QIs W p d → Calls Try.prog f (args p) W fun e w' => ∃ r, e = .returned r ∧ OutM W.heap.size w' r ms ∧ QIs w' p d' ∧ Bq p W w') (hb : Bys ms) (hn : ms.length ≤ 1000000) (h : Two pa pb d W) (s : S W) :
    Calls Try.prog f (args pa) W fun e w1 => ∃ r, e = .returned r ∧ Hid (Calls Try.prog f (args pb) w1 fun e w2 => ∃ r2, e = .returned r2 ∧ Hid (Calls Try.prog 9 #[r, r2] w2 (fun e w3 => e = .returned (.bool true) ∧ Hid (Two pa pb d' w3 ∧ Bq2 pa pb W w3 ∧ S w3)) ∧ Calls Try.prog 9 #[r2, r] w2 (fun e w3 => e = .returned (.bool true) ∧ Hid (Two pa pb d' w3 ∧ Bq2 pa pb W w3 ∧ S w3)))) :=
  (H pa W (.inl rfl) s h.a).mono fun e w1 ⟨r, he, ho, hq, hbq⟩ => ⟨r, he, by
    have s1 := hS _ _ s (Bq2.of_a hbq)
    have b1 := h.b.beside hbq h.ab
    exact (H pb w1 (.inr rfl) s1 b1).mono fun e w2 ⟨r2, he2, ho2, hq2, hbq2⟩ => ⟨r2, he2, by
      have a2 := hq.beside hbq2 h.ba
      obtain ⟨l1, l2, l3, l4, l5⟩ := h.b.lts
      have o2 := ho.beside hbq2 l1 l3 l4 l5
      have t2 : Two pa pb d' w2 := ⟨a2, hq2, h.ab, h.ba⟩
      have q2 : Bq2 pa pb W w2 := (Bq2.of_a hbq).trans (Bq2.of_b hbq2)
      have fin : ∀ (e : Ending) (w3 : World), (e = .returned (.bool true) ∧ w2.Since w2.heap.size w3) → e = .returned (.bool true) ∧ Hid (Two pa pb d' w3 ∧ Bq2 pa pb W w3 ∧ S w3) := fun e w3 ⟨he3, hs3⟩ => ⟨he3, t2.since hs3, q2.trans (Bq2.of_a (Bq.of_since hs3)), hS _ _ s (q2.trans (Bq2.of_a (Bq.of_since hs3)))⟩
      exact ⟨(eqMsgs_out o2 ho2 hb hn).mono fin, (eqMsgs_out ho2 o2 hb hn).mono fin⟩⟩⟩
end
end Go.Proofs.Ytkcjmjaikobpoaa

/- QuorumOnce: a message is heard once by the one, twice by the other. -/
namespace Go.Proofs.Ytkcjmjaikobpoaa
open Go.RowKit Go.Maps
set_option maxRecDepth 100000
set_option maxRecDepth 100000

theorem out_shape {B : Nat} {W : World} {r : Value} {ms : List Mg} (h : OutM B W r ms) : ∃ a c, r = .slice a ms.length c := by
  obtain ⟨l, ho, rfl, _⟩ := h
  obtain ⟨a, c, e⟩ := ownM_form ho
  exact ⟨a, c, by rw [e, List.length_map]⟩
theorem writeMs_len (d : Qd) (S : Int) : (writeMs d S).length ≤ d.L.length := by
  unfold writeMs
  rw [List.length_map]
  exact toMs_len _ _ _
theorem hear_len (d : Qd) (m : Mg) (S : Int) : (hearM d m S).2.length ≤ d.L.length := by
  have hp : (promM d m S).2.length ≤ d.L.length := by
    have hL : (proB d m).L = d.L := by unfold proB; split <;> rfl
    unfold promM
    split
    · exact Nat.zero_le _
    · split
      · have := writeMs_len (wrtM (proB d m) 1 (proB d m).next.v) S
        have e : (wrtM (proB d m) 1 (proB d m).next.v).L = d.L := hL
        rw [e] at this
        exact this
      · exact Nat.zero_le _
  unfold hearM
  split
  · split
    · exact hp
    · split
      · exact Nat.zero_le _
      · split
        · exact Nat.zero_le _
        · split <;> exact Nat.zero_le _
  · exact Nat.zero_le _
theorem Two.hear {pa pb : Qp} {d : Qd} {W : World} {m : Mg} {va : Option Addr} {vc : Nat} (hA : ∀ W', Bq2 pa pb W W' → MgA W' m va vc) (hN : MgN m) (h : Two pa pb d W) (S : Int) :
    Calls Try.prog 12 #[.pointer (some ⟨pa.b, 0, none⟩), mgV m va vc, .int .i64 S] W fun e w1 => ∃ r, e = .returned r ∧ Hid (Calls Try.prog 12 #[.pointer (some ⟨pb.b, 0, none⟩), mgV m va vc, .int .i64 S] w1 fun e w2 => ∃ r2, e = .returned r2 ∧
      Hid (Calls Try.prog 12 #[.pointer (some ⟨pb.b, 0, none⟩), mgV m va vc, .int .i64 S] w2 fun e w3 => ∃ a c, e = .returned (.slice a 0 c) ∧ Hid (Calls Try.prog 9 #[r, r2] w3 fun e w4 => e = .returned (.bool true) ∧ Hid (Two pa pb (hearM d m S).1 w4 ∧ Bq2 pa pb W w4)))) := by
  have hA0 := hA W Bq2.refl
  have hbys : Bys (hearM d m S).2 := bys_hear d m S h.a.ok.next (hA0.byte 10) (by have := hA0.len 10; omega)
  have hlen : (hearM d m S).2.length ≤ 1000000 := by have := hear_len d m S; have := h.a.ok.l7; omega
  have hag := hear_again d m S
  exact (hear_any h.a m va vc hA0 hN S).mono fun e w1 ⟨r, he, ho, hq, hbq⟩ => ⟨r, he, by
    have q1 : Bq2 pa pb W w1 := Bq2.of_a hbq
    exact (hear_any (h.b.beside hbq h.ab) m va vc (hA w1 q1) hN S).mono fun e w2 ⟨r2, he2, ho2, hq2, hbq2⟩ => ⟨r2, he2, by
      have q2 := q1.trans (Bq2.of_b hbq2)
      have g3 := hear_any hq2 m va vc (hA w2 q2) hN S
      rw [hag] at g3
      exact g3.mono fun e w3 ⟨r3, he3, ho3, hq3, hbq3⟩ => by
        obtain ⟨a, c, er⟩ := out_shape ho3
        obtain ⟨l1, l2, l3, l4, l5⟩ := h.b.lts
        obtain ⟨k1, k2, k3, k4, k5⟩ := (h.b.beside hbq h.ab).lts
        have o1 := (ho.beside hbq2 l1 l3 l4 l5).beside hbq3 l1 l3 l4 l5
        have o2 := ho2.beside hbq3 k1 k3 k4 k5
        have a3 := (hq.beside hbq2 h.ba).beside hbq3 h.ba
        have q3 := q2.trans (Bq2.of_b hbq3)
        exact ⟨a, c, by rw [he3, er]; rfl, (eqMsgs_out o1 o2 hbys hlen).mono fun e w4 ⟨he4, hs4⟩ => ⟨he4, (Two.mk a3 hq3 h.ab h.ba).since hs4, q3.trans (Bq2.of_a (Bq.of_since hs4))⟩⟩⟩⟩
end Go.Proofs.Ytkcjmjaikobpoaa

/- QuorumOnce: the other deeds at both. -/
namespace Go.Proofs.Ytkcjmjaikobpoaa
open Go.RowKit Go.Maps
set_option maxRecDepth 100000
set_option maxRecDepth 100000

theorem tick_len (d : Qd) (S : Int) : (tickM d S).2.length ≤ d.L.length + d.L.length := by
  have h1 := preMs_len d S
  have h2 := roundM_len d S
  unfold tickM
  split
  · rw [List.length_append]; omega
  · show (preMs d S).length ≤ _; omega
theorem prop_len (d : Qd) (v : List Nat) (S : Int) : (propM d v S).2.1.length ≤ d.L.length := by
  unfold propM
  split
  · exact writeMs_len (wrtM d (d.chosen.ts + 1) v) S
  · exact Nat.zero_le _
theorem start_len (d : Qd) (E : Nat) (t : Tv) (S : Int) : (startM d E t S).2.length ≤ d.L.length := by
  unfold startM
  split
  · exact writeMs_len (wrtM (begM d E t) 1 t.v) S
  · exact toMs_len _ _ _
section
variable {pa pb : Qp} {d : Qd} {W : World}
theorem Two.tick (h : Two pa pb d W) (S : Int) :
    Calls Try.prog 14 #[.pointer (some ⟨pa.b, 0, none⟩), .int .i64 S] W fun e w1 => ∃ r, e = .returned r ∧ Hid (Calls Try.prog 14 #[.pointer (some ⟨pb.b, 0, none⟩), .int .i64 S] w1 fun e w2 => ∃ r2, e = .returned r2 ∧ Hid (Calls Try.prog 9 #[r, r2] w2 (fun e w3 => e = .returned (.bool true) ∧ Hid (Two pa pb (tickM d S).1 w3 ∧ Bq2 pa pb W w3 ∧ True)) ∧ Calls Try.prog 9 #[r2, r] w2 (fun e w3 => e = .returned (.bool true) ∧ Hid (Two pa pb (tickM d S).1 w3 ∧ Bq2 pa pb W w3 ∧ True)))) :=
  Two.both (S := fun _ => True) (args := fun p => #[.pointer (some ⟨p.b, 0, none⟩), .int .i64 S]) (fun _ _ _ _ => trivial) (fun _ _ _ _ hq => tick_any hq S) (bys_tick d S h.a.ok.next) (by have := tick_len d S; have := h.a.ok.l7; omega) h trivial
theorem Two.start (h : Two pa pb d W) (E : Nat) (hE : E < 18446744073709551616) (P te ts : Nat) (hte : te < 18446744073709551616) (hts : ts < 18446744073709551616) (va : Option Addr) (n vc : Nat) (x : Nat → Nat) (hx : ∀ j, x j < 256) (hnil : va = none → n = 0) (hn : n ≤ 140737488351232) (S : Int) (hv : ∀ W', Bq2 pa pb W W' → Byt W' va n x) :
    Calls Try.prog 10 #[.pointer (some ⟨pa.b, 0, none⟩), .int .u64 (E : Nat), .agg #[.int .u64 (P : Nat), .int .u64 (te : Nat), .int .u64 (ts : Nat), .slice va n vc], .int .i64 S] W fun e w1 => ∃ r, e = .returned r ∧ Hid (Calls Try.prog 10 #[.pointer (some ⟨pb.b, 0, none⟩), .int .u64 (E : Nat), .agg #[.int .u64 (P : Nat), .int .u64 (te : Nat), .int .u64 (ts : Nat), .slice va n vc], .int .i64 S] w1 fun e w2 => ∃ r2, e = .returned r2 ∧ Hid (Calls Try.prog 9 #[r, r2] w2 (fun e w3 => e = .returned (.bool true) ∧ Hid (Two pa pb (startM d E ⟨te, ts, (List.range n).map x⟩ S).1 w3 ∧ Bq2 pa pb W w3 ∧ Bq2 pa pb W w3)) ∧ Calls Try.prog 9 #[r2, r] w2 (fun e w3 => e = .returned (.bool true) ∧ Hid (Two pa pb (startM d E ⟨te, ts, (List.range n).map x⟩ S).1 w3 ∧ Bq2 pa pb W w3 ∧ Bq2 pa pb W w3)))) :=
  Two.both (S := fun W' => Bq2 pa pb W W') (args := fun p => #[.pointer (some ⟨p.b, 0, none⟩), .int .u64 (E : Nat), .agg #[.int .u64 (P : Nat), .int .u64 (te : Nat), .int .u64 (ts : Nat), .slice va n vc], .int .i64 S]) (fun _ _ a b => a.trans b) (fun _ _ _ s hq => start_any hq E hE P te ts hte hts va n vc x (hv _ s) hx hnil hn S)
    (bys_start d E _ S ⟨hte, hts, by simpa using hn, fun y hy => by
      obtain ⟨j, _, rfl⟩ := List.mem_map.1 hy
      exact hx j⟩) (by have := start_len d E ⟨te, ts, (List.range n).map x⟩ S; have := h.a.ok.l7; omega) h Bq2.refl
theorem Two.stop (h : Two pa pb d W) :
    Calls Try.prog 15 #[.pointer (some ⟨pa.b, 0, none⟩)] W fun e w1 => e = .returned (.tuple #[]) ∧ Hid (Calls Try.prog 15 #[.pointer (some ⟨pb.b, 0, none⟩)] w1 fun e w2 => e = .returned (.tuple #[]) ∧ Hid (Two pa pb (stopM d) w2 ∧ Bq2 pa pb W w2)) :=
  (stop_any h.a).mono fun _ _ ⟨he, hq, hbq⟩ => ⟨he, (stop_any (h.b.beside hbq h.ab)).mono fun _ _ ⟨he2, hq2, hbq2⟩ => ⟨he2, ⟨hq.beside hbq2 h.ba, hq2, h.ab, h.ba⟩, (Bq2.of_a hbq).trans (Bq2.of_b hbq2)⟩⟩
theorem Two.prop (h : Two pa pb d W) (va : Option Addr) (n vc : Nat) (x : Nat → Nat) (hx : ∀ j, x j < 256) (hnil : va = none → n = 0) (hn : n ≤ 140737488351232) (S : Int) (hv : ∀ W', Bq2 pa pb W W' → Byt W' va n x) :
    Calls Try.prog 13 #[.pointer (some ⟨pa.b, 0, none⟩), .slice va n vc, .int .i64 S] W fun e w1 => ∃ r, e = .returned (.tuple #[r, .bool (propM d ((List.range n).map x) S).2.2]) ∧ Hid (Calls Try.prog 13 #[.pointer (some ⟨pb.b, 0, none⟩), .slice va n vc, .int .i64 S] w1 fun e w2 => ∃ r2, e = .returned (.tuple #[r2, .bool (propM d ((List.range n).map x) S).2.2]) ∧ Hid (Calls Try.prog 9 #[r, r2] w2 fun e w3 => e = .returned (.bool true) ∧ Hid (Two pa pb (propM d ((List.range n).map x) S).1 w3 ∧ Bq2 pa pb W w3))) :=
  (propose_any h.a va n vc x (hv W Bq2.refl) hx hnil hn S).mono fun e w1 ⟨r, he, ho, hq, hbq⟩ => ⟨r, he, by
    have q1 : Bq2 pa pb W w1 := Bq2.of_a hbq
    exact (propose_any (h.b.beside hbq h.ab) va n vc x (hv w1 q1) hx hnil hn S).mono fun e w2 ⟨r2, he2, ho2, hq2, hbq2⟩ => ⟨r2, he2, by
      obtain ⟨l1, l2, l3, l4, l5⟩ := h.b.lts
      have q2 := q1.trans (Bq2.of_b hbq2)
      have hb : Bys (propM d ((List.range n).map x) S).2.1 := bys_prop d _ S (by simpa using hn) (fun y hy => by
        obtain ⟨j, _, rfl⟩ := List.mem_map.1 hy
        exact hx j)
      exact (eqMsgs_out (ho.beside hbq2 l1 l3 l4 l5) ho2 hb (by have := prop_len d ((List.range n).map x) S; have := h.a.ok.l7; omega)).mono fun e w3 ⟨he3, hs3⟩ => ⟨he3, (Two.mk (hq.beside hbq2 h.ba) hq2 h.ab h.ba).since hs3, q2.trans (Bq2.of_a (Bq.of_since hs3))⟩⟩⟩
theorem Two.like (h : Two pa pb d W) : Calls Try.prog 16 #[.pointer (some ⟨pa.b, 0, none⟩), .pointer (some ⟨pb.b, 0, none⟩)] W fun e w' => e = .returned (.bool true) ∧ Hid (Two pa pb d w' ∧ Bq2 pa pb W w') :=
  (like_any h.a h.b).mono fun _ _ ⟨he, hs⟩ => ⟨he, h.since hs, Bq2.of_a (Bq.of_since hs)⟩
end
end Go.Proofs.Ytkcjmjaikobpoaa
