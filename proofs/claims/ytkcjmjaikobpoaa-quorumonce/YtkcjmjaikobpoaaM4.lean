/- Own texts, joined: QU21, QC1, QU22, QU23, QU24, QU25, QU26, QU27. -/
import Derived.Test.YtkcjmjaikobpoaaM3

/- Package quorum: Propose, Tick. -/
namespace Go.Proofs.Ytkcjmjaikobpoaa
open Go.RowKit Go.Maps
set_option maxRecDepth 100000
set_option maxRecDepth 100000

def propM (d : Qd) (v : List Nat) (S : Int) : Qd × List Mg × Bool := if d.ph = 3 ∧ d.chosen.ts < 1099511627776 then (wrtM d (d.chosen.ts + 1) v, writeMs (wrtM d (d.chosen.ts + 1) v) S, true) else (d, [], false)
set_option maxHeartbeats 2000000 in
theorem propose_any {w : World} {p : Qp} {d : Qd} (h : QIs w p d) (va : Option Addr) (n vc : Nat) (x : Nat → Nat) (hb : Byt w va n x) (hx : ∀ j, x j < 256) (hnil : va = none → n = 0) (hn : n ≤ 140737488351232) (S : Int) :
    Calls Try.prog 13 #[.pointer (some ⟨p.b, 0, none⟩), .slice va n vc, .int .i64 S] w fun e w' => ∃ r, e = .returned (.tuple #[r, .bool (propM d ((List.range n).map x) S).2.2]) ∧ OutM w.heap.size w' r (propM d ((List.range n).map x) S).2.1 ∧ QIs w' p (propM d ((List.range n).map x) S).1 ∧ Bq p w w' := by
  obtain ⟨V, hV⟩ : ∃ V, (List.range n).map x = V := ⟨_, rfl⟩
  have hVl : V.length ≤ 140737488351232 := by rw [← hV]; simpa using hn
  have hVb : ∀ y ∈ V, y < 256 := fun y hy => by
    rw [← hV] at hy
    obtain ⟨j, _, rfl⟩ := List.mem_map.1 hy
    exact hx j
  rw [hV]
  have c4 : w.cell? ⟨p.b, 4, none⟩ = some (.int .i64 d.ph) := h.cell 4 (by decide)
  have c10 : w.cell? ⟨p.b, 10, none⟩ = some (.int .u64 (d.chosen.ts : Nat)) := h.cell 10 (by decide)
  have HN : Hid (OutM w.heap.size w (.slice none 0 0) [] ∧ QIs w p d ∧ Bq p w w) := ⟨OutM.nil _ _, h, Bq.refl p w⟩
  by_cases h3 : d.ph = 3
  · have e3 : (d.ph != 3) = false := by simp [h3]
    by_cases hm : d.chosen.ts < 1099511627776
    · have HSM : Hid (propM d V S = (wrtM d (d.chosen.ts + 1) V, writeMs (wrtM d (d.chosen.ts + 1) V) S, true)) := if_pos ⟨h3, hm⟩
      have hz : decide ((d.chosen.ts : Int) ≥ 1099511627776) = false := decide_eq_false (by omega)
      obtain ⟨B1, hB1⟩ : ∃ B : Int, ((d.chosen.ts + 1 : Nat) : Int) = B := ⟨_, rfl⟩
      have hwr : IntKind.u64.wrap ((d.chosen.ts : Int) + 1) = B1 := by rw [IntKind.wrap_u64]; omega
      have hcv : ∀ W : World, Byt W va n x → (convert 43 9 (.slice va n vc)).run Try.prog W = .ok (.string (strL V)) W := fun W hW => by
        have := str_byt va n vc x W hW hnil
        rw [strOf_strL, hV] at this
        exact this
      have hd : w.Since w.heap.size w.drew := (World.Since.refl _ _).drew
      have qd := h.since hd
      have HC : Hid (Calls Try.prog 30 #[.pointer (some ⟨p.b, 0, none⟩), .int .u64 B1, .string (strL V), .int .i64 S] w.drew fun e w' => ∃ r, e = .returned r ∧ Hid (w'.cell? ⟨p.b, 10, none⟩ = some (.int .u64 (d.chosen.ts : Nat)) ∧ Byt w' va n x) ∧ Hid (OutM w.heap.size w' r (writeMs (wrtM d (d.chosen.ts + 1) V) S) ∧ QIs w' p (wrtM d (d.chosen.ts + 1) V) ∧ Bq p w w')) := by
        rw [← hB1]
        exact (wrt_any qd (d.chosen.ts + 1) (by omega) V hVl hVb S).mono fun e w' ⟨r, he, ho, hq, hbq⟩ => ⟨r, he, ⟨hq.cell 10 (by decide), byt_bq qd hbq (hb.since hd)⟩, ho, hq, (Bq.of_since hd).trans hbq⟩
      have HS0 : Hid (w.drew.cell? ⟨p.b, 10, none⟩ = some (.int .u64 (d.chosen.ts : Nat)) ∧ Byt w.drew va n x) := ⟨c10, hb.since hd⟩
      obtain ⟨BB, hBB⟩ : ∃ B : Int, (d.chosen.ts : Int) = B := ⟨_, rfl⟩
      rw [hBB] at hz hwr HS0 c10
      simp only [hBB] at HC
      clear h hx hVb hV qd hd hb HN hm hB1 hBB hVl hn hnil
      generalize strL V = SV at *
      go_enter Try.func13, Try.ntmps13
      go_upto_region 3 with fail
      refine wp_region_held_drew (S := fun W => W.cell? ⟨p.b, 10, none⟩ = some (.int .u64 BB) ∧ Byt W va n x) (by kernel_rfl) HS0.out fun _ => ?_
      refine wpAnyH_take (i := 0) (v := .pointer (some ⟨p.b, 0, none⟩)) rfl (by kernel_rfl) (by kernel_rfl) (by kernel_rfl) (fun _ _ _ h => h) (.inl ⟨rfl, fun W hW => by kernel_rfl⟩) HS0.out ?_
      simp only [List.getElem_toArray, List.getElem_cons_zero, Act.put, List.setIfInBounds_toArray, List.set_cons_zero, List.set_cons_succ]
      refine wpAnyH_take (i := 1) (v := .pointer (some ⟨p.b, 0, none⟩)) rfl (by kernel_rfl) (by kernel_rfl) (by kernel_rfl) (fun _ _ _ h => h) (.inl ⟨rfl, fun W hW => by kernel_rfl⟩) HS0.out ?_
      simp only [List.getElem_toArray, List.getElem_cons_zero, List.getElem_cons_succ, Act.put, List.setIfInBounds_toArray, List.set_cons_zero, List.set_cons_succ]
      refine wpAnyH_take (i := 2) (v := .pointer (some ⟨p.b, 0, none⟩)) rfl (by kernel_rfl) (by kernel_rfl) (by kernel_rfl) (fun _ _ _ h => h) (.inl ⟨rfl, fun W hW => by first | kernel_rfl | go_simp⟩) HS0.out ?_
      simp only [List.getElem_toArray, List.getElem_cons_zero, List.getElem_cons_succ, Act.put, List.setIfInBounds_toArray, List.set_cons_zero, List.set_cons_succ]
      refine wpAnyH_take (i := 3) (v := .pointer (some ⟨p.b, 9, none⟩)) rfl (by kernel_rfl) (by kernel_rfl) (by kernel_rfl) (fun _ _ _ h => h) (.inl ⟨rfl, fun W hW => by kernel_rfl⟩) HS0.out ?_
      simp only [List.getElem_toArray, List.getElem_cons_zero, List.getElem_cons_succ, Act.put, List.setIfInBounds_toArray, List.set_cons_zero, List.set_cons_succ]
      refine wpAnyH_take (i := 4) (v := .pointer (some ⟨p.b, 9, none⟩)) rfl (by kernel_rfl) (by kernel_rfl) (by kernel_rfl) (fun _ _ _ h => h) (.inl ⟨rfl, fun W hW => by kernel_rfl⟩) HS0.out ?_
      simp only [List.getElem_toArray, List.getElem_cons_zero, List.getElem_cons_succ, Act.put, List.setIfInBounds_toArray, List.set_cons_zero, List.set_cons_succ]
      refine wpAnyH_take (i := 5) (v := .pointer (some ⟨p.b, 10, none⟩)) rfl (by kernel_rfl) (by kernel_rfl) (by kernel_rfl) (fun _ _ _ h => h) (.inl ⟨rfl, fun W hW => by kernel_rfl⟩) HS0.out ?_
      simp only [List.getElem_toArray, List.getElem_cons_zero, List.getElem_cons_succ, Act.put, List.setIfInBounds_toArray, List.set_cons_zero, List.set_cons_succ]
      refine wpAnyH_take (i := 6) (v := .int .u64 BB) rfl (by kernel_rfl) (by kernel_rfl) (by kernel_rfl) (fun _ _ _ h => h) (.inl ⟨rfl, fun W hW => by have c := hW.1; go_simp⟩) HS0.out ?_
      simp only [List.getElem_toArray, List.getElem_cons_zero, List.getElem_cons_succ, Act.put, List.setIfInBounds_toArray, List.set_cons_zero, List.set_cons_succ]
      refine wpAnyH_take (i := 7) (v := .int .u64 B1) rfl (by kernel_rfl) (by kernel_rfl) (by kernel_rfl) (fun _ _ _ h => h) (.inl ⟨rfl, fun W hW => by go_simp⟩) HS0.out ?_
      simp only [List.getElem_toArray, List.getElem_cons_zero, List.getElem_cons_succ, Act.put, List.setIfInBounds_toArray, List.set_cons_zero, List.set_cons_succ]
      refine wpAnyH_take (i := 8) (v := .slice va n vc) rfl (by kernel_rfl) (by kernel_rfl) (by kernel_rfl) (fun _ _ _ h => h) (.inl ⟨rfl, fun W hW => by kernel_rfl⟩) HS0.out ?_
      simp only [List.getElem_toArray, List.getElem_cons_zero, List.getElem_cons_succ, Act.put, List.setIfInBounds_toArray, List.set_cons_zero, List.set_cons_succ]
      refine wpAnyH_take (i := 9) (v := .string SV) rfl (by kernel_rfl) (by kernel_rfl) (by kernel_rfl) (fun _ _ _ h => h) (.inl ⟨rfl, fun W hW => by have r := hcv W hW.2; go_simp⟩) HS0.out ?_
      simp only [List.getElem_toArray, List.getElem_cons_zero, List.getElem_cons_succ, Act.put, List.setIfInBounds_toArray, List.set_cons_zero, List.set_cons_succ]
      refine wpAnyH_take (i := 10) (v := .int .i64 S) rfl (by kernel_rfl) (by kernel_rfl) (by kernel_rfl) (fun _ _ _ h => h) (.inl ⟨rfl, fun W hW => by kernel_rfl⟩) HS0.out ?_
      simp only [List.getElem_toArray, List.getElem_cons_zero, List.getElem_cons_succ, Act.put, List.setIfInBounds_toArray, List.set_cons_zero, List.set_cons_succ]
      refine wpAnyH_ready (rs := [11]) (by kernel_rfl) (by simp) ?_
      refine AllReadyH.cons rfl (fun K hK => ?_) AllReadyH.nil
      refine step_callW rfl 30 #[.pointer (some ⟨p.b, 0, none⟩), .int .u64 B1, .string SV, .int .i64 S] (by kernel_rfl) HC.out ?_
      rintro e w4 ⟨r, rfl, HS4, HE⟩
      refine ⟨_, rfl, hK.out _ _ HS4.out fun _ => ?_⟩
      clear hK HC HS0
      simp only [List.getElem_toArray, List.getElem_cons_zero, List.getElem_cons_succ, Act.put, List.setIfInBounds_toArray, List.set_cons_zero, List.set_cons_succ]
      refine wpAnyH_take (i := 12) (v := r) rfl (by kernel_rfl) (by kernel_rfl) (by kernel_rfl) (fun _ _ _ h => h) (.inl ⟨rfl, fun W hW => by kernel_rfl⟩) HS4.out ?_
      simp only [List.getElem_toArray, List.getElem_cons_zero, List.getElem_cons_succ, Act.put, List.setIfInBounds_toArray, List.set_cons_zero, List.set_cons_succ]
      refine wpAnyH_take (i := 13) (v := .bool true) rfl (by kernel_rfl) (by kernel_rfl) (by kernel_rfl) (fun _ _ _ h => h) (.inl ⟨rfl, fun W hW => by kernel_rfl⟩) HS4.out ?_
      simp only [List.getElem_toArray, List.getElem_cons_zero, List.getElem_cons_succ, Act.put, List.setIfInBounds_toArray, List.set_cons_zero, List.set_cons_succ]
      refine wpAnyH_done (by kernel_rfl) ?_ _
      clear HS4 hcv
      go_wp2_with fail
      go_ret2
      rw [HSM.out]
      exact ⟨r, rfl, HE.out⟩
    · have HSM : Hid (propM d V S = (d, [], false)) := if_neg (fun e => hm e.2)
      have hz : decide ((d.chosen.ts : Int) ≥ 1099511627776) = true := decide_eq_true (by omega)
      obtain ⟨BB, hBB⟩ : ∃ B : Int, (d.chosen.ts : Int) = B := ⟨_, rfl⟩
      rw [hBB] at hz c10
      clear h hx hVb hV hb hm hBB hVl hn hnil h3
      go_enter Try.func13, Try.ntmps13
      go_wp2_with fail
      go_ret2
      rw [HSM.out]
      exact ⟨_, rfl, HN.out⟩
  · have e3 : (d.ph != 3) = true := by simp [h3]
    have HSM : Hid (propM d V S = (d, [], false)) := if_neg (fun e => h3 e.1)
    clear h hx hVb hV hb hVl hn hnil h3 c10
    go_enter Try.func13, Try.ntmps13
    go_wp2_with fail
    go_ret2
    rw [HSM.out]
    exact ⟨_, rfl, HN.out⟩
/-- What a tick tells ahead of its beats. -/
def preMs (d : Qd) (S : Int) : List Mg := if d.ph = 1 then prepMs d else if d.ph = 2 then writeMs d S else []
def holdB (d : Qd) : Prop := d.ph = 3 ∨ (d.ph = 2 ∧ 1 < d.next.ts)
instance (d : Qd) : Decidable (holdB d) := inferInstanceAs (Decidable (_ ∨ _))
def tickM (d : Qd) (S : Int) : Qd × List Mg := if holdB d then ((roundM d S).1, preMs d S ++ (roundM d S).2) else (d, preMs d S)
theorem toMs_len (L C : List Int) (m : Mg) : (toMs L C m).length ≤ L.length := by
  unfold toMs
  rw [List.length_map]
  exact List.length_filter_le _ _
theorem preMs_len (d : Qd) (S : Int) : (preMs d S).length ≤ d.L.length := by
  unfold preMs
  split
  · exact toMs_len _ _ _
  · split
    · unfold writeMs
      rw [List.length_map]
      exact toMs_len _ _ _
    · exact Nat.zero_le _
theorem roundM_len (d : Qd) (S : Int) : (roundM d S).2.length ≤ d.L.length := by
  unfold roundM
  split
  · split
    · exact Nat.zero_le _
    · exact toMs_len _ _ _
  · exact toMs_len _ _ _
/-- What follows in a tick once the first messages are told. -/
theorem tick_rest {w w1 : World} {p : Qp} {d : Qd} {S : Int} {r1 : Value} (h0 : QIs w p d) (h : QIs w1 p d) (hb : Bq p w w1) (ho : OutM w.heap.size w1 r1 (preMs d S)) :
    Hid (Calls Try.prog 32 #[.pointer (some ⟨p.b, 0, none⟩)] w1 fun e w2 => e = .returned (.bool (decide (holdB d))) ∧ w1 = w2) ∧
    Hid (Calls Try.prog 33 #[.pointer (some ⟨p.b, 0, none⟩), .int .i64 S] w1 fun e w2 => ∃ r2, e = .returned r2 ∧ ∃ v W, Hid ((∀ ty, (Builtin.append_ #[56, 56] ty #[r1, r2]).run Try.prog w2 = .ok v W)) ∧ Hid (OutM w.heap.size W v (preMs d S ++ (roundM d S).2) ∧ QIs W p (roundM d S).1 ∧ Bq p w W)) ∧
    Hid (OutM w.heap.size w1 r1 (preMs d S) ∧ QIs w1 p d ∧ Bq p w w1) := by
  refine ⟨holdsQ_any h, (round_any h S).mono fun e w2 ⟨r2, he, o2, q2, b2⟩ => ⟨r2, he, ?_⟩, ho, h, hb⟩
  obtain ⟨l1, l2, l3, l4, l5⟩ := h0.lts
  have hl7 := h.ok.l7
  have n1 := preMs_len d S
  have n2 := roundM_len d S
  have o1' : OutM w.heap.size w2 r1 (preMs d S) := ho.on (Nat.le_refl _) (fun g hg hg2 => b2.block g hg2 (by omega) (by omega) (by omega) (by omega))
  have o2' : OutM w.heap.size w2 r2 (roundM d S).2 := o2.on hb.size (fun _ _ _ => rfl)
  have hB : w.heap.size ≤ w2.heap.size := Nat.le_trans hb.size b2.size
  obtain ⟨v, W, a1, a2, a3⟩ := o1'.app o2' (by omega) (by omega) hB
  exact ⟨v, W, a1, a2, q2.below ⟨l1, l2, l3, l4, l5⟩ a3, (hb.trans b2).below a3⟩
set_option maxHeartbeats 2000000 in
theorem tick_any {w : World} {p : Qp} {d : Qd} (h : QIs w p d) (S : Int) : Calls Try.prog 14 #[.pointer (some ⟨p.b, 0, none⟩), .int .i64 S] w fun e w' => ∃ r, e = .returned r ∧ OutM w.heap.size w' r (tickM d S).2 ∧ QIs w' p (tickM d S).1 ∧ Bq p w w' := by
  have c4 : w.cell? ⟨p.b, 4, none⟩ = some (.int .i64 d.ph) := h.cell 4 (by decide)
  by_cases e1 : d.ph = 1
  · have hp : preMs d S = prepMs d := if_pos e1
    have hh : ¬ holdB d := by unfold holdB; omega
    have HSM : Hid (tickM d S = (d, preMs d S)) := if_neg hh
    have HP : Hid (Calls Try.prog 27 #[.pointer (some ⟨p.b, 0, none⟩)] w fun e w1 => ∃ r, e = .returned r ∧ Hid (Calls Try.prog 32 #[.pointer (some ⟨p.b, 0, none⟩)] w1 fun e w2 => e = .returned (.bool (decide (holdB d))) ∧ w1 = w2) ∧ Hid (OutM w.heap.size w1 r (preMs d S) ∧ QIs w1 p d ∧ Bq p w w1)) :=
      (prep_any h).mono fun e w1 ⟨r, he, ho, hq, hb⟩ => by
        rw [← hp] at ho
        obtain ⟨t1, _, t3⟩ := tick_rest h hq hb ho
        exact ⟨r, he, t1, t3⟩
    rw [e1] at c4
    rw [decide_eq_false hh] at HP
    clear h e1 hp hh
    go_enter Try.func14, Try.ntmps14
    go_wp2_with (first
      | (go_at_call 27; refine HP.out.mono ?_; rintro e w1 ⟨r, rfl, HH, HE⟩)
      | (go_at_call 32; refine HH.out.mono ?_; rintro e w2 ⟨rfl, rfl⟩))
    go_ret
    rw [HSM.out]
    exact ⟨r, rfl, HE.out⟩
  · by_cases e2 : d.ph = 2
    · have hp : preMs d S = writeMs d S := (if_neg e1).trans (if_pos e2)
      have HP : Hid (Calls Try.prog 31 #[.pointer (some ⟨p.b, 0, none⟩), .int .i64 S] w fun e w1 => ∃ r, e = .returned r ∧ Hid (Calls Try.prog 32 #[.pointer (some ⟨p.b, 0, none⟩)] w1 fun e w2 => e = .returned (.bool (decide (holdB d))) ∧ w1 = w2) ∧
          Hid (Calls Try.prog 33 #[.pointer (some ⟨p.b, 0, none⟩), .int .i64 S] w1 fun e w2 => ∃ r2, e = .returned r2 ∧ ∃ v W, Hid ((∀ ty, (Builtin.append_ #[56, 56] ty #[r, r2]).run Try.prog w2 = .ok v W)) ∧ Hid (OutM w.heap.size W v (preMs d S ++ (roundM d S).2) ∧ QIs W p (roundM d S).1 ∧ Bq p w W)) ∧
          Hid (OutM w.heap.size w1 r (preMs d S) ∧ QIs w1 p d ∧ Bq p w w1)) :=
        (wr_any h S).mono fun e w1 ⟨r, he, ho, hq, hb⟩ => by
          rw [← hp] at ho
          exact ⟨r, he, tick_rest h hq hb ho⟩
      rw [e2] at c4
      by_cases hh : holdB d
      · have HSM : Hid (tickM d S = ((roundM d S).1, preMs d S ++ (roundM d S).2)) := if_pos hh
        rw [decide_eq_true hh] at HP
        clear h e1 e2 hp hh
        go_enter Try.func14, Try.ntmps14
        go_wp2_with (first
          | (go_at_call 31; refine HP.out.mono ?_; rintro e w1 ⟨r, rfl, HH, HR, HE0⟩)
          | (go_at_call 32; refine HH.out.mono ?_; rintro e w2 ⟨rfl, rfl⟩)
          | (go_at_call 33; refine HR.out.mono ?_; rintro e w3 ⟨r2, rfl, v, W, HAP, HE⟩)
          | (at_builtin; refine wpList_append_eq rfl _ _ 56 rfl _ _ _ (by rfl) (by rfl) (HAP.out _) ?_))
        go_ret
        rw [HSM.out]
        exact ⟨v, rfl, HE.out⟩
      · have HSM : Hid (tickM d S = (d, preMs d S)) := if_neg hh
        rw [decide_eq_false hh] at HP
        clear h e1 e2 hp hh
        go_enter Try.func14, Try.ntmps14
        go_wp2_with (first
          | (go_at_call 31; refine HP.out.mono ?_; rintro e w1 ⟨r, rfl, HH, HR, HE⟩)
          | (go_at_call 32; refine HH.out.mono ?_; rintro e w2 ⟨rfl, rfl⟩))
        go_ret
        rw [HSM.out]
        exact ⟨r, rfl, HE.out⟩
    · have hp : preMs d S = [] := (if_neg e1).trans (if_neg e2)
      obtain ⟨HH, HR, HE0⟩ := tick_rest (S := S) (r1 := .slice none 0 0) h h (Bq.refl p w) (by rw [hp]; exact OutM.nil _ _)
      have z1 : (d.ph == 1) = false := by simp [e1]
      have z2 : (d.ph == 2) = false := by simp [e2]
      by_cases hh : holdB d
      · have HSM : Hid (tickM d S = ((roundM d S).1, preMs d S ++ (roundM d S).2)) := if_pos hh
        rw [decide_eq_true hh] at HH
        clear h e1 e2 hp hh
        go_enter Try.func14, Try.ntmps14
        go_wp2_with (first
          | (go_at_call 32; refine HH.out.mono ?_; rintro e w2 ⟨rfl, rfl⟩)
          | (go_at_call 33; refine HR.out.mono ?_; rintro e w3 ⟨r2, rfl, v, W, HAP, HE⟩)
          | (at_builtin; refine wpList_append_eq rfl _ _ 56 rfl _ _ _ (by rfl) (by rfl) (HAP.out _) ?_))
        go_ret
        rw [HSM.out]
        exact ⟨v, rfl, HE.out⟩
      · have HSM : Hid (tickM d S = (d, preMs d S)) := if_neg hh
        rw [decide_eq_false hh] at HH
        clear h e1 e2 hp hh HR
        go_enter Try.func14, Try.ntmps14
        go_wp2_with (go_at_call 32; refine HH.out.mono ?_; rintro e w2 ⟨rfl, rfl⟩)
        go_ret
        rw [HSM.out]
        exact ⟨_, rfl, HE0.out⟩
end Go.Proofs.Ytkcjmjaikobpoaa

/- Package replica: compare. -/
namespace Go.Proofs.Ytkcjmjaikobpoaa
open Go.RowKit
set_option maxRecDepth 100000
set_option maxRecDepth 100000

/-- How two numbers stand. -/
def cmN (x y : Nat) : Int := if x < y then -1 else if y < x then 1 else 0
theorem nan_any (x : Nat) (w : World) : Calls Try.prog 67 #[.int .u64 (x : Nat)] w fun e w' => e = .returned (.bool false) ∧ w' = w := by
  have h : ((x : Int) != (x : Int)) = false := by simp
  go_enter Try.func67, Try.ntmps67
  go_wp2_with fail
  go_ret
  exact ⟨rfl, rfl⟩
theorem compareN_any (x y : Nat) (w : World) : Calls Try.prog 66 #[.int .u64 (x : Nat), .int .u64 (y : Nat)] w fun e w' => e = .returned (.int .i64 (cmN x y)) ∧ w' = w := by
  have hn : ∀ (x : Nat) (w : World), _ := fun x w => nan_any x w
  unfold cmN
  by_cases h1 : x < y
  · rw [if_pos h1]
    have h1' : (x : Int) < (y : Int) := by omega
    go_enter Try.func66, Try.ntmps66
    go_wp2_with (go_at_call 67; refine (hn _ _).mono ?_; rintro e w' ⟨rfl, rfl⟩)
    go_ret
    exact ⟨rfl, rfl⟩
  · rw [if_neg h1]
    have h1' : ¬ (x : Int) < (y : Int) := by omega
    by_cases h2 : y < x
    · rw [if_pos h2]
      have h2' : (x : Int) > (y : Int) := by omega
      go_enter Try.func66, Try.ntmps66
      go_wp2_with (go_at_call 67; refine (hn _ _).mono ?_; rintro e w' ⟨rfl, rfl⟩)
      go_ret
      exact ⟨rfl, rfl⟩
    · rw [if_neg h2]
      have h2' : ¬ (x : Int) > (y : Int) := by omega
      go_enter Try.func66, Try.ntmps66
      go_wp2_with (go_at_call 67; refine (hn _ _).mono ?_; rintro e w' ⟨rfl, rfl⟩)
      go_ret
      exact ⟨rfl, rfl⟩
/-- The first that is not zero. -/
def orM (x y : Int) : Int := if x = 0 then y else x

theorem or_any (x y : Int) (b : Nat) (w : World) (h0 : w.cell? ⟨b, 0, none⟩ = some (.int .i64 x)) (h1 : w.cell? ⟨b, 1, none⟩ = some (.int .i64 y)) :
    Calls Try.prog 65 #[.slice (some ⟨b, 0, none⟩) 2 2] w fun e w' => e = .returned (.int .i64 (orM x y)) ∧ w' = w := by
  by_cases hx : x = 0
  · have e : orM x y = y := if_pos hx
    rw [e]
    have ex : (x == 0) = true := by rw [hx]; rfl
    go_enter Try.func65, Try.ntmps65
    go_wp2
    go_loopg [5, 8] 2 (fun q v s8 wr => ∃ i : Nat, i ≤ 2 ∧ q = 2 - i ∧ s8 = .int .i64 i ∧ wr = w ∧ Hid (i = 2 → y = 0))
    case atStart => exact ⟨0, by omega, rfl, rfl, rfl, hide (by omega)⟩
    case round =>
      obtain ⟨i, hi, rfl, rfl, rfl, HY⟩ := hrel
      rcases (show i = 0 ∨ i = 1 ∨ i = 2 by omega) with rfl | rfl | rfl
      · go_wp2
        go_roundg 1
        case measure => omega
        case rel => exact ⟨1, by omega, rfl, rfl, rfl, hide (by omega)⟩
      · by_cases hy : y = 0
        · have ey : (y == 0) = true := by rw [hy]; rfl
          go_wp2
          go_roundg 0
          case measure => omega
          case rel => exact ⟨2, by omega, rfl, rfl, rfl, hide (fun _ => hy)⟩
        · have ey : (y == 0) = false := beq_eq_false_iff_ne.2 hy
          go_wp2
          go_ret
          exact ⟨rfl, rfl⟩
      · have H0 : Hid (y = 0) := HY.out rfl
        clear HY
        go_wp2
        go_ret
        exact ⟨by rw [H0.out]; rfl, rfl⟩
  · have e : orM x y = x := if_neg hx
    rw [e]
    have ex : (x == 0) = false := beq_eq_false_iff_ne.2 hx
    go_enter Try.func65, Try.ntmps65
    go_wp2
    go_loopg [5, 8] 2 (fun q v s8 wr => q = 2 ∧ s8 = .int .i64 0 ∧ wr = w)
    case atStart => exact ⟨rfl, rfl, rfl⟩
    case round =>
      obtain ⟨rfl, rfl, rfl⟩ := hrel
      go_wp2
      go_ret
      exact ⟨rfl, rfl⟩
theorem alloc_keeps (w : World) (o : Obj) (b i : Nat) (h : b < w.heap.size) : (w.alloc o).cell? ⟨b, i, none⟩ = w.cell? ⟨b, i, none⟩ := World.cell?_alloc_past (w := w) o b i h
/-- How two tags stand. -/
def cmT (a b c d : Nat) : Int := orM (cmN a c) (cmN b d)
set_option maxHeartbeats 1000000 in
theorem compareT_any (a b c d : Nat) (w : World) :
    Calls Try.prog 63 #[.agg #[.int .u64 (a : Nat), .int .u64 (b : Nat)], .agg #[.int .u64 (c : Nat), .int .u64 (d : Nat)]] w fun e w' => e = .returned (.int .i64 (cmT a b c d)) ∧ w.Since w.heap.size w' := by
  obtain ⟨W1, HW1⟩ : ∃ W, Hid (w.alloc (.cells #[.int .u64 (a : Nat), .int .u64 (b : Nat)] 42) = W) := ⟨_, rfl⟩
  have s1 : w.Since w.heap.size W1 := by rw [← HW1.out]; exact (World.Since.refl _ _).alloc (Nat.le_refl _) _
  have z1 : W1.heap.size = w.heap.size + 1 := by rw [← HW1.out]; simp
  have a0 : W1.cell? ⟨w.heap.size, 0, none⟩ = some (.int .u64 (a : Nat)) := by rw [← HW1.out]; simp
  have a1 : W1.cell? ⟨w.heap.size, 1, none⟩ = some (.int .u64 (b : Nat)) := by rw [← HW1.out]; simp
  obtain ⟨W2, HW2⟩ : ∃ W, Hid (W1.alloc (.cells #[.int .u64 (c : Nat), .int .u64 (d : Nat)] 42) = W) := ⟨_, rfl⟩
  have s2 : W1.Since W1.heap.size W2 := by rw [← HW2.out]; exact (World.Since.refl _ _).alloc (Nat.le_refl _) _
  have z2 : W2.heap.size = w.heap.size + 1 + 1 := by rw [← HW2.out, ← z1]; simp
  have b0 : W2.cell? ⟨w.heap.size + 1, 0, none⟩ = some (.int .u64 (c : Nat)) := by rw [← z1, ← HW2.out]; simp
  have b1 : W2.cell? ⟨w.heap.size + 1, 1, none⟩ = some (.int .u64 (d : Nat)) := by rw [← z1, ← HW2.out]; simp
  have a0 := cell_later s2 a0
  have a1 := cell_later s2 a1
  have HE : Hid (w.Since w.heap.size W2) := s1.trans (since_mono s2 s1.size)
  have l1 : w.heap.size < W2.heap.size := by omega
  have l2 : w.heap.size + 1 < W2.heap.size := by omega
  have hc : ∀ (u v : Nat) (w : World), _ := fun u v w => compareN_any u v w
  unfold cmT
  have hor : ∀ (b0 : Nat) (w : World), _ := fun b0 w => or_any (cmN a c) (cmN b d) b0 w
  rename_i a0' a1'
  clear a0' a1' s1 s2 z2
  go_enter Try.func63, Try.ntmps63
  go_upto_region 1 with fail
  rw [HW1.out]
  try rw [z1]
  rw [HW2.out]
  try rw [z1]
  clear HW1 HW2 z1
  go_region_held3 (fun W' => W'.cell? ⟨w.heap.size, 0, none⟩ = some (.int .u64 (a : Nat)) ∧ W'.cell? ⟨w.heap.size, 1, none⟩ = some (.int .u64 (b : Nat)) ∧ W'.cell? ⟨w.heap.size + 1, 0, none⟩ = some (.int .u64 (c : Nat)) ∧ W'.cell? ⟨w.heap.size + 1, 1, none⟩ = some (.int .u64 (d : Nat)))
    (first | exact ⟨a0, a1, b0, b1⟩ | exact ⟨(alloc_keeps _ _ _ 0 l1).trans a0, (alloc_keeps _ _ _ 1 l1).trans a1, (alloc_keeps _ _ _ 0 l2).trans b0, (alloc_keeps _ _ _ 1 l2).trans b1⟩)
    (first | (go_at_call 66; refine (hc _ _ _).mono ?_; rintro e w' ⟨rfl, rfl⟩) | (go_at_call 65; refine (hor _ _ ?_ ?_).mono ?_; (go_simp); (go_simp); rintro e w' ⟨rfl, rfl⟩))
  all_goals
    go_wp2_with fail
    go_ret
    refine ⟨rfl, HE.out.trans (since_mono ?_ HE.out.size)⟩
    exact ((World.Since.refl _ _).drew).alloc (Nat.le_refl _) _
end Go.Proofs.Ytkcjmjaikobpoaa

/- Package quorum: while a message is heard; slices.Contains. -/
namespace Go.Proofs.Ytkcjmjaikobpoaa
open Go.RowKit Go.Maps
set_option maxRecDepth 100000
set_option maxRecDepth 100000

/-- The numbers of a message are what their types hold. -/
structure MgN (m : Mg) : Prop where
  u : ∀ c, isU c = true → 0 ≤ m.n c ∧ m.n c < 18446744073709551616
  i : ∀ c, isU c = false → -9223372036854775808 ≤ m.n c ∧ m.n c ≤ 9223372036854775807
/-- While a message is heard. -/
structure DS (w : World) (p : Qp) (d : Qd) (mb : Nat) (m : Mg) (va : Option Addr) (vc : Nat) (W : World) : Prop where
  q : QIs W p d
  row : W.rowIs mb 52 22 (mgCell m va vc)
  val : Byt W va (m.s 10).length (fun j => (m.s 10).getD j 0)
  bq : Bq p w W
  ge : w.heap.size ≤ mb
  lt : p.b < w.heap.size ∧ p.cb < w.heap.size ∧ p.m1 < w.heap.size ∧ p.m2 < w.heap.size ∧ p.m3 < w.heap.size
section
variable {w W W' : World} {p : Qp} {d d' : Qd} {mb : Nat} {m : Mg} {va : Option Addr} {vc : Nat}
theorem DS.turn (h : DS w p d mb m va vc W) (q : QIs W' p d') (b : Bq p W W') : DS w p d' mb m va vc W' := by
  obtain ⟨l1, l2, l3, l4, l5⟩ := h.lt
  have := h.ge
  exact ⟨q, b.row h.row (by omega) (by omega) (by omega) (by omega), byt_bq h.q b h.val, h.bq.trans b, h.ge, h.lt⟩
theorem DS.sin (h : DS w p d mb m va vc W) (hs : W.Since W.heap.size W') : DS w p d mb m va vc W' := h.turn (h.q.since hs) (Bq.of_since hs)
theorem DS.drew (h : DS w p d mb m va vc W) : DS w p d mb m va vc W.drew := h.sin ((World.Since.refl _ _).drew)
theorem DS.drewN (h : DS w p d mb m va vc W) (n : Nat) : DS w p d mb m va vc (W.drewN n) := h.sin (drewN_since W n)
theorem DS.put (h : QIs w p d) (hA : MgA w m va vc) : ∃ (MM : Array Value) (W : World) (mb : Nat), Hid (mgV m va vc = .agg MM) ∧ Hid (w.alloc (.cells MM 52) = W) ∧ Hid (w.heap.size = mb) ∧ Hid (DS w p d mb m va vc W) ∧ Hid (W.rangeAt mb 0 MM.toList ∧ (Try.prog.info? 52).map (·.size) = some MM.size) := by
  have s1 : w.Since w.heap.size (w.alloc (.cells (mgL m va vc).toArray 52)) := (World.Since.refl _ _).alloc (Nat.le_refl _) _
  have r1 := mg_row w m va vc
  exact ⟨_, _, _, rfl, rfl, rfl, ⟨h.since s1, r1, hA.val.since s1, Bq.of_since s1, Nat.le_refl _, h.lts⟩, mgL_range r1, infoMgA _ _ _⟩
theorem DS.none (h : DS w p d mb m va vc W) : OutM w.heap.size W (.slice none 0 0) [] ∧ QIs W p d ∧ Bq p w W := ⟨OutM.nil _ _, h.q, h.bq⟩
end
theorem index_any (L : List Int) (g c : Nat) (f : Nat → Value) (cc : Nat) (w : World) (hr : w.rowIs g 3 cc f) (hc : L.length ≤ cc) (hf : ∀ j, j < L.length → f j = .int .i64 (L.getD j 0)) (hl : L.length ≤ 1000000) (x : Int) :
    Calls Try.prog 56 #[.slice (some ⟨g, 0, none⟩) L.length c, .int .i64 x] w fun e w' => ∃ k : Int, e = .returned (.int .i64 k) ∧ decide (k ≥ 0) = decide (x ∈ L) ∧ w = w' := by
  go_enter Try.func56, Try.ntmps56
  go_wp2_with fail
  go_loopg [8] L.length (fun q s8 wx => ∃ i : Nat, i ≤ L.length ∧ q = L.length - i ∧ s8 = .int .i64 (i : Nat) ∧ x ∉ L.take i ∧ w = wx)
  case atStart => exact ⟨0, Nat.zero_le _, rfl, rfl, by simp, rfl⟩
  case round =>
    obtain ⟨i, hi, rfl, rfl, hx, rfl⟩ := hrel
    by_cases hlt : i < L.length
    · have hz : (i : Int) < (L.length : Int) := by omega
      have hz0 : (0 : Int) ≤ (i : Int) := by omega
      have hwi : IntKind.i64.wrap ((i : Int) + 1) = (i : Int) + 1 := by rw [IntKind.wrap_i64]; omega
      have hme : L.length - (i + 1) < L.length - i := by omega
      have ci : w.cell? ⟨g, i, none⟩ = some (.int .i64 (L.getD i 0)) := by rw [hr.cell (by omega), hf i hlt]
      have et : L.take (i + 1) = L.take i ++ [L.getD i 0] := by
        rw [List.take_succ_eq_append_getElem hlt]
        simp [List.getD, hlt]
      have hm : L.getD i 0 ∈ L := by simp [List.getD, hlt]
      obtain ⟨y, hy⟩ : ∃ y, L.getD i 0 = y := ⟨_, rfl⟩
      rw [hy] at ci et hm
      by_cases e : x = y
      · have ez : (x == y) = true := by simp [e]
        have HE : Hid (decide ((i : Int) ≥ 0) = decide (x ∈ L)) := by
          show decide _ = decide _
          rw [decide_eq_true (by omega), decide_eq_true (by rw [e]; exact hm)]
        clear hr hf et hm hx hy
        go_wp2_with fail
        go_ret
        exact ⟨_, rfl, HE.out, rfl⟩
      · have ez : (x == y) = false := by simp [e]
        have hx' : x ∉ L.take (i + 1) := by rw [et]; simp [hx, e]
        clear hr hf et hm hx hy e
        go_wp2_with fail
        go_roundg (L.length - (i + 1))
        case measure => go_light; exact hme
        case rel => go_light; exact ⟨i + 1, hlt, rfl, by simp, hx', rfl⟩
    · obtain rfl : i = L.length := by omega
      have HE : Hid (decide ((-1 : Int) ≥ 0) = decide (x ∈ L)) := by
        show decide _ = decide _
        rw [List.take_length] at hx
        rw [decide_eq_false (by omega), decide_eq_false hx]
      clear hr hf hx
      go_wp2_with fail
      go_ret
      exact ⟨_, rfl, HE.out, rfl⟩
theorem contains_any {w : World} {p : Qp} {d : Qd} (h : QIs w p d) (x : Int) : Calls Try.prog 29 #[.slice (some ⟨p.cb, 0, none⟩) d.L.length p.cc, .int .i64 x] w fun e w' => e = .returned (.bool (decide (x ∈ d.L))) ∧ w = w' := by
  obtain ⟨f, f1, f2, f3⟩ := h.cop
  have HI := hide (index_any d.L p.cb p.cc f p.cc w f1 f2 f3 (Nat.le_trans h.ok.l7 (by decide)) x)
  clear h f1 f2 f3
  generalize decide (x ∈ d.L) = B at *
  go_enter Try.func29, Try.ntmps29
  go_wp2_with (go_at_call 56; refine HI.out.mono ?_; rintro e w1 ⟨k, rfl, hk, rfl⟩)
  go_ret
  exact ⟨by simp, rfl⟩
end Go.Proofs.Ytkcjmjaikobpoaa

/- Package quorum: wrote. -/
namespace Go.Proofs.Ytkcjmjaikobpoaa
open Go.RowKit Go.Maps
set_option maxRecDepth 100000
set_option maxRecDepth 100000

def wroA (d : Qd) (m : Mg) : Qd := { d with c1 := addC d.c1 (m.n 1) }
def wroM (d : Qd) (m : Mg) : Qd := if d.ph ≠ 2 ∨ ¬ (m.n 5 = (d.next.te : Nat) ∧ m.n 6 = (d.next.ts : Nat)) ∨ m.n 1 ∈ d.c1 then d else if d.L.length < 2 * (wroA d m).c1.length then { wroA d m with ph := 3, chosen := d.next, next := tv0 } else wroA d m
theorem addC_of_mem {C : List Int} {k : Int} (h : k ∈ C) : addC C k = C := if_pos h
set_option maxHeartbeats 2000000 in
theorem wrote_any {w : World} {p : Qp} {d : Qd} (h : QIs w p d) (m : Mg) (va : Option Addr) (vc : Nat) (hA : MgA w m va vc) (hF : m.n 1 ∈ d.L) (S : Int) :
    Calls Try.prog 53 #[.pointer (some ⟨p.b, 0, none⟩), mgV m va vc, .int .i64 S] w fun e w' => e = .returned (.slice none 0 0) ∧ QIs w' p (wroM d m) ∧ Bq p w w' := by
  obtain ⟨MM, W1, mb, HMM, HW1, Hmb, HD, HR⟩ := DS.put h hA
  rw [HMM.out]
  have c4 : W1.drew.cell? ⟨p.b, 4, none⟩ = some (.int .i64 d.ph) := HD.out.q.cell 4 (by decide)
  have c6 : W1.drew.cell? ⟨p.b, 6, none⟩ = some (.int .u64 (d.next.te : Nat)) := HD.out.q.cell 6 (by decide)
  have c7 : W1.drew.cell? ⟨p.b, 7, none⟩ = some (.int .u64 (d.next.ts : Nat)) := HD.out.q.cell 7 (by decide)
  have c14 : W1.drew.cell? ⟨p.b, 14, none⟩ = some (.map (some p.m1)) := HD.out.q.cell 14 (by decide)
  have m1 : W1.drew.cell? ⟨mb, 1, none⟩ = some (.int .i64 (m.n 1)) := HD.out.row.cell (i := 1) (by decide)
  have m5 : W1.drew.cell? ⟨mb, 5, none⟩ = some (.int .u64 (m.n 5)) := HD.out.row.cell (i := 5) (by decide)
  have m6 : W1.drew.cell? ⟨mb, 6, none⟩ = some (.int .u64 (m.n 6)) := HD.out.row.cell (i := 6) (by decide)
  have HX : Hid (∀ n, QIs (W1.drewN n) p d ∧ Bq p w (W1.drewN n)) := fun n => ⟨(HD.out.drewN n).q, (HD.out.drewN n).bq⟩
  clear hA h HR HMM
  by_cases e2 : d.ph = 2
  · rw [e2] at c4
    by_cases e5 : m.n 5 = (d.next.te : Nat) ∧ m.n 6 = (d.next.ts : Nat)
    · have HC : Hid (Calls Try.prog 24 #[.map (some p.m1), .int .i64 (m.n 1)] W1.drew fun e w2 => e = .returned (.bool (!decide (m.n 1 ∈ d.c1))) ∧ (w2.cell? ⟨p.b, 4, none⟩ = some (.int .i64 2) ∧ w2.cell? ⟨p.b, 6, none⟩ = some (.int .u64 (d.next.te : Nat)) ∧ w2.cell? ⟨p.b, 7, none⟩ = some (.int .u64 (d.next.ts : Nat)) ∧ w2.cell? ⟨p.b, 14, none⟩ = some (.map (some p.m1)) ∧ w2.cell? ⟨mb, 1, none⟩ = some (.int .i64 (m.n 1)) ∧ w2.cell? ⟨mb, 5, none⟩ = some (.int .u64 (m.n 5)) ∧ w2.cell? ⟨mb, 6, none⟩ = some (.int .u64 (m.n 6))) ∧ Hid (QIs w2 p (wroA d m) ∧ Bq p w w2)) :=
        (HD.out.drew.q.add1 (m.n 1) hF).mono fun e w2 ⟨he, q, b⟩ => by
          have t := HD.out.drew.turn q b
          exact ⟨he, ⟨by have this : w2.cell? ⟨p.b, 4, none⟩ = some (.int .i64 d.ph) := q.cell 4 (by decide); rw [e2] at this; exact this, q.cell 6 (by decide), q.cell 7 (by decide), q.cell 14 (by decide), t.row.cell (i := 1) (by decide), t.row.cell (i := 5) (by decide), t.row.cell (i := 6) (by decide)⟩, q, t.bq⟩
      obtain ⟨e5a, e5b⟩ := e5
      by_cases hin : m.n 1 ∈ d.c1
      · have HSM : Hid (wroM d m = wroA d m) := by
          show wroM d m = wroA d m
          unfold wroM wroA
          rw [if_pos (.inr (.inr hin)), addC_of_mem hin]
        rw [decide_eq_true hin] at HC
        clear hF HX hin
        generalize m.n 1 = F at *
        rw [e5a] at m5 HC
        rw [e5b] at m6 HC
        go_enter Try.func53, Try.ntmps53
        go_upto_region 1 with fail
        rw [HW1.out, Hmb.out]
        clear HW1 Hmb
        go_region_held3 (fun W => W.cell? ⟨p.b, 4, none⟩ = some (.int .i64 2) ∧ W.cell? ⟨p.b, 6, none⟩ = some (.int .u64 (d.next.te : Nat)) ∧ W.cell? ⟨p.b, 7, none⟩ = some (.int .u64 (d.next.ts : Nat)) ∧ W.cell? ⟨p.b, 14, none⟩ = some (.map (some p.m1)) ∧ W.cell? ⟨mb, 1, none⟩ = some (.int .i64 F) ∧ W.cell? ⟨mb, 5, none⟩ = some (.int .u64 (d.next.te : Nat)) ∧ W.cell? ⟨mb, 6, none⟩ = some (.int .u64 (d.next.ts : Nat)))
          (first | exact ⟨c4, c6, c7, c14, m1, m5, m6⟩ | exact g1)
          (first | (go_at_call 24; with_reducible refine HC.out.mono ?_; rintro e w2 ⟨rfl, g1, HE⟩))
        all_goals
          go_wp2_with fail
          go_ret
          rw [HSM.out]
          exact ⟨rfl, HE.out⟩
      · have HSM : Hid (wroM d m = if d.L.length < 2 * (wroA d m).c1.length then { wroA d m with ph := 3, chosen := d.next, next := tv0 } else wroA d m) := by
          show wroM d m = _
          exact if_neg (by rintro (q | q | q) <;> simp_all)
        rw [decide_eq_false hin] at HC
        have HL : Hid (∀ W : World, QIs W p (wroA d m) → Bq p w W → ∃ K : Nat, (∀ ty, (Builtin.len_ #[76] ty #[.map (some p.m1)]).run Try.prog W = .ok (.int .i64 (K : Nat)) W) ∧ K = (wroA d m).c1.length ∧ Hid (Calls Try.prog 25 #[.pointer (some ⟨p.b, 0, none⟩), .int .i64 (K : Nat)] W fun e w' => e = .returned (.bool (decide (d.L.length < 2 * K))) ∧ W = w')) := fun W q b =>
          ⟨_, fun ty => q.len1 ty, rfl, majorQ_any q _ (Nat.le_trans q.ok.c1.len (Nat.le_trans q.ok.l7 (by decide)))⟩
        have HCH : Hid (∀ W : World, QIs W p (wroA d m) → Bq p w W → ∃ (x4 : Value) (TA ZA : Array Value) (W2 W3 W4 : World), W.cell? ⟨p.b, 4, none⟩ = some x4 ∧ W.frozen? ⟨p.b, 4, none⟩ = false ∧ W.cell? ⟨p.b, 6, none⟩ = some (.int .u64 (d.next.te : Nat)) ∧ W.cell? ⟨p.b, 7, none⟩ = some (.int .u64 (d.next.ts : Nat)) ∧ W.cell? ⟨p.b, 8, none⟩ = some (.string (strL d.next.v)) ∧
            Hid (W.setCell ⟨p.b, 4, none⟩ (.int .i64 3) = W2) ∧ Hid (TA = #[.int .u64 (d.next.te : Nat), .int .u64 (d.next.ts : Nat), .string (strL d.next.v)]) ∧ Hid (ZA = #[.int .u64 0, .int .u64 0, .string ⟨#[]⟩]) ∧ Hid (W2.there p.b 9 TA.size) ∧ Hid ((Try.prog.info? 78).map (·.size) = some TA.size) ∧ Hid (TA.all (·.oneCell') = true) ∧ Hid (W2.setCells p.b 9 TA.toList = W3) ∧ Hid (W3.there p.b 6 ZA.size) ∧ Hid ((Try.prog.info? 78).map (·.size) = some ZA.size) ∧ Hid (ZA.all (·.oneCell') = true) ∧ Hid (W3.setCells p.b 6 ZA.toList = W4) ∧ Hid (QIs W4 p { wroA d m with ph := 3, chosen := d.next, next := tv0 } ∧ Bq p w W4)) := fun W q b => by
          obtain ⟨q2, b2⟩ := q.setPh 3 (by decide)
          obtain ⟨q3, b3⟩ := q2.setChosen d.next q.ok.next
          obtain ⟨q4, b4⟩ := q3.setNext tv0 tv0_ok
          exact ⟨_, tvA d.next, tvA tv0, _, _, _, q.cell 4 (by decide), q.fz 4, q.cell 6 (by decide), q.cell 7 (by decide), q.cell 8 (by decide), rfl, rfl, tvA0, q2.there 9 3 (by decide), infoTv, allTv _, rfl, q3.there 6 3 (by decide), infoTv, allTv _, rfl, q4, ((b.trans b2).trans b3).trans b4⟩
        clear hF HX hin
        generalize m.n 1 = F at *
        rw [e5a] at m5 HC
        rw [e5b] at m6 HC
        go_enter Try.func53, Try.ntmps53
        go_upto_region 1 with fail
        rw [HW1.out, Hmb.out]
        clear HW1 Hmb
        go_region_held3 (fun W => W.cell? ⟨p.b, 4, none⟩ = some (.int .i64 2) ∧ W.cell? ⟨p.b, 6, none⟩ = some (.int .u64 (d.next.te : Nat)) ∧ W.cell? ⟨p.b, 7, none⟩ = some (.int .u64 (d.next.ts : Nat)) ∧ W.cell? ⟨p.b, 14, none⟩ = some (.map (some p.m1)) ∧ W.cell? ⟨mb, 1, none⟩ = some (.int .i64 F) ∧ W.cell? ⟨mb, 5, none⟩ = some (.int .u64 (d.next.te : Nat)) ∧ W.cell? ⟨mb, 6, none⟩ = some (.int .u64 (d.next.ts : Nat)))
          (first | exact ⟨c4, c6, c7, c14, m1, m5, m6⟩ | exact g1)
          (first | (go_at_call 24; with_reducible refine HC.out.mono ?_; rintro e w2 ⟨rfl, g1, HE⟩))
        all_goals
          obtain ⟨K, hlen, hK, HMJ⟩ := HL.out w2 HE.out.1 HE.out.2
          have k14 := g1.2.2.2.1
          rw [← hK] at HSM
          by_cases hmj : d.L.length < 2 * K
          · obtain ⟨x4, TA, ZA, W2, W3, W4, v4, u4, v6, v7, v8, HW2, HTA, HZA, HT9, HI9, HA9, HW3, HT6, HI6, HA6, HW4, HE4⟩ := HCH.out w2 HE.out.1 HE.out.2
            rw [decide_eq_true hmj] at HMJ
            have HS2 : Hid (wroM d m = { wroA d m with ph := 3, chosen := d.next, next := tv0 }) := HSM.out.trans (if_pos hmj)
            clear HCH HL HC c4 c6 c7 c14 m1 m5 m6 g1 HSM hmj hK HE e5a e5b e2
            have eT := HTA.out
            have eZ := HZA.out
            generalize strL d.next.v = SV at *
            go_upto_region 4 with (go_at_call 25; refine HMJ.out.mono ?_; rintro e w3 ⟨rfl, rfl⟩)
            go_wp2_with (first
              | (refine wpList_store_mid rfl 78 (.tmp 51) (.tmp 46) rfl p.b 9 TA (by rfl) (by rw [eT]; rfl) (by rw [← HW2.out] at HT9; exact HT9.out) HI9.out HA9.out ?_; rw [HW2.out, HW3.out])
              | (refine wpList_store_mid rfl 78 (.tmp 53) (.tmp 47) rfl p.b 6 ZA (by rfl) (by rw [eZ]; rfl) HT6.out HI6.out HA6.out ?_; rw [HW4.out]))
            go_ret
            rw [HS2.out]
            exact ⟨rfl, HE4.out⟩
          · rw [decide_eq_false hmj] at HMJ
            have HS2 : Hid (wroM d m = wroA d m) := HSM.out.trans (if_neg hmj)
            clear HCH HL HC c4 c6 c7 c14 m1 m5 m6 g1 HSM hmj hK e5a e5b e2
            go_wp2_with (go_at_call 25; refine HMJ.out.mono ?_; rintro e w3 ⟨rfl, rfl⟩)
            go_ret
            rw [HS2.out]
            exact ⟨rfl, HE.out⟩
    · have HSM : Hid (wroM d m = d) := if_pos (.inr (.inl e5))
      clear hF HD
      by_cases e5a : m.n 5 = (d.next.te : Nat)
      · have e5b : ¬ m.n 6 = (d.next.ts : Nat) := fun q => e5 ⟨e5a, q⟩
        have q5 : ((m.n 5 : Int) == (d.next.te : Int)) = true := by simp [e5a]
        have q6 : ((m.n 6 : Int) == (d.next.ts : Int)) = false := by simp [e5b]
        clear e5 e5a e5b
        generalize m.n 1 = F at *
        generalize m.n 5 = A5 at *
        generalize m.n 6 = A6 at *
        replace c4 : W1.cell? ⟨p.b, 4, none⟩ = some (.int .i64 2) := c4
        replace c6 : W1.cell? ⟨p.b, 6, none⟩ = some (.int .u64 (d.next.te : Nat)) := c6
        replace c7 : W1.cell? ⟨p.b, 7, none⟩ = some (.int .u64 (d.next.ts : Nat)) := c7
        replace c14 : W1.cell? ⟨p.b, 14, none⟩ = some (.map (some p.m1)) := c14
        replace m1 : W1.cell? ⟨mb, 1, none⟩ = some (.int .i64 F) := m1
        replace m5 : W1.cell? ⟨mb, 5, none⟩ = some (.int .u64 A5) := m5
        replace m6 : W1.cell? ⟨mb, 6, none⟩ = some (.int .u64 A6) := m6
        go_enter Try.func53, Try.ntmps53
        go_upto_region 1 with fail
        rw [HW1.out, Hmb.out]
        clear HW1 Hmb
        go_quiet (fail)
        go_wp2_with fail
        go_ret
        rw [HSM.out]
        exact ⟨rfl, HX.out _⟩
      · have q5 : ((m.n 5 : Int) == (d.next.te : Int)) = false := by simp [e5a]
        clear e5 e5a
        generalize m.n 1 = F at *
        generalize m.n 5 = A5 at *
        generalize m.n 6 = A6 at *
        replace c4 : W1.cell? ⟨p.b, 4, none⟩ = some (.int .i64 2) := c4
        replace c6 : W1.cell? ⟨p.b, 6, none⟩ = some (.int .u64 (d.next.te : Nat)) := c6
        replace c7 : W1.cell? ⟨p.b, 7, none⟩ = some (.int .u64 (d.next.ts : Nat)) := c7
        replace c14 : W1.cell? ⟨p.b, 14, none⟩ = some (.map (some p.m1)) := c14
        replace m1 : W1.cell? ⟨mb, 1, none⟩ = some (.int .i64 F) := m1
        replace m5 : W1.cell? ⟨mb, 5, none⟩ = some (.int .u64 A5) := m5
        replace m6 : W1.cell? ⟨mb, 6, none⟩ = some (.int .u64 A6) := m6
        go_enter Try.func53, Try.ntmps53
        go_upto_region 1 with fail
        rw [HW1.out, Hmb.out]
        clear HW1 Hmb
        go_quiet (fail)
        go_wp2_with fail
        go_ret
        rw [HSM.out]
        exact ⟨rfl, HX.out _⟩
  · have HSM : Hid (wroM d m = d) := if_pos (.inl e2)
    have ez : (d.ph != 2) = true := by simp [e2]
    clear hF HD e2
    replace c4 : W1.cell? ⟨p.b, 4, none⟩ = some (.int .i64 d.ph) := c4
    go_enter Try.func53, Try.ntmps53
    go_upto_region 1 with fail
    rw [HW1.out, Hmb.out]
    clear HW1 Hmb
    go_quiet (fail)
    go_wp2_with fail
    go_ret
    rw [HSM.out]
    exact ⟨rfl, HX.out _⟩
end Go.Proofs.Ytkcjmjaikobpoaa

/- Package quorum: beaten. -/
namespace Go.Proofs.Ytkcjmjaikobpoaa
open Go.RowKit Go.Maps
set_option maxRecDepth 100000
set_option maxRecDepth 100000

def betA (d : Qd) (m : Mg) : Qd := { d with c2 := addC d.c2 (m.n 1) }
def betM (d : Qd) (m : Mg) : Qd := if ¬ holdB d ∨ d.begun = d.done ∨ ¬ m.n 4 = (d.ep : Nat) ∨ ¬ m.n 7 = (d.begun : Nat) ∨ m.n 1 ∈ d.c2 then d else if d.L.length < 2 * (betA d m).c2.length then { betA d m with done := d.begun } else betA d m
/-- What the walk of beaten asks of memory. -/
def BS (p : Qp) (d : Qd) (mb : Nat) (F A4 A7 : Int) (W : World) : Prop := W.cell? ⟨p.b, 5, none⟩ = some (.int .u64 (d.ep : Nat)) ∧ W.cell? ⟨p.b, 12, none⟩ = some (.int .u64 (d.begun : Nat)) ∧ W.cell? ⟨p.b, 15, none⟩ = some (.map (some p.m2)) ∧ W.cell? ⟨mb, 1, none⟩ = some (.int .i64 F) ∧ W.cell? ⟨mb, 4, none⟩ = some (.int .u64 A4) ∧ W.cell? ⟨mb, 7, none⟩ = some (.int .u64 A7)
set_option maxHeartbeats 4000000 in
theorem beaten_any {w : World} {p : Qp} {d : Qd} (h : QIs w p d) (m : Mg) (va : Option Addr) (vc : Nat) (hA : MgA w m va vc) (hF : m.n 1 ∈ d.L) (S : Int) :
    Calls Try.prog 55 #[.pointer (some ⟨p.b, 0, none⟩), mgV m va vc, .int .i64 S] w fun e w' => e = .returned (.slice none 0 0) ∧ QIs w' p (betM d m) ∧ Bq p w w' := by
  obtain ⟨MM, W1, mb, HMM, HW1, Hmb, HD, HR⟩ := DS.put h hA
  rw [HMM.out]
  have hS : ∀ {W : World} {D : Qd}, DS w p D mb m va vc W → D.ep = d.ep → D.begun = d.begun → BS p d mb (m.n 1) (m.n 4) (m.n 7) W := fun {W D} h e1 e2 =>
    ⟨by rw [← e1]; exact h.q.cell 5 (by decide), by rw [← e2]; exact h.q.cell 12 (by decide), h.q.cell 15 (by decide), h.row.cell (i := 1) (by decide), h.row.cell (i := 4) (by decide), h.row.cell (i := 7) (by decide)⟩
  have HS0 : Hid (BS p d mb (m.n 1) (m.n 4) (m.n 7) W1.drew) := hS HD.out.drew rfl rfl
  have HC : Hid (Calls Try.prog 32 #[.pointer (some ⟨p.b, 0, none⟩)] W1.drew fun e w2 => e = .returned (.bool (decide (holdB d))) ∧ BS p d mb (m.n 1) (m.n 4) (m.n 7) w2 ∧ Hid (QIs w2 p d ∧ Bq p w w2) ∧
      Hid (Calls Try.prog 57 #[.pointer (some ⟨p.b, 0, none⟩)] w2 fun e w3 => e = .returned (.bool (decide (d.begun ≠ d.done))) ∧ BS p d mb (m.n 1) (m.n 4) (m.n 7) w3 ∧ Hid (QIs w3 p d ∧ Bq p w w3) ∧
      Hid (Calls Try.prog 24 #[.map (some p.m2), .int .i64 (m.n 1)] w3 fun e w4 => e = .returned (.bool (!decide (m.n 1 ∈ d.c2))) ∧ BS p d mb (m.n 1) (m.n 4) (m.n 7) w4 ∧ Hid (QIs w4 p (betA d m) ∧ Bq p w w4)))) :=
    (holdsQ_any HD.out.drew.q).mono fun e w2 ⟨he, hw⟩ => by
      subst hw
      refine ⟨he, HS0.out, ⟨HD.out.drew.q, HD.out.drew.bq⟩, (underWay_any HD.out.drew.q).mono fun e w3 ⟨he3, n, hw3⟩ => ?_⟩
      subst hw3
      have h3 := HD.out.drew.drewN n
      exact ⟨he3, hS h3 rfl rfl, ⟨h3.q, h3.bq⟩, (h3.q.add2 (m.n 1) hF).mono fun e w4 ⟨he4, q4, b4⟩ => ⟨he4, hS (h3.turn q4 b4) rfl rfl, q4, h3.bq.trans b4⟩⟩
  have HL : Hid (∀ W : World, QIs W p (betA d m) → Bq p w W → ∃ K : Nat, (∀ ty, (Builtin.len_ #[76] ty #[.map (some p.m2)]).run Try.prog W = .ok (.int .i64 (K : Nat)) W) ∧ K = (betA d m).c2.length ∧ Hid (Calls Try.prog 25 #[.pointer (some ⟨p.b, 0, none⟩), .int .i64 (K : Nat)] W fun e w' => e = .returned (.bool (decide (d.L.length < 2 * K))) ∧ W = w')) := fun W q b =>
    ⟨_, fun ty => q.len2 ty, rfl, majorQ_any q _ (Nat.le_trans q.ok.c2.len (Nat.le_trans q.ok.l7 (by decide)))⟩
  have HCH : Hid (∀ W : World, QIs W p (betA d m) → Bq p w W → ∃ (x13 : Value) (W2 : World), W.cell? ⟨p.b, 12, none⟩ = some (.int .u64 (d.begun : Nat)) ∧ W.cell? ⟨p.b, 13, none⟩ = some x13 ∧ W.frozen? ⟨p.b, 13, none⟩ = false ∧ Hid (W.setCell ⟨p.b, 13, none⟩ (.int .u64 (d.begun : Nat)) = W2) ∧ Hid (QIs W2 p { betA d m with done := d.begun } ∧ Bq p w W2)) := fun W q b => by
    obtain ⟨q2, b2⟩ := q.setDone d.begun q.ok.begun
    exact ⟨_, _, q.cell 12 (by decide), q.cell 13 (by decide), q.fz 13, rfl, q2, b.trans b2⟩
  obtain ⟨c5, c12, c15, m1, m4, m7⟩ : BS p d mb (m.n 1) (m.n 4) (m.n 7) W1 := hS HD.out rfl rfl
  have HX : Hid (∀ n, QIs (W1.drewN n) p d ∧ Bq p w (W1.drewN n)) := fun n => ⟨(HD.out.drewN n).q, (HD.out.drewN n).bq⟩
  have HHQ : Hid (∀ n, Calls Try.prog 32 #[.pointer (some ⟨p.b, 0, none⟩)] (W1.drewN n) fun e w2 => e = .returned (.bool (decide (holdB d))) ∧ w2 = W1.drewN n) := fun n => (holdsQ_any (HD.out.drewN n).q).mono fun e w2 ⟨he, hw⟩ => ⟨he, hw.symm⟩
  have HUQ : Hid (∀ n, Calls Try.prog 57 #[.pointer (some ⟨p.b, 0, none⟩)] (W1.drewN n) fun e w3 => e = .returned (.bool (decide (d.begun ≠ d.done))) ∧ ∃ m, w3 = (W1.drewN n).drewN m) := fun n => underWay_any (HD.out.drewN n).q
  clear hA h HR HMM HD hF hS
  by_cases e0 : holdB d
  · rw [decide_eq_true e0] at HC HHQ
    by_cases e1 : d.begun = d.done
    · have HSM : Hid (betM d m = d) := if_pos (.inr (.inl e1))
      have eu : decide (d.begun ≠ d.done) = false := decide_eq_false (fun q => q e1)
      rw [eu] at HC HUQ
      clear eu
      clear HL HCH e0 e1
      generalize m.n 1 = F at *
      generalize m.n 4 = A4 at *
      generalize m.n 7 = A7 at *
      clear HC HS0
      go_enter Try.func55, Try.ntmps55
      go_upto_region 1 with fail
      rw [HW1.out, Hmb.out]
      clear HW1 Hmb
      go_quiet (first | exact Calls.quiet_of_same (HHQ.out _) | exact Calls.quiet_of (HUQ.out _))
      go_wp2_with fail
      go_ret
      rw [HSM.out]
      exact ⟨rfl, HX.out _⟩
    · have eu : decide (d.begun ≠ d.done) = true := decide_eq_true e1
      rw [eu] at HC HUQ
      clear eu
      by_cases e4 : m.n 4 = (d.ep : Nat)
      · by_cases e7 : m.n 7 = (d.begun : Nat)
        · have q4 : ((m.n 4 : Int) != (d.ep : Int)) = false := by simp [e4]
          have q7 : ((m.n 7 : Int) != (d.begun : Int)) = false := by simp [e7]
          by_cases hin : m.n 1 ∈ d.c2
          · have HSM : Hid (betM d m = betA d m) := by
              show betM d m = betA d m
              unfold betM betA
              rw [if_pos (.inr (.inr (.inr (.inr hin)))), addC_of_mem hin]
            rw [decide_eq_true hin] at HC
            clear HX HHQ HUQ c5 c12 c15 m1 m4 m7 HL HCH hin e0 e1 e4 e7
            generalize m.n 1 = F at *
            generalize m.n 4 = A4 at *
            generalize m.n 7 = A7 at *
            go_enter Try.func55, Try.ntmps55
            go_upto_region 1 with fail
            rw [HW1.out, Hmb.out]
            clear HW1 Hmb
            unfold BS at HS0 HC
            go_region_held3 (fun W => W.cell? ⟨p.b, 5, none⟩ = some (.int .u64 (d.ep : Nat)) ∧ W.cell? ⟨p.b, 12, none⟩ = some (.int .u64 (d.begun : Nat)) ∧ W.cell? ⟨p.b, 15, none⟩ = some (.map (some p.m2)) ∧ W.cell? ⟨mb, 1, none⟩ = some (.int .i64 F) ∧ W.cell? ⟨mb, 4, none⟩ = some (.int .u64 A4) ∧ W.cell? ⟨mb, 7, none⟩ = some (.int .u64 A7))
              (first | exact HS0.out | exact g1 | exact g2 | exact g3)
              (first
                | (go_at_call 32; with_reducible refine HC.out.mono ?_; rintro e w2 ⟨rfl, g1, HE1, HU⟩)
                | (go_at_call 57; with_reducible refine HU.out.mono ?_; rintro e w3 ⟨rfl, g2, HE2, HP⟩)
                | (go_at_call 24; with_reducible refine HP.out.mono ?_; rintro e w4 ⟨rfl, g3, HE3⟩))
            all_goals
              go_wp2_with fail
              go_ret
              rw [HSM.out]
              exact ⟨rfl, HE3.out⟩
          · have HSM : Hid (betM d m = if d.L.length < 2 * (betA d m).c2.length then { betA d m with done := d.begun } else betA d m) := by
              show betM d m = _
              exact if_neg (by rintro (q | q | q | q | q) <;> simp_all)
            rw [decide_eq_false hin] at HC
            clear HX HHQ HUQ c5 c12 c15 m1 m4 m7 hin e0 e1 e4 e7
            generalize m.n 1 = F at *
            generalize m.n 4 = A4 at *
            generalize m.n 7 = A7 at *
            go_enter Try.func55, Try.ntmps55
            go_upto_region 1 with fail
            rw [HW1.out, Hmb.out]
            clear HW1 Hmb
            unfold BS at HS0 HC
            go_region_held3 (fun W => W.cell? ⟨p.b, 5, none⟩ = some (.int .u64 (d.ep : Nat)) ∧ W.cell? ⟨p.b, 12, none⟩ = some (.int .u64 (d.begun : Nat)) ∧ W.cell? ⟨p.b, 15, none⟩ = some (.map (some p.m2)) ∧ W.cell? ⟨mb, 1, none⟩ = some (.int .i64 F) ∧ W.cell? ⟨mb, 4, none⟩ = some (.int .u64 A4) ∧ W.cell? ⟨mb, 7, none⟩ = some (.int .u64 A7))
              (first | exact HS0.out | exact g1 | exact g2 | exact g3)
              (first
                | (go_at_call 32; with_reducible refine HC.out.mono ?_; rintro e w2 ⟨rfl, g1, HE1, HU⟩)
                | (go_at_call 57; with_reducible refine HU.out.mono ?_; rintro e w3 ⟨rfl, g2, HE2, HP⟩)
                | (go_at_call 24; with_reducible refine HP.out.mono ?_; rintro e w4 ⟨rfl, g3, HE3⟩))
            all_goals
              obtain ⟨K, hlen, hK, HMJ⟩ := HL.out w4 HE3.out.1 HE3.out.2
              have k15 := g3.2.2.1
              rw [← hK] at HSM
              by_cases hmj : d.L.length < 2 * K
              · obtain ⟨x13, W2, v12, v13, u13, HW2, HE4⟩ := HCH.out w4 HE3.out.1 HE3.out.2
                rw [decide_eq_true hmj] at HMJ
                have HS2 : Hid (betM d m = { betA d m with done := d.begun }) := HSM.out.trans (if_pos hmj)
                clear HCH HL HC HS0 g1 g2 g3 HSM hmj hK HE1 HE2 HE3 HU HP q4 q7
                go_upto_region 5 with (go_at_call 25; refine HMJ.out.mono ?_; rintro e w5 ⟨rfl, rfl⟩)
                rw [HW2.out]
                go_wp2_with fail
                go_ret
                rw [HS2.out]
                exact ⟨rfl, HE4.out⟩
              · rw [decide_eq_false hmj] at HMJ
                have HS2 : Hid (betM d m = betA d m) := HSM.out.trans (if_neg hmj)
                clear HCH HL HC HS0 g1 g2 g3 HSM hmj hK HE1 HE2 HU HP q4 q7
                go_wp2_with (go_at_call 25; refine HMJ.out.mono ?_; rintro e w5 ⟨rfl, rfl⟩)
                go_ret
                rw [HS2.out]
                exact ⟨rfl, HE3.out⟩
        · have HSM : Hid (betM d m = d) := if_pos (.inr (.inr (.inr (.inl e7))))
          have q4 : ((m.n 4 : Int) != (d.ep : Int)) = false := by simp [e4]
          have q7 : ((m.n 7 : Int) != (d.begun : Int)) = true := by simp [e7]
          clear HL HCH e0 e1 e4 e7
          generalize m.n 1 = F at *
          generalize m.n 4 = A4 at *
          generalize m.n 7 = A7 at *
          clear HC HS0
          go_enter Try.func55, Try.ntmps55
          go_upto_region 1 with fail
          rw [HW1.out, Hmb.out]
          clear HW1 Hmb
          go_quiet (first | exact Calls.quiet_of_same (HHQ.out _) | exact Calls.quiet_of (HUQ.out _))
          go_wp2_with fail
          go_ret
          rw [HSM.out]
          exact ⟨rfl, HX.out _⟩
      · have HSM : Hid (betM d m = d) := if_pos (.inr (.inr (.inl e4)))
        have q4 : ((m.n 4 : Int) != (d.ep : Int)) = true := by simp [e4]
        clear HL HCH e0 e1 e4
        generalize m.n 1 = F at *
        generalize m.n 4 = A4 at *
        generalize m.n 7 = A7 at *
        clear HC HS0
        go_enter Try.func55, Try.ntmps55
        go_upto_region 1 with fail
        rw [HW1.out, Hmb.out]
        clear HW1 Hmb
        go_quiet (first | exact Calls.quiet_of_same (HHQ.out _) | exact Calls.quiet_of (HUQ.out _))
        go_wp2_with fail
        go_ret
        rw [HSM.out]
        exact ⟨rfl, HX.out _⟩
  · have HSM : Hid (betM d m = d) := if_pos (.inl e0)
    rw [decide_eq_false e0] at HC HHQ
    clear HL HCH e0
    generalize m.n 1 = F at *
    generalize m.n 4 = A4 at *
    generalize m.n 7 = A7 at *
    clear HC HS0
    go_enter Try.func55, Try.ntmps55
    go_upto_region 1 with fail
    rw [HW1.out, Hmb.out]
    clear HW1 Hmb
    go_quiet (first | exact Calls.quiet_of_same (HHQ.out _) | exact Calls.quiet_of (HUQ.out _))
    go_wp2_with fail
    go_ret
    rw [HSM.out]
    exact ⟨rfl, HX.out _⟩
end Go.Proofs.Ytkcjmjaikobpoaa

/- Package quorum: promise. -/
namespace Go.Proofs.Ytkcjmjaikobpoaa
open Go.RowKit Go.Maps
set_option maxRecDepth 100000
set_option maxRecDepth 100000

def proA (d : Qd) (m : Mg) : Qd := { d with c1 := addC d.c1 (m.n 1) }
def proT (d : Qd) (m : Mg) : Qd := { proA d m with next := ⟨(m.n 5).toNat, (m.n 6).toNat, m.s 10⟩ }
def proB (d : Qd) (m : Mg) : Qd := if 0 < cmT (m.n 5).toNat (m.n 6).toNat d.next.te d.next.ts then proT d m else proA d m
def promM (d : Qd) (m : Mg) (S : Int) : Qd × List Mg := if d.ph ≠ 1 ∨ ¬ m.n 4 = (d.ep : Nat) ∨ m.n 1 ∈ d.c1 then (d, []) else if d.L.length < 2 * (proA d m).c1.length then (wrtM (proB d m) 1 (proB d m).next.v, writeMs (wrtM (proB d m) 1 (proB d m).next.v) S) else (proB d m, [])
theorem range_getDL (l : List Nat) : (List.range l.length).map (fun j => l.getD j 0) = l := by
  refine List.ext_getElem (by simp) (fun j h1 h2 => ?_)
  simp [List.getD, h2]
def PS (p : Qp) (d : Qd) (mb : Nat) (F : Int) (W : World) : Prop := W.cell? ⟨p.b, 4, none⟩ = some (.int .i64 1) ∧ W.cell? ⟨p.b, 5, none⟩ = some (.int .u64 (d.ep : Nat)) ∧ W.cell? ⟨p.b, 14, none⟩ = some (.map (some p.m1)) ∧ W.cell? ⟨mb, 1, none⟩ = some (.int .i64 F) ∧ W.cell? ⟨mb, 4, none⟩ = some (.int .u64 (d.ep : Nat))
def PT (p : Qp) (d : Qd) (mb TE TS : Nat) (W : World) : Prop := W.cell? ⟨p.b, 6, none⟩ = some (.int .u64 (d.next.te : Nat)) ∧ W.cell? ⟨p.b, 7, none⟩ = some (.int .u64 (d.next.ts : Nat)) ∧ W.cell? ⟨mb, 5, none⟩ = some (.int .u64 (TE : Nat)) ∧ W.cell? ⟨mb, 6, none⟩ = some (.int .u64 (TS : Nat))
/-- What a promise's walk goes through behind the count. -/
theorem pro_rest {w W : World} {p : Qp} {d : Qd} {mb : Nat} {m : Mg} {va : Option Addr} {vc : Nat} {S : Int} (h : DS w p d mb m va vc W) (K : Nat) (hK : K = d.c1.length) :
    W.cell? ⟨p.b, 14, none⟩ = some (.map (some p.m1)) ∧ (∀ ty, (Builtin.len_ #[76] ty #[.map (some p.m1)]).run Try.prog W = .ok (.int .i64 (K : Nat)) W) ∧ Hid (Calls Try.prog 25 #[.pointer (some ⟨p.b, 0, none⟩), .int .i64 (K : Nat)] W fun e w' => e = .returned (.bool (decide (d.L.length < 2 * K))) ∧ W = w') ∧
      Hid (Calls Try.prog 26 #[.pointer (some ⟨p.b, 0, none⟩), .int .i64 S] W fun e w' => ∃ r, e = .returned r ∧ Hid (OutM w.heap.size w' r (writeMs (wrtM d 1 d.next.v) S) ∧ QIs w' p (wrtM d 1 d.next.v) ∧ Bq p w w')) ∧ Hid (OutM w.heap.size W (.slice none 0 0) [] ∧ QIs W p d ∧ Bq p w W) := by
  subst hK
  exact ⟨h.q.cell 14 (by decide), fun ty => h.q.len1 ty, majorQ_any h.q _ (Nat.le_trans h.q.ok.c1.len (Nat.le_trans h.q.ok.l7 (by decide))), (take_any h.q S).mono fun e w' ⟨r, he, ho, hq, hb⟩ => ⟨r, he, ho.on h.bq.size (fun _ _ _ => rfl), hq, h.bq.trans hb⟩, h.none⟩
set_option maxHeartbeats 4000000 in
theorem promise_any {w : World} {p : Qp} {d : Qd} (h : QIs w p d) (m : Mg) (va : Option Addr) (vc : Nat) (hA : MgA w m va vc) (hN : MgN m) (hF : m.n 1 ∈ d.L) (S : Int) :
    Calls Try.prog 52 #[.pointer (some ⟨p.b, 0, none⟩), mgV m va vc, .int .i64 S] w fun e w' => ∃ r, e = .returned r ∧ OutM w.heap.size w' r (promM d m S).2 ∧ QIs w' p (promM d m S).1 ∧ Bq p w w' := by
  obtain ⟨MM, W1, mb, HMM, HW1, Hmb, HD, HR⟩ := DS.put h hA
  rw [HMM.out]
  have c4 : W1.cell? ⟨p.b, 4, none⟩ = some (.int .i64 d.ph) := HD.out.q.cell 4 (by decide)
  have c5 : W1.cell? ⟨p.b, 5, none⟩ = some (.int .u64 (d.ep : Nat)) := HD.out.q.cell 5 (by decide)
  have m4 : W1.cell? ⟨mb, 4, none⟩ = some (.int .u64 (m.n 4)) := HD.out.row.cell (i := 4) (by decide)
  have HX : Hid (∀ n, OutM w.heap.size (W1.drewN n) (.slice none 0 0) [] ∧ QIs (W1.drewN n) p d ∧ Bq p w (W1.drewN n)) := fun n => (HD.out.drewN n).none
  by_cases e1 : d.ph = 1
  · by_cases e4 : m.n 4 = (d.ep : Nat)
    · have hn5 := hN.u 5 rfl
      have hn6 := hN.u 6 rfl
      obtain ⟨TE, hTE⟩ : ∃ n : Nat, (m.n 5).toNat = n := ⟨_, rfl⟩
      obtain ⟨TS, hTS⟩ : ∃ n : Nat, (m.n 6).toNat = n := ⟨_, rfl⟩
      have h5 : m.n 5 = (TE : Nat) := by omega
      have h6 : m.n 6 = (TS : Nat) := by omega
      have hS : ∀ {W : World} {D : Qd}, DS w p D mb m va vc W → D.ph = 1 → D.ep = d.ep → PS p d mb (m.n 1) W := fun {W D} h e1 e2 =>
        ⟨by rw [← e1]; exact h.q.cell 4 (by decide), by rw [← e2]; exact h.q.cell 5 (by decide), h.q.cell 14 (by decide), h.row.cell (i := 1) (by decide), by rw [← e4]; exact h.row.cell (i := 4) (by decide)⟩
      have hT : ∀ {W : World} {D : Qd}, DS w p D mb m va vc W → D.next = d.next → PT p d mb TE TS W := fun {W D} h e =>
        ⟨by rw [← e]; exact h.q.cell 6 (by decide), by rw [← e]; exact h.q.cell 7 (by decide), by rw [← h5]; exact h.row.cell (i := 5) (by decide), by rw [← h6]; exact h.row.cell (i := 6) (by decide)⟩
      have HS0 : Hid (PS p d mb (m.n 1) W1.drew) := hS HD.out.drew e1 rfl
      have HC : Hid (Calls Try.prog 24 #[.map (some p.m1), .int .i64 (m.n 1)] W1.drew fun e w2 => e = .returned (.bool (!decide (m.n 1 ∈ d.c1))) ∧ PS p d mb (m.n 1) w2 ∧ Hid (DS w p (proA d m) mb m va vc w2)) :=
        (HD.out.drew.q.add1 (m.n 1) hF).mono fun e w2 ⟨he, q, b⟩ => ⟨he, hS (HD.out.drew.turn q b) e1 rfl, HD.out.drew.turn q b⟩
      have HT : Hid (∀ W, DS w p (proA d m) mb m va vc W → PT p d mb TE TS W.drew ∧ Hid (Calls Try.prog 63 #[.agg #[.int .u64 (TE : Nat), .int .u64 (TS : Nat)], .agg #[.int .u64 (d.next.te : Nat), .int .u64 (d.next.ts : Nat)]] W.drew fun e w3 => e = .returned (.int .i64 (cmT TE TS d.next.te d.next.ts)) ∧ PT p d mb TE TS w3 ∧ Hid (DS w p (proA d m) mb m va vc w3))) := fun W hW =>
        ⟨hT hW.drew rfl, (compareT_any TE TS d.next.te d.next.ts W.drew).mono fun e w3 ⟨he, hs⟩ => ⟨he, hT (hW.drew.sin hs) rfl, hW.drew.sin hs⟩⟩
      have HTK : Hid (∀ W, DS w p (proA d m) mb m va vc W → W.cell? ⟨mb, 5, none⟩ = some (.int .u64 (TE : Nat)) ∧ W.cell? ⟨mb, 6, none⟩ = some (.int .u64 (TS : Nat)) ∧ W.cell? ⟨mb, 10, none⟩ = some (.slice va (m.s 10).length vc) ∧ (convert 43 9 (.slice va (m.s 10).length vc)).run Try.prog W = .ok (.string (strL (m.s 10))) W ∧
          ∃ (TA : Array Value) (W4 : World), Hid (TA = #[.int .u64 (TE : Nat), .int .u64 (TS : Nat), .string (strL (m.s 10))]) ∧ Hid (W.there p.b 6 TA.size) ∧ Hid ((Try.prog.info? 78).map (·.size) = some TA.size) ∧ Hid (TA.all (·.oneCell') = true) ∧ Hid (W.setCells p.b 6 TA.toList = W4) ∧ Hid (DS w p (proT d m) mb m va vc W4)) := fun W hW => by
        have hcv := str_byt va (m.s 10).length vc _ W hW.val (fun e => (hA.nil e).1)
        rw [strOf_strL, range_getDL] at hcv
        obtain ⟨q4, b4⟩ := hW.q.setNext ⟨TE, TS, m.s 10⟩ ⟨by show TE < _; omega, by show TS < _; omega, hA.len 10, hA.byte 10⟩
        have t4 := hW.turn q4 b4
        have e : proT d m = { proA d m with next := ⟨TE, TS, m.s 10⟩ } := by unfold proT; rw [hTE, hTS]
        rw [← e] at t4
        exact ⟨by rw [← h5]; exact hW.row.cell (i := 5) (by decide), by rw [← h6]; exact hW.row.cell (i := 6) (by decide), hW.row.cell (i := 10) (by decide), hcv, tvA ⟨TE, TS, m.s 10⟩, _, rfl, hW.q.there 6 3 (by decide), infoTv, allTv _, rfl, t4⟩
      by_cases hin : m.n 1 ∈ d.c1
      · have HSM : Hid (promM d m S = (d, [])) := if_pos (.inr (.inr hin))
        have HPA : Hid (proA d m = d) := by
          show proA d m = d
          unfold proA
          rw [addC_of_mem hin]
        rw [decide_eq_true hin] at HC
        clear hin hS hT HT HTK h5 h6 hn5 hn6 hTE hTS HX c4 c5 m4 e1 e4 hN hA h HR HMM HD hF
        generalize m.n 1 = F at *
        unfold PS at HS0 HC
        go_enter Try.func52, Try.ntmps52
        go_upto_region 1 with fail
        rw [HW1.out, Hmb.out]
        clear HW1 Hmb
        go_region_held3 (fun W => W.cell? ⟨p.b, 4, none⟩ = some (.int .i64 1) ∧ W.cell? ⟨p.b, 5, none⟩ = some (.int .u64 (d.ep : Nat)) ∧ W.cell? ⟨p.b, 14, none⟩ = some (.map (some p.m1)) ∧ W.cell? ⟨mb, 1, none⟩ = some (.int .i64 F) ∧ W.cell? ⟨mb, 4, none⟩ = some (.int .u64 (d.ep : Nat)))
          (first | exact HS0.out | exact g1)
          (first | (go_at_call 24; with_reducible refine HC.out.mono ?_; rintro e w2 ⟨rfl, g1, HE1⟩))
        all_goals
          have HE : Hid (OutM w.heap.size w2 (.slice none 0 0) [] ∧ QIs w2 p d ∧ Bq p w w2) := by have := HE1.out.none; rw [HPA.out] at this; exact this
          go_wp2_with fail
          go_ret
          rw [HSM.out]
          exact ⟨_, rfl, HE.out⟩
      · have HSM : Hid (promM d m S = if d.L.length < 2 * (proA d m).c1.length then (wrtM (proB d m) 1 (proB d m).next.v, writeMs (wrtM (proB d m) 1 (proB d m).next.v) S) else (proB d m, [])) := by
          show promM d m S = _
          exact if_neg (by rintro (q | q | q) <;> simp_all)
        have HPB : Hid (proB d m = if 0 < cmT TE TS d.next.te d.next.ts then proT d m else proA d m) := by
          show proB d m = _
          unfold proB
          rw [hTE, hTS]
        have HCC : Hid ((proT d m).c1.length = (proA d m).c1.length ∧ (proT d m).L = d.L ∧ (proA d m).L = d.L) := ⟨rfl, rfl, rfl⟩
        have HRA : Hid (∀ W K, DS w p (proA d m) mb m va vc W → K = (proA d m).c1.length → _) := fun W K hW hK => pro_rest (S := S) hW K hK
        have HRT : Hid (∀ W K, DS w p (proT d m) mb m va vc W → K = (proT d m).c1.length → _) := fun W K hW hK => pro_rest (S := S) hW K hK
        rw [decide_eq_false hin] at HC
        clear hin hS hT h5 h6 hn5 hn6 hTE hTS HX c4 c5 m4 e1 e4 hN hA h HR HMM HD hF
        generalize hFm : m.n 1 = F at HC HS0
        clear hFm
        obtain ⟨K, hK⟩ : ∃ K, K = (proA d m).c1.length := ⟨_, rfl⟩
        rw [← hK] at HSM
        unfold PS at HS0 HC
        go_enter Try.func52, Try.ntmps52
        go_upto_region 1 with fail
        rw [HW1.out, Hmb.out]
        clear HW1 Hmb
        go_region_held3 (fun W => W.cell? ⟨p.b, 4, none⟩ = some (.int .i64 1) ∧ W.cell? ⟨p.b, 5, none⟩ = some (.int .u64 (d.ep : Nat)) ∧ W.cell? ⟨p.b, 14, none⟩ = some (.map (some p.m1)) ∧ W.cell? ⟨mb, 1, none⟩ = some (.int .i64 F) ∧ W.cell? ⟨mb, 4, none⟩ = some (.int .u64 (d.ep : Nat)))
          (first | exact HS0.out | exact g1)
          (first | (go_at_call 24; with_reducible refine HC.out.mono ?_; rintro e w2 ⟨rfl, g1, HE1⟩))
        all_goals
          obtain ⟨t0, HCMP⟩ := HT.out w2 HE1.out
          by_cases hcm : 0 < cmT TE TS d.next.te d.next.ts
          · have HB2 : Hid (proB d m = proT d m) := HPB.out.trans (if_pos hcm)
            have hgt : decide ((cmT TE TS d.next.te d.next.ts : Int) > 0) = true := decide_eq_true hcm
            have hgt2 : (cmT TE TS d.next.te d.next.ts : Int) > 0 := hcm
            have hKT : K = (proT d m).c1.length := hK.trans HCC.out.1.symm
            clear HRA HPB hcm HC HS0 g1 HT
            generalize cmT TE TS d.next.te d.next.ts = CM at *
            unfold PT at t0 HCMP
            go_upto_region 3 with fail
            go_region_held3 (fun W => W.cell? ⟨p.b, 6, none⟩ = some (.int .u64 (d.next.te : Nat)) ∧ W.cell? ⟨p.b, 7, none⟩ = some (.int .u64 (d.next.ts : Nat)) ∧ W.cell? ⟨mb, 5, none⟩ = some (.int .u64 (TE : Nat)) ∧ W.cell? ⟨mb, 6, none⟩ = some (.int .u64 (TS : Nat)))
              (first | exact t0 | exact g2)
              (first | (go_at_call 63; with_reducible refine HCMP.out.mono ?_; rintro e w3 ⟨rfl, g2, HE2⟩))
            all_goals
              obtain ⟨n5, n6, n10, hcv, TA, W4, HTA, HTH, HTI, HTL, HW4, HD4⟩ := HTK.out w3 HE2.out
              have eT := HTA.out
              obtain ⟨k14, hlen, HMJ, HTU, HNO⟩ := HRT.out W4 K HD4.out hKT
              clear HTK HRT HE1 HE2 g2 t0 HCMP hgt hgt2
              rw [HCC.out.2.1] at HMJ
              generalize strL (m.s 10) = SV at *
              go_upto_region 5 with (refine wpList_store_mid rfl 78 (.tmp 49) (.tmp 47) rfl p.b 6 TA (by rfl) (by rw [eT]; rfl) HTH.out HTI.out HTL.out ?_; rw [HW4.out])
              clear HW4 HTH HTI HTL n5 n6 n10 hcv eT HTA
              by_cases hmj : d.L.length < 2 * K
              · rw [decide_eq_true hmj] at HMJ
                have HS2 := HSM.out.trans (if_pos hmj)
                rw [HB2.out] at HS2
                have HS3 := hide HS2
                clear HS2 HSM HB2 HCC HNO hmj hK hKT
                go_wp2_with (first
                  | (go_at_call 25; refine HMJ.out.mono ?_; rintro e w5 ⟨rfl, rfl⟩)
                  | (go_at_call 26; refine HTU.out.mono ?_; rintro e w6 ⟨r, rfl, HE⟩))
                go_ret
                rw [HS3.out]
                exact ⟨r, rfl, HE.out⟩
              · rw [decide_eq_false hmj] at HMJ
                have HS2 := HSM.out.trans (if_neg hmj)
                rw [HB2.out] at HS2
                have HS3 := hide HS2
                clear HS2 HSM HB2 HCC HTU hmj hK hKT
                go_wp2_with (go_at_call 25; refine HMJ.out.mono ?_; rintro e w5 ⟨rfl, rfl⟩)
                go_ret
                rw [HS3.out]
                exact ⟨_, rfl, HNO.out⟩
          · have HB2 : Hid (proB d m = proA d m) := HPB.out.trans (if_neg hcm)
            have hgt : decide ((cmT TE TS d.next.te d.next.ts : Int) > 0) = false := decide_eq_false hcm
            have hgt2 : ¬ (cmT TE TS d.next.te d.next.ts : Int) > 0 := hcm
            have hKT := hK
            clear HRT HPB hcm HC HS0 g1 HT HTK
            generalize cmT TE TS d.next.te d.next.ts = CM at *
            unfold PT at t0 HCMP
            go_upto_region 3 with fail
            go_region_held3 (fun W => W.cell? ⟨p.b, 6, none⟩ = some (.int .u64 (d.next.te : Nat)) ∧ W.cell? ⟨p.b, 7, none⟩ = some (.int .u64 (d.next.ts : Nat)) ∧ W.cell? ⟨mb, 5, none⟩ = some (.int .u64 (TE : Nat)) ∧ W.cell? ⟨mb, 6, none⟩ = some (.int .u64 (TS : Nat)))
              (first | exact t0 | exact g2)
              (first | (go_at_call 63; with_reducible refine HCMP.out.mono ?_; rintro e w3 ⟨rfl, g2, HE2⟩))
            all_goals
              obtain ⟨k14, hlen, HMJ, HTU, HNO⟩ := HRA.out w3 K HE2.out hKT
              clear HRA HE1 HE2 g2 t0 HCMP
              rw [HCC.out.2.2] at HMJ
              by_cases hmj : d.L.length < 2 * K
              · rw [decide_eq_true hmj] at HMJ
                have HS2 := HSM.out.trans (if_pos hmj)
                rw [HB2.out] at HS2
                have HS3 := hide HS2
                clear HS2 HSM HB2 HCC HNO hmj hK hKT
                go_wp2_with (first
                  | (go_at_call 25; refine HMJ.out.mono ?_; rintro e w5 ⟨rfl, rfl⟩)
                  | (go_at_call 26; refine HTU.out.mono ?_; rintro e w6 ⟨r, rfl, HE⟩))
                go_ret
                rw [HS3.out]
                exact ⟨r, rfl, HE.out⟩
              · rw [decide_eq_false hmj] at HMJ
                have HS2 := HSM.out.trans (if_neg hmj)
                rw [HB2.out] at HS2
                have HS3 := hide HS2
                clear HS2 HSM HB2 HCC HTU hmj hK hKT
                go_wp2_with (go_at_call 25; refine HMJ.out.mono ?_; rintro e w5 ⟨rfl, rfl⟩)
                go_ret
                rw [HS3.out]
                exact ⟨_, rfl, HNO.out⟩
    · have HSM : Hid (promM d m S = (d, [])) := if_pos (.inr (.inl e4))
      have q4 : ((m.n 4 : Int) != (d.ep : Int)) = true := by simp [e4]
      rw [e1] at c4
      clear e1 e4 hN hA h HR HMM HD hF
      generalize m.n 4 = A4 at *
      go_enter Try.func52, Try.ntmps52
      go_upto_region 1 with fail
      rw [HW1.out, Hmb.out]
      clear HW1 Hmb
      go_quiet (fail)
      go_wp2_with fail
      go_ret
      rw [HSM.out]
      exact ⟨_, rfl, HX.out _⟩
  · have HSM : Hid (promM d m S = (d, [])) := if_pos (.inl e1)
    have ez : (d.ph != 1) = true := by simp [e1]
    clear e1 hN hA h HR HMM HD hF m4 c5
    go_enter Try.func52, Try.ntmps52
    go_upto_region 1 with fail
    rw [HW1.out, Hmb.out]
    clear HW1 Hmb
    go_quiet (fail)
    go_wp2_with fail
    go_ret
    rw [HSM.out]
    exact ⟨_, rfl, HX.out _⟩
end Go.Proofs.Ytkcjmjaikobpoaa

/- Package quorum: refuse. -/
namespace Go.Proofs.Ytkcjmjaikobpoaa
open Go.RowKit Go.Maps
set_option maxRecDepth 100000
set_option maxRecDepth 100000

def refS (d : Qd) (m : Mg) : Qd := { d with seen := max d.seen (m.n 9).toNat }
def refC (d : Qd) (m : Mg) : Qd := { refS d m with c3 := addC d.c3 (m.n 1) }
def refM (d : Qd) (m : Mg) : Qd := if d.ph = 0 ∨ ¬ m.n 4 = (d.ep : Nat) ∨ m.n 9 ≤ (d.ep : Nat) then refS d m else if holdB d then (if d.L.length < 2 * (d.L.length - (refC d m).c3.length) then refC d m else stopM (refC d m)) else stopM (refS d m)
set_option maxHeartbeats 4000000 in
theorem refuse_any {w : World} {p : Qp} {d : Qd} (h : QIs w p d) (m : Mg) (va : Option Addr) (vc : Nat) (hA : MgA w m va vc) (hN : MgN m) (hF : m.n 1 ∈ d.L) (S : Int) :
    Calls Try.prog 54 #[.pointer (some ⟨p.b, 0, none⟩), mgV m va vc, .int .i64 S] w fun e w' => e = .returned (.slice none 0 0) ∧ QIs w' p (refM d m) ∧ Bq p w w' := by
  obtain ⟨MM, W1, mb, HMM, HW1, Hmb, HD, HR⟩ := DS.put h hA
  rw [HMM.out]
  have hn9 := hN.u 9 rfl
  have hsn := h.ok.seen
  have hl7 := h.ok.l7
  obtain ⟨MX, hMX⟩ : ∃ X, max d.seen (m.n 9).toNat = X := ⟨_, rfl⟩
  have hmx : (if m.n 9 > (d.seen : Int) then m.n 9 else (d.seen : Int)) = (MX : Nat) := by
    by_cases q : m.n 9 > (d.seen : Int)
    · rw [if_pos q]; omega
    · rw [if_neg q]; omega
  have eS : refS d m = { d with seen := MX } := by unfold refS; rw [hMX]
  have HD1 : DS w p d mb m va vc W1.drew := HD.out.drew
  obtain ⟨q2, b2⟩ := HD1.q.setSeen MX (by omega)
  have HD2 := HD1.turn q2 b2
  rw [← eS] at HD2
  obtain ⟨x3, c3⟩ : ∃ x, W1.drew.cell? ⟨p.b, 3, none⟩ = some x := ⟨_, HD1.q.cell 3 (by decide)⟩
  have f3 := HD1.q.fz 3
  obtain ⟨W2, HW2⟩ : ∃ W, Hid (W1.drew.setCell ⟨p.b, 3, none⟩ (.int .u64 (MX : Nat)) = W) := ⟨_, rfl⟩
  rw [HW2.out] at HD2
  have HS0 : Hid (∃ D, DS w p D mb m va vc W1.drew ∧ D.seen = d.seen) := ⟨d, HD1, rfl⟩
  have c4 : W2.cell? ⟨p.b, 4, none⟩ = some (.int .i64 d.ph) := HD2.q.cell 4 (by decide)
  have c5 : W2.cell? ⟨p.b, 5, none⟩ = some (.int .u64 (d.ep : Nat)) := HD2.q.cell 5 (by decide)
  have m4 : W2.cell? ⟨mb, 4, none⟩ = some (.int .u64 (m.n 4)) := HD2.row.cell (i := 4) (by decide)
  have m9 : W2.cell? ⟨mb, 9, none⟩ = some (.int .u64 (m.n 9)) := HD2.row.cell (i := 9) (by decide)
  have HX : Hid (∀ n, QIs (W2.drewN n) p (refS d m) ∧ Bq p w (W2.drewN n)) := fun n => ⟨(HD2.drewN n).q, (HD2.drewN n).bq⟩
  have HDX : Hid (∀ n, DS w p (refS d m) mb m va vc (W2.drewN n)) := fun n => HD2.drewN n
  have hh : holdB (refS d m) ↔ holdB d := Iff.rfl
  have HHO : Hid (∀ n, Calls Try.prog 32 #[.pointer (some ⟨p.b, 0, none⟩)] (W2.drewN n) fun e w3 => e = .returned (.bool (decide (holdB d))) ∧ W2.drewN n = w3) := fun n => by
    have q := holdsQ_any (HD2.drewN n).q
    exact q
  have HST : Hid (∀ (W : World) (D : Qd), QIs W p D → Bq p w W → Calls Try.prog 15 #[.pointer (some ⟨p.b, 0, none⟩)] W fun e w3 => e = .returned (.tuple #[]) ∧ Hid (QIs w3 p (stopM D) ∧ Bq p w w3)) := fun W D q b => (stop_any q).mono fun e w3 ⟨he, q3, b3⟩ => ⟨he, q3, b.trans b3⟩
  have HAD : Hid (∀ n, Calls Try.prog 24 #[.map (some p.m3), .int .i64 (m.n 1)] (W2.drewN n) fun e w3 => ∃ b, e = .returned (.bool b) ∧ (w3.cell? ⟨p.b, 16, none⟩ = some (.map (some p.m3)) ∧ w3.cell? ⟨mb, 1, none⟩ = some (.int .i64 (m.n 1))) ∧ Hid (DS w p (refC d m) mb m va vc w3)) := fun n =>
    ((HD2.drewN n).q.add3 (m.n 1) hF).mono fun e w3 ⟨he, q3, b3⟩ => by
      have t := (HD2.drewN n).turn q3 b3
      exact ⟨_, he, ⟨t.q.cell 16 (by decide), t.row.cell (i := 1) (by decide)⟩, t⟩
  have HA0 : Hid (∀ n, (W2.drewN n).cell? ⟨p.b, 16, none⟩ = some (.map (some p.m3)) ∧ (W2.drewN n).cell? ⟨mb, 1, none⟩ = some (.int .i64 (m.n 1))) := fun n => ⟨(HD2.drewN n).q.cell 16 (by decide), (HD2.drewN n).row.cell (i := 1) (by decide)⟩
  have HA1 : Hid (∀ n, (W2.drewN n).drew.cell? ⟨p.b, 16, none⟩ = some (.map (some p.m3)) ∧ (W2.drewN n).drew.cell? ⟨mb, 1, none⟩ = some (.int .i64 (m.n 1))) := HA0
  have HR6 : Hid (∀ W, DS w p (refC d m) mb m va vc W → ∃ K : Nat, K = (refC d m).c3.length ∧ K ≤ d.L.length ∧ W.cell? ⟨p.b, 2, none⟩ = some (.slice (some ⟨p.cb, 0, none⟩) d.L.length p.cc) ∧ W.cell? ⟨p.b, 16, none⟩ = some (.map (some p.m3)) ∧ (∀ ty n, (Builtin.len_ #[76] ty #[.map (some p.m3)]).run Try.prog (W.drewN n) = .ok (.int .i64 (K : Nat)) (W.drewN n)) ∧ IntKind.i64.wrap ((d.L.length : Int) - (K : Int)) = ((d.L.length - K : Nat) : Int) ∧
      Hid (∀ n, Calls Try.prog 25 #[.pointer (some ⟨p.b, 0, none⟩), .int .i64 ((d.L.length - K : Nat) : Int)] (W.drewN n) fun e w' => e = .returned (.bool (decide (d.L.length < 2 * (d.L.length - K)))) ∧ w' = W.drewN n) ∧ Hid (∀ n, QIs (W.drewN n) p (refC d m) ∧ Bq p w (W.drewN n))) := fun W hW => by
    have hk : (refC d m).c3.length ≤ d.L.length := hW.q.ok.c3.len
    exact ⟨_, rfl, hk, hW.q.cell 2 (by decide), hW.q.cell 16 (by decide), fun ty n => (hW.drewN n).q.len3 ty, by rw [IntKind.wrap_i64]; omega, fun n => (majorQ_any (hW.drewN n).q (d.L.length - (refC d m).c3.length) (by omega)).mono fun e w' ⟨he, hw⟩ => ⟨he, hw.symm⟩, fun n => ⟨(hW.drewN n).q, (hW.drewN n).bq⟩⟩
  clear q2 b2 HD1 hA h HR HMM hF hN hsn eS hMX hh
  have HSS : Hid (W1.drew.cell? ⟨mb, 9, none⟩ = some (.int .u64 (m.n 9)) ∧ (W1.drew.cell? ⟨p.b, 3, none⟩ = some (.int .u64 (d.seen : Nat)) ∨ W1.drew = W2)) := ⟨HD.out.drew.row.cell (i := 9) (by decide), .inl (HD.out.drew.q.cell 3 (by decide))⟩
  have HSE : Hid (W2.cell? ⟨mb, 9, none⟩ = some (.int .u64 (m.n 9)) ∧ (W2.cell? ⟨p.b, 3, none⟩ = some (.int .u64 (d.seen : Nat)) ∨ W2 = W2)) := ⟨m9, .inr rfl⟩
  have u3 : W1.cell? ⟨p.b, 3, none⟩ = some (.int .u64 (d.seen : Nat)) := HD.out.q.cell 3 (by decide)
  have u9 : W1.cell? ⟨mb, 9, none⟩ = some (.int .u64 (m.n 9)) := HD.out.row.cell (i := 9) (by decide)
  have v3 : W1.frozen? ⟨p.b, 3, none⟩ = false := HD.out.q.fz 3
  obtain ⟨W2', HW2'⟩ : ∃ W, Hid ((W1.setCell ⟨p.b, 3, none⟩ (.int .u64 (MX : Nat))).drew = W) := ⟨_, rfl⟩
  have e22 : W2' = W2 := by rw [← HW2'.out, ← HW2.out]; rfl
  clear HD HS0 HSS HSE c3 f3 x3
  by_cases e0 : d.ph = 0
  · have HSM : Hid (refM d m = refS d m) := if_pos (.inl e0)
    have ez : (d.ph == 0) = true := by simp [e0]
    clear HDX HHO HST HAD HA0 HA1 HR6 HD2 e0
    generalize m.n 4 = A4 at *
    generalize m.n 9 = A9 at *
    go_enter Try.func54, Try.ntmps54
    go_upto_region 1 with fail
    rw [HW1.out, Hmb.out]
    clear HW1 Hmb
    go_region
    all_goals
      rw [HW2'.out, e22]
      clear HW2 HW2' e22 u3 u9 v3 hmx
      go_upto_region 2 with fail
      go_quiet (fail)
      go_wp2_with fail
      go_ret
      rw [HSM.out]
      exact ⟨rfl, HX.out _⟩
  · have ez : (d.ph == 0) = false := by simp [e0]
    by_cases e4 : m.n 4 = (d.ep : Nat)
    · have q4 : ((m.n 4 : Int) != (d.ep : Int)) = false := by simp [e4]
      by_cases e9 : m.n 9 ≤ (d.ep : Nat)
      · have HSM : Hid (refM d m = refS d m) := if_pos (.inr (.inr e9))
        have q9 : decide ((m.n 9 : Int) ≤ (d.ep : Int)) = true := decide_eq_true e9
        have q9' : (m.n 9 : Int) ≤ (d.ep : Int) := e9
        clear HDX HHO HST HAD HA0 HA1 HR6 HD2 e0 e4 e9
        generalize m.n 4 = A4 at *
        generalize m.n 9 = A9 at *
        go_enter Try.func54, Try.ntmps54
        go_upto_region 1 with fail
        rw [HW1.out, Hmb.out]
        clear HW1 Hmb
        go_region
        all_goals
          rw [HW2'.out, e22]
          clear HW2 HW2' e22 u3 u9 v3 hmx
          go_upto_region 2 with fail
          go_quiet (fail)
          go_wp2_with fail
          go_ret
          rw [HSM.out]
          exact ⟨rfl, HX.out _⟩
      · have q9 : decide ((m.n 9 : Int) ≤ (d.ep : Int)) = false := decide_eq_false e9
        have q9' : ¬ (m.n 9 : Int) ≤ (d.ep : Int) := e9
        have HSN : Hid (refM d m = if holdB d then (if d.L.length < 2 * (d.L.length - (refC d m).c3.length) then refC d m else stopM (refC d m)) else stopM (refS d m)) := by
          show refM d m = _
          exact if_neg (by rintro (q | q | q) <;> simp_all)
        by_cases eh : holdB d
        · have HS1 : Hid (refM d m = if d.L.length < 2 * (d.L.length - (refC d m).c3.length) then refC d m else stopM (refC d m)) := HSN.out.trans (if_pos eh)
          rw [decide_eq_true eh] at HHO
          clear HSN HX HDX HD2 e0 e4 e9 eh
          generalize m.n 1 = F at HAD HA0 HA1
          generalize m.n 4 = A4 at *
          generalize m.n 9 = A9 at *
          go_enter Try.func54, Try.ntmps54
          go_upto_region 1 with fail
          rw [HW1.out, Hmb.out]
          clear HW1 Hmb
          go_region
          all_goals
            rw [HW2'.out, e22]
            clear HW2 HW2' e22 u3 u9 v3 hmx
            go_upto_region 2 with fail
            go_quiet (fail)
            go_upto_region 5 with (go_at_call 32; refine (HHO.out _).mono ?_; rintro e w3 ⟨rfl, rfl⟩)
            go_region_held3 (fun W => W.cell? ⟨p.b, 16, none⟩ = some (.map (some p.m3)) ∧ W.cell? ⟨mb, 1, none⟩ = some (.int .i64 F))
              (first | exact HA0.out _ | exact HA1.out _ | exact g1)
              (first | (go_at_call 24; with_reducible refine (HAD.out _).mono ?_; rintro e w4 ⟨bb, rfl, g1, HE1⟩))
            all_goals
              obtain ⟨K, hK, hKl, k2, k16, hlen, hwr, HMJ, HEX⟩ := HR6.out w4 HE1.out
              rw [← hK] at HS1
              clear HR6 HAD HA0 HA1 HHO c4 c5 m4 m9
              by_cases hmj : d.L.length < 2 * (d.L.length - K)
              · have HSM : Hid (refM d m = refC d m) := HS1.out.trans (if_pos hmj)
                rw [decide_eq_true hmj] at HMJ
                clear HS1 hmj hK HST HE1
                generalize ((d.L.length - K : Nat) : Int) = LK at *
                go_upto_region 6 with fail
                go_quiet (exact Calls.quiet_of_same (HMJ.out _))
                go_wp2_with fail
                go_ret
                rw [HSM.out]
                exact ⟨rfl, HEX.out _⟩
              · have HSM : Hid (refM d m = stopM (refC d m)) := HS1.out.trans (if_neg hmj)
                rw [decide_eq_false hmj] at HMJ
                have HSP : Hid (∀ n, Calls Try.prog 15 #[.pointer (some ⟨p.b, 0, none⟩)] (w4.drewN n) fun e w3 => e = .returned (.tuple #[]) ∧ Hid (QIs w3 p (stopM (refC d m)) ∧ Bq p w w3)) := fun n => HST.out _ _ (HEX.out n).1 (HEX.out n).2
                clear HS1 hmj hK HST HE1 HEX
                generalize ((d.L.length - K : Nat) : Int) = LK at *
                go_upto_region 6 with fail
                go_quiet (exact Calls.quiet_of_same (HMJ.out _))
                go_wp2_with (go_at_call 15; refine (HSP.out _).mono ?_; rintro e w5 ⟨rfl, HE⟩)
                go_ret
                rw [HSM.out]
                exact ⟨rfl, HE.out⟩
        · have HSM : Hid (refM d m = stopM (refS d m)) := HSN.out.trans (if_neg eh)
          rw [decide_eq_false eh] at HHO
          have HSP : Hid (∀ n, Calls Try.prog 15 #[.pointer (some ⟨p.b, 0, none⟩)] (W2.drewN n) fun e w3 => e = .returned (.tuple #[]) ∧ Hid (QIs w3 p (stopM (refS d m)) ∧ Bq p w w3)) := fun n => HST.out _ _ (HX.out n).1 (HX.out n).2
          clear HSN HX HDX HD2 e0 e4 e9 eh HAD HA0 HA1 HR6 HST
          generalize m.n 4 = A4 at *
          generalize m.n 9 = A9 at *
          go_enter Try.func54, Try.ntmps54
          go_upto_region 1 with fail
          rw [HW1.out, Hmb.out]
          clear HW1 Hmb
          go_region
          all_goals
            rw [HW2'.out, e22]
            clear HW2 HW2' e22 u3 u9 v3 hmx
            go_upto_region 2 with fail
            go_quiet (fail)
            go_wp2_with (first
              | (go_at_call 32; refine (HHO.out _).mono ?_; rintro e w3 ⟨rfl, rfl⟩)
              | (go_at_call 15; refine (HSP.out _).mono ?_; rintro e w5 ⟨rfl, HE⟩))
            go_ret
            rw [HSM.out]
            exact ⟨rfl, HE.out⟩
    · have HSM : Hid (refM d m = refS d m) := if_pos (.inr (.inl e4))
      have q4 : ((m.n 4 : Int) != (d.ep : Int)) = true := by simp [e4]
      clear HDX HHO HST HAD HA0 HA1 HR6 HD2 e0 e4
      generalize m.n 4 = A4 at *
      generalize m.n 9 = A9 at *
      go_enter Try.func54, Try.ntmps54
      go_upto_region 1 with fail
      rw [HW1.out, Hmb.out]
      clear HW1 Hmb
      go_region
      all_goals
        rw [HW2'.out, e22]
        clear HW2 HW2' e22 u3 u9 v3 hmx
        go_upto_region 2 with fail
        go_quiet (fail)
        go_wp2_with fail
        go_ret
        rw [HSM.out]
        exact ⟨rfl, HX.out _⟩
end Go.Proofs.Ytkcjmjaikobpoaa

/- Package quorum: Hear. -/
namespace Go.Proofs.Ytkcjmjaikobpoaa
open Go.RowKit Go.Maps
set_option maxRecDepth 100000
set_option maxRecDepth 100000

/-- How a function of a package reads. -/
def Rd (v : Value) : Option (DataW Nat × List MemPlace) :=
  match v with
  | .nilFunc => some (.nil, [])
  | .func (.func k) a b => if a.size = 0 ∧ b.size = 0 then some (.held k, []) else none
  | _ => none
theorem Rd_inv {v : Value} {k : Nat} {ps : List MemPlace} (h : Rd v = some (.held k, ps)) : v = .func (.func k) #[] #[] := by
  unfold Rd at h
  split at h
  · simp at h
  · rename_i k' a b
    split at h
    · rename_i h0
      simp only [Option.some.injEq, Prod.mk.injEq, DataW.held.injEq] at h
      rw [h.1, Array.eq_empty_of_size_eq_zero h0.1, Array.eq_empty_of_size_eq_zero h0.2]
    · cases h
  · cases h
theorem Rd_nil {v : Value} {ps : List MemPlace} (h : Rd v = some (.nil, ps)) : v = .nilFunc := by
  unfold Rd at h
  split at h
  · rfl
  · split at h
    · simp at h
    · cases h
  · cases h
theorem wpList_insert_own {H : Type} {P : Program} (w : World) {ops : Array Oper} {rest : List Oper} {o : Oper} {a : Act} {Q : Exit → Act → World → Prop}
    (hg : o.guard = none) (m x v : Operand) (t : TypeId) (hop : o.op = Op.insert t m x v)
    (k e : TypeId) (K : Keyed P k) (ht : P.underlying t = some (.map k e)) (R : Value → Option (DataW H × List MemPlace)) (b n : Nat) (D : DataW H)
    (hm : a.eval m = .map (some b)) (hown : w.ownsMap P k R b n D) (hn : n < maxLen) (key val : Value) (kl : Lit) (hx : a.eval x = key) (hv : a.eval v = val) (hkey : keyOf P k key = some kl)
    (d : DataW H) (ps : List MemPlace) (hval : R val = some (d, ps))
    (hK : ∀ w', w'.ownsMap P k R b (n + 1) (D.put kl d) → w.grownBy w' (some b) → wpList P ops Q rest (a.put o.dst undef) w') :
    wpList P ops Q (o :: rest) a w := by
  refine wpList_plain hg fun K' hK' => ?_
  obtain ⟨w', hrun, r1, r2⟩ := hown.update K ht hn hkey hval
  unfold Oper.wp
  simp [execOp, hop, hm, hx, hv, hrun, Result.andThen]
  exact hK' _ _ (hK w' r1 r2)
/-- What the map of deeds reads as. -/
def dD : DataW Nat := (((((DataW.map []).put (.int .i64 2) (.held 52)).put (.int .i64 5) (.held 53)).put (.int .i64 3) (.held 54)).put (.int .i64 7) (.held 55))
theorem dD_2 : has dD (.int .i64 2) = true ∧ dD.atKey (.int .i64 2) .nil = .held 52 := ⟨rfl, rfl⟩
theorem dD_5 : has dD (.int .i64 5) = true ∧ dD.atKey (.int .i64 5) .nil = .held 53 := ⟨rfl, rfl⟩
theorem dD_3 : has dD (.int .i64 3) = true ∧ dD.atKey (.int .i64 3) .nil = .held 54 := ⟨rfl, rfl⟩
theorem dD_7 : has dD (.int .i64 7) = true ∧ dD.atKey (.int .i64 7) .nil = .held 55 := ⟨rfl, rfl⟩
theorem dD_no (k : Int) (h2 : k ≠ 2) (h5 : k ≠ 5) (h3 : k ≠ 3) (h7 : k ≠ 7) : has dD (.int .i64 k) = false ∧ dD.atKey (.int .i64 k) .nil = .nil := by
  have e2 : (Lit.int .i64 k) ≠ .int .i64 2 := by intro h; injection h with _ h; exact h2 h
  have e5 : (Lit.int .i64 k) ≠ .int .i64 5 := by intro h; injection h with _ h; exact h5 h
  have e3 : (Lit.int .i64 k) ≠ .int .i64 3 := by intro h; injection h with _ h; exact h3 h
  have e7 : (Lit.int .i64 k) ≠ .int .i64 7 := by intro h; injection h with _ h; exact h7 h
  unfold dD
  rw [has_put_other e7, has_put_other e3, has_put_other e5, has_put_other e2, atKey_put_other e7, atKey_put_other e3, atKey_put_other e5, atKey_put_other e2]
  exact ⟨rfl, rfl⟩
set_option maxHeartbeats 2000000 in
theorem deeds_any (w : World) : Calls Try.prog 28 #[] w fun e w' => e = .returned (.map (some w.heap.size)) ∧ w'.ownsMap Try.prog 3 Rd w.heap.size 4 dD ∧ w.Since w.heap.size w' := by
  have hmm := @run_makeMap Try.prog
  have m0 := World.ownsMap_made w Try.prog 3 Rd
  have s0 : w.Since w.heap.size (w.alloc (.map #[] 0)) := (World.Since.refl _ _).alloc (Nat.le_refl _) _
  go_enter Try.func28, Try.ntmps28
  go_upto_region 1 with fail
  refine wp_region_lit ?_
  refine wpList_plain rfl fun _ hK => op_runW (w' := w.alloc (.map #[] 0)) (.map (some w.heap.size)) (by go_simp) (hK _ _ ?_)
  simp only [Act.put, List.setIfInBounds_toArray, List.set_cons_zero, List.set_cons_succ]
  refine wpList_insert_own _ rfl _ _ _ 88 rfl 3 86 intK Try.underlying88 Rd w.heap.size 0 (.map []) rfl m0 (by decide) (.int .i64 2) (.func (.func 52) #[] #[]) (.int .i64 2) rfl rfl (keyOf_int_mk Try.underlying3 (by decide)) (.held 52) [] rfl ?_
  intro w1 hw1 gw1
  simp only [Act.put]
  refine wpList_insert_own _ rfl _ _ _ 88 rfl 3 86 intK Try.underlying88 Rd w.heap.size 1 _ rfl hw1 (by decide) (.int .i64 5) (.func (.func 53) #[] #[]) (.int .i64 5) rfl rfl (keyOf_int_mk Try.underlying3 (by decide)) (.held 53) [] rfl ?_
  intro w2 hw2 gw2
  simp only [Act.put]
  refine wpList_insert_own _ rfl _ _ _ 88 rfl 3 86 intK Try.underlying88 Rd w.heap.size 2 _ rfl hw2 (by decide) (.int .i64 3) (.func (.func 54) #[] #[]) (.int .i64 3) rfl rfl (keyOf_int_mk Try.underlying3 (by decide)) (.held 54) [] rfl ?_
  intro w3 hw3 gw3
  simp only [Act.put]
  refine wpList_insert_own _ rfl _ _ _ 88 rfl 3 86 intK Try.underlying88 Rd w.heap.size 3 _ rfl hw3 (by decide) (.int .i64 7) (.func (.func 55) #[] #[]) (.int .i64 7) rfl rfl (keyOf_int_mk Try.underlying3 (by decide)) (.held 55) [] rfl ?_
  intro w4 hw4 gw4
  simp only [Act.put]
  have s1 := since_grown s0 gw1 (Nat.le_refl _) s0.size
  have s2 := since_grown s1 gw2 (Nat.le_refl _) s1.size
  have s3 := since_grown s2 gw3 (Nat.le_refl _) s2.size
  have s4 := since_grown s3 gw4 (Nat.le_refl _) s3.size
  have HE : Hid (w4.ownsMap Try.prog 3 Rd w.heap.size 4 dD ∧ w.Since w.heap.size w4) := ⟨hw4, s4⟩
  clear s0 s1 s2 s3 s4 m0 hmm hw1 hw2 hw3 hw4 gw1 gw2 gw3 gw4
  go_wp2_with fail
  go_ret
  exact ⟨rfl, HE.out⟩
/-- What the map tells for a kind. -/
def fvM (k : Int) : Value := if k = 2 then .func (.func 52) #[] #[] else if k = 5 then .func (.func 53) #[] #[] else if k = 3 then .func (.func 54) #[] #[] else if k = 7 then .func (.func 55) #[] #[] else .nilFunc
def kbM (k : Int) : Bool := decide (k = 2 ∨ k = 5 ∨ k = 3 ∨ k = 7)
theorem look_deed {W : World} {g : Nat} (hW : W.ownsMap Try.prog 3 Rd g 4 dD) (k : Int) (h0 : -9223372036854775808 ≤ k) (h1 : k ≤ 9223372036854775807) : (Instr.lookup 88 (.map (some g)) (.int .i64 k) true).run Try.prog W = .ok (.tuple #[fvM k, .bool (kbM k)]) W := by
  obtain ⟨v, ps, hrun, hR⟩ := hW.look_ok intK Try.underlying88 (z := .nilFunc) (Try.zeroValue86 W) (zd := .nil) (zp := []) rfl (key := .int .i64 k) (kl := .int .i64 k) (keyOf_int_mk Try.underlying3 (WalkArith.wf_i64 (by omega)))
  by_cases e2 : k = 2
  · subst e2
    rw [dD_2.1] at hrun
    rw [dD_2.2] at hR
    rw [show fvM 2 = .func (.func 52) #[] #[] from rfl, show kbM 2 = true from rfl, ← Rd_inv hR]
    exact hrun
  by_cases e5 : k = 5
  · subst e5
    rw [dD_5.1] at hrun
    rw [dD_5.2] at hR
    rw [show fvM 5 = .func (.func 53) #[] #[] from rfl, show kbM 5 = true from rfl, ← Rd_inv hR]
    exact hrun
  by_cases e3 : k = 3
  · subst e3
    rw [dD_3.1] at hrun
    rw [dD_3.2] at hR
    rw [show fvM 3 = .func (.func 54) #[] #[] from rfl, show kbM 3 = true from rfl, ← Rd_inv hR]
    exact hrun
  by_cases e7 : k = 7
  · subst e7
    rw [dD_7.1] at hrun
    rw [dD_7.2] at hR
    rw [show fvM 7 = .func (.func 55) #[] #[] from rfl, show kbM 7 = true from rfl, ← Rd_inv hR]
    exact hrun
  have e := dD_no k e2 e5 e3 e7
  rw [e.1] at hrun
  rw [e.2] at hR
  have ef : fvM k = .nilFunc := by unfold fvM; rw [if_neg e2, if_neg e5, if_neg e3, if_neg e7]
  have eb : kbM k = false := decide_eq_false (by omega)
  rw [ef, eb, ← Rd_nil hR]
  exact hrun
set_option maxHeartbeats 4000000 in
theorem hear_promise {w : World} {p : Qp} {d : Qd} (h : QIs w p d) (m : Mg) (va : Option Addr) (vc : Nat) (hA : MgA w m va vc) (hN : MgN m) (S : Int) (hk : m.n 0 = 2) (e2 : m.n 2 = d.node) (e3 : m.n 3 = d.shard) (e1 : m.n 1 ∈ d.L) (D : Qd) (ms : List Mg)
    (HC : ∀ W : World, QIs W p d → MgA W m va vc → Calls Try.prog 52 #[.pointer (some ⟨p.b, 0, none⟩), mgV m va vc, .int .i64 S] W fun e w' => ∃ r, e = .returned r ∧ OutM W.heap.size w' r ms ∧ QIs w' p D ∧ Bq p W w') :
    Calls Try.prog 12 #[.pointer (some ⟨p.b, 0, none⟩), mgV m va vc, .int .i64 S] w fun e w' => ∃ r, e = .returned r ∧ OutM w.heap.size w' r ms ∧ QIs w' p D ∧ Bq p w w' := by
  obtain ⟨MM, W1, mb, HMM, HW1, Hmb, HD, HR⟩ := DS.put h hA
  rw [HMM.out]
  have hn0 := hN.i 0 rfl
  have HD0 : Hid (Calls Try.prog 28 #[] W1.drew fun e w3 => ∃ g, e = .returned (.map (some g)) ∧ Hid ((Instr.lookup 88 (.map (some g)) (.int .i64 (m.n 0)) true).run Try.prog w3 = .ok (.tuple #[fvM (m.n 0), .bool (kbM (m.n 0))]) w3) ∧ Hid (DS w p d mb m va vc w3)) :=
    (deeds_any W1.drew).mono fun e w3 ⟨he, hm, hs⟩ => ⟨_, he, look_deed hm _ hn0.1 hn0.2, HD.out.drew.sin hs⟩
  have HSD : Hid (DS w p d mb m va vc W1.drew) := HD.out.drew
  have HK0 : Hid (∀ W, DS w p d mb m va vc W → W.cell? ⟨mb, 0, none⟩ = some (.int .i64 (m.n 0))) := fun W hW => hW.row.cell (i := 0) (by decide)
  have HF : Hid (∀ W, DS w p d mb m va vc W → W.cell? ⟨mb, 1, none⟩ = some (.int .i64 (m.n 1)) ∧ W.cell? ⟨mb, 2, none⟩ = some (.int .i64 (m.n 2)) ∧ W.cell? ⟨mb, 3, none⟩ = some (.int .i64 (m.n 3)) ∧ W.cell? ⟨p.b, 0, none⟩ = some (.int .i64 d.node) ∧ W.cell? ⟨p.b, 1, none⟩ = some (.int .i64 d.shard) ∧ W.cell? ⟨p.b, 2, none⟩ = some (.slice (some ⟨p.cb, 0, none⟩) d.L.length p.cc) ∧
      Hid (∀ n, Calls Try.prog 29 #[.slice (some ⟨p.cb, 0, none⟩) d.L.length p.cc, .int .i64 (m.n 1)] (W.drewN n) fun e w' => e = .returned (.bool (decide (m.n 1 ∈ d.L))) ∧ w' = W.drewN n) ∧ Hid (∀ n, DS w p d mb m va vc (W.drewN n))) := fun W hW =>
    ⟨hW.row.cell (i := 1) (by decide), hW.row.cell (i := 2) (by decide), hW.row.cell (i := 3) (by decide), hW.q.cell 0 (by decide), hW.q.cell 1 (by decide), hW.q.cell 2 (by decide), fun n => (contains_any (hW.drewN n).q (m.n 1)).mono fun e w' ⟨he, hw⟩ => ⟨he, hw.symm⟩, fun n => hW.drewN n⟩
  have HCC : Hid (∀ W, DS w p d mb m va vc W → W.heap[mb]? = some (.cells MM 52 (0, 0)) ∧ Hid (Calls Try.prog 52 #[.pointer (some ⟨p.b, 0, none⟩), .agg MM, .int .i64 S] W fun e w' => ∃ r, e = .returned r ∧ Hid (OutM w.heap.size w' r ms ∧ QIs w' p D ∧ Bq p w w'))) := fun W hW => by
    have hM : (mgL m va vc).toArray = MM := by
      have := HMM.out
      unfold mgV at this
      simpa using this
    refine ⟨by rw [← hM]; exact row_heap hW.row, ?_⟩
    have q := HC W hW.q ⟨hW.val, hA.nil, fun q e h0 => Nat.lt_of_lt_of_le (hA.lt q e h0) hW.bq.size, hA.len, hA.byte⟩
    rw [HMM.out] at q
    exact q.mono fun e w' ⟨r, he, ho, hq, hb⟩ => ⟨r, he, ho.on hW.bq.size (fun _ _ _ => rfl), hq, hW.bq.trans hb⟩
  have HIN : Hid ((Try.prog.info? 52).map (·.size) = some MM.size) := HR.out.2
  rw [hk] at HD0 HK0
  rw [show fvM 2 = .func (.func 52) #[] #[] from rfl, show kbM 2 = true from rfl] at HD0
  rw [decide_eq_true e1, e2, e3] at HF
  have z2 : (d.node != d.node) = false := by simp
  have z3 : (d.shard != d.shard) = false := by simp
  clear hA h HR HMM HD hN hn0 HC hk e1 e2 e3
  go_enter Try.func12, Try.ntmps12
  go_upto_region 1 with fail
  rw [HW1.out, Hmb.out]
  clear HW1 Hmb
  refine wp_region_held_drew (S := fun W => DS w p d mb m va vc W) (by kernel_rfl) HSD.out fun _ => ?_
  refine wpAnyH_take (i := 1) (v := .pointer (some ⟨mb, 0, none⟩)) rfl (by kernel_rfl) (by kernel_rfl) (by kernel_rfl) (fun _ _ _ h => h) (.inl ⟨rfl, fun W hW => by kernel_rfl⟩) HSD.out ?_
  simp only [List.getElem_toArray, List.getElem_cons_zero, List.getElem_cons_succ, Act.put, List.setIfInBounds_toArray, List.set_cons_zero, List.set_cons_succ]
  refine wpAnyH_take (i := 2) (v := .pointer (some ⟨mb, 0, none⟩)) rfl (by kernel_rfl) (by kernel_rfl) (by kernel_rfl) (fun _ _ _ h => h) (.inl ⟨rfl, fun W hW => by kernel_rfl⟩) HSD.out ?_
  simp only [List.getElem_toArray, List.getElem_cons_zero, List.getElem_cons_succ, Act.put, List.setIfInBounds_toArray, List.set_cons_zero, List.set_cons_succ]
  refine wpAnyH_take (i := 3) (v := .int .i64 2) rfl (by kernel_rfl) (by kernel_rfl) (by kernel_rfl) (fun _ _ _ h => h) (.inl ⟨rfl, fun W hW => by have c := HK0.out W hW; go_simp⟩) HSD.out ?_
  simp only [List.getElem_toArray, List.getElem_cons_zero, List.getElem_cons_succ, Act.put, List.setIfInBounds_toArray, List.set_cons_zero, List.set_cons_succ]
  refine wpAnyH_ready (rs := [0]) (by kernel_rfl) (by simp) ?_
  refine AllReadyH.cons rfl (fun K hK => ?_) AllReadyH.nil
  refine step_callW rfl 28 #[] (by kernel_rfl) HD0.out ?_
  rintro e w3 ⟨g, rfl, HLK, HS3⟩
  refine ⟨_, rfl, hK.out _ _ HS3.out fun _ => ?_⟩
  clear hK
  simp only [List.getElem_toArray, List.getElem_cons_zero, Act.put, List.setIfInBounds_toArray, List.set_cons_zero, List.set_cons_succ]
  refine wpAnyH_ready (rs := [4]) (by kernel_rfl) (by simp) ?_
  refine AllReadyH.cons rfl (fun K hK => ?_) AllReadyH.nil
  refine step_storeM rfl (op_run (.tuple #[.func (.func 52) #[] #[], .bool true]) ?_ ?_)
  · have r := HLK.out
    go_simp
  refine hK.out _ _ HS3.out fun _ => ?_
  clear hK
  simp only [List.getElem_toArray, List.getElem_cons_zero, List.getElem_cons_succ, Act.put, List.setIfInBounds_toArray, List.set_cons_zero, List.set_cons_succ]
  refine wpAnyH_take (i := 5) (v := .tuple #[.func (.func 52) #[] #[], .bool true]) rfl (by kernel_rfl) (by kernel_rfl) (by kernel_rfl) (fun _ _ _ h => h) (.inl ⟨rfl, fun W hW => by kernel_rfl⟩) HS3.out ?_
  simp only [List.getElem_toArray, List.getElem_cons_zero, List.getElem_cons_succ, Act.put, List.setIfInBounds_toArray, List.set_cons_zero, List.set_cons_succ]
  refine wpAnyH_take (i := 6) (v := .func (.func 52) #[] #[]) rfl (by kernel_rfl) (by kernel_rfl) (by kernel_rfl) (fun _ _ _ h => h) (.inl ⟨rfl, fun W hW => by kernel_rfl⟩) HS3.out ?_
  simp only [List.getElem_toArray, List.getElem_cons_zero, List.getElem_cons_succ, Act.put, List.setIfInBounds_toArray, List.set_cons_zero, List.set_cons_succ]
  refine wpAnyH_take (i := 7) (v := .bool true) rfl (by kernel_rfl) (by kernel_rfl) (by kernel_rfl) (fun _ _ _ h => h) (.inl ⟨rfl, fun W hW => by kernel_rfl⟩) HS3.out ?_
  simp only [List.getElem_toArray, List.getElem_cons_zero, List.getElem_cons_succ, Act.put, List.setIfInBounds_toArray, List.set_cons_zero, List.set_cons_succ]
  refine wpAnyH_take (i := 8) (v := .func (.func 52) #[] #[]) rfl (by kernel_rfl) (by kernel_rfl) (by kernel_rfl) (fun _ _ _ h => h) (.inl ⟨rfl, fun W hW => by kernel_rfl⟩) HS3.out ?_
  simp only [List.getElem_toArray, List.getElem_cons_zero, List.getElem_cons_succ, Act.put, List.setIfInBounds_toArray, List.set_cons_zero, List.set_cons_succ]
  refine wpAnyH_take (i := 9) (v := .bool true) rfl (by kernel_rfl) (by kernel_rfl) (by kernel_rfl) (fun _ _ _ h => h) (.inl ⟨rfl, fun W hW => by kernel_rfl⟩) HS3.out ?_
  simp only [List.getElem_toArray, List.getElem_cons_zero, List.getElem_cons_succ, Act.put, List.setIfInBounds_toArray, List.set_cons_zero, List.set_cons_succ]
  refine wpAnyH_done (by kernel_rfl) ?_ _
  obtain ⟨n1, n2, n3, p0, p1, p2, HCO, HDN⟩ := HF.out w3 HS3.out
  clear HLK HD0 HSD HK0 HF HS3
  go_upto_region 2 with fail
  go_quiet (exact Calls.quiet_of_same (HCO.out _))
  clear HCO n1 n2 n3 p0 p1 p2 z2 z3
  go_upto_region 4 with fail
  have HHA := hide (fun n => HCC.out _ (HDN.out n))
  clear HCC HDN
  refine wp_region_lit ?_
  refine wpList_plain rfl fun _ hK => op_run (.func (.func 52) #[] #[]) (by kernel_rfl) (hK _ _ ?_)
  simp only [Act.put, List.setIfInBounds_toArray, List.set_cons_zero, List.set_cons_succ]
  refine wpList_plain rfl fun _ hK => op_run (.pointer (some ⟨p.b, 0, none⟩)) (by kernel_rfl) (hK _ _ ?_)
  simp only [Act.put, List.setIfInBounds_toArray, List.set_cons_zero, List.set_cons_succ]
  refine wpList_load_row rfl 52 (.tmp 4) rfl mb rfl _ MM (0, 0) _ (HHA.out _).1 Try.underlying52 rfl HIN.out ?_
  simp only [Act.put, List.setIfInBounds_toArray, List.set_cons_zero, List.set_cons_succ]
  refine wpList_plain rfl fun _ hK => op_run (.int .i64 S) (by kernel_rfl) (hK _ _ ?_)
  simp only [Act.put, List.setIfInBounds_toArray, List.set_cons_zero, List.set_cons_succ]
  refine wpList_plain rfl fun _ hK => op_call 52 #[.pointer (some ⟨p.b, 0, none⟩), .agg MM, .int .i64 S] (by kernel_rfl) (HHA.out _).2.out ?_
  rintro e w5 ⟨r, rfl, HE⟩
  refine ⟨_, rfl, hK _ _ ?_⟩
  simp only [Act.put, List.setIfInBounds_toArray, List.set_cons_zero, List.set_cons_succ]
  clear hK HHA
  go_wp2_with fail
  go_ret
  exact ⟨r, rfl, HE.out⟩
set_option maxHeartbeats 4000000 in
theorem hear_wrote {w : World} {p : Qp} {d : Qd} (h : QIs w p d) (m : Mg) (va : Option Addr) (vc : Nat) (hA : MgA w m va vc) (hN : MgN m) (S : Int) (hk : m.n 0 = 5) (e2 : m.n 2 = d.node) (e3 : m.n 3 = d.shard) (e1 : m.n 1 ∈ d.L) (D : Qd) (ms : List Mg)
    (HC : ∀ W : World, QIs W p d → MgA W m va vc → Calls Try.prog 53 #[.pointer (some ⟨p.b, 0, none⟩), mgV m va vc, .int .i64 S] W fun e w' => ∃ r, e = .returned r ∧ OutM W.heap.size w' r ms ∧ QIs w' p D ∧ Bq p W w') :
    Calls Try.prog 12 #[.pointer (some ⟨p.b, 0, none⟩), mgV m va vc, .int .i64 S] w fun e w' => ∃ r, e = .returned r ∧ OutM w.heap.size w' r ms ∧ QIs w' p D ∧ Bq p w w' := by
  obtain ⟨MM, W1, mb, HMM, HW1, Hmb, HD, HR⟩ := DS.put h hA
  rw [HMM.out]
  have hn0 := hN.i 0 rfl
  have HD0 : Hid (Calls Try.prog 28 #[] W1.drew fun e w3 => ∃ g, e = .returned (.map (some g)) ∧ Hid ((Instr.lookup 88 (.map (some g)) (.int .i64 (m.n 0)) true).run Try.prog w3 = .ok (.tuple #[fvM (m.n 0), .bool (kbM (m.n 0))]) w3) ∧ Hid (DS w p d mb m va vc w3)) :=
    (deeds_any W1.drew).mono fun e w3 ⟨he, hm, hs⟩ => ⟨_, he, look_deed hm _ hn0.1 hn0.2, HD.out.drew.sin hs⟩
  have HSD : Hid (DS w p d mb m va vc W1.drew) := HD.out.drew
  have HK0 : Hid (∀ W, DS w p d mb m va vc W → W.cell? ⟨mb, 0, none⟩ = some (.int .i64 (m.n 0))) := fun W hW => hW.row.cell (i := 0) (by decide)
  have HF : Hid (∀ W, DS w p d mb m va vc W → W.cell? ⟨mb, 1, none⟩ = some (.int .i64 (m.n 1)) ∧ W.cell? ⟨mb, 2, none⟩ = some (.int .i64 (m.n 2)) ∧ W.cell? ⟨mb, 3, none⟩ = some (.int .i64 (m.n 3)) ∧ W.cell? ⟨p.b, 0, none⟩ = some (.int .i64 d.node) ∧ W.cell? ⟨p.b, 1, none⟩ = some (.int .i64 d.shard) ∧ W.cell? ⟨p.b, 2, none⟩ = some (.slice (some ⟨p.cb, 0, none⟩) d.L.length p.cc) ∧
      Hid (∀ n, Calls Try.prog 29 #[.slice (some ⟨p.cb, 0, none⟩) d.L.length p.cc, .int .i64 (m.n 1)] (W.drewN n) fun e w' => e = .returned (.bool (decide (m.n 1 ∈ d.L))) ∧ w' = W.drewN n) ∧ Hid (∀ n, DS w p d mb m va vc (W.drewN n))) := fun W hW =>
    ⟨hW.row.cell (i := 1) (by decide), hW.row.cell (i := 2) (by decide), hW.row.cell (i := 3) (by decide), hW.q.cell 0 (by decide), hW.q.cell 1 (by decide), hW.q.cell 2 (by decide), fun n => (contains_any (hW.drewN n).q (m.n 1)).mono fun e w' ⟨he, hw⟩ => ⟨he, hw.symm⟩, fun n => hW.drewN n⟩
  have HCC : Hid (∀ W, DS w p d mb m va vc W → W.heap[mb]? = some (.cells MM 52 (0, 0)) ∧ Hid (Calls Try.prog 53 #[.pointer (some ⟨p.b, 0, none⟩), .agg MM, .int .i64 S] W fun e w' => ∃ r, e = .returned r ∧ Hid (OutM w.heap.size w' r ms ∧ QIs w' p D ∧ Bq p w w'))) := fun W hW => by
    have hM : (mgL m va vc).toArray = MM := by
      have := HMM.out
      unfold mgV at this
      simpa using this
    refine ⟨by rw [← hM]; exact row_heap hW.row, ?_⟩
    have q := HC W hW.q ⟨hW.val, hA.nil, fun q e h0 => Nat.lt_of_lt_of_le (hA.lt q e h0) hW.bq.size, hA.len, hA.byte⟩
    rw [HMM.out] at q
    exact q.mono fun e w' ⟨r, he, ho, hq, hb⟩ => ⟨r, he, ho.on hW.bq.size (fun _ _ _ => rfl), hq, hW.bq.trans hb⟩
  have HIN : Hid ((Try.prog.info? 52).map (·.size) = some MM.size) := HR.out.2
  rw [hk] at HD0 HK0
  rw [show fvM 5 = .func (.func 53) #[] #[] from rfl, show kbM 5 = true from rfl] at HD0
  rw [decide_eq_true e1, e2, e3] at HF
  have z2 : (d.node != d.node) = false := by simp
  have z3 : (d.shard != d.shard) = false := by simp
  clear hA h HR HMM HD hN hn0 HC hk e1 e2 e3
  go_enter Try.func12, Try.ntmps12
  go_upto_region 1 with fail
  rw [HW1.out, Hmb.out]
  clear HW1 Hmb
  refine wp_region_held_drew (S := fun W => DS w p d mb m va vc W) (by kernel_rfl) HSD.out fun _ => ?_
  refine wpAnyH_take (i := 1) (v := .pointer (some ⟨mb, 0, none⟩)) rfl (by kernel_rfl) (by kernel_rfl) (by kernel_rfl) (fun _ _ _ h => h) (.inl ⟨rfl, fun W hW => by kernel_rfl⟩) HSD.out ?_
  simp only [List.getElem_toArray, List.getElem_cons_zero, List.getElem_cons_succ, Act.put, List.setIfInBounds_toArray, List.set_cons_zero, List.set_cons_succ]
  refine wpAnyH_take (i := 2) (v := .pointer (some ⟨mb, 0, none⟩)) rfl (by kernel_rfl) (by kernel_rfl) (by kernel_rfl) (fun _ _ _ h => h) (.inl ⟨rfl, fun W hW => by kernel_rfl⟩) HSD.out ?_
  simp only [List.getElem_toArray, List.getElem_cons_zero, List.getElem_cons_succ, Act.put, List.setIfInBounds_toArray, List.set_cons_zero, List.set_cons_succ]
  refine wpAnyH_take (i := 3) (v := .int .i64 5) rfl (by kernel_rfl) (by kernel_rfl) (by kernel_rfl) (fun _ _ _ h => h) (.inl ⟨rfl, fun W hW => by have c := HK0.out W hW; go_simp⟩) HSD.out ?_
  simp only [List.getElem_toArray, List.getElem_cons_zero, List.getElem_cons_succ, Act.put, List.setIfInBounds_toArray, List.set_cons_zero, List.set_cons_succ]
  refine wpAnyH_ready (rs := [0]) (by kernel_rfl) (by simp) ?_
  refine AllReadyH.cons rfl (fun K hK => ?_) AllReadyH.nil
  refine step_callW rfl 28 #[] (by kernel_rfl) HD0.out ?_
  rintro e w3 ⟨g, rfl, HLK, HS3⟩
  refine ⟨_, rfl, hK.out _ _ HS3.out fun _ => ?_⟩
  clear hK
  simp only [List.getElem_toArray, List.getElem_cons_zero, Act.put, List.setIfInBounds_toArray, List.set_cons_zero, List.set_cons_succ]
  refine wpAnyH_ready (rs := [4]) (by kernel_rfl) (by simp) ?_
  refine AllReadyH.cons rfl (fun K hK => ?_) AllReadyH.nil
  refine step_storeM rfl (op_run (.tuple #[.func (.func 53) #[] #[], .bool true]) ?_ ?_)
  · have r := HLK.out
    go_simp
  refine hK.out _ _ HS3.out fun _ => ?_
  clear hK
  simp only [List.getElem_toArray, List.getElem_cons_zero, List.getElem_cons_succ, Act.put, List.setIfInBounds_toArray, List.set_cons_zero, List.set_cons_succ]
  refine wpAnyH_take (i := 5) (v := .tuple #[.func (.func 53) #[] #[], .bool true]) rfl (by kernel_rfl) (by kernel_rfl) (by kernel_rfl) (fun _ _ _ h => h) (.inl ⟨rfl, fun W hW => by kernel_rfl⟩) HS3.out ?_
  simp only [List.getElem_toArray, List.getElem_cons_zero, List.getElem_cons_succ, Act.put, List.setIfInBounds_toArray, List.set_cons_zero, List.set_cons_succ]
  refine wpAnyH_take (i := 6) (v := .func (.func 53) #[] #[]) rfl (by kernel_rfl) (by kernel_rfl) (by kernel_rfl) (fun _ _ _ h => h) (.inl ⟨rfl, fun W hW => by kernel_rfl⟩) HS3.out ?_
  simp only [List.getElem_toArray, List.getElem_cons_zero, List.getElem_cons_succ, Act.put, List.setIfInBounds_toArray, List.set_cons_zero, List.set_cons_succ]
  refine wpAnyH_take (i := 7) (v := .bool true) rfl (by kernel_rfl) (by kernel_rfl) (by kernel_rfl) (fun _ _ _ h => h) (.inl ⟨rfl, fun W hW => by kernel_rfl⟩) HS3.out ?_
  simp only [List.getElem_toArray, List.getElem_cons_zero, List.getElem_cons_succ, Act.put, List.setIfInBounds_toArray, List.set_cons_zero, List.set_cons_succ]
  refine wpAnyH_take (i := 8) (v := .func (.func 53) #[] #[]) rfl (by kernel_rfl) (by kernel_rfl) (by kernel_rfl) (fun _ _ _ h => h) (.inl ⟨rfl, fun W hW => by kernel_rfl⟩) HS3.out ?_
  simp only [List.getElem_toArray, List.getElem_cons_zero, List.getElem_cons_succ, Act.put, List.setIfInBounds_toArray, List.set_cons_zero, List.set_cons_succ]
  refine wpAnyH_take (i := 9) (v := .bool true) rfl (by kernel_rfl) (by kernel_rfl) (by kernel_rfl) (fun _ _ _ h => h) (.inl ⟨rfl, fun W hW => by kernel_rfl⟩) HS3.out ?_
  simp only [List.getElem_toArray, List.getElem_cons_zero, List.getElem_cons_succ, Act.put, List.setIfInBounds_toArray, List.set_cons_zero, List.set_cons_succ]
  refine wpAnyH_done (by kernel_rfl) ?_ _
  obtain ⟨n1, n2, n3, p0, p1, p2, HCO, HDN⟩ := HF.out w3 HS3.out
  clear HLK HD0 HSD HK0 HF HS3
  go_upto_region 2 with fail
  go_quiet (exact Calls.quiet_of_same (HCO.out _))
  clear HCO n1 n2 n3 p0 p1 p2 z2 z3
  go_upto_region 4 with fail
  have HHA := hide (fun n => HCC.out _ (HDN.out n))
  clear HCC HDN
  refine wp_region_lit ?_
  refine wpList_plain rfl fun _ hK => op_run (.func (.func 53) #[] #[]) (by kernel_rfl) (hK _ _ ?_)
  simp only [Act.put, List.setIfInBounds_toArray, List.set_cons_zero, List.set_cons_succ]
  refine wpList_plain rfl fun _ hK => op_run (.pointer (some ⟨p.b, 0, none⟩)) (by kernel_rfl) (hK _ _ ?_)
  simp only [Act.put, List.setIfInBounds_toArray, List.set_cons_zero, List.set_cons_succ]
  refine wpList_load_row rfl 52 (.tmp 4) rfl mb rfl _ MM (0, 0) _ (HHA.out _).1 Try.underlying52 rfl HIN.out ?_
  simp only [Act.put, List.setIfInBounds_toArray, List.set_cons_zero, List.set_cons_succ]
  refine wpList_plain rfl fun _ hK => op_run (.int .i64 S) (by kernel_rfl) (hK _ _ ?_)
  simp only [Act.put, List.setIfInBounds_toArray, List.set_cons_zero, List.set_cons_succ]
  refine wpList_plain rfl fun _ hK => op_call 53 #[.pointer (some ⟨p.b, 0, none⟩), .agg MM, .int .i64 S] (by kernel_rfl) (HHA.out _).2.out ?_
  rintro e w5 ⟨r, rfl, HE⟩
  refine ⟨_, rfl, hK _ _ ?_⟩
  simp only [Act.put, List.setIfInBounds_toArray, List.set_cons_zero, List.set_cons_succ]
  clear hK HHA
  go_wp2_with fail
  go_ret
  exact ⟨r, rfl, HE.out⟩
set_option maxHeartbeats 4000000 in
theorem hear_refuse {w : World} {p : Qp} {d : Qd} (h : QIs w p d) (m : Mg) (va : Option Addr) (vc : Nat) (hA : MgA w m va vc) (hN : MgN m) (S : Int) (hk : m.n 0 = 3) (e2 : m.n 2 = d.node) (e3 : m.n 3 = d.shard) (e1 : m.n 1 ∈ d.L) (D : Qd) (ms : List Mg)
    (HC : ∀ W : World, QIs W p d → MgA W m va vc → Calls Try.prog 54 #[.pointer (some ⟨p.b, 0, none⟩), mgV m va vc, .int .i64 S] W fun e w' => ∃ r, e = .returned r ∧ OutM W.heap.size w' r ms ∧ QIs w' p D ∧ Bq p W w') :
    Calls Try.prog 12 #[.pointer (some ⟨p.b, 0, none⟩), mgV m va vc, .int .i64 S] w fun e w' => ∃ r, e = .returned r ∧ OutM w.heap.size w' r ms ∧ QIs w' p D ∧ Bq p w w' := by
  obtain ⟨MM, W1, mb, HMM, HW1, Hmb, HD, HR⟩ := DS.put h hA
  rw [HMM.out]
  have hn0 := hN.i 0 rfl
  have HD0 : Hid (Calls Try.prog 28 #[] W1.drew fun e w3 => ∃ g, e = .returned (.map (some g)) ∧ Hid ((Instr.lookup 88 (.map (some g)) (.int .i64 (m.n 0)) true).run Try.prog w3 = .ok (.tuple #[fvM (m.n 0), .bool (kbM (m.n 0))]) w3) ∧ Hid (DS w p d mb m va vc w3)) :=
    (deeds_any W1.drew).mono fun e w3 ⟨he, hm, hs⟩ => ⟨_, he, look_deed hm _ hn0.1 hn0.2, HD.out.drew.sin hs⟩
  have HSD : Hid (DS w p d mb m va vc W1.drew) := HD.out.drew
  have HK0 : Hid (∀ W, DS w p d mb m va vc W → W.cell? ⟨mb, 0, none⟩ = some (.int .i64 (m.n 0))) := fun W hW => hW.row.cell (i := 0) (by decide)
  have HF : Hid (∀ W, DS w p d mb m va vc W → W.cell? ⟨mb, 1, none⟩ = some (.int .i64 (m.n 1)) ∧ W.cell? ⟨mb, 2, none⟩ = some (.int .i64 (m.n 2)) ∧ W.cell? ⟨mb, 3, none⟩ = some (.int .i64 (m.n 3)) ∧ W.cell? ⟨p.b, 0, none⟩ = some (.int .i64 d.node) ∧ W.cell? ⟨p.b, 1, none⟩ = some (.int .i64 d.shard) ∧ W.cell? ⟨p.b, 2, none⟩ = some (.slice (some ⟨p.cb, 0, none⟩) d.L.length p.cc) ∧
      Hid (∀ n, Calls Try.prog 29 #[.slice (some ⟨p.cb, 0, none⟩) d.L.length p.cc, .int .i64 (m.n 1)] (W.drewN n) fun e w' => e = .returned (.bool (decide (m.n 1 ∈ d.L))) ∧ w' = W.drewN n) ∧ Hid (∀ n, DS w p d mb m va vc (W.drewN n))) := fun W hW =>
    ⟨hW.row.cell (i := 1) (by decide), hW.row.cell (i := 2) (by decide), hW.row.cell (i := 3) (by decide), hW.q.cell 0 (by decide), hW.q.cell 1 (by decide), hW.q.cell 2 (by decide), fun n => (contains_any (hW.drewN n).q (m.n 1)).mono fun e w' ⟨he, hw⟩ => ⟨he, hw.symm⟩, fun n => hW.drewN n⟩
  have HCC : Hid (∀ W, DS w p d mb m va vc W → W.heap[mb]? = some (.cells MM 52 (0, 0)) ∧ Hid (Calls Try.prog 54 #[.pointer (some ⟨p.b, 0, none⟩), .agg MM, .int .i64 S] W fun e w' => ∃ r, e = .returned r ∧ Hid (OutM w.heap.size w' r ms ∧ QIs w' p D ∧ Bq p w w'))) := fun W hW => by
    have hM : (mgL m va vc).toArray = MM := by
      have := HMM.out
      unfold mgV at this
      simpa using this
    refine ⟨by rw [← hM]; exact row_heap hW.row, ?_⟩
    have q := HC W hW.q ⟨hW.val, hA.nil, fun q e h0 => Nat.lt_of_lt_of_le (hA.lt q e h0) hW.bq.size, hA.len, hA.byte⟩
    rw [HMM.out] at q
    exact q.mono fun e w' ⟨r, he, ho, hq, hb⟩ => ⟨r, he, ho.on hW.bq.size (fun _ _ _ => rfl), hq, hW.bq.trans hb⟩
  have HIN : Hid ((Try.prog.info? 52).map (·.size) = some MM.size) := HR.out.2
  rw [hk] at HD0 HK0
  rw [show fvM 3 = .func (.func 54) #[] #[] from rfl, show kbM 3 = true from rfl] at HD0
  rw [decide_eq_true e1, e2, e3] at HF
  have z2 : (d.node != d.node) = false := by simp
  have z3 : (d.shard != d.shard) = false := by simp
  clear hA h HR HMM HD hN hn0 HC hk e1 e2 e3
  go_enter Try.func12, Try.ntmps12
  go_upto_region 1 with fail
  rw [HW1.out, Hmb.out]
  clear HW1 Hmb
  refine wp_region_held_drew (S := fun W => DS w p d mb m va vc W) (by kernel_rfl) HSD.out fun _ => ?_
  refine wpAnyH_take (i := 1) (v := .pointer (some ⟨mb, 0, none⟩)) rfl (by kernel_rfl) (by kernel_rfl) (by kernel_rfl) (fun _ _ _ h => h) (.inl ⟨rfl, fun W hW => by kernel_rfl⟩) HSD.out ?_
  simp only [List.getElem_toArray, List.getElem_cons_zero, List.getElem_cons_succ, Act.put, List.setIfInBounds_toArray, List.set_cons_zero, List.set_cons_succ]
  refine wpAnyH_take (i := 2) (v := .pointer (some ⟨mb, 0, none⟩)) rfl (by kernel_rfl) (by kernel_rfl) (by kernel_rfl) (fun _ _ _ h => h) (.inl ⟨rfl, fun W hW => by kernel_rfl⟩) HSD.out ?_
  simp only [List.getElem_toArray, List.getElem_cons_zero, List.getElem_cons_succ, Act.put, List.setIfInBounds_toArray, List.set_cons_zero, List.set_cons_succ]
  refine wpAnyH_take (i := 3) (v := .int .i64 3) rfl (by kernel_rfl) (by kernel_rfl) (by kernel_rfl) (fun _ _ _ h => h) (.inl ⟨rfl, fun W hW => by have c := HK0.out W hW; go_simp⟩) HSD.out ?_
  simp only [List.getElem_toArray, List.getElem_cons_zero, List.getElem_cons_succ, Act.put, List.setIfInBounds_toArray, List.set_cons_zero, List.set_cons_succ]
  refine wpAnyH_ready (rs := [0]) (by kernel_rfl) (by simp) ?_
  refine AllReadyH.cons rfl (fun K hK => ?_) AllReadyH.nil
  refine step_callW rfl 28 #[] (by kernel_rfl) HD0.out ?_
  rintro e w3 ⟨g, rfl, HLK, HS3⟩
  refine ⟨_, rfl, hK.out _ _ HS3.out fun _ => ?_⟩
  clear hK
  simp only [List.getElem_toArray, List.getElem_cons_zero, Act.put, List.setIfInBounds_toArray, List.set_cons_zero, List.set_cons_succ]
  refine wpAnyH_ready (rs := [4]) (by kernel_rfl) (by simp) ?_
  refine AllReadyH.cons rfl (fun K hK => ?_) AllReadyH.nil
  refine step_storeM rfl (op_run (.tuple #[.func (.func 54) #[] #[], .bool true]) ?_ ?_)
  · have r := HLK.out
    go_simp
  refine hK.out _ _ HS3.out fun _ => ?_
  clear hK
  simp only [List.getElem_toArray, List.getElem_cons_zero, List.getElem_cons_succ, Act.put, List.setIfInBounds_toArray, List.set_cons_zero, List.set_cons_succ]
  refine wpAnyH_take (i := 5) (v := .tuple #[.func (.func 54) #[] #[], .bool true]) rfl (by kernel_rfl) (by kernel_rfl) (by kernel_rfl) (fun _ _ _ h => h) (.inl ⟨rfl, fun W hW => by kernel_rfl⟩) HS3.out ?_
  simp only [List.getElem_toArray, List.getElem_cons_zero, List.getElem_cons_succ, Act.put, List.setIfInBounds_toArray, List.set_cons_zero, List.set_cons_succ]
  refine wpAnyH_take (i := 6) (v := .func (.func 54) #[] #[]) rfl (by kernel_rfl) (by kernel_rfl) (by kernel_rfl) (fun _ _ _ h => h) (.inl ⟨rfl, fun W hW => by kernel_rfl⟩) HS3.out ?_
  simp only [List.getElem_toArray, List.getElem_cons_zero, List.getElem_cons_succ, Act.put, List.setIfInBounds_toArray, List.set_cons_zero, List.set_cons_succ]
  refine wpAnyH_take (i := 7) (v := .bool true) rfl (by kernel_rfl) (by kernel_rfl) (by kernel_rfl) (fun _ _ _ h => h) (.inl ⟨rfl, fun W hW => by kernel_rfl⟩) HS3.out ?_
  simp only [List.getElem_toArray, List.getElem_cons_zero, List.getElem_cons_succ, Act.put, List.setIfInBounds_toArray, List.set_cons_zero, List.set_cons_succ]
  refine wpAnyH_take (i := 8) (v := .func (.func 54) #[] #[]) rfl (by kernel_rfl) (by kernel_rfl) (by kernel_rfl) (fun _ _ _ h => h) (.inl ⟨rfl, fun W hW => by kernel_rfl⟩) HS3.out ?_
  simp only [List.getElem_toArray, List.getElem_cons_zero, List.getElem_cons_succ, Act.put, List.setIfInBounds_toArray, List.set_cons_zero, List.set_cons_succ]
  refine wpAnyH_take (i := 9) (v := .bool true) rfl (by kernel_rfl) (by kernel_rfl) (by kernel_rfl) (fun _ _ _ h => h) (.inl ⟨rfl, fun W hW => by kernel_rfl⟩) HS3.out ?_
  simp only [List.getElem_toArray, List.getElem_cons_zero, List.getElem_cons_succ, Act.put, List.setIfInBounds_toArray, List.set_cons_zero, List.set_cons_succ]
  refine wpAnyH_done (by kernel_rfl) ?_ _
  obtain ⟨n1, n2, n3, p0, p1, p2, HCO, HDN⟩ := HF.out w3 HS3.out
  clear HLK HD0 HSD HK0 HF HS3
  go_upto_region 2 with fail
  go_quiet (exact Calls.quiet_of_same (HCO.out _))
  clear HCO n1 n2 n3 p0 p1 p2 z2 z3
  go_upto_region 4 with fail
  have HHA := hide (fun n => HCC.out _ (HDN.out n))
  clear HCC HDN
  refine wp_region_lit ?_
  refine wpList_plain rfl fun _ hK => op_run (.func (.func 54) #[] #[]) (by kernel_rfl) (hK _ _ ?_)
  simp only [Act.put, List.setIfInBounds_toArray, List.set_cons_zero, List.set_cons_succ]
  refine wpList_plain rfl fun _ hK => op_run (.pointer (some ⟨p.b, 0, none⟩)) (by kernel_rfl) (hK _ _ ?_)
  simp only [Act.put, List.setIfInBounds_toArray, List.set_cons_zero, List.set_cons_succ]
  refine wpList_load_row rfl 52 (.tmp 4) rfl mb rfl _ MM (0, 0) _ (HHA.out _).1 Try.underlying52 rfl HIN.out ?_
  simp only [Act.put, List.setIfInBounds_toArray, List.set_cons_zero, List.set_cons_succ]
  refine wpList_plain rfl fun _ hK => op_run (.int .i64 S) (by kernel_rfl) (hK _ _ ?_)
  simp only [Act.put, List.setIfInBounds_toArray, List.set_cons_zero, List.set_cons_succ]
  refine wpList_plain rfl fun _ hK => op_call 54 #[.pointer (some ⟨p.b, 0, none⟩), .agg MM, .int .i64 S] (by kernel_rfl) (HHA.out _).2.out ?_
  rintro e w5 ⟨r, rfl, HE⟩
  refine ⟨_, rfl, hK _ _ ?_⟩
  simp only [Act.put, List.setIfInBounds_toArray, List.set_cons_zero, List.set_cons_succ]
  clear hK HHA
  go_wp2_with fail
  go_ret
  exact ⟨r, rfl, HE.out⟩
set_option maxHeartbeats 4000000 in
theorem hear_beaten {w : World} {p : Qp} {d : Qd} (h : QIs w p d) (m : Mg) (va : Option Addr) (vc : Nat) (hA : MgA w m va vc) (hN : MgN m) (S : Int) (hk : m.n 0 = 7) (e2 : m.n 2 = d.node) (e3 : m.n 3 = d.shard) (e1 : m.n 1 ∈ d.L) (D : Qd) (ms : List Mg)
    (HC : ∀ W : World, QIs W p d → MgA W m va vc → Calls Try.prog 55 #[.pointer (some ⟨p.b, 0, none⟩), mgV m va vc, .int .i64 S] W fun e w' => ∃ r, e = .returned r ∧ OutM W.heap.size w' r ms ∧ QIs w' p D ∧ Bq p W w') :
    Calls Try.prog 12 #[.pointer (some ⟨p.b, 0, none⟩), mgV m va vc, .int .i64 S] w fun e w' => ∃ r, e = .returned r ∧ OutM w.heap.size w' r ms ∧ QIs w' p D ∧ Bq p w w' := by
  obtain ⟨MM, W1, mb, HMM, HW1, Hmb, HD, HR⟩ := DS.put h hA
  rw [HMM.out]
  have hn0 := hN.i 0 rfl
  have HD0 : Hid (Calls Try.prog 28 #[] W1.drew fun e w3 => ∃ g, e = .returned (.map (some g)) ∧ Hid ((Instr.lookup 88 (.map (some g)) (.int .i64 (m.n 0)) true).run Try.prog w3 = .ok (.tuple #[fvM (m.n 0), .bool (kbM (m.n 0))]) w3) ∧ Hid (DS w p d mb m va vc w3)) :=
    (deeds_any W1.drew).mono fun e w3 ⟨he, hm, hs⟩ => ⟨_, he, look_deed hm _ hn0.1 hn0.2, HD.out.drew.sin hs⟩
  have HSD : Hid (DS w p d mb m va vc W1.drew) := HD.out.drew
  have HK0 : Hid (∀ W, DS w p d mb m va vc W → W.cell? ⟨mb, 0, none⟩ = some (.int .i64 (m.n 0))) := fun W hW => hW.row.cell (i := 0) (by decide)
  have HF : Hid (∀ W, DS w p d mb m va vc W → W.cell? ⟨mb, 1, none⟩ = some (.int .i64 (m.n 1)) ∧ W.cell? ⟨mb, 2, none⟩ = some (.int .i64 (m.n 2)) ∧ W.cell? ⟨mb, 3, none⟩ = some (.int .i64 (m.n 3)) ∧ W.cell? ⟨p.b, 0, none⟩ = some (.int .i64 d.node) ∧ W.cell? ⟨p.b, 1, none⟩ = some (.int .i64 d.shard) ∧ W.cell? ⟨p.b, 2, none⟩ = some (.slice (some ⟨p.cb, 0, none⟩) d.L.length p.cc) ∧
      Hid (∀ n, Calls Try.prog 29 #[.slice (some ⟨p.cb, 0, none⟩) d.L.length p.cc, .int .i64 (m.n 1)] (W.drewN n) fun e w' => e = .returned (.bool (decide (m.n 1 ∈ d.L))) ∧ w' = W.drewN n) ∧ Hid (∀ n, DS w p d mb m va vc (W.drewN n))) := fun W hW =>
    ⟨hW.row.cell (i := 1) (by decide), hW.row.cell (i := 2) (by decide), hW.row.cell (i := 3) (by decide), hW.q.cell 0 (by decide), hW.q.cell 1 (by decide), hW.q.cell 2 (by decide), fun n => (contains_any (hW.drewN n).q (m.n 1)).mono fun e w' ⟨he, hw⟩ => ⟨he, hw.symm⟩, fun n => hW.drewN n⟩
  have HCC : Hid (∀ W, DS w p d mb m va vc W → W.heap[mb]? = some (.cells MM 52 (0, 0)) ∧ Hid (Calls Try.prog 55 #[.pointer (some ⟨p.b, 0, none⟩), .agg MM, .int .i64 S] W fun e w' => ∃ r, e = .returned r ∧ Hid (OutM w.heap.size w' r ms ∧ QIs w' p D ∧ Bq p w w'))) := fun W hW => by
    have hM : (mgL m va vc).toArray = MM := by
      have := HMM.out
      unfold mgV at this
      simpa using this
    refine ⟨by rw [← hM]; exact row_heap hW.row, ?_⟩
    have q := HC W hW.q ⟨hW.val, hA.nil, fun q e h0 => Nat.lt_of_lt_of_le (hA.lt q e h0) hW.bq.size, hA.len, hA.byte⟩
    rw [HMM.out] at q
    exact q.mono fun e w' ⟨r, he, ho, hq, hb⟩ => ⟨r, he, ho.on hW.bq.size (fun _ _ _ => rfl), hq, hW.bq.trans hb⟩
  have HIN : Hid ((Try.prog.info? 52).map (·.size) = some MM.size) := HR.out.2
  rw [hk] at HD0 HK0
  rw [show fvM 7 = .func (.func 55) #[] #[] from rfl, show kbM 7 = true from rfl] at HD0
  rw [decide_eq_true e1, e2, e3] at HF
  have z2 : (d.node != d.node) = false := by simp
  have z3 : (d.shard != d.shard) = false := by simp
  clear hA h HR HMM HD hN hn0 HC hk e1 e2 e3
  go_enter Try.func12, Try.ntmps12
  go_upto_region 1 with fail
  rw [HW1.out, Hmb.out]
  clear HW1 Hmb
  refine wp_region_held_drew (S := fun W => DS w p d mb m va vc W) (by kernel_rfl) HSD.out fun _ => ?_
  refine wpAnyH_take (i := 1) (v := .pointer (some ⟨mb, 0, none⟩)) rfl (by kernel_rfl) (by kernel_rfl) (by kernel_rfl) (fun _ _ _ h => h) (.inl ⟨rfl, fun W hW => by kernel_rfl⟩) HSD.out ?_
  simp only [List.getElem_toArray, List.getElem_cons_zero, List.getElem_cons_succ, Act.put, List.setIfInBounds_toArray, List.set_cons_zero, List.set_cons_succ]
  refine wpAnyH_take (i := 2) (v := .pointer (some ⟨mb, 0, none⟩)) rfl (by kernel_rfl) (by kernel_rfl) (by kernel_rfl) (fun _ _ _ h => h) (.inl ⟨rfl, fun W hW => by kernel_rfl⟩) HSD.out ?_
  simp only [List.getElem_toArray, List.getElem_cons_zero, List.getElem_cons_succ, Act.put, List.setIfInBounds_toArray, List.set_cons_zero, List.set_cons_succ]
  refine wpAnyH_take (i := 3) (v := .int .i64 7) rfl (by kernel_rfl) (by kernel_rfl) (by kernel_rfl) (fun _ _ _ h => h) (.inl ⟨rfl, fun W hW => by have c := HK0.out W hW; go_simp⟩) HSD.out ?_
  simp only [List.getElem_toArray, List.getElem_cons_zero, List.getElem_cons_succ, Act.put, List.setIfInBounds_toArray, List.set_cons_zero, List.set_cons_succ]
  refine wpAnyH_ready (rs := [0]) (by kernel_rfl) (by simp) ?_
  refine AllReadyH.cons rfl (fun K hK => ?_) AllReadyH.nil
  refine step_callW rfl 28 #[] (by kernel_rfl) HD0.out ?_
  rintro e w3 ⟨g, rfl, HLK, HS3⟩
  refine ⟨_, rfl, hK.out _ _ HS3.out fun _ => ?_⟩
  clear hK
  simp only [List.getElem_toArray, List.getElem_cons_zero, Act.put, List.setIfInBounds_toArray, List.set_cons_zero, List.set_cons_succ]
  refine wpAnyH_ready (rs := [4]) (by kernel_rfl) (by simp) ?_
  refine AllReadyH.cons rfl (fun K hK => ?_) AllReadyH.nil
  refine step_storeM rfl (op_run (.tuple #[.func (.func 55) #[] #[], .bool true]) ?_ ?_)
  · have r := HLK.out
    go_simp
  refine hK.out _ _ HS3.out fun _ => ?_
  clear hK
  simp only [List.getElem_toArray, List.getElem_cons_zero, List.getElem_cons_succ, Act.put, List.setIfInBounds_toArray, List.set_cons_zero, List.set_cons_succ]
  refine wpAnyH_take (i := 5) (v := .tuple #[.func (.func 55) #[] #[], .bool true]) rfl (by kernel_rfl) (by kernel_rfl) (by kernel_rfl) (fun _ _ _ h => h) (.inl ⟨rfl, fun W hW => by kernel_rfl⟩) HS3.out ?_
  simp only [List.getElem_toArray, List.getElem_cons_zero, List.getElem_cons_succ, Act.put, List.setIfInBounds_toArray, List.set_cons_zero, List.set_cons_succ]
  refine wpAnyH_take (i := 6) (v := .func (.func 55) #[] #[]) rfl (by kernel_rfl) (by kernel_rfl) (by kernel_rfl) (fun _ _ _ h => h) (.inl ⟨rfl, fun W hW => by kernel_rfl⟩) HS3.out ?_
  simp only [List.getElem_toArray, List.getElem_cons_zero, List.getElem_cons_succ, Act.put, List.setIfInBounds_toArray, List.set_cons_zero, List.set_cons_succ]
  refine wpAnyH_take (i := 7) (v := .bool true) rfl (by kernel_rfl) (by kernel_rfl) (by kernel_rfl) (fun _ _ _ h => h) (.inl ⟨rfl, fun W hW => by kernel_rfl⟩) HS3.out ?_
  simp only [List.getElem_toArray, List.getElem_cons_zero, List.getElem_cons_succ, Act.put, List.setIfInBounds_toArray, List.set_cons_zero, List.set_cons_succ]
  refine wpAnyH_take (i := 8) (v := .func (.func 55) #[] #[]) rfl (by kernel_rfl) (by kernel_rfl) (by kernel_rfl) (fun _ _ _ h => h) (.inl ⟨rfl, fun W hW => by kernel_rfl⟩) HS3.out ?_
  simp only [List.getElem_toArray, List.getElem_cons_zero, List.getElem_cons_succ, Act.put, List.setIfInBounds_toArray, List.set_cons_zero, List.set_cons_succ]
  refine wpAnyH_take (i := 9) (v := .bool true) rfl (by kernel_rfl) (by kernel_rfl) (by kernel_rfl) (fun _ _ _ h => h) (.inl ⟨rfl, fun W hW => by kernel_rfl⟩) HS3.out ?_
  simp only [List.getElem_toArray, List.getElem_cons_zero, List.getElem_cons_succ, Act.put, List.setIfInBounds_toArray, List.set_cons_zero, List.set_cons_succ]
  refine wpAnyH_done (by kernel_rfl) ?_ _
  obtain ⟨n1, n2, n3, p0, p1, p2, HCO, HDN⟩ := HF.out w3 HS3.out
  clear HLK HD0 HSD HK0 HF HS3
  go_upto_region 2 with fail
  go_quiet (exact Calls.quiet_of_same (HCO.out _))
  clear HCO n1 n2 n3 p0 p1 p2 z2 z3
  go_upto_region 4 with fail
  have HHA := hide (fun n => HCC.out _ (HDN.out n))
  clear HCC HDN
  refine wp_region_lit ?_
  refine wpList_plain rfl fun _ hK => op_run (.func (.func 55) #[] #[]) (by kernel_rfl) (hK _ _ ?_)
  simp only [Act.put, List.setIfInBounds_toArray, List.set_cons_zero, List.set_cons_succ]
  refine wpList_plain rfl fun _ hK => op_run (.pointer (some ⟨p.b, 0, none⟩)) (by kernel_rfl) (hK _ _ ?_)
  simp only [Act.put, List.setIfInBounds_toArray, List.set_cons_zero, List.set_cons_succ]
  refine wpList_load_row rfl 52 (.tmp 4) rfl mb rfl _ MM (0, 0) _ (HHA.out _).1 Try.underlying52 rfl HIN.out ?_
  simp only [Act.put, List.setIfInBounds_toArray, List.set_cons_zero, List.set_cons_succ]
  refine wpList_plain rfl fun _ hK => op_run (.int .i64 S) (by kernel_rfl) (hK _ _ ?_)
  simp only [Act.put, List.setIfInBounds_toArray, List.set_cons_zero, List.set_cons_succ]
  refine wpList_plain rfl fun _ hK => op_call 55 #[.pointer (some ⟨p.b, 0, none⟩), .agg MM, .int .i64 S] (by kernel_rfl) (HHA.out _).2.out ?_
  rintro e w5 ⟨r, rfl, HE⟩
  refine ⟨_, rfl, hK _ _ ?_⟩
  simp only [Act.put, List.setIfInBounds_toArray, List.set_cons_zero, List.set_cons_succ]
  clear hK HHA
  go_wp2_with fail
  go_ret
  exact ⟨r, rfl, HE.out⟩
end Go.Proofs.Ytkcjmjaikobpoaa
