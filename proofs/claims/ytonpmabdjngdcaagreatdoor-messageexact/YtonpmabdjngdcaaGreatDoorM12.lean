/- Own texts, joined: RefS, RefP, RefB0, RefB1, RefO2, RefB2, RefO3, RefB3. -/
import Derived.Test.YtonpmabdjngdcaaGreatDoorM9
import Derived.Test.YtonpmabdjngdcaaGreatDoorM11
import Derived.Deep.RegionLaw

/- The document's Seal. -/
namespace Go.Proofs.YtonpmabdjngdcaaGreatDoor
open Go.RowKit
set_option maxRecDepth 100000

set_option maxHeartbeats 1000000 in
theorem seal_any (a : Option Addr) (n c : Nat) (x : Nat → Nat) (w : World) (hb : Byt w a n x) (ha : a = none → n = 0 ∧ c = 0) (hx : ∀ j, x j < 256) (hn : n ≤ 1000000) :
    Calls Tryz.prog 28 #[.slice a n c] w fun e w' => ∃ v, e = .returned v ∧ OwnL w' w.heap.size v (sealG ((List.range n).map x)) ∧ w.Since w.heap.size w' := by
  have h0 : OwnL w w.heap.size (.slice none 0 0) [] := own_nil w _ _
  obtain ⟨v1, w1, hr1, ho1, hg1, _⟩ := app_l h0 a n c x hb ha (by simp; omega) (Nat.le_refl _)
  have hs1 : w.Since w.heap.size w1 := grown_since (World.Since.refl _ _) hg1 (Nat.le_refl _) (own_block h0)
  rw [List.nil_append] at ho1
  have hsl : Crc.sum ((List.range n).map x) < 4294967296 := Crc.sum_lt _ (fun v hv => by obtain ⟨j, _, rfl⟩ := List.mem_map.1 hv; exact hx j)
  have q1 := refsum_any a n c x w1 (by omega) (hb.since hs1) hx
  obtain ⟨L, HL⟩ : ∃ x', Hid ((List.range n).map x = x') := ⟨_, rfl⟩
  have hll : L.length = n := by rw [← HL.out]; simp
  rw [HL.out] at ho1 q1 hsl ⊢
  have H1 := hide hr1
  clear hr1 hg1 h0 hb ha hx
  go_enter Tryz.func28, Tryz.ntmps28
  go_wp2_with (at_builtin; refine wpList_append_eq rfl _ _ 32 rfl _ _ _ (by rfl) (by rfl) (unhide H1) ?_)
  refine q1.mono ?_
  rintro e w2 ⟨rfl, q, e2⟩
  subst e2
  have q2 := refu32 (Crc.sum L) (w1.drewN q) hsl
  have HQ : Hid (Calls Tryz.prog 51 #[.int .u32 (Crc.sum L : Nat)] (w1.drewN q) fun e w' => ∃ v, e = .returned v ∧ ∃ v2 w3, Hid ((Builtin.append_ #[32, 32] 32 #[v1, v]).run Tryz.prog w' = .ok v2 w3) ∧ Hid (OwnL w3 w.heap.size v2 (sealG L) ∧ w.Since w.heap.size w3)) := q2.mono fun e w' ⟨v, he, hs, ho⟩ => by
    have hs' : w1.Since w1.heap.size w' := (drewN_since w1 q).trans hs
    have ho1' := own_since ho1 hs'
    have hsw : w.Since w.heap.size w' := hs1.trans (since_mono hs' hs1.size)
    obtain ⟨v2, w3, hr2, ho2, hg2, _⟩ := app_ll ho1' ho (by rw [fl_len]; omega) hsw.size
    exact ⟨v, he, v2, w3, hr2, ho2, grown_since hsw hg2 hsw.size (own_block ho1')⟩
  clear q1 q2 H1 ho1 hs1
  obtain ⟨aa, cc, hv1⟩ : ∃ aa cc, v1 = v1 ∧ aa = cc := ⟨0, 0, rfl, rfl⟩
  clear hv1 aa cc
  go_wp2_with fail
  refine HQ.out.mono ?_
  rintro e w4 ⟨v, rfl, v2, w3, H2, HE⟩
  clear HQ
  go_wp2_with (at_builtin; refine wpList_append_eq rfl _ _ 32 rfl _ _ _ (by rfl) (by rfl) (unhide H2) ?_)
  go_ret
  exact ⟨_, rfl, HE.out⟩
end Go.Proofs.YtonpmabdjngdcaaGreatDoor

/- The document's pens. -/
namespace Go.Proofs.YtonpmabdjngdcaaGreatDoor
open Go.RowKit
set_option maxRecDepth 100000

structure IsP (w : World) (wb B : Nat) (v : Value) (n : Nat) (x : Nat → Nat) : Prop where
  cell : w.rowIs wb 113 1 (fun _ => v)
  own : Own w B v n x
  ne : v.ownBlock ≠ some wb
  lo : B ≤ w.heap.size
/-- The append of a pen: in a world that has a block more (the bytes to be appended), then the store into the pen's cell. -/
theorem pen_step {w wx : World} {wb B : Nat} {v : Value} {n : Nat} {x : Nat → Nat} (h : IsP w wb B v n x) (hx : w.Since w.heap.size wx) (a : Option Addr) (m c : Nat) (y : Nat → Nat) (hb : Byt wx a m y) (ha : a = none → m = 0 ∧ c = 0) (hmax : n + m ≤ 140737488355328) :
    ∃ v' w', (Builtin.append_ #[32, 32] 32 #[v, .slice a m c]).run Tryz.prog wx = .ok v' w' ∧ IsP (w'.setCell ⟨wb, 0, none⟩ v') wb B v' (n + m) (cat x n y) ∧ Ext wb v v' w (w'.setCell ⟨wb, 0, none⟩ v') ∧ w'.cell? ⟨wb, 0, none⟩ = some v ∧ w'.frozen? ⟨wb, 0, none⟩ = false := by
  have hown : Own wx B v n x := by
    have h0 := h.own
    refine ⟨h0.1, ?_⟩
    rcases h0.2 with h1 | ⟨g, cap, cur, e, hb, hh, r⟩
    · exact Or.inl h1
    · exact Or.inr ⟨g, cap, cur, e, hb, by rw [hx.block g (by
        rcases Nat.lt_or_ge g w.heap.size with h | h
        · exact h
        · rw [Array.getElem?_eq_none h] at hh; cases hh)]; exact hh, r⟩
  obtain ⟨v', w', hr, ho, hg, hl⟩ := app_at wx B v n x hown a m c y hb ha hmax (Nat.le_trans h.lo hx.size)
  have hwb : wb < w.heap.size := h.cell.lt
  have hcell : w'.rowIs wb 113 1 (fun _ => v) := h.cell.of_block ((hg.block wb (Nat.lt_of_lt_of_le hwb hx.size) (fun e => h.ne e.symm)).trans (hx.block wb hwb))
  have hne' : v'.ownBlock ≠ some wb := by
    rcases hl with e | e
    · rw [e]; exact h.ne
    · rw [e]; intro e2
      have := hx.size
      cases e2; omega
  refine ⟨v', w', hr, ⟨(hcell.set 0 v').congr one_cell, ?_, hne', by rw [show (w'.setCell ⟨wb, 0, none⟩ v').heap.size = w'.heap.size by simp [World.setCell]]; exact Nat.le_trans h.lo (Nat.le_trans hx.size hg.size)⟩, ?_, hcell.cell (by decide), hcell.frozen 0⟩
  · refine ⟨ho.1, ?_⟩
    rcases ho.2 with h1 | ⟨g, cap, cur, e, hb, hh, r⟩
    · exact Or.inl h1
    · refine Or.inr ⟨g, cap, cur, e, hb, ?_, r⟩
      rw [Below.heap_setCell _ _ _ _ (by intro e2; apply hne'; rw [e, show g = wb from e2]; rfl)]; exact hh
  · refine ⟨hg.os.trans hx.os, hg.tape.trans hx.tape, hg.output.trans hx.output, ?_, fun k hk h1 h2 => ?_, ?_⟩
    · rw [show (w'.setCell ⟨wb, 0, none⟩ v').heap.size = w'.heap.size by simp [World.setCell]]; exact Nat.le_trans hx.size hg.size
    · rw [Below.heap_setCell _ _ _ _ h1, hg.block k (Nat.lt_of_lt_of_le hk hx.size) h2, hx.block k hk]
    · rcases hl with e | e
      · exact Or.inl e
      · exact Or.inr ⟨_, e, hx.size⟩


def IsPL (w : World) (wb B : Nat) (v : Value) (l : List Nat) : Prop := IsP w wb B v l.length (fun j => l.getD j 0)
theorem isPL_add {w : World} {wb B : Nat} {v : Value} {l r : List Nat} {n : Nat} {y : Nat → Nat} (h : IsP w wb B v (l.length + n) (cat (fun j => l.getD j 0) l.length y)) (hr : r.length = n) (e : ∀ j, j < n → y j = r.getD j 0) : IsPL w wb B v (l ++ r) :=
  ⟨h.cell, ownL_add h.own hr e, h.ne, h.lo⟩
/-- A pen of new memory. -/
def Wp (w0 w : World) (wb : Nat) (l : List Nat) : Prop := w0.heap.size ≤ wb ∧ w0.Since w0.heap.size w ∧ ∃ B v, w0.heap.size ≤ B ∧ IsPL w wb B v l
theorem Wp.on {w0 w w' : World} {wb : Nat} {l : List Nat} (h : Wp w0 w wb l) {v v' : Value} {B : Nat} {l' : List Nat} (hB : w0.heap.size ≤ B) (h1 : IsPL w wb B v l) (h2 : IsPL w' wb B v' l') (he : Ext wb v v' w w') : Wp w0 w' wb l' :=
  ⟨h.1, he.since h.2.1 h.1 h.2.1.size (fun k e => Nat.le_trans hB (own_block h1.own k e)), B, v', hB, h2⟩
theorem Wp.later {w0 w w' : World} {wb : Nat} {l : List Nat} (h : Wp w0 w wb l) (hs : w.Since w.heap.size w') : Wp w0 w' wb l := by
  obtain ⟨B, v, hB, hI⟩ := h.2.2
  exact ⟨h.1, h.2.1.trans (since_mono hs h.2.1.size), B, v, hB, ⟨row_since hI.cell hs, own_since hI.own hs, hI.ne, Nat.le_trans hI.lo hs.size⟩⟩
/-- A pen writes what a function has made. -/
theorem Wp.put {w0 w w1 : World} {wb B : Nat} {l r : List Nat} {v v2 : Value} {B2 : Nat} (h : Wp w0 w wb l) (hB : w0.heap.size ≤ B) (hI : IsPL w wb B v l) (hs : w.Since w.heap.size w1) (ho : OwnL w1 B2 v2 r) (hm : l.length + r.length ≤ 140737488355328) :
    ∃ v' w', (Builtin.append_ #[32, 32] 32 #[v, v2]).run Tryz.prog w1 = .ok v' w' ∧ Wp w0 (w'.setCell ⟨wb, 0, none⟩ v') wb (l ++ r) ∧ w'.cell? ⟨wb, 0, none⟩ = some v ∧ w'.frozen? ⟨wb, 0, none⟩ = false ∧ ∃ a n c, v' = .slice a n c := by
  obtain ⟨a, c, rfl, hb, ha⟩ := own_byt ho
  obtain ⟨v', w', hr, hP, hE, hc, hf⟩ := pen_step hI hs a r.length c (fun j => r.getD j 0) hb ha hm
  obtain ⟨x, y, e⟩ := own_form hP.own
  exact ⟨v', w', hr, h.on hB hI (isPL_add hP rfl (fun _ _ => rfl)) hE, hc, hf, x, _, y, e⟩
set_option maxHeartbeats 2000000 in
theorem pen_number {w0 w : World} {wb : Nat} {l : List Nat} (h : Wp w0 w wb l) (N : Nat) (hN : N < 18446744073709551616) (hm : l.length ≤ 100000000000) : Calls Tryz.prog 54 #[.pointer (some ⟨wb, 0, none⟩), .int .u64 N] w fun e w' => e = .returned (.tuple #[]) ∧ Wp w0 w' wb (l ++ vl 9 N) := by
  obtain ⟨B, v, hB, hI⟩ := h.2.2
  obtain ⟨va, vc, hv⟩ := own_form hI.own
  subst hv
  have q := refvar 9 N w.drew (Nat.lt_of_lt_of_le (show N < 2 ^ 64 from hN) (by decide)) hN (Nat.le_refl _)
  have hlen := vl_len 9 N
  have c0 : w.cell? ⟨wb, 0, none⟩ = some (.slice va l.length vc) := hI.cell.cell (i := 0) (by decide)
  have HQ : Hid (Calls Tryz.prog 111 #[.int .u64 N] w.drew fun e w1 => ∃ x y z, e = .returned (.slice x y z) ∧ w1.cell? ⟨wb, 0, none⟩ = some (.slice va l.length vc) ∧ ∃ a' n' c' w2, Hid ((Builtin.append_ #[32, 32] 32 #[.slice va l.length vc, .slice x y z]).run Tryz.prog w1 = .ok (.slice a' n' c') w2) ∧ w2.cell? ⟨wb, 0, none⟩ = some (.slice va l.length vc) ∧ w2.frozen? ⟨wb, 0, none⟩ = false ∧ Hid (Wp w0 (w2.setCell ⟨wb, 0, none⟩ (.slice a' n' c')) wb (l ++ vl 9 N))) := q.mono fun e w1 ⟨v2, he, hs, ho⟩ => by
    have hs0 : w.Since w.heap.size w.drew := (World.Since.refl _ _).drew
    have hs' : w.Since w.heap.size w1 := hs0.trans hs
    obtain ⟨x, z, hv2⟩ := own_form ho
    obtain ⟨v', w2, hr, hW, hc, hf, a', n', c', hv'⟩ := h.put hB hI hs' ho (by omega)
    subst hv'
    subst hv2
    exact ⟨x, _, z, he, cell_later hs' c0, a', n', c', w2, hr, hc, hf, hW⟩
  have c0d : w.drew.cell? ⟨wb, 0, none⟩ = some (.slice va l.length vc) := c0
  clear q h hI hB
  generalize l.length = ln at *
  go_enter Tryz.func54, Tryz.ntmps54
  go_upto_region 0 with fail
  go_region_law (first
    | (go_simp; go_at_call 111; refine HQ.out.mono ?_; rintro e w1 ⟨x, y, z, rfl, c1, a', n', c', w2, HR, c2, f2, HE⟩)
    | (refine step_append_eq (by rfl) (.tmp 8) (.tmp 10) 32 (by rfl) _ _ _ (by rfl) (by rfl) (unhide HR) ?_))
  all_goals
    go_wp2_with fail
    go_end0
    exact ⟨rfl, HE.out⟩
set_option maxHeartbeats 2000000 in
theorem pen_text {w0 w : World} {wb : Nat} {l : List Nat} (h : Wp w0 w wb l) (a : Option Addr) (m c : Nat) (yy : Nat → Nat) (hb : Byt w a m yy) (ha : a = none → m = 0 ∧ c = 0) (hm : l.length + m ≤ 100000000000) : Calls Tryz.prog 55 #[.pointer (some ⟨wb, 0, none⟩), .slice a m c] w fun e w' => e = .returned (.tuple #[]) ∧ Wp w0 w' wb (l ++ partL ((List.range m).map yy)) := by
  obtain ⟨B, v, hB, hI⟩ := h.2.2
  obtain ⟨va, vc, hv⟩ := own_form hI.own
  subst hv
  have q := reftext a m c yy w.drew (fun j hj => hb j hj) ha (by omega)
  have hlen := vl_len 9 m
  have c0 : w.cell? ⟨wb, 0, none⟩ = some (.slice va l.length vc) := hI.cell.cell (i := 0) (by decide)
  have HQ : Hid (Calls Tryz.prog 112 #[.slice a m c] w.drew fun e w1 => ∃ x y z, e = .returned (.slice x y z) ∧ w1.cell? ⟨wb, 0, none⟩ = some (.slice va l.length vc) ∧ ∃ a' n' c' w2, Hid ((Builtin.append_ #[32, 32] 32 #[.slice va l.length vc, .slice x y z]).run Tryz.prog w1 = .ok (.slice a' n' c') w2) ∧ w2.cell? ⟨wb, 0, none⟩ = some (.slice va l.length vc) ∧ w2.frozen? ⟨wb, 0, none⟩ = false ∧ Hid (Wp w0 (w2.setCell ⟨wb, 0, none⟩ (.slice a' n' c')) wb (l ++ partL ((List.range m).map yy)))) := q.mono fun e w1 ⟨v2, he, hs, ho⟩ => by
    have hs0 : w.Since w.heap.size w.drew := (World.Since.refl _ _).drew
    have hs' : w.Since w.heap.size w1 := hs0.trans hs
    have el : (vl 9 m ++ (List.range m).map yy) = partL ((List.range m).map yy) := by unfold partL; rw [List.length_map, List.length_range]
    rw [el] at ho
    obtain ⟨x, z, hv2⟩ := own_form ho
    have hpl : (partL ((List.range m).map yy)).length ≤ m + 10 := by rw [← el, List.length_append, List.length_map, List.length_range]; omega
    obtain ⟨v', w2, hr, hW, hc, hf, a', n', c', hv'⟩ := h.put hB hI hs' ho (by omega)
    subst hv'
    subst hv2
    exact ⟨x, _, z, he, cell_later hs' c0, a', n', c', w2, hr, hc, hf, hW⟩
  have c0d : w.drew.cell? ⟨wb, 0, none⟩ = some (.slice va l.length vc) := c0
  clear q h hI hB hb ha
  generalize l.length = ln at *
  go_enter Tryz.func55, Tryz.ntmps55
  go_upto_region 0 with fail
  go_region_law (first
    | (go_simp; go_at_call 112; refine HQ.out.mono ?_; rintro e w1 ⟨x, y, z, rfl, c1, a', n', c', w2, HR, c2, f2, HE⟩)
    | (refine step_append_eq (by rfl) (.tmp 8) (.tmp 10) 32 (by rfl) _ _ _ (by rfl) (by rfl) (unhide HR) ?_))
  all_goals
    go_wp2_with fail
    go_end0
    exact ⟨rfl, HE.out⟩
set_option maxHeartbeats 2000000 in
theorem pen_small {w0 w : World} {wb : Nat} {l : List Nat} (h : Wp w0 w wb l) (N : Nat) (hN : N < 256) (hm : l.length ≤ 100000000000) : Calls Tryz.prog 56 #[.pointer (some ⟨wb, 0, none⟩), .int .i64 (N : Nat)] w fun e w' => e = .returned (.tuple #[]) ∧ Wp w0 w' wb (l ++ [N]) := by
  obtain ⟨B, v, hB, hI⟩ := h.2.2
  obtain ⟨va, vc, hv⟩ := own_form hI.own
  subst hv
  have hwr : IntKind.u8.wrap (N : Int) = (N : Int) := by rw [IntKind.wrap_u8]; omega
  have hs : w.Since w.heap.size (w.alloc (.cells #[.int .u8 (N : Nat)] 5)) := (World.Since.refl _ _).alloc (Nat.le_refl _) _
  have c0 : w.cell? ⟨wb, 0, none⟩ = some (.slice va l.length vc) := hI.cell.cell (i := 0) (by decide)
  obtain ⟨v', w2, hr, hW, hc, hf, a', n', c', hv'⟩ := h.put hB hI hs (own_one w N) (by simp; omega)
  subst hv'
  have HR := hide hr
  have HE := hide hW
  clear hr hW h hI hB hs
  generalize l.length = ln at *
  go_enter Tryz.func56, Tryz.ntmps56
  go_wp2_with (at_builtin; refine wpList_append_eq rfl _ _ 32 rfl _ _ _ (by rfl) (by rfl) (unhide HR) ?_)
  go_end0
  exact ⟨rfl, HE.out⟩
end Go.Proofs.YtonpmabdjngdcaaGreatDoor

/- The document's Body. -/
namespace Go.Proofs.YtonpmabdjngdcaaGreatDoor
open Go.RowKit
set_option maxRecDepth 100000

theorem row4 (w : World) (a b c d : Nat) : OwnL (w.alloc (.cells #[.int .u8 (a : Nat), .int .u8 (b : Nat), .int .u8 (c : Nat), .int .u8 (d : Nat)] 5)) w.heap.size (.slice (some ⟨w.heap.size, 0, none⟩) 4 4) [a, b, c, d] := by
  have hr : (w.alloc (.cells #[.int .u8 (a : Nat), .int .u8 (b : Nat), .int .u8 (c : Nat), .int .u8 (d : Nat)] 5)).rowIs w.heap.size 5 4 (fun j => .int .u8 ([a, b, c, d].getD j 0 : Nat)) := World.rowIs_alloc w _ _ _ (fun i hi => by
    have hi' : i < 4 := hi
    match i, hi' with
    | 0, _ => rfl
    | 1, _ => rfl
    | 2, _ => rfl
    | 3, _ => rfl)
  exact own_of_row hr (Nat.le_refl _) (Nat.le_refl _) (by decide) (fun j hj => rfl)
theorem pen_new (w : World) (v : Value) : (w.alloc (.cells #[v] 113)).rowIs w.heap.size 113 1 (fun _ => v) :=
  World.rowIs_alloc w _ _ _ (fun i hi => by
    have hi' : i < 1 := hi
    match i, hi' with
    | 0, _ => rfl)
end Go.Proofs.YtonpmabdjngdcaaGreatDoor

/- The document's Body. -/
namespace Go.Proofs.YtonpmabdjngdcaaGreatDoor
open Go.RowKit
set_option maxRecDepth 100000

set_option maxHeartbeats 8000000 in
theorem body1 (m : Mg) (va : Option Addr) (vc : Nat) (w : World) (hA : MgA w m va vc) (h0 : m.n 0 = 1) (hm : mayM m = true) :
    Calls Tryz.prog 31 #[mgV m va vc] w fun e w' => ∃ v, e = .returned v ∧ OwnL w' w.heap.size v (bodyG m) ∧ w.Since w.heap.size w' := by
  have hfd : fdsK 1 = [.var 4 1099511627776] := by kernel_rfl
  have hmU := (Bool.and_eq_true_iff.1 hm).2
  have hkt : (m.n 0).toNat = 1 := by rw [h0]; rfl
  have hf := fdsK_fits hmU
  rw [hkt, hfd] at hf
  have hh := of_decide_eq_true (Bool.and_eq_true_iff.1 hm).1
  obtain ⟨n1, e1, l1⟩ : ∃ n : Nat, m.n 1 = (n : Int) ∧ n < 9 := ⟨(m.n 1).toNat, by omega, by omega⟩
  obtain ⟨n2, e2, l2⟩ : ∃ n : Nat, m.n 2 = (n : Int) ∧ n < 9 := ⟨(m.n 2).toNat, by omega, by omega⟩
  obtain ⟨n3, e3, l3⟩ : ∃ n : Nat, m.n 3 = (n : Int) ∧ n < 8 := ⟨(m.n 3).toNat, by omega, by omega⟩
  obtain ⟨N4, E4, L4⟩ : ∃ n : Nat, m.n 4 = (n : Int) ∧ n < 18446744073709551616 := by
    obtain ⟨f1, f2, f3, f4⟩ := hf (.var 4 1099511627776) (by simp)
    exact ⟨(m.n 4).toNat, by omega, by omega⟩
  have HBD : Hid (([1, n1, n2, n3] ++ vl 9 N4) = bodyG m) := by
    show _ = putL m hds ++ putL m (fdsK (m.n 0).toNat)
    rw [hkt, hfd]
    show _ = (fl 1 (m.n 0).toNat ++ (fl 1 (m.n 1).toNat ++ (fl 1 (m.n 2).toNat ++ (fl 1 (m.n 3).toNat ++ [])))) ++ putL m [.var 4 1099511627776]
    rw [hkt, e1, e2, e3]
    simp only [putL, Fd.put, Int.toNat_natCast, E4, List.append_nil]
    have f1 : ∀ x, x < 256 → fl 1 x = [x] := fun x hx => by
      show [x / 256 ^ (1 - 1 - 0) % 256] = [x]
      simp; omega
    rw [f1 1 (by decide), f1 n1 (by omega), f1 n2 (by omega), f1 n3 (by omega)]
    simp only [List.cons_append, List.nil_append]
  have y4 := vl_len 9 N4
  obtain ⟨MM, HMM⟩ : ∃ x, Hid ((mgL m va vc).toArray = x) := ⟨_, rfl⟩
  obtain ⟨W1, HW1⟩ : ∃ W, Hid (w.alloc (.cells MM 37) = W) := ⟨_, rfl⟩
  have s1 : w.Since w.heap.size W1 := by rw [← HW1.out]; exact (World.Since.refl _ _).alloc (Nat.le_refl _) _
  have z1 : W1.heap.size = w.heap.size + 1 := by rw [← HW1.out]; simp
  have hM1 : MsgIs W1 w.heap.size m va vc := by rw [← HW1.out, ← HMM.out]; exact hA.is
  have c0 : W1.cell? ⟨w.heap.size, 0, none⟩ = some (.int .i64 1) := by
    have : W1.cell? ⟨w.heap.size, 0, none⟩ = some (.int .i64 (m.n 0)) := hM1.cell (i := 0) (by decide)
    rw [this, h0]
  have c1 : W1.cell? ⟨w.heap.size, 1, none⟩ = some (.int .i64 (n1 : Nat)) := by
    have : W1.cell? ⟨w.heap.size, 1, none⟩ = some (.int .i64 (m.n 1)) := hM1.cell (i := 1) (by decide)
    rw [this, e1]
  have c2 : W1.cell? ⟨w.heap.size, 2, none⟩ = some (.int .i64 (n2 : Nat)) := by
    have : W1.cell? ⟨w.heap.size, 2, none⟩ = some (.int .i64 (m.n 2)) := hM1.cell (i := 2) (by decide)
    rw [this, e2]
  have c3 : W1.cell? ⟨w.heap.size, 3, none⟩ = some (.int .i64 (n3 : Nat)) := by
    have : W1.cell? ⟨w.heap.size, 3, none⟩ = some (.int .i64 (m.n 3)) := hM1.cell (i := 3) (by decide)
    rw [this, e3]
  have hu1 : IntKind.u8.wrap (n1 : Int) = (n1 : Int) := by rw [IntKind.wrap_u8]; omega
  have hu2 : IntKind.u8.wrap (n2 : Int) = (n2 : Int) := by rw [IntKind.wrap_u8]; omega
  have hu3 : IntKind.u8.wrap (n3 : Int) = (n3 : Int) := by rw [IntKind.wrap_u8]; omega
  obtain ⟨W2, HW2⟩ : ∃ W, Hid (W1.alloc (.cells #[.int .u8 1, .int .u8 (n1 : Nat), .int .u8 (n2 : Nat), .int .u8 (n3 : Nat)] 5) = W) := ⟨_, rfl⟩
  have s2 : W1.Since W1.heap.size W2 := by rw [← HW2.out]; exact (World.Since.refl _ _).alloc (Nat.le_refl _) _
  have z2 : W2.heap.size = W1.heap.size + 1 := by rw [← HW2.out]; simp
  have o2 : OwnL W2 W1.heap.size (.slice (some ⟨W1.heap.size, 0, none⟩) 4 4) [1, n1, n2, n3] := by rw [← HW2.out]; exact row4 W1 1 n1 n2 n3
  obtain ⟨W3, HW3⟩ : ∃ W, Hid (W2.alloc (.cells #[.slice (some ⟨W1.heap.size, 0, none⟩) 4 4] 113) = W) := ⟨_, rfl⟩
  have s3 : W2.Since W2.heap.size W3 := by rw [← HW3.out]; exact (World.Since.refl _ _).alloc (Nat.le_refl _) _
  have r3 : W3.rowIs W2.heap.size 113 1 (fun _ => .slice (some ⟨W1.heap.size, 0, none⟩) 4 4) := by rw [← HW3.out]; exact pen_new _ _
  obtain ⟨pb, Hpb⟩ : ∃ x, Hid (W2.heap.size = x) := ⟨_, rfl⟩
  have HP : Hid (Wp W1 W3 pb [1, n1, n2, n3]) := by
    rw [← Hpb.out]
    exact ⟨s2.size, s2.trans (since_mono s3 s2.size), W1.heap.size, _, Nat.le_refl _, r3, own_since o2 s3, by show some W1.heap.size ≠ some W2.heap.size; intro e; have := Option.some.inj e; omega, by have := s3.size; omega⟩
  have HMS : Hid (∀ X l, Wp W1 X pb l → MsgIs X w.heap.size m va vc) := fun X l hX => hM1.since hX.2.1
  have HSW := hide s1
  have c03 : W3.cell? ⟨w.heap.size, 0, none⟩ = some (.int .i64 1) := cell_later (s2.trans (since_mono s3 s2.size)) c0
  have Hz2 : Hid (w.heap.size + 1 + 1 = pb) := by show _ = _; rw [← Hpb.out, z2, z1]
  have HW3' : Hid (W2.alloc (.cells #[.slice (some ⟨w.heap.size + 1, 0, none⟩) 4 4] 113) = W3) := by rw [← z1]; exact HW3.out
  clear hA hm hfd hmU hkt hf hh s1 s2 s3 r3 o2 hM1 e1 e2 e3 HW3 Hpb z2
  unfold mgV
  rw [HMM.out]
  go_enter Tryz.func31, Tryz.ntmps31
  go_upto_region 1 with fail
  rw [HW1.out]
  go_upto_region 2 with fail
  try rw [z1]
  rw [HW2.out]
  try rw [z1]
  rw [HW3'.out]
  try simp only [Hz2.out]
  clear c0 c1 c2 c3 HW1 HW2 HW3' z1
  try rw [Hz2.out]
  have cc : W3.cell? ⟨w.heap.size, 4, none⟩ = some (.int .u64 (N4 : Nat)) := by
    have h : W3.cell? ⟨w.heap.size, 4, none⟩ = some (.int .u64 (m.n 4)) := (HMS.out _ _ HP.out).cell (i := 4) (by decide)
    rw [h, E4]
  have HQ := hide (pen_number HP.out N4 (by omega) (by (first | (simp only [List.length_cons, List.length_nil]; omega) | (simp only [List.length_append, List.length_cons, List.length_nil]; omega))))
  go_wp2_with fail
  refine HQ.out.mono ?_
  rintro e w10 ⟨rfl, hX⟩
  have HP10 : Hid (Wp W1 w10 pb ([1, n1, n2, n3] ++ vl 9 N4)) := hX
  clear HQ hX cc HP c03
  obtain ⟨B, v, hB, hI⟩ := HP10.out.2.2
  obtain ⟨xa, ln, xc, hv⟩ : ∃ xa ln xc, v = .slice xa ln xc := by
    obtain ⟨p, q, h⟩ := own_form hI.own
    exact ⟨p, _, q, h⟩
  have cc : w10.cell? ⟨pb, 0, none⟩ = some v := hI.cell.cell (i := 0) (by decide)
  have hz1 := HSW.out.size
  have HE : Hid (OwnL w10 w.heap.size v (bodyG m) ∧ w.Since w.heap.size w10) := by
    rw [← HBD.out]
    exact ⟨own_lower hI.own (by omega), HSW.out.trans (since_mono HP10.out.2.1 HSW.out.size)⟩
  subst hv
  clear hI hB HBD HMS HP10
  go_wp2_with fail
  go_ret
  exact ⟨_, rfl, HE.out⟩
end Go.Proofs.YtonpmabdjngdcaaGreatDoor

/- The document's Only: kind 2. -/
namespace Go.Proofs.YtonpmabdjngdcaaGreatDoor
open Go.RowKit
set_option maxRecDepth 100000

set_option maxHeartbeats 8000000 in
theorem only2 (m : Mg) (va : Option Addr) (vc : Nat) (w : World) (hA : MgA w m va vc) (h0 : m.n 0 = 2) :
    Calls Tryz.prog 29 #[mgV m va vc] w fun e w' => e = .returned (mgV (onlyG m) va vc) ∧ w.Since w.heap.size w' := by
  have hkt : (m.n 0).toNat = 2 := by rw [h0]; rfl
  obtain ⟨MM, HMM⟩ : ∃ x, Hid ((mgL m va vc).toArray = x) := ⟨_, rfl⟩
  obtain ⟨W1, HW1⟩ : ∃ W, Hid (w.alloc (.cells MM 37) = W) := ⟨_, rfl⟩
  have s1 : w.Since w.heap.size W1 := by rw [← HW1.out]; exact (World.Since.refl _ _).alloc (Nat.le_refl _) _
  have z1 : W1.heap.size = w.heap.size + 1 := by rw [← HW1.out]; simp
  have hM1 : MsgIs W1 w.heap.size m va vc := by rw [← HW1.out, ← HMM.out]; exact hA.is
  obtain ⟨W2, HW2⟩ : ∃ W, Hid (W1.alloc mgZ = W) := ⟨_, rfl⟩
  have s2 : W1.Since W1.heap.size W2 := by rw [← HW2.out]; exact (World.Since.refl _ _).alloc (Nat.le_refl _) _
  have z2 : W2.heap.size = w.heap.size + 1 + 1 := by rw [← HW2.out, ← z1]; simp
  have r2 : W2.rowIs (w.heap.size + 1) 37 22 (mgCell mg0 none 0) := by rw [← z1, ← HW2.out]; exact mgZ_row W1
  have hM2 := hM1.since s2
  have c0 : W2.cell? ⟨w.heap.size, 0, none⟩ = some (.int .i64 (m.n 0)) := hM2.cell (i := 0) (by decide)
  have c1 : W2.cell? ⟨w.heap.size, 1, none⟩ = some (.int .i64 (m.n 1)) := hM2.cell (i := 1) (by decide)
  have c2 : W2.cell? ⟨w.heap.size, 2, none⟩ = some (.int .i64 (m.n 2)) := hM2.cell (i := 2) (by decide)
  have c3 : W2.cell? ⟨w.heap.size, 3, none⟩ = some (.int .i64 (m.n 3)) := hM2.cell (i := 3) (by decide)
  have s2z : W2.Since W2.heap.size (W2.alloc mgZ) := (World.Since.refl _ _).alloc (Nat.le_refl _) _
  obtain ⟨W3, HW3, r3, h3, z3', b3, o3, t3, p3⟩ := mg_stored (mgZ_row W2) (takeL m hds mg0) none 0
  have z3 : W3.heap.size = w.heap.size + 1 + 1 + 1 := by rw [z3', ← z2]; simp
  have s3 : W2.Since W2.heap.size W3 := ⟨o3.trans s2z.os, t3.trans s2z.tape, p3.trans s2z.output, by rw [z3']; exact s2z.size, fun k hk => (b3 k (by omega)).trans (s2z.block k hk)⟩
  have HT3 : Hid ((W2.alloc mgZ).there W2.heap.size 0 (mgL (takeL m hds mg0) none 0).toArray.size) := by
    have e : (mgL (takeL m hds mg0) none 0).toArray.size = 22 := by rw [List.size_toArray, mgL_len]
    show World.there _ _ _ _
    rw [e]
    exact row_there (mgZ_row W2)
  have HRG : Hid (W2.rangeAt w.heap.size 0 [.int .i64 (m.n 0), .int .i64 (m.n 1), .int .i64 (m.n 2), .int .i64 (m.n 3)]) := fun j v hv => by
    match j, hv with
    | 0, hv => rw [← Option.some.inj hv]; exact c0
    | 1, hv => rw [← Option.some.inj hv]; exact c1
    | 2, hv => rw [← Option.some.inj hv]; exact c2
    | 3, hv => rw [← Option.some.inj hv]; exact c3
    | n + 4, hv => simp at hv
  rw [z2] at r3
  obtain ⟨kb, Hkb⟩ : ∃ x, Hid (w.heap.size + 1 + 1 = x) := ⟨_, rfl⟩
  have hkb : kb = w.heap.size + 1 + 1 := Hkb.out.symm
  rw [Hkb.out] at r3
  have hM3 := hM2.since s3
  have hR3 := row_since r2 s3
  have sw3 : w.Since w.heap.size W3 := (s1.trans (since_mono s2 (by omega))).trans (since_mono s3 (by omega))
  have HMC : Hid (∀ X, But kb W3 X → MsgIs X w.heap.size m va vc) := fun X hX => hM3.keep (hX.block _ (by omega) (by omega)) (fun q e h0 => hX.block _ (hM3.lt q e h0) (by have := hA.lt q e h0; omega)) hX.size
  have HRR : Hid (∀ X, But kb W3 X → X.rowIs (w.heap.size + 1) 37 22 (mgCell mg0 none 0)) := fun X hX => hR3.of_block (hX.block _ (by omega) (by omega))
  have HSS : Hid (∀ X, But kb W3 X → w.Since w.heap.size X) := fun X hX => ⟨hX.os.trans sw3.os, hX.tape.trans sw3.tape, hX.output.trans sw3.output, Nat.le_trans sw3.size hX.size, fun q hq => (hX.block q (by omega) (by omega)).trans (sw3.block q hq)⟩
  have ck : W3.cell? ⟨w.heap.size, 0, none⟩ = some (.int .i64 2) := by
    have : W3.cell? ⟨w.heap.size, 0, none⟩ = some (.int .i64 (m.n 0)) := hM3.cell (i := 0) (by decide)
    rw [this, h0]
  have HB : Hid (But kb W3 W3) := But.of_since (World.Since.refl _ _)
  have HRW : Hid (W3.rowIs kb 37 22 (mgCell (takeL m hds mg0) none 0)) := r3
  have HTK : Hid ((((((takeL m hds mg0).setN 4 (m.n 4)).setN 5 (m.n 5)).setN 6 (m.n 6)).setS 10 (m.s 10)) = onlyG m) := by
    have hfd : fdsK 2 = [.var 4 1099511627776, .var 5 1099511627776, .var 6 1099511627776, .text 10 16384] := by kernel_rfl
    show _ = takeL m (fdsK (m.n 0).toNat) (takeL m hds mg0)
    rw [hkt, hfd]
    generalize takeL m hds mg0 = q
    rfl
  clear hA hM1 s1 s2 s3 hM2 hM3 r2 r3 hR3 sw3 h0 hkt h3 z3' b3 o3 t3 p3 s2z
  unfold mgZ at HW2
  unfold mgV
  rw [HMM.out]
  go_enter Tryz.func29, Tryz.ntmps29
  go_upto_region 1 with fail
  rw [HW1.out, HW2.out]
  try rw [z1]
  refine wp_region_lit ?_
  refine wpList_plain rfl fun _ hK => op_run (.pointer (some ⟨w.heap.size, 0, none⟩)) (by kernel_rfl) (hK _ _ ?_)
  refine wpList_load_mid rfl 28 (.tmp 4) rfl w.heap.size 0 rfl _ _ HRG.out Tryz.underlying28 rfl infoHd ?_
  refine wpList_plain rfl fun _ hK => op_run (mgV (takeL m hds mg0) none 0) (by rw [mgV_head]; kernel_rfl) (hK _ _ ?_)
  refine wpList_plain rfl fun _ hK => op_runW (w' := W2.alloc mgZ) (.pointer (some ⟨W2.heap.size, 0, none⟩)) (by kernel_rfl) (hK _ _ ?_)
  refine wpList_store_mid rfl 37 (.tmp 3) (.tmp 6) rfl W2.heap.size 0 (mgL (takeL m hds mg0) none 0).toArray rfl rfl HT3.out (infoMgA _ _ _) (mg_all _ _ _) ?_
  rw [show (mgL (takeL m hds mg0) none 0).toArray.toList = mgL (takeL m hds mg0) none 0 from rfl, HW3.out]
  rw [z2, Hkb.out]
  clear c0 c1 c2 c3 HW1 HW2 HW3 z1 z2 z3 hkb HT3 HRG
  go_upto_region 6 with fail
  clear ck
  have hM := HMC.out _ HB.out
  have c4 : W3.cell? ⟨w.heap.size, 4, none⟩ = some (.int .u64 (m.n 4)) := hM.cell (i := 4) (by decide)
  have d4 := HRW.out.cell (i := 4) (by decide)
  have f4 := HRW.out.frozen 4
  have d4' : ∃ v, W3.cell? ⟨kb, 4, none⟩ = some v := ⟨_, d4⟩
  obtain ⟨v4, g4⟩ := d4'
  clear d4
  obtain ⟨W4, HW4⟩ : ∃ W, Hid ((W3.setCell ⟨kb, 4, none⟩ (.int .u64 (m.n 4))) = W) := ⟨_, rfl⟩
  have HR4 : Hid (W4.rowIs kb 37 22 (mgCell ((takeL m hds mg0).setN 4 (m.n 4)) none 0)) := by rw [← HW4.out]; exact (row_setN HRW.out 4 (m.n 4) (by decide) (by decide) (by decide))
  have HB4 : Hid (But kb W3 W4) := by rw [← HW4.out]; exact (HB.out.setCell 4 _)
  clear hM HRW
  go_upto_region 7 with fail
  rw [HW4.out]
  clear HW4 c4 g4 f4
  go_upto_region 7 with fail
  have hM := HMC.out _ HB4.out
  have c5 : W4.cell? ⟨w.heap.size, 5, none⟩ = some (.int .u64 (m.n 5)) := hM.cell (i := 5) (by decide)
  have d5 := HR4.out.cell (i := 5) (by decide)
  have f5 := HR4.out.frozen 5
  have d5' : ∃ v, W4.cell? ⟨kb, 5, none⟩ = some v := ⟨_, d5⟩
  obtain ⟨v5, g5⟩ := d5'
  clear d5
  have c6 : W4.cell? ⟨w.heap.size, 6, none⟩ = some (.int .u64 (m.n 6)) := hM.cell (i := 6) (by decide)
  have d6 := HR4.out.cell (i := 6) (by decide)
  have f6 := HR4.out.frozen 6
  have d6' : ∃ v, W4.cell? ⟨kb, 6, none⟩ = some v := ⟨_, d6⟩
  obtain ⟨v6, g6⟩ := d6'
  clear d6
  obtain ⟨W5, HW5⟩ : ∃ W, Hid (((W4.setCell ⟨kb, 5, none⟩ (.int .u64 (m.n 5))).setCell ⟨kb, 6, none⟩ (.int .u64 (m.n 6))) = W) := ⟨_, rfl⟩
  have HR5 : Hid (W5.rowIs kb 37 22 (mgCell ((((takeL m hds mg0).setN 4 (m.n 4)).setN 5 (m.n 5)).setN 6 (m.n 6)) none 0)) := by rw [← HW5.out]; exact (row_setN (row_setN HR4.out 5 (m.n 5) (by decide) (by decide) (by decide)) 6 (m.n 6) (by decide) (by decide) (by decide))
  have HB5 : Hid (But kb W3 W5) := by rw [← HW5.out]; exact ((HB4.out.setCell 5 _).setCell 6 _)
  clear hM HR4 HB4
  go_upto_region 8 with fail
  rw [HW5.out]
  clear HW5 c5 g5 f5 c6 g6 f6
  go_upto_region 8 with fail
  have hM := HMC.out _ HB5.out
  have c10 : W5.cell? ⟨w.heap.size, 10, none⟩ = some (.slice va (m.s 10).length vc) := hM.cell (i := 10) (by decide)
  have d10 := HR5.out.cell (i := 10) (by decide)
  have f10 := HR5.out.frozen 10
  have d10' : ∃ v, W5.cell? ⟨kb, 10, none⟩ = some v := ⟨_, d10⟩
  obtain ⟨v10, g10⟩ := d10'
  clear d10
  obtain ⟨W6, HW6⟩ : ∃ W, Hid ((W5.setCell ⟨kb, 10, none⟩ (.slice va (m.s 10).length vc)) = W) := ⟨_, rfl⟩
  have HR6 : Hid (W6.rowIs kb 37 22 (mgCell (((((takeL m hds mg0).setN 4 (m.n 4)).setN 5 (m.n 5)).setN 6 (m.n 6)).setS 10 (m.s 10)) va vc)) := by rw [← HW6.out]; exact (row_setV HR5.out (m.s 10) va vc)
  have HB6 : Hid (But kb W3 W6) := by rw [← HW6.out]; exact (HB5.out.setCell 10 _)
  clear hM HR5 HB5
  go_upto_region 46 with fail
  rw [HW6.out]
  clear HW6 c10 g10 f10
  have HR9 : Hid (W6.rowIs kb 37 22 (mgCell (onlyG m) va vc)) := by rw [← HTK.out]; exact HR6.out
  have HH9 := hide (row_heap HR9.out)
  obtain ⟨Z, HZ, rZ, hZ, zZ, bZ, oZ, tZ, pZ⟩ := mg_stored (HRR.out _ HB6.out) (onlyG m) va vc
  have HT9 : Hid (W6.there (w.heap.size + 1) 0 (mgL (onlyG m) va vc).toArray.size) := by
    have e : (mgL (onlyG m) va vc).toArray.size = 22 := by rw [List.size_toArray, mgL_len]
    show World.there _ _ _ _
    rw [e]
    exact row_there (HRR.out _ HB6.out)
  have HE : Hid (w.Since w.heap.size Z) := by
    have a := HSS.out _ HB6.out
    exact ⟨oZ.trans a.os, tZ.trans a.tape, pZ.trans a.output, by rw [zZ]; exact a.size, fun q hq => (bZ q (by omega)).trans (a.block q hq)⟩
  have HHZ := hide hZ
  refine wp_region_lit ?_
  refine wpList_load_row rfl 37 _ rfl kb rfl _ (mgL (onlyG m) va vc).toArray (0, 0) _ HH9.out Tryz.underlying37 rfl (infoMgA _ _ _) ?_
  refine wpList_store_mid rfl 37 _ _ rfl (w.heap.size + 1) 0 (mgL (onlyG m) va vc).toArray rfl rfl HT9.out (infoMgA _ _ _) (mg_all _ _ _) ?_
  rw [show (mgL (onlyG m) va vc).toArray.toList = mgL (onlyG m) va vc from rfl, HZ.out]
  clear HZ rZ hZ zZ bZ oZ tZ pZ HT9 HH9 HR9
  go_wp2_with fail
  exact bodyPost_ret_by (results_cell_row rfl _ _ (w.heap.size + 1) 37 _ (0, 0) _ rfl HHZ.out Tryz.underlying37 rfl (infoMgA _ _ _)) rfl ⟨rfl, HE.out⟩
end Go.Proofs.YtonpmabdjngdcaaGreatDoor

/- The document's Body. -/
namespace Go.Proofs.YtonpmabdjngdcaaGreatDoor
open Go.RowKit
set_option maxRecDepth 100000

set_option maxHeartbeats 8000000 in
theorem body2 (m : Mg) (va : Option Addr) (vc : Nat) (w : World) (hA : MgA w m va vc) (h0 : m.n 0 = 2) (hm : mayM m = true) :
    Calls Tryz.prog 31 #[mgV m va vc] w fun e w' => ∃ v, e = .returned v ∧ OwnL w' w.heap.size v (bodyG m) ∧ w.Since w.heap.size w' := by
  have hfd : fdsK 2 = [.var 4 1099511627776, .var 5 1099511627776, .var 6 1099511627776, .text 10 16384] := by kernel_rfl
  have hmU := (Bool.and_eq_true_iff.1 hm).2
  have hkt : (m.n 0).toNat = 2 := by rw [h0]; rfl
  have hf := fdsK_fits hmU
  rw [hkt, hfd] at hf
  have hh := of_decide_eq_true (Bool.and_eq_true_iff.1 hm).1
  obtain ⟨n1, e1, l1⟩ : ∃ n : Nat, m.n 1 = (n : Int) ∧ n < 9 := ⟨(m.n 1).toNat, by omega, by omega⟩
  obtain ⟨n2, e2, l2⟩ : ∃ n : Nat, m.n 2 = (n : Int) ∧ n < 9 := ⟨(m.n 2).toNat, by omega, by omega⟩
  obtain ⟨n3, e3, l3⟩ : ∃ n : Nat, m.n 3 = (n : Int) ∧ n < 8 := ⟨(m.n 3).toNat, by omega, by omega⟩
  obtain ⟨N4, E4, L4⟩ : ∃ n : Nat, m.n 4 = (n : Int) ∧ n < 18446744073709551616 := by
    obtain ⟨f1, f2, f3, f4⟩ := hf (.var 4 1099511627776) (by simp)
    exact ⟨(m.n 4).toNat, by omega, by omega⟩
  obtain ⟨N5, E5, L5⟩ : ∃ n : Nat, m.n 5 = (n : Int) ∧ n < 18446744073709551616 := by
    obtain ⟨f1, f2, f3, f4⟩ := hf (.var 5 1099511627776) (by simp)
    exact ⟨(m.n 5).toNat, by omega, by omega⟩
  obtain ⟨N6, E6, L6⟩ : ∃ n : Nat, m.n 6 = (n : Int) ∧ n < 18446744073709551616 := by
    obtain ⟨f1, f2, f3, f4⟩ := hf (.var 6 1099511627776) (by simp)
    exact ⟨(m.n 6).toNat, by omega, by omega⟩
  have L10 : (m.s 10).length ≤ 16384 := (hf (.text 10 16384) (by simp)).1
  have HBD : Hid ((((([2, n1, n2, n3] ++ vl 9 N4) ++ vl 9 N5) ++ vl 9 N6) ++ partL (m.s 10)) = bodyG m) := by
    show _ = putL m hds ++ putL m (fdsK (m.n 0).toNat)
    rw [hkt, hfd]
    show _ = (fl 1 (m.n 0).toNat ++ (fl 1 (m.n 1).toNat ++ (fl 1 (m.n 2).toNat ++ (fl 1 (m.n 3).toNat ++ [])))) ++ putL m [.var 4 1099511627776, .var 5 1099511627776, .var 6 1099511627776, .text 10 16384]
    rw [hkt, e1, e2, e3]
    simp only [putL, Fd.put, Int.toNat_natCast, E4, E5, E6, List.append_nil]
    have f1 : ∀ x, x < 256 → fl 1 x = [x] := fun x hx => by
      show [x / 256 ^ (1 - 1 - 0) % 256] = [x]
      simp; omega
    rw [f1 2 (by decide), f1 n1 (by omega), f1 n2 (by omega), f1 n3 (by omega)]
    simp only [List.append_assoc, List.cons_append, List.nil_append]
  have y4 := vl_len 9 N4
  have y5 := vl_len 9 N5
  have y6 := vl_len 9 N6
  have y10 : (partL (m.s 10)).length ≤ (m.s 10).length + 10 := by
    unfold partL
    rw [List.length_append]
    have := vl_len 9 (m.s 10).length
    omega
  obtain ⟨MM, HMM⟩ : ∃ x, Hid ((mgL m va vc).toArray = x) := ⟨_, rfl⟩
  obtain ⟨W1, HW1⟩ : ∃ W, Hid (w.alloc (.cells MM 37) = W) := ⟨_, rfl⟩
  have s1 : w.Since w.heap.size W1 := by rw [← HW1.out]; exact (World.Since.refl _ _).alloc (Nat.le_refl _) _
  have z1 : W1.heap.size = w.heap.size + 1 := by rw [← HW1.out]; simp
  have hM1 : MsgIs W1 w.heap.size m va vc := by rw [← HW1.out, ← HMM.out]; exact hA.is
  have c0 : W1.cell? ⟨w.heap.size, 0, none⟩ = some (.int .i64 2) := by
    have : W1.cell? ⟨w.heap.size, 0, none⟩ = some (.int .i64 (m.n 0)) := hM1.cell (i := 0) (by decide)
    rw [this, h0]
  have c1 : W1.cell? ⟨w.heap.size, 1, none⟩ = some (.int .i64 (n1 : Nat)) := by
    have : W1.cell? ⟨w.heap.size, 1, none⟩ = some (.int .i64 (m.n 1)) := hM1.cell (i := 1) (by decide)
    rw [this, e1]
  have c2 : W1.cell? ⟨w.heap.size, 2, none⟩ = some (.int .i64 (n2 : Nat)) := by
    have : W1.cell? ⟨w.heap.size, 2, none⟩ = some (.int .i64 (m.n 2)) := hM1.cell (i := 2) (by decide)
    rw [this, e2]
  have c3 : W1.cell? ⟨w.heap.size, 3, none⟩ = some (.int .i64 (n3 : Nat)) := by
    have : W1.cell? ⟨w.heap.size, 3, none⟩ = some (.int .i64 (m.n 3)) := hM1.cell (i := 3) (by decide)
    rw [this, e3]
  have hu1 : IntKind.u8.wrap (n1 : Int) = (n1 : Int) := by rw [IntKind.wrap_u8]; omega
  have hu2 : IntKind.u8.wrap (n2 : Int) = (n2 : Int) := by rw [IntKind.wrap_u8]; omega
  have hu3 : IntKind.u8.wrap (n3 : Int) = (n3 : Int) := by rw [IntKind.wrap_u8]; omega
  obtain ⟨W2, HW2⟩ : ∃ W, Hid (W1.alloc (.cells #[.int .u8 2, .int .u8 (n1 : Nat), .int .u8 (n2 : Nat), .int .u8 (n3 : Nat)] 5) = W) := ⟨_, rfl⟩
  have s2 : W1.Since W1.heap.size W2 := by rw [← HW2.out]; exact (World.Since.refl _ _).alloc (Nat.le_refl _) _
  have z2 : W2.heap.size = W1.heap.size + 1 := by rw [← HW2.out]; simp
  have o2 : OwnL W2 W1.heap.size (.slice (some ⟨W1.heap.size, 0, none⟩) 4 4) [2, n1, n2, n3] := by rw [← HW2.out]; exact row4 W1 2 n1 n2 n3
  obtain ⟨W3, HW3⟩ : ∃ W, Hid (W2.alloc (.cells #[.slice (some ⟨W1.heap.size, 0, none⟩) 4 4] 113) = W) := ⟨_, rfl⟩
  have s3 : W2.Since W2.heap.size W3 := by rw [← HW3.out]; exact (World.Since.refl _ _).alloc (Nat.le_refl _) _
  have r3 : W3.rowIs W2.heap.size 113 1 (fun _ => .slice (some ⟨W1.heap.size, 0, none⟩) 4 4) := by rw [← HW3.out]; exact pen_new _ _
  obtain ⟨pb, Hpb⟩ : ∃ x, Hid (W2.heap.size = x) := ⟨_, rfl⟩
  have HP : Hid (Wp W1 W3 pb [2, n1, n2, n3]) := by
    rw [← Hpb.out]
    exact ⟨s2.size, s2.trans (since_mono s3 s2.size), W1.heap.size, _, Nat.le_refl _, r3, own_since o2 s3, by show some W1.heap.size ≠ some W2.heap.size; intro e; have := Option.some.inj e; omega, by have := s3.size; omega⟩
  have HMS : Hid (∀ X l, Wp W1 X pb l → MsgIs X w.heap.size m va vc) := fun X l hX => hM1.since hX.2.1
  have HSW := hide s1
  have c03 : W3.cell? ⟨w.heap.size, 0, none⟩ = some (.int .i64 2) := cell_later (s2.trans (since_mono s3 s2.size)) c0
  have Hz2 : Hid (w.heap.size + 1 + 1 = pb) := by show _ = _; rw [← Hpb.out, z2, z1]
  have HW3' : Hid (W2.alloc (.cells #[.slice (some ⟨w.heap.size + 1, 0, none⟩) 4 4] 113) = W3) := by rw [← z1]; exact HW3.out
  clear hA hm hfd hmU hkt hf hh s1 s2 s3 r3 o2 hM1 e1 e2 e3 HW3 Hpb z2
  unfold mgV
  rw [HMM.out]
  go_enter Tryz.func31, Tryz.ntmps31
  go_upto_region 1 with fail
  rw [HW1.out]
  go_upto_region 2 with fail
  try rw [z1]
  rw [HW2.out]
  try rw [z1]
  rw [HW3'.out]
  try simp only [Hz2.out]
  clear c0 c1 c2 c3 HW1 HW2 HW3' z1
  try rw [Hz2.out]
  have cc : W3.cell? ⟨w.heap.size, 4, none⟩ = some (.int .u64 (N4 : Nat)) := by
    have h : W3.cell? ⟨w.heap.size, 4, none⟩ = some (.int .u64 (m.n 4)) := (HMS.out _ _ HP.out).cell (i := 4) (by decide)
    rw [h, E4]
  have HQ := hide (pen_number HP.out N4 (by omega) (by (first | (simp only [List.length_cons, List.length_nil]; omega) | (simp only [List.length_append, List.length_cons, List.length_nil]; omega))))
  go_wp2_with fail
  refine HQ.out.mono ?_
  rintro e w10 ⟨rfl, hX⟩
  have HP10 : Hid (Wp W1 w10 pb ([2, n1, n2, n3] ++ vl 9 N4)) := hX
  clear HQ hX cc HP c03
  have cc : w10.cell? ⟨w.heap.size, 5, none⟩ = some (.int .u64 (N5 : Nat)) := by
    have h : w10.cell? ⟨w.heap.size, 5, none⟩ = some (.int .u64 (m.n 5)) := (HMS.out _ _ HP10.out).cell (i := 5) (by decide)
    rw [h, E5]
  have HQ := hide (pen_number HP10.out N5 (by omega) (by (first | (simp only [List.length_cons, List.length_nil]; omega) | (simp only [List.length_append, List.length_cons, List.length_nil]; omega))))
  go_wp2_with fail
  refine HQ.out.mono ?_
  rintro e w11 ⟨rfl, hX⟩
  have HP11 : Hid (Wp W1 w11 pb (([2, n1, n2, n3] ++ vl 9 N4) ++ vl 9 N5)) := hX
  clear HQ hX cc HP10
  have cc : w11.cell? ⟨w.heap.size, 6, none⟩ = some (.int .u64 (N6 : Nat)) := by
    have h : w11.cell? ⟨w.heap.size, 6, none⟩ = some (.int .u64 (m.n 6)) := (HMS.out _ _ HP11.out).cell (i := 6) (by decide)
    rw [h, E6]
  have HQ := hide (pen_number HP11.out N6 (by omega) (by (first | (simp only [List.length_cons, List.length_nil]; omega) | (simp only [List.length_append, List.length_cons, List.length_nil]; omega))))
  go_wp2_with fail
  refine HQ.out.mono ?_
  rintro e w12 ⟨rfl, hX⟩
  have HP12 : Hid (Wp W1 w12 pb ((([2, n1, n2, n3] ++ vl 9 N4) ++ vl 9 N5) ++ vl 9 N6)) := hX
  clear HQ hX cc HP11
  have cc : w12.cell? ⟨w.heap.size, 10, none⟩ = some (.slice va (m.s 10).length vc) := (HMS.out _ _ HP12.out).cell (i := 10) (by decide)
  have q0 := pen_text HP12.out va (m.s 10).length vc (fun j => (m.s 10).getD j 0) (HMS.out _ _ HP12.out).val (HMS.out _ _ HP12.out).nil (by (first | (simp only [List.length_cons, List.length_nil]; omega) | (simp only [List.length_append, List.length_cons, List.length_nil]; omega)))
  rw [range_getD] at q0
  have HQ := hide q0
  clear q0
  go_wp2_with fail
  refine HQ.out.mono ?_
  rintro e w13 ⟨rfl, hX⟩
  have HP13 : Hid (Wp W1 w13 pb (((([2, n1, n2, n3] ++ vl 9 N4) ++ vl 9 N5) ++ vl 9 N6) ++ partL (m.s 10))) := hX
  clear HQ hX cc HP12
  obtain ⟨B, v, hB, hI⟩ := HP13.out.2.2
  obtain ⟨xa, ln, xc, hv⟩ : ∃ xa ln xc, v = .slice xa ln xc := by
    obtain ⟨p, q, h⟩ := own_form hI.own
    exact ⟨p, _, q, h⟩
  have cc : w13.cell? ⟨pb, 0, none⟩ = some v := hI.cell.cell (i := 0) (by decide)
  have hz1 := HSW.out.size
  have HE : Hid (OwnL w13 w.heap.size v (bodyG m) ∧ w.Since w.heap.size w13) := by
    rw [← HBD.out]
    exact ⟨own_lower hI.own (by omega), HSW.out.trans (since_mono HP13.out.2.1 HSW.out.size)⟩
  subst hv
  clear hI hB HBD HMS HP13
  go_wp2_with fail
  go_ret
  exact ⟨_, rfl, HE.out⟩
end Go.Proofs.YtonpmabdjngdcaaGreatDoor

/- The document's Only: kind 3. -/
namespace Go.Proofs.YtonpmabdjngdcaaGreatDoor
open Go.RowKit
set_option maxRecDepth 100000

set_option maxHeartbeats 8000000 in
theorem only3 (m : Mg) (va : Option Addr) (vc : Nat) (w : World) (hA : MgA w m va vc) (h0 : m.n 0 = 3) :
    Calls Tryz.prog 29 #[mgV m va vc] w fun e w' => e = .returned (mgV (onlyG m) none 0) ∧ w.Since w.heap.size w' := by
  have hkt : (m.n 0).toNat = 3 := by rw [h0]; rfl
  obtain ⟨MM, HMM⟩ : ∃ x, Hid ((mgL m va vc).toArray = x) := ⟨_, rfl⟩
  obtain ⟨W1, HW1⟩ : ∃ W, Hid (w.alloc (.cells MM 37) = W) := ⟨_, rfl⟩
  have s1 : w.Since w.heap.size W1 := by rw [← HW1.out]; exact (World.Since.refl _ _).alloc (Nat.le_refl _) _
  have z1 : W1.heap.size = w.heap.size + 1 := by rw [← HW1.out]; simp
  have hM1 : MsgIs W1 w.heap.size m va vc := by rw [← HW1.out, ← HMM.out]; exact hA.is
  obtain ⟨W2, HW2⟩ : ∃ W, Hid (W1.alloc mgZ = W) := ⟨_, rfl⟩
  have s2 : W1.Since W1.heap.size W2 := by rw [← HW2.out]; exact (World.Since.refl _ _).alloc (Nat.le_refl _) _
  have z2 : W2.heap.size = w.heap.size + 1 + 1 := by rw [← HW2.out, ← z1]; simp
  have r2 : W2.rowIs (w.heap.size + 1) 37 22 (mgCell mg0 none 0) := by rw [← z1, ← HW2.out]; exact mgZ_row W1
  have hM2 := hM1.since s2
  have c0 : W2.cell? ⟨w.heap.size, 0, none⟩ = some (.int .i64 (m.n 0)) := hM2.cell (i := 0) (by decide)
  have c1 : W2.cell? ⟨w.heap.size, 1, none⟩ = some (.int .i64 (m.n 1)) := hM2.cell (i := 1) (by decide)
  have c2 : W2.cell? ⟨w.heap.size, 2, none⟩ = some (.int .i64 (m.n 2)) := hM2.cell (i := 2) (by decide)
  have c3 : W2.cell? ⟨w.heap.size, 3, none⟩ = some (.int .i64 (m.n 3)) := hM2.cell (i := 3) (by decide)
  have s2z : W2.Since W2.heap.size (W2.alloc mgZ) := (World.Since.refl _ _).alloc (Nat.le_refl _) _
  obtain ⟨W3, HW3, r3, h3, z3', b3, o3, t3, p3⟩ := mg_stored (mgZ_row W2) (takeL m hds mg0) none 0
  have z3 : W3.heap.size = w.heap.size + 1 + 1 + 1 := by rw [z3', ← z2]; simp
  have s3 : W2.Since W2.heap.size W3 := ⟨o3.trans s2z.os, t3.trans s2z.tape, p3.trans s2z.output, by rw [z3']; exact s2z.size, fun k hk => (b3 k (by omega)).trans (s2z.block k hk)⟩
  have HT3 : Hid ((W2.alloc mgZ).there W2.heap.size 0 (mgL (takeL m hds mg0) none 0).toArray.size) := by
    have e : (mgL (takeL m hds mg0) none 0).toArray.size = 22 := by rw [List.size_toArray, mgL_len]
    show World.there _ _ _ _
    rw [e]
    exact row_there (mgZ_row W2)
  have HRG : Hid (W2.rangeAt w.heap.size 0 [.int .i64 (m.n 0), .int .i64 (m.n 1), .int .i64 (m.n 2), .int .i64 (m.n 3)]) := fun j v hv => by
    match j, hv with
    | 0, hv => rw [← Option.some.inj hv]; exact c0
    | 1, hv => rw [← Option.some.inj hv]; exact c1
    | 2, hv => rw [← Option.some.inj hv]; exact c2
    | 3, hv => rw [← Option.some.inj hv]; exact c3
    | n + 4, hv => simp at hv
  rw [z2] at r3
  obtain ⟨kb, Hkb⟩ : ∃ x, Hid (w.heap.size + 1 + 1 = x) := ⟨_, rfl⟩
  have hkb : kb = w.heap.size + 1 + 1 := Hkb.out.symm
  rw [Hkb.out] at r3
  have hM3 := hM2.since s3
  have hR3 := row_since r2 s3
  have sw3 : w.Since w.heap.size W3 := (s1.trans (since_mono s2 (by omega))).trans (since_mono s3 (by omega))
  have HMC : Hid (∀ X, But kb W3 X → MsgIs X w.heap.size m va vc) := fun X hX => hM3.keep (hX.block _ (by omega) (by omega)) (fun q e h0 => hX.block _ (hM3.lt q e h0) (by have := hA.lt q e h0; omega)) hX.size
  have HRR : Hid (∀ X, But kb W3 X → X.rowIs (w.heap.size + 1) 37 22 (mgCell mg0 none 0)) := fun X hX => hR3.of_block (hX.block _ (by omega) (by omega))
  have HSS : Hid (∀ X, But kb W3 X → w.Since w.heap.size X) := fun X hX => ⟨hX.os.trans sw3.os, hX.tape.trans sw3.tape, hX.output.trans sw3.output, Nat.le_trans sw3.size hX.size, fun q hq => (hX.block q (by omega) (by omega)).trans (sw3.block q hq)⟩
  have ck : W3.cell? ⟨w.heap.size, 0, none⟩ = some (.int .i64 3) := by
    have : W3.cell? ⟨w.heap.size, 0, none⟩ = some (.int .i64 (m.n 0)) := hM3.cell (i := 0) (by decide)
    rw [this, h0]
  have HB : Hid (But kb W3 W3) := But.of_since (World.Since.refl _ _)
  have HRW : Hid (W3.rowIs kb 37 22 (mgCell (takeL m hds mg0) none 0)) := r3
  have HTK : Hid ((((takeL m hds mg0).setN 4 (m.n 4)).setN 9 (m.n 9)) = onlyG m) := by
    have hfd : fdsK 3 = [.var 4 1099511627776, .var 9 1099511627776] := by kernel_rfl
    show _ = takeL m (fdsK (m.n 0).toNat) (takeL m hds mg0)
    rw [hkt, hfd]
    generalize takeL m hds mg0 = q
    rfl
  clear hA hM1 s1 s2 s3 hM2 hM3 r2 r3 hR3 sw3 h0 hkt h3 z3' b3 o3 t3 p3 s2z
  unfold mgZ at HW2
  unfold mgV
  rw [HMM.out]
  go_enter Tryz.func29, Tryz.ntmps29
  go_upto_region 1 with fail
  rw [HW1.out, HW2.out]
  try rw [z1]
  refine wp_region_lit ?_
  refine wpList_plain rfl fun _ hK => op_run (.pointer (some ⟨w.heap.size, 0, none⟩)) (by kernel_rfl) (hK _ _ ?_)
  refine wpList_load_mid rfl 28 (.tmp 4) rfl w.heap.size 0 rfl _ _ HRG.out Tryz.underlying28 rfl infoHd ?_
  refine wpList_plain rfl fun _ hK => op_run (mgV (takeL m hds mg0) none 0) (by rw [mgV_head]; kernel_rfl) (hK _ _ ?_)
  refine wpList_plain rfl fun _ hK => op_runW (w' := W2.alloc mgZ) (.pointer (some ⟨W2.heap.size, 0, none⟩)) (by kernel_rfl) (hK _ _ ?_)
  refine wpList_store_mid rfl 37 (.tmp 3) (.tmp 6) rfl W2.heap.size 0 (mgL (takeL m hds mg0) none 0).toArray rfl rfl HT3.out (infoMgA _ _ _) (mg_all _ _ _) ?_
  rw [show (mgL (takeL m hds mg0) none 0).toArray.toList = mgL (takeL m hds mg0) none 0 from rfl, HW3.out]
  rw [z2, Hkb.out]
  clear c0 c1 c2 c3 HW1 HW2 HW3 z1 z2 z3 hkb HT3 HRG
  go_upto_region 10 with fail
  clear ck
  have hM := HMC.out _ HB.out
  have c4 : W3.cell? ⟨w.heap.size, 4, none⟩ = some (.int .u64 (m.n 4)) := hM.cell (i := 4) (by decide)
  have d4 := HRW.out.cell (i := 4) (by decide)
  have f4 := HRW.out.frozen 4
  have d4' : ∃ v, W3.cell? ⟨kb, 4, none⟩ = some v := ⟨_, d4⟩
  obtain ⟨v4, g4⟩ := d4'
  clear d4
  obtain ⟨W4, HW4⟩ : ∃ W, Hid ((W3.setCell ⟨kb, 4, none⟩ (.int .u64 (m.n 4))) = W) := ⟨_, rfl⟩
  have HR4 : Hid (W4.rowIs kb 37 22 (mgCell ((takeL m hds mg0).setN 4 (m.n 4)) none 0)) := by rw [← HW4.out]; exact (row_setN HRW.out 4 (m.n 4) (by decide) (by decide) (by decide))
  have HB4 : Hid (But kb W3 W4) := by rw [← HW4.out]; exact (HB.out.setCell 4 _)
  clear hM HRW
  go_upto_region 11 with fail
  rw [HW4.out]
  clear HW4 c4 g4 f4
  go_upto_region 11 with fail
  have hM := HMC.out _ HB4.out
  have c9 : W4.cell? ⟨w.heap.size, 9, none⟩ = some (.int .u64 (m.n 9)) := hM.cell (i := 9) (by decide)
  have d9 := HR4.out.cell (i := 9) (by decide)
  have f9 := HR4.out.frozen 9
  have d9' : ∃ v, W4.cell? ⟨kb, 9, none⟩ = some v := ⟨_, d9⟩
  obtain ⟨v9, g9⟩ := d9'
  clear d9
  obtain ⟨W5, HW5⟩ : ∃ W, Hid ((W4.setCell ⟨kb, 9, none⟩ (.int .u64 (m.n 9))) = W) := ⟨_, rfl⟩
  have HR5 : Hid (W5.rowIs kb 37 22 (mgCell (((takeL m hds mg0).setN 4 (m.n 4)).setN 9 (m.n 9)) none 0)) := by rw [← HW5.out]; exact (row_setN HR4.out 9 (m.n 9) (by decide) (by decide) (by decide))
  have HB5 : Hid (But kb W3 W5) := by rw [← HW5.out]; exact (HB4.out.setCell 9 _)
  clear hM HR4 HB4
  go_upto_region 46 with fail
  rw [HW5.out]
  clear HW5 c9 g9 f9
  have HR9 : Hid (W5.rowIs kb 37 22 (mgCell (onlyG m) none 0)) := by rw [← HTK.out]; exact HR5.out
  have HH9 := hide (row_heap HR9.out)
  obtain ⟨Z, HZ, rZ, hZ, zZ, bZ, oZ, tZ, pZ⟩ := mg_stored (HRR.out _ HB5.out) (onlyG m) none 0
  have HT9 : Hid (W5.there (w.heap.size + 1) 0 (mgL (onlyG m) none 0).toArray.size) := by
    have e : (mgL (onlyG m) none 0).toArray.size = 22 := by rw [List.size_toArray, mgL_len]
    show World.there _ _ _ _
    rw [e]
    exact row_there (HRR.out _ HB5.out)
  have HE : Hid (w.Since w.heap.size Z) := by
    have a := HSS.out _ HB5.out
    exact ⟨oZ.trans a.os, tZ.trans a.tape, pZ.trans a.output, by rw [zZ]; exact a.size, fun q hq => (bZ q (by omega)).trans (a.block q hq)⟩
  have HHZ := hide hZ
  refine wp_region_lit ?_
  refine wpList_load_row rfl 37 _ rfl kb rfl _ (mgL (onlyG m) none 0).toArray (0, 0) _ HH9.out Tryz.underlying37 rfl (infoMgA _ _ _) ?_
  refine wpList_store_mid rfl 37 _ _ rfl (w.heap.size + 1) 0 (mgL (onlyG m) none 0).toArray rfl rfl HT9.out (infoMgA _ _ _) (mg_all _ _ _) ?_
  rw [show (mgL (onlyG m) none 0).toArray.toList = mgL (onlyG m) none 0 from rfl, HZ.out]
  clear HZ rZ hZ zZ bZ oZ tZ pZ HT9 HH9 HR9
  go_wp2_with fail
  exact bodyPost_ret_by (results_cell_row rfl _ _ (w.heap.size + 1) 37 _ (0, 0) _ rfl HHZ.out Tryz.underlying37 rfl (infoMgA _ _ _)) rfl ⟨rfl, HE.out⟩
end Go.Proofs.YtonpmabdjngdcaaGreatDoor

/- The document's Body. -/
namespace Go.Proofs.YtonpmabdjngdcaaGreatDoor
open Go.RowKit
set_option maxRecDepth 100000

set_option maxHeartbeats 8000000 in
theorem body3 (m : Mg) (va : Option Addr) (vc : Nat) (w : World) (hA : MgA w m va vc) (h0 : m.n 0 = 3) (hm : mayM m = true) :
    Calls Tryz.prog 31 #[mgV m va vc] w fun e w' => ∃ v, e = .returned v ∧ OwnL w' w.heap.size v (bodyG m) ∧ w.Since w.heap.size w' := by
  have hfd : fdsK 3 = [.var 4 1099511627776, .var 9 1099511627776] := by kernel_rfl
  have hmU := (Bool.and_eq_true_iff.1 hm).2
  have hkt : (m.n 0).toNat = 3 := by rw [h0]; rfl
  have hf := fdsK_fits hmU
  rw [hkt, hfd] at hf
  have hh := of_decide_eq_true (Bool.and_eq_true_iff.1 hm).1
  obtain ⟨n1, e1, l1⟩ : ∃ n : Nat, m.n 1 = (n : Int) ∧ n < 9 := ⟨(m.n 1).toNat, by omega, by omega⟩
  obtain ⟨n2, e2, l2⟩ : ∃ n : Nat, m.n 2 = (n : Int) ∧ n < 9 := ⟨(m.n 2).toNat, by omega, by omega⟩
  obtain ⟨n3, e3, l3⟩ : ∃ n : Nat, m.n 3 = (n : Int) ∧ n < 8 := ⟨(m.n 3).toNat, by omega, by omega⟩
  obtain ⟨N4, E4, L4⟩ : ∃ n : Nat, m.n 4 = (n : Int) ∧ n < 18446744073709551616 := by
    obtain ⟨f1, f2, f3, f4⟩ := hf (.var 4 1099511627776) (by simp)
    exact ⟨(m.n 4).toNat, by omega, by omega⟩
  obtain ⟨N9, E9, L9⟩ : ∃ n : Nat, m.n 9 = (n : Int) ∧ n < 18446744073709551616 := by
    obtain ⟨f1, f2, f3, f4⟩ := hf (.var 9 1099511627776) (by simp)
    exact ⟨(m.n 9).toNat, by omega, by omega⟩
  have HBD : Hid ((([3, n1, n2, n3] ++ vl 9 N4) ++ vl 9 N9) = bodyG m) := by
    show _ = putL m hds ++ putL m (fdsK (m.n 0).toNat)
    rw [hkt, hfd]
    show _ = (fl 1 (m.n 0).toNat ++ (fl 1 (m.n 1).toNat ++ (fl 1 (m.n 2).toNat ++ (fl 1 (m.n 3).toNat ++ [])))) ++ putL m [.var 4 1099511627776, .var 9 1099511627776]
    rw [hkt, e1, e2, e3]
    simp only [putL, Fd.put, Int.toNat_natCast, E4, E9, List.append_nil]
    have f1 : ∀ x, x < 256 → fl 1 x = [x] := fun x hx => by
      show [x / 256 ^ (1 - 1 - 0) % 256] = [x]
      simp; omega
    rw [f1 3 (by decide), f1 n1 (by omega), f1 n2 (by omega), f1 n3 (by omega)]
    simp only [List.cons_append, List.nil_append]
  have y4 := vl_len 9 N4
  have y9 := vl_len 9 N9
  obtain ⟨MM, HMM⟩ : ∃ x, Hid ((mgL m va vc).toArray = x) := ⟨_, rfl⟩
  obtain ⟨W1, HW1⟩ : ∃ W, Hid (w.alloc (.cells MM 37) = W) := ⟨_, rfl⟩
  have s1 : w.Since w.heap.size W1 := by rw [← HW1.out]; exact (World.Since.refl _ _).alloc (Nat.le_refl _) _
  have z1 : W1.heap.size = w.heap.size + 1 := by rw [← HW1.out]; simp
  have hM1 : MsgIs W1 w.heap.size m va vc := by rw [← HW1.out, ← HMM.out]; exact hA.is
  have c0 : W1.cell? ⟨w.heap.size, 0, none⟩ = some (.int .i64 3) := by
    have : W1.cell? ⟨w.heap.size, 0, none⟩ = some (.int .i64 (m.n 0)) := hM1.cell (i := 0) (by decide)
    rw [this, h0]
  have c1 : W1.cell? ⟨w.heap.size, 1, none⟩ = some (.int .i64 (n1 : Nat)) := by
    have : W1.cell? ⟨w.heap.size, 1, none⟩ = some (.int .i64 (m.n 1)) := hM1.cell (i := 1) (by decide)
    rw [this, e1]
  have c2 : W1.cell? ⟨w.heap.size, 2, none⟩ = some (.int .i64 (n2 : Nat)) := by
    have : W1.cell? ⟨w.heap.size, 2, none⟩ = some (.int .i64 (m.n 2)) := hM1.cell (i := 2) (by decide)
    rw [this, e2]
  have c3 : W1.cell? ⟨w.heap.size, 3, none⟩ = some (.int .i64 (n3 : Nat)) := by
    have : W1.cell? ⟨w.heap.size, 3, none⟩ = some (.int .i64 (m.n 3)) := hM1.cell (i := 3) (by decide)
    rw [this, e3]
  have hu1 : IntKind.u8.wrap (n1 : Int) = (n1 : Int) := by rw [IntKind.wrap_u8]; omega
  have hu2 : IntKind.u8.wrap (n2 : Int) = (n2 : Int) := by rw [IntKind.wrap_u8]; omega
  have hu3 : IntKind.u8.wrap (n3 : Int) = (n3 : Int) := by rw [IntKind.wrap_u8]; omega
  obtain ⟨W2, HW2⟩ : ∃ W, Hid (W1.alloc (.cells #[.int .u8 3, .int .u8 (n1 : Nat), .int .u8 (n2 : Nat), .int .u8 (n3 : Nat)] 5) = W) := ⟨_, rfl⟩
  have s2 : W1.Since W1.heap.size W2 := by rw [← HW2.out]; exact (World.Since.refl _ _).alloc (Nat.le_refl _) _
  have z2 : W2.heap.size = W1.heap.size + 1 := by rw [← HW2.out]; simp
  have o2 : OwnL W2 W1.heap.size (.slice (some ⟨W1.heap.size, 0, none⟩) 4 4) [3, n1, n2, n3] := by rw [← HW2.out]; exact row4 W1 3 n1 n2 n3
  obtain ⟨W3, HW3⟩ : ∃ W, Hid (W2.alloc (.cells #[.slice (some ⟨W1.heap.size, 0, none⟩) 4 4] 113) = W) := ⟨_, rfl⟩
  have s3 : W2.Since W2.heap.size W3 := by rw [← HW3.out]; exact (World.Since.refl _ _).alloc (Nat.le_refl _) _
  have r3 : W3.rowIs W2.heap.size 113 1 (fun _ => .slice (some ⟨W1.heap.size, 0, none⟩) 4 4) := by rw [← HW3.out]; exact pen_new _ _
  obtain ⟨pb, Hpb⟩ : ∃ x, Hid (W2.heap.size = x) := ⟨_, rfl⟩
  have HP : Hid (Wp W1 W3 pb [3, n1, n2, n3]) := by
    rw [← Hpb.out]
    exact ⟨s2.size, s2.trans (since_mono s3 s2.size), W1.heap.size, _, Nat.le_refl _, r3, own_since o2 s3, by show some W1.heap.size ≠ some W2.heap.size; intro e; have := Option.some.inj e; omega, by have := s3.size; omega⟩
  have HMS : Hid (∀ X l, Wp W1 X pb l → MsgIs X w.heap.size m va vc) := fun X l hX => hM1.since hX.2.1
  have HSW := hide s1
  have c03 : W3.cell? ⟨w.heap.size, 0, none⟩ = some (.int .i64 3) := cell_later (s2.trans (since_mono s3 s2.size)) c0
  have Hz2 : Hid (w.heap.size + 1 + 1 = pb) := by show _ = _; rw [← Hpb.out, z2, z1]
  have HW3' : Hid (W2.alloc (.cells #[.slice (some ⟨w.heap.size + 1, 0, none⟩) 4 4] 113) = W3) := by rw [← z1]; exact HW3.out
  clear hA hm hfd hmU hkt hf hh s1 s2 s3 r3 o2 hM1 e1 e2 e3 HW3 Hpb z2
  unfold mgV
  rw [HMM.out]
  go_enter Tryz.func31, Tryz.ntmps31
  go_upto_region 1 with fail
  rw [HW1.out]
  go_upto_region 2 with fail
  try rw [z1]
  rw [HW2.out]
  try rw [z1]
  rw [HW3'.out]
  try simp only [Hz2.out]
  clear c0 c1 c2 c3 HW1 HW2 HW3' z1
  try rw [Hz2.out]
  have cc : W3.cell? ⟨w.heap.size, 4, none⟩ = some (.int .u64 (N4 : Nat)) := by
    have h : W3.cell? ⟨w.heap.size, 4, none⟩ = some (.int .u64 (m.n 4)) := (HMS.out _ _ HP.out).cell (i := 4) (by decide)
    rw [h, E4]
  have HQ := hide (pen_number HP.out N4 (by omega) (by (first | (simp only [List.length_cons, List.length_nil]; omega) | (simp only [List.length_append, List.length_cons, List.length_nil]; omega))))
  go_wp2_with fail
  refine HQ.out.mono ?_
  rintro e w10 ⟨rfl, hX⟩
  have HP10 : Hid (Wp W1 w10 pb ([3, n1, n2, n3] ++ vl 9 N4)) := hX
  clear HQ hX cc HP c03
  have cc : w10.cell? ⟨w.heap.size, 9, none⟩ = some (.int .u64 (N9 : Nat)) := by
    have h : w10.cell? ⟨w.heap.size, 9, none⟩ = some (.int .u64 (m.n 9)) := (HMS.out _ _ HP10.out).cell (i := 9) (by decide)
    rw [h, E9]
  have HQ := hide (pen_number HP10.out N9 (by omega) (by (first | (simp only [List.length_cons, List.length_nil]; omega) | (simp only [List.length_append, List.length_cons, List.length_nil]; omega))))
  go_wp2_with fail
  refine HQ.out.mono ?_
  rintro e w11 ⟨rfl, hX⟩
  have HP11 : Hid (Wp W1 w11 pb (([3, n1, n2, n3] ++ vl 9 N4) ++ vl 9 N9)) := hX
  clear HQ hX cc HP10
  obtain ⟨B, v, hB, hI⟩ := HP11.out.2.2
  obtain ⟨xa, ln, xc, hv⟩ : ∃ xa ln xc, v = .slice xa ln xc := by
    obtain ⟨p, q, h⟩ := own_form hI.own
    exact ⟨p, _, q, h⟩
  have cc : w11.cell? ⟨pb, 0, none⟩ = some v := hI.cell.cell (i := 0) (by decide)
  have hz1 := HSW.out.size
  have HE : Hid (OwnL w11 w.heap.size v (bodyG m) ∧ w.Since w.heap.size w11) := by
    rw [← HBD.out]
    exact ⟨own_lower hI.own (by omega), HSW.out.trans (since_mono HP11.out.2.1 HSW.out.size)⟩
  subst hv
  clear hI hB HBD HMS HP11
  go_wp2_with fail
  go_ret
  exact ⟨_, rfl, HE.out⟩
end Go.Proofs.YtonpmabdjngdcaaGreatDoor
