/- The walk of tallylaw1's writes: one call of a Writer beside its list. -/
import Derived.Test.YtbmdnlomhnodeabDoorPairs
import Derived.Deep.CutBlock
namespace Go.Proofs.YtbmdnlomhnodeabDoor
open Go.RowKit
set_option maxRecDepth 100000

theorem since_drewN {B : Nat} {w w' : World} (h : w.Since B w') (n : Nat) : w.Since B (w'.drewN n) := ⟨h.os, h.tape, h.output, h.size, h.block⟩
theorem wid_of {w0 w : World} (h : Wid w0) (hs : w0.Since w0.heap.size w) : Wid w := h.since hs
theorem Pair.put {w w3 w4 : World} {wb B : Nat} {v v3 hv rv : Value} {l r : List Nat} (h : Pair w wb B v hv l l) (hI : IsL w3 wb B v3 (l ++ r)) (hE : Ext wb v v3 w w3) (hs : w3.Since w3.heap.size w4) (ho : OwnL w4 w3.heap.size rv r) (hmax : l.length + r.length ≤ 140737488355328) :
    ∃ hv' w5, (Builtin.append_ #[22, 22] 22 #[hv, rv]).run Tryd.prog w4 = .ok hv' w5 ∧ Pair w5 wb B v3 hv' (l ++ r) (l ++ r) ∧ Move wb v hv v3 hv' w w5 := by
  obtain ⟨p1, m1⟩ := h.wrote hI hE
  obtain ⟨p2, m2⟩ := p1.since hs
  obtain ⟨hv', w5, hr, ho5, hg, hl⟩ := app_ll p2.own ho hmax p2.isl.lo
  obtain ⟨p3, m3⟩ := p2.held ho5 hg hl
  exact ⟨hv', w5, hr, p3, m1.trans (m2.trans m3)⟩
theorem Pair.putRaw {w w3 : World} {wb B : Nat} {v v3 hv : Value} {l : List Nat} {a : Option Addr} {m c : Nat} {y : Nat → Nat} (h : Pair w wb B v hv l l) (hI : IsL w3 wb B v3 (l ++ (List.range m).map y)) (hE : Ext wb v v3 w w3) (hb : Byt w3 a m y) (ha : a = none → m = 0 ∧ c = 0) (hmax : l.length + m ≤ 140737488355328) :
    ∃ hv' w5, (Builtin.append_ #[22, 22] 22 #[hv, .slice a m c]).run Tryd.prog w3 = .ok hv' w5 ∧ Pair w5 wb B v3 hv' (l ++ (List.range m).map y) (l ++ (List.range m).map y) ∧ Move wb v hv v3 hv' w w5 := by
  obtain ⟨p1, m1⟩ := h.wrote hI hE
  obtain ⟨hv', w5, hr, ho5, hg, hl⟩ := app_l p1.own a m c y hb ha hmax p1.isl.lo
  obtain ⟨p3, m3⟩ := p1.held ho5 hg hl
  exact ⟨hv', w5, hr, p3, m1.trans m3⟩
theorem Move.but {wb g : Nat} {v hv v' hv' : Value} {w wx wy : World} (h : Move wb v hv v' hv' w wx) (hb : But g wx wy) (hg : w.heap.size ≤ g) : Move wb v hv v' hv' w wy :=
  ⟨hb.os.trans h.os, hb.tape.trans h.tape, hb.output.trans h.output, Nat.le_trans h.size hb.size, fun k hk hn => (hb.block k (Nat.lt_of_lt_of_le hk h.size) (by omega)).trans (h.block k hk hn), h.foot⟩
theorem Lent.move {wb : Nat} {v hv v' hv' : Value} {w w' : World} {g len cap : Nat} {x : Nat → Nat} {f : Nat → Value} (h : Lent w g len cap x f) (hm : Move wb v hv v' hv' w w') (hn : ¬ Foot wb v hv g) : Lent w' g len cap x f :=
  ⟨h.row.of_block (hm.block g h.row.lt hn), h.room, h.cap, h.byte, h.k0, h.k1, h.k2⟩

/-- What the call has done. -/
structure Did (w0 w w' : World) (wb : Nat) (v hv v' hv' : Value) (l' : List Nat) (top : Nat) : Prop where
  since : w0.Since w0.heap.size w'
  pair : Pair w' wb w0.heap.size v' hv' l' l'
  move : Move wb v hv v' hv' w w'
  len : l'.length ≤ top

set_option maxHeartbeats 3200000 in
set_option maxRecDepth 100000 in
theorem writes_any (w0 w : World) (wb : Nat) (v hv : Value) (l : List Nat) (K WH M : Int) (N : Nat) (a : Option Addr) (m c : Nat) (y : Nat → Nat) (hs : w0.Since w0.heap.size w) (h : Pair w wb w0.heap.size v hv l l) (hW : Wid w0) (hb : Byt w0 a m y) (ha : a = none → m = 0 ∧ c = 0) (hN : N < 18446744073709551616) (hmax : l.length + m + 10 ≤ 140737488351232) :
    Calls Tryd.prog 36 #[.pointer (some ⟨wb, 0, none⟩), hv, .agg #[.int .i64 K, .int .i64 WH, .int .i64 M, .int .u64 N, .slice a m c]] w fun e w' => ∃ v' hv' l', e = .returned (.tuple #[hv', .bool true]) ∧ Did w0 w w' wb v hv v' hv' l' (l.length + m + 10) := by
  have hs1 : w.Since w.heap.size (w.alloc (.cells #[.int .i64 K, .int .i64 WH, .int .i64 M, .int .u64 N, .slice a m c] 33)) := (World.Since.refl _ _).alloc (Nat.le_refl _) _
  have q0 : (w.alloc (.cells #[.int .i64 K, .int .i64 WH, .int .i64 M, .int .u64 N, .slice a m c] 33)).cell? ⟨w.heap.size, 0, none⟩ = some (.int .i64 K) := by simp
  have q3 : (w.alloc (.cells #[.int .i64 K, .int .i64 WH, .int .i64 M, .int .u64 N, .slice a m c] 33)).cell? ⟨w.heap.size, 3, none⟩ = some (.int .u64 N) := by simp
  have q4 : (w.alloc (.cells #[.int .i64 K, .int .i64 WH, .int .i64 M, .int .u64 N, .slice a m c] 33)).cell? ⟨w.heap.size, 4, none⟩ = some (.slice a m c) := by simp
  have e1 : (w.alloc (.cells #[.int .i64 K, .int .i64 WH, .int .i64 M, .int .u64 N, .slice a m c] 33)).heap.size = w.heap.size + 1 := by simp
  have hb1 : Byt (w.alloc (.cells #[.int .i64 K, .int .i64 WH, .int .i64 M, .int .u64 N, .slice a m c] 33)) a m y := (hb.since hs).since hs1
  have hB := hs.size
  go_enter Tryd.func36, Tryd.ntmps36
  go_wp2_with fail
  generalize w.alloc (.cells #[.int .i64 K, .int .i64 WH, .int .i64 M, .int .u64 N, .slice a m c] 33) = w1 at *
  refine (lend_any a m c y w1 (by omega) hb1 ha).mono ?_
  rintro e w2 ⟨g, cap', f, rfl, hg, hs2, hL⟩
  have hsw2 : w.Since w.heap.size w2 := hs1.trans (since_mono hs2 hs1.size)
  have hs02 : w0.Since w0.heap.size w2 := hs.trans (since_mono hsw2 hB)
  obtain ⟨hP, hM⟩ := h.since hsw2
  have hno : ¬ Foot wb v hv w.heap.size := fun hf => by have := h.lt _ hf; omega
  have hng : ¬ Foot wb v hv g := fun hf => by have := h.lt _ hf; omega
  have hgo : w.heap.size < g := by omega
  have r0 : w2.cell? ⟨w.heap.size, 0, none⟩ = some (.int .i64 K) := by rw [hs2.cell (a := ⟨w.heap.size, 0, none⟩) (by show w.heap.size < _; omega)]; exact q0
  have r3 : w2.cell? ⟨w.heap.size, 3, none⟩ = some (.int .u64 N) := by rw [hs2.cell (a := ⟨w.heap.size, 3, none⟩) (by show w.heap.size < _; omega)]; exact q3
  have r4 : w2.cell? ⟨w.heap.size, 4, none⟩ = some (.slice a m c) := by rw [hs2.cell (a := ⟨w.heap.size, 4, none⟩) (by show w.heap.size < _; omega)]; exact q4
  have hW2 := hW.since hs02
  have hb2 := hb.since hs02
  clear q0 q3 q4 hb1 hs2 hs1 e1 hg hsw2 w1
  generalize hob : w.heap.size = ob at *
  go_upto_block 0 with fail
  go_cut [1] from 11 (fun s1 wx => ∃ v' hv' l', hv' = s1 ∧ Pair wx wb w0.heap.size v' hv' l' l' ∧ Move wb v hv v' hv' w2 wx ∧ l'.length ≤ l.length + m + 10)
  case first =>
    by_cases k1 : K = 1
    · subst k1
      obtain ⟨N1, hN1⟩ : ∃ N1 : Nat, N1 = N % 256 := ⟨_, rfl⟩
      have u1 : IntKind.u8.wrap (N : Int) = (N1 : Int) := by rw [IntKind.wrap_u8']; omega
      have hN1l : N1 < 256 := by omega
      clear hN1
      go_wp2_with fail
      refine (u8_l wb _ v l N1 w2 hP.isl hW2 hN1l (by omega)).mono ?_
      rintro e w3 ⟨rfl, v3, hI3, hE3⟩
      have t3 := (hP.wrote hI3 hE3).2.cell r3 hno
      go_wp2_with fail
      refine (refu8 N1 w3 hN1l).mono ?_
      rintro e w4 ⟨rv, rfl, hs4, ho4⟩
      obtain ⟨hv5, w5, hr5, hP5, hM5⟩ := hP.put hI3 hE3 hs4 ho4 (by simp [fl]; omega)
      have H := hide hr5
      clear hr5 ho4 hs4 hE3 hI3 t3
      go_wp2_with (at_builtin; refine wpList_append_eq rfl _ _ 22 rfl _ _ _ (by rfl) (by rfl) (unhide H) ?_)
      go_meet
      case rel => go_light; exact ⟨v3, hv5, _, rfl, hP5, hM5, by simp [fl]; omega⟩
    by_cases k2 : K = 2
    · subst k2
      obtain ⟨N1, hN1⟩ : ∃ N1 : Nat, N1 = N % 4294967296 := ⟨_, rfl⟩
      have u1 : IntKind.u32.wrap (N : Int) = (N1 : Int) := by rw [IntKind.wrap_u32]; omega
      have hN1l : N1 < 4294967296 := by omega
      clear hN1
      go_wp2_with fail
      refine (u32_l wb _ v l N1 w2 hP.isl hW2 hN1l (by omega)).mono ?_
      rintro e w3 ⟨rfl, v3, hI3, hE3⟩
      have t3 := (hP.wrote hI3 hE3).2.cell r3 hno
      go_wp2_with fail
      refine (refu32 N1 w3 hN1l).mono ?_
      rintro e w4 ⟨rv, rfl, hs4, ho4⟩
      obtain ⟨hv5, w5, hr5, hP5, hM5⟩ := hP.put hI3 hE3 hs4 ho4 (by simp [fl]; omega)
      have H := hide hr5
      clear hr5 ho4 hs4 hE3 hI3 t3
      go_wp2_with (at_builtin; refine wpList_append_eq rfl _ _ 22 rfl _ _ _ (by rfl) (by rfl) (unhide H) ?_)
      go_meet
      case rel => go_light; exact ⟨v3, hv5, _, rfl, hP5, hM5, by simp [fl]; omega⟩
    by_cases k3 : K = 3
    · subst k3
      go_wp2_with fail
      refine (u64_l wb _ v l N w2 hP.isl hW2 hN (by omega)).mono ?_
      rintro e w3 ⟨rfl, v3, hI3, hE3⟩
      have t3 := (hP.wrote hI3 hE3).2.cell r3 hno
      go_wp2_with fail
      refine (refu64 N w3 hN).mono ?_
      rintro e w4 ⟨rv, rfl, hs4, ho4⟩
      obtain ⟨hv5, w5, hr5, hP5, hM5⟩ := hP.put hI3 hE3 hs4 ho4 (by simp [fl]; omega)
      have H := hide hr5
      clear hr5 ho4 hs4 hE3 hI3 t3
      go_wp2_with (at_builtin; refine wpList_append_eq rfl _ _ 22 rfl _ _ _ (by rfl) (by rfl) (unhide H) ?_)
      go_meet
      case rel => go_light; exact ⟨v3, hv5, _, rfl, hP5, hM5, by simp [fl]; omega⟩
    by_cases k4 : K = 4
    · subst k4
      have hvl := vl_len 9 N
      go_wp2_with fail
      refine (var_l wb _ v l N w2 hP.isl hN (by omega)).mono ?_
      rintro e w3 ⟨rfl, v3, hI3, hE3⟩
      have t3 := (hP.wrote hI3 hE3).2.cell r3 hno
      go_wp2_with fail
      refine (refvar 9 N w3 (Nat.lt_of_lt_of_le hN (by decide)) hN (Nat.le_refl _)).mono ?_
      rintro e w4 ⟨rv, rfl, hs4, ho4⟩
      obtain ⟨hv5, w5, hr5, hP5, hM5⟩ := hP.put hI3 hE3 hs4 ho4 (by omega)
      have H := hide hr5
      clear hr5 ho4 hs4 hE3 hI3 t3
      go_wp2_with (at_builtin; refine wpList_append_eq rfl _ _ 22 rfl _ _ _ (by rfl) (by rfl) (unhide H) ?_)
      go_meet
      case rel => go_light; exact ⟨v3, hv5, _, rfl, hP5, hM5, by rw [List.length_append]; omega⟩
    by_cases k5 : K = 5
    · subst k5
      have hvl := vl_len 9 m
      have hne : ∀ b off, (some ⟨g, 0, none⟩ : Option Addr) = some ⟨b, off, none⟩ → b ≠ wb ∧ some b ≠ v.ownBlock := fun b off e => by
        cases e
        exact ⟨fun e2 => hng (Or.inl e2), fun e2 => hng (Or.inr (Or.inl e2.symm))⟩
      go_wp2_with fail
      refine (bytes_l wb _ v l _ m cap' y w2 hP.isl hL.byt (fun e => by cases e) (by omega) hne).mono ?_
      rintro e w3 ⟨rfl, v3, hI3, hE3⟩
      rw [List.append_assoc] at hI3
      have t4 := (hP.wrote hI3 hE3).2.cell r4 hno
      have hb3 := hb.since ((hP.wrote hI3 hE3).2.since hP hs02 hs02.size)
      go_wp2_with fail
      refine (reftext a m c y w3 hb3 ha (by omega)).mono ?_
      rintro e w4 ⟨rv, rfl, hs4, ho4⟩
      obtain ⟨hv5, w5, hr5, hP5, hM5⟩ := hP.put hI3 hE3 hs4 ho4 (by rw [List.length_append]; simp; try omega)
      have H := hide hr5
      clear hr5 ho4 hs4 hE3 hI3 t4
      go_wp2_with (at_builtin; refine wpList_append_eq rfl _ _ 22 rfl _ _ _ (by rfl) (by rfl) (unhide H) ?_)
      go_meet
      case rel => go_light; exact ⟨v3, hv5, _, rfl, hP5, hM5, by rw [List.length_append, List.length_append]; simp; try omega⟩
    by_cases k6 : K = 6
    · subst k6
      go_wp2_with fail
      refine (raw_l wb _ v l _ m cap' y w2 hP.isl hL.byt (fun e => by cases e) (by omega)).mono ?_
      rintro e w3 ⟨rfl, v3, hI3, hE3⟩
      have t4 := (hP.wrote hI3 hE3).2.cell r4 hno
      have hb3 := hb.since ((hP.wrote hI3 hE3).2.since hP hs02 hs02.size)
      obtain ⟨hv5, w5, hr5, hP5, hM5⟩ := hP.putRaw hI3 hE3 hb3 ha (by omega)
      have H := hide hr5
      clear hr5 hE3 hI3
      go_wp2_with (at_builtin; refine wpList_append_eq rfl _ _ 22 rfl _ _ _ (by rfl) (by rfl) (unhide H) ?_)
      go_meet
      case rel => go_light; exact ⟨v3, hv5, _, rfl, hP5, hM5, by rw [List.length_append]; simp; try omega⟩
    by_cases k7 : K = 7
    · subst k7
      obtain ⟨ha7, hc7, rfl⟩ := own_form hP.own
      have hD : Did w0 w w2 wb v (.slice ha7 l.length hc7) v (.slice ha7 l.length hc7) l (l.length + m + 10) := ⟨hs02, hP, hM, by omega⟩
      have hlw := len_w wb _ v l.length _ w2 hP.isl
      go_wp2_with fail
      refine hlw.mono ?_
      rintro e w3 ⟨rfl, rfl⟩
      go_wp2_with fail
      go_ret2
      exact ⟨v, _, l, rfl, hD⟩
    by_cases k8 : K = 8
    · subst k8
      obtain ⟨ha8, hc8, rfl, hb8, _⟩ := own_byt hP.own
      have how := out_w wb _ v l.length _ w2 hP.isl (by omega)
      go_wp2_with fail
      refine how.mono ?_
      rintro e w3 ⟨rfl, hs3, _, hrow3⟩
      have heq := eq_same (some ⟨w2.heap.size, 0, none⟩) ha8 l.length l.length hc8 _ w3 (Byt.of_row hrow3) (hb8.since hs3) (by omega)
      go_wp2_with fail
      refine heq.mono ?_
      rintro e w4 ⟨rfl, nd, rfl⟩
      have hs4 := since_drewN hs3 nd
      obtain ⟨hP4, hM4⟩ := hP.since hs4
      have hD : Did w0 w (w3.drewN nd) wb v (.slice ha8 l.length hc8) v (.slice ha8 l.length hc8) l (l.length + m + 10) := ⟨hM4.since hP hs02 hs02.size, hP4, hM.trans hM4, by omega⟩
      go_wp2_with fail
      go_ret2
      exact ⟨v, _, l, rfl, hD⟩
    have e1 : (K == 1) = false := by simpa using k1
    have e2 : (K == 2) = false := by simpa using k2
    have e3 : (K == 3) = false := by simpa using k3
    have e4 : (K == 4) = false := by simpa using k4
    have e5 : (K == 5) = false := by simpa using k5
    have e6 : (K == 6) = false := by simpa using k6
    have e7 : (K == 7) = false := by simpa using k7
    have e8 : (K == 8) = false := by simpa using k8
    go_wp2_with fail
    go_meet
    case rel => go_light; exact ⟨v, hv, l, rfl, hP, Move.refl _ _ _ _, by omega⟩
  case rest =>
    obtain ⟨v', hv', l', rfl, hP3, hM3, hlen⟩ := hcut
    have hs03 := hM3.since hP hs02 hs02.size
    have t4 := hM3.cell r4 hno
    have hL3 := hL.move hM3 hng
    have hMw := hM.trans hM3
    have hgf : ∀ k, Foot wb v' hv' k → k ≠ g := fun k hf e => by
      rcases hM3.foot k hf with e2 | e2
      · rw [e] at e2; exact hng e2
      · have := hL.row.lt; omega
    have hin := intact_any g m cap' y f a c wc hL3 (hb.since hs03) (fun e => (ha e).1) (by omega)
    have hroom := hL3.room
    have hcapm := hL3.cap
    go_wp2_with fail
    refine hin.mono ?_
    rintro e w4 ⟨rfl, rfl⟩
    have hrow0 := hL3.row
    have hfin : ∀ wy : World, But g w4 wy → Did w0 w wy wb v hv v' hv' l' (l.length + m + 10) := fun wy hbut =>
      ⟨hbut.since hs03 (by omega) hs03.size, hP3.keep hbut.size (fun k hf => hbut.block k (hP3.lt k hf) (hgf k hf)), hMw.but hbut (by omega), hlen⟩
    clear hin hL3 hL hP hM hM3 hP3 hgf hs03 hMw hb2 hW2 r0 r3 r4
    go_wp2_with fail
    go_loopg [10] m (fun q s10 wx => ∃ (i : Nat) (F : Nat → Value), i ≤ m ∧ q = m - i ∧ s10 = .int .i64 i ∧ But g w4 wx ∧ wx.rowIs g 5 cap' F)
    case atStart => exact ⟨0, f, Nat.zero_le _, rfl, rfl, But.of_since (World.Since.refl _ _), hrow0⟩
    case round =>
      obtain ⟨i, F, hi, rfl, rfl, hB3, hrow⟩ := hrel
      by_cases hlt : i < m
      · have x1 := hrow.cell (i := i) (by omega)
        have x2 := hrow.frozen i
        have hz : (i : Int) < (m : Int) := by omega
        have hB4 := hB3.setCell i (.int .u8 238)
        have hrow4 := hrow.set i (.int .u8 238)
        go_wp2_with fail
        go_roundg (m - (i + 1))
        case measure => go_light; omega
        case rel => go_light; exact ⟨i + 1, _, by omega, rfl, by simp, hB4, hrow4⟩
      · obtain rfl : i = m := by omega
        have hD := hfin _ hB3
        go_wp2_with fail
        go_ret2
        exact ⟨v', _, l', rfl, hD⟩
end Go.Proofs.YtbmdnlomhnodeabDoor
