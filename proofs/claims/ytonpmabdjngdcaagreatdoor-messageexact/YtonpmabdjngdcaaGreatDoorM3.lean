/- Own texts, joined: RefEq, Pairs, Eye, FormMath, Eye2, EyeMath, EyeVar, EyeText. -/
import Derived.Test.YtonpmabdjngdcaaGreatDoorM2

/- The walks of the reference's Text, of Cmp, Eq and into. -/
namespace Go.Proofs.YtonpmabdjngdcaaGreatDoor
open Go.RowKit

set_option maxHeartbeats 800000 in
set_option maxRecDepth 100000 in
theorem reftext (a : Option Addr) (m c : Nat) (y : Nat → Nat) (w : World) (hb : Byt w a m y) (ha : a = none → m = 0 ∧ c = 0) (hmax : m + 10 ≤ 140737488355328) :
    Calls Tryz.prog 112 #[.slice a m c] w fun e w' => ∃ v, e = .returned v ∧ w.Since w.heap.size w' ∧ OwnL w' w.heap.size v (vl 9 m ++ (List.range m).map y) := by
  have hv := refvar 9 m w (Nat.lt_of_lt_of_le (show m < 2 ^ 64 by omega) (by decide)) (by omega) (Nat.le_refl _)
  have hlen := vl_len 9 m
  go_enter Tryz.func112, Tryz.ntmps112
  go_wp2_with fail
  refine hv.mono ?_
  rintro e w1 ⟨v1, rfl, hs1, ho1⟩
  obtain ⟨v2, w2, hr2, ho2, hg2, _⟩ := app_l ho1 a m c y (hb.since hs1) ha (by omega) hs1.size
  have hs2 := grown_since hs1 hg2 hs1.size (own_block ho1)
  have H2 := hide hr2
  clear hr2 hg2 ho1 hs1 hv
  go_wp2_with (at_builtin; refine wpList_append_eq rfl _ _ 32 rfl _ _ _ (by rfl) (by rfl) (unhide H2) ?_)
  go_ret
  exact ⟨_, rfl, hs2, ho2⟩

set_option maxHeartbeats 800000 in
theorem cmp_same (a b : Option Addr) (n c d : Nat) (x : Nat → Nat) (w : World) (ha : Byt w a n x) (hb : Byt w b n x) (hmax : n ≤ 140737488355328) :
    Calls Tryz.prog 43 #[.slice a n c, .slice b n d] w fun e w' => e = .returned (.int .i64 0) ∧ ∃ m, w' = w.drewN m := by
  go_enter Tryz.func43, Tryz.ntmps43
  go_wp2_with fail
  go_loopg [5] n (fun q s5 wx => ∃ (i m : Nat), i ≤ n ∧ q = n - i ∧ s5 = .int .i64 i ∧ wx = w.drewN m)
  case atStart => exact ⟨0, 0, Nat.zero_le _, rfl, rfl, rfl⟩
  case round =>
    obtain ⟨i, m, hi, rfl, rfl, rfl⟩ := hrel
    by_cases hlt : i < n
    · obtain ⟨b1, o1, rfl, hc1⟩ := ha i hlt
      obtain ⟨b2, o2, rfl, hc2⟩ := hb i hlt
      have hc1' : (w.drewN m).cell? ⟨b1, o1 + i, none⟩ = some (.int .u8 (x i : Nat)) := hc1
      have hc2' : (w.drewN m).cell? ⟨b2, o2 + i, none⟩ = some (.int .u8 (x i : Nat)) := hc2
      have hz : (i : Int) < (n : Int) := by omega
      have HD : Hid (∀ n, (w.drewN m).drewN n = w.drewN (m + n)) := fun n => World.drewN_drewN _ _ _
      generalize w.drewN m = wd at *
      clear hc1 hc2 ha hb
      go_wp2_with fail
      go_quiet (fail)
      go_wp2_with fail
      go_quiet (fail)
      go_wp2_with fail
      go_roundg (n - (i + 1))
      case measure => go_light; omega
      case rel => go_light; exact ⟨i + 1, _, by omega, rfl, by simp, (unhide HD) _⟩
    · obtain rfl : i = n := by omega
      clear ha hb
      go_wp2_with fail
      go_ret
      exact ⟨rfl, m, rfl⟩
theorem eq_same (a b : Option Addr) (n c d : Nat) (x : Nat → Nat) (w : World) (ha : Byt w a n x) (hb : Byt w b n x) (hmax : n ≤ 140737488355328) :
    Calls Tryz.prog 13 #[.slice a n c, .slice b n d] w fun e w' => e = .returned (.bool true) ∧ ∃ m, w' = w.drewN m := by
  have hc := cmp_same a b n c d x w ha hb hmax
  go_enter Tryz.func13, Tryz.ntmps13
  go_wp2_with fail
  refine hc.mono ?_
  rintro e w1 ⟨rfl, m, rfl⟩
  go_wp2_with fail
  go_ret
  exact ⟨rfl, m, rfl⟩
end Go.Proofs.YtonpmabdjngdcaaGreatDoor

/- A Writer beside the list that holds what the document says: what of memory is theirs, and what a step leaves. -/
namespace Go.Proofs.YtonpmabdjngdcaaGreatDoor
open Go.RowKit
set_option maxRecDepth 100000

theorem own_keep {w w' : World} {B : Nat} {v : Value} {n : Nat} {x : Nat → Nat} (h : Own w B v n x) (hk : ∀ k, v.ownBlock = some k → w'.heap[k]? = w.heap[k]?) : Own w' B v n x := by
  refine ⟨h.1, ?_⟩
  rcases h.2 with h1 | ⟨g, cap, cur, e, hb, hh, r⟩
  · exact Or.inl h1
  · exact Or.inr ⟨g, cap, cur, e, hb, by rw [hk g (by rw [e]; rfl)]; exact hh, r⟩
theorem own_lt {w : World} {B : Nat} {v : Value} {n : Nat} {x : Nat → Nat} (h : Own w B v n x) : ∀ k, v.ownBlock = some k → k < w.heap.size := fun k hk => by
  rcases h.2 with ⟨rfl, _⟩ | ⟨g, cap, cur, rfl, hb, hh, _⟩
  · simp [Value.ownBlock] at hk
  · obtain rfl : g = k := by simpa [Value.ownBlock] using hk
    rcases Nat.lt_or_ge g w.heap.size with h | h
    · exact h
    · rw [Array.getElem?_eq_none h] at hh; cases hh

def Foot (wb : Nat) (v hv : Value) (k : Nat) : Prop := k = wb ∨ v.ownBlock = some k ∨ hv.ownBlock = some k
/-- The Writer holds lw, the list beside it lh. -/
structure Pair (w : World) (wb B : Nat) (v hv : Value) (lw lh : List Nat) : Prop where
  isl : IsL w wb B v lw
  own : OwnL w B hv lh
  ne1 : hv.ownBlock ≠ some wb
  ne2 : ∀ k, v.ownBlock = some k → hv.ownBlock ≠ some k
  low : B ≤ wb
structure Move (wb : Nat) (v hv v' hv' : Value) (w w' : World) : Prop where
  os : w'.os = w.os
  tape : w'.tape = w.tape
  output : w'.output = w.output
  size : w.heap.size ≤ w'.heap.size
  block : ∀ k, k < w.heap.size → ¬ Foot wb v hv k → w'.heap[k]? = w.heap[k]?
  foot : ∀ k, Foot wb v' hv' k → Foot wb v hv k ∨ w.heap.size ≤ k
theorem Pair.lt {w : World} {wb B : Nat} {v hv : Value} {lw lh : List Nat} (h : Pair w wb B v hv lw lh) : ∀ k, Foot wb v hv k → k < w.heap.size := fun k hk => by
  rcases hk with rfl | e | e
  · exact h.isl.cell.lt
  · exact own_lt h.isl.own k e
  · exact own_lt h.own k e
theorem Pair.ge {w : World} {wb B : Nat} {v hv : Value} {lw lh : List Nat} (h : Pair w wb B v hv lw lh) : ∀ k, Foot wb v hv k → B ≤ k := fun k hk => by
  rcases hk with rfl | e | e
  · exact h.low
  · exact own_block h.isl.own k e
  · exact own_block h.own k e
theorem Pair.keep {w w' : World} {wb B : Nat} {v hv : Value} {lw lh : List Nat} (h : Pair w wb B v hv lw lh) (hz : w.heap.size ≤ w'.heap.size) (hk : ∀ k, Foot wb v hv k → w'.heap[k]? = w.heap[k]?) : Pair w' wb B v hv lw lh :=
  ⟨⟨h.isl.cell.of_block (hk wb (Or.inl rfl)), own_keep h.isl.own (fun k e => hk k (Or.inr (Or.inl e))), h.isl.ne, Nat.le_trans h.isl.lo hz⟩, own_keep h.own (fun k e => hk k (Or.inr (Or.inr e))), h.ne1, h.ne2, h.low⟩
theorem Pair.since {w w' : World} {wb B : Nat} {v hv : Value} {lw lh : List Nat} (h : Pair w wb B v hv lw lh) (hs : w.Since w.heap.size w') : Pair w' wb B v hv lw lh ∧ Move wb v hv v hv w w' :=
  ⟨h.keep hs.size (fun k hk => hs.block k (h.lt k hk)), hs.os, hs.tape, hs.output, hs.size, fun k hk _ => hs.block k hk, fun _ hk => Or.inl hk⟩
theorem Pair.wrote {w w' : World} {wb B : Nat} {v v' hv : Value} {lw lh l' : List Nat} (h : Pair w wb B v hv lw lh) (hI : IsL w' wb B v' l') (hE : Ext wb v v' w w') : Pair w' wb B v' hv l' lh ∧ Move wb v hv v' hv w w' := by
  have hlt := own_lt h.own
  refine ⟨⟨hI, own_keep h.own (fun k e => hE.block k (hlt k e) (fun e2 => h.ne1 (by rw [e, e2])) (fun e2 => h.ne2 k e2.symm e)), h.ne1, fun k e e2 => ?_, h.low⟩, hE.os, hE.tape, hE.output, hE.size, fun k hk hn => hE.block k hk (fun e => hn (Or.inl e)) (fun e => hn (Or.inr (Or.inl e.symm))), fun k hk => ?_⟩
  · rcases hE.lies with e3 | ⟨g, e3, hg⟩
    · rw [e3] at e; exact h.ne2 k e e2
    · rw [e3] at e; cases e; have := hlt _ e2; omega
  · rcases hk with e | e | e
    · exact Or.inl (Or.inl e)
    · rcases hE.lies with e3 | ⟨g, e3, hg⟩
      · rw [e3] at e; exact Or.inl (Or.inr (Or.inl e))
      · rw [e3] at e; cases e; exact Or.inr hg
    · exact Or.inl (Or.inr (Or.inr e))
theorem Pair.held {w w' : World} {wb B : Nat} {v hv hv' : Value} {lw lh l' : List Nat} (h : Pair w wb B v hv lw lh) (ho : OwnL w' B hv' l') (hg : w.grownBy w' hv.ownBlock) (hl : hv'.ownBlock = hv.ownBlock ∨ hv'.ownBlock = some w.heap.size) : Pair w' wb B v hv' lw l' ∧ Move wb v hv v hv' w w' := by
  have hlt := own_lt h.isl.own
  have hwb : wb < w.heap.size := h.isl.cell.lt
  refine ⟨⟨⟨h.isl.cell.of_block (hg.block wb hwb (fun e => h.ne1 e.symm)), own_keep h.isl.own (fun k e => hg.block k (hlt k e) (fun e2 => h.ne2 k e e2.symm)), h.isl.ne, Nat.le_trans h.isl.lo hg.size⟩, ho, ?_, fun k e e2 => ?_, h.low⟩, hg.os, hg.tape, hg.output, hg.size, fun k hk hn => hg.block k hk (fun e => hn (Or.inr (Or.inr e.symm))), fun k hk => ?_⟩
  · rcases hl with e | e
    · rw [e]; exact h.ne1
    · rw [e]; intro e2; cases e2; omega
  · rcases hl with e3 | e3
    · rw [e3] at e2; exact h.ne2 k e e2
    · rw [e3] at e2; cases e2; have := hlt _ e; omega
  · rcases hk with e | e | e
    · exact Or.inl (Or.inl e)
    · exact Or.inl (Or.inr (Or.inl e))
    · rcases hl with e3 | e3
      · rw [e3] at e; exact Or.inl (Or.inr (Or.inr e))
      · rw [e3] at e; cases e; exact Or.inr (Nat.le_refl _)
theorem Move.refl (wb : Nat) (v hv : Value) (w : World) : Move wb v hv v hv w w := ⟨rfl, rfl, rfl, Nat.le_refl _, fun _ _ _ => rfl, fun _ h => Or.inl h⟩
theorem Move.trans {wb : Nat} {v hv v' hv' v'' hv'' : Value} {a b c : World} (h : Move wb v hv v' hv' a b) (k : Move wb v' hv' v'' hv'' b c) : Move wb v hv v'' hv'' a c :=
  ⟨k.os.trans h.os, k.tape.trans h.tape, k.output.trans h.output, Nat.le_trans h.size k.size, fun i hi hn => (k.block i (Nat.lt_of_lt_of_le hi h.size) (fun hf => by
      rcases h.foot i hf with e | e
      · exact hn e
      · omega)).trans (h.block i hi hn), fun i hi => by
    rcases k.foot i hi with e | e
    · exact h.foot i e
    · exact Or.inr (Nat.le_trans h.size e)⟩
theorem Move.since {w0 w w' : World} {wb B : Nat} {v hv v' hv' : Value} {lw lh : List Nat} (hm : Move wb v hv v' hv' w w') (h : Pair w wb B v hv lw lh) (hs : w0.Since B w) (hB : B ≤ w.heap.size) : w0.Since B w' :=
  ⟨hm.os.trans hs.os, hm.tape.trans hs.tape, hm.output.trans hs.output, Nat.le_trans hs.size hm.size, fun k hk => (hm.block k (by omega) (fun hf => by have := h.ge k hf; omega)).trans (hs.block k hk)⟩
/-- A block that is not theirs. -/
theorem Move.cell {wb : Nat} {v hv v' hv' : Value} {w w' : World} (hm : Move wb v hv v' hv' w w') {b o : Nat} {u : Value} (hc : w.cell? ⟨b, o, none⟩ = some u) (hn : ¬ Foot wb v hv b) : w'.cell? ⟨b, o, none⟩ = some u := by
  rw [World.cell?_of_block (w := w) (hm.block b (World.block_lt_of_cell? _ _ hc) hn)]; exact hc
/-- THE TWO STEPS OF ONE CALL: the Writer's, then the list's. -/
theorem Pair.two {w w1 w2 w3 : World} {wb B : Nat} {v v' hv hv' : Value} {l l' : List Nat} (h : Pair w wb B v hv l l) (hI : IsL w1 wb B v' l') (hE : Ext wb v v' w w1) (hs : w1.Since w1.heap.size w2) (ho : OwnL w3 B hv' l') (hg : w2.grownBy w3 hv.ownBlock) (hl : hv'.ownBlock = hv.ownBlock ∨ hv'.ownBlock = some w2.heap.size) : Pair w3 wb B v' hv' l' l' ∧ Move wb v hv v' hv' w w3 := by
  obtain ⟨p1, m1⟩ := h.wrote hI hE
  obtain ⟨p2, m2⟩ := p1.since hs
  obtain ⟨p3, m3⟩ := p2.held ho hg hl
  exact ⟨p3, m1.trans (m2.trans m3)⟩
end Go.Proofs.YtonpmabdjngdcaaGreatDoor

/- The document's Reader (Eye): what it is in memory, its Left, Raw, fixed reads and End. -/
namespace Go.Proofs.YtonpmabdjngdcaaGreatDoor
open Go.RowKit
set_option maxRecDepth 100000

structure IsE (w : World) (eb hb n : Nat) (z : Nat → Nat) (at' bad : Nat) : Prop where
  rd : w.rowIs eb 144 3 (rdCell hb n at' bad)
  row : w.rowIs hb 5 n (fun j => .int .u8 (z j : Nat))
  ne : hb ≠ eb
  byte : ∀ j, z j < 256
  le : at' ≤ n
  room : n ≤ 281474976710656
theorem IsE.since {w w' : World} {eb hb n at' bad : Nat} {z : Nat → Nat} (h : IsE w eb hb n z at' bad) (hs : w.Since w.heap.size w') : IsE w' eb hb n z at' bad :=
  ⟨row_since h.rd hs, row_since h.row hs, h.ne, h.byte, h.le, h.room⟩
theorem IsE.but {r : Nat} {w w' : World} {eb hb n at' bad : Nat} {z : Nat → Nat} (h : IsE w eb hb n z at' bad) (hs : But r w w') (h1 : eb ≠ r) (h2 : hb ≠ r) : IsE w' eb hb n z at' bad :=
  ⟨hs.row h.rd h1, hs.row h.row h2, h.ne, h.byte, h.le, h.room⟩
theorem IsE.setAt {w : World} {eb hb n at' bad : Nat} {z : Nat → Nat} (h : IsE w eb hb n z at' bad) (q : Nat) (hq : q ≤ n) : IsE (w.setCell ⟨eb, 1, none⟩ (.int .i64 q)) eb hb n z q bad :=
  ⟨(h.rd.set 1 _).congr (fun i hi => by
      match i, hi with
      | 0, _ => rfl
      | 1, _ => rfl
      | 2, _ => rfl), h.row.setOther (by show hb ≠ eb; exact h.ne) _, h.ne, h.byte, hq, h.room⟩
theorem IsE.setBad {w : World} {eb hb n at' bad : Nat} {z : Nat → Nat} (h : IsE w eb hb n z at' bad) (q : Nat) : IsE (w.setCell ⟨eb, 2, none⟩ (.int .i64 q)) eb hb n z at' q :=
  ⟨(h.rd.set 2 _).congr (fun i hi => by
      match i, hi with
      | 0, _ => rfl
      | 1, _ => rfl
      | 2, _ => rfl), h.row.setOther (by show hb ≠ eb; exact h.ne) _, h.ne, h.byte, h.le, h.room⟩
theorem IsE.drew {w : World} {eb hb n at' bad : Nat} {z : Nat → Nat} (h : IsE w eb hb n z at' bad) : IsE w.drew eb hb n z at' bad := ⟨h.rd.drew, h.row.drew, h.ne, h.byte, h.le, h.room⟩
theorem IsE.c0 {w : World} {eb hb n at' bad : Nat} {z : Nat → Nat} (h : IsE w eb hb n z at' bad) : w.cell? ⟨eb, 0, none⟩ = some (.slice (some ⟨hb, 0, none⟩) n n) := h.rd.cell (by decide)
theorem IsE.c1 {w : World} {eb hb n at' bad : Nat} {z : Nat → Nat} (h : IsE w eb hb n z at' bad) : w.cell? ⟨eb, 1, none⟩ = some (.int .i64 at') := h.rd.cell (by decide)
theorem IsE.c2 {w : World} {eb hb n at' bad : Nat} {z : Nat → Nat} (h : IsE w eb hb n z at' bad) : w.cell? ⟨eb, 2, none⟩ = some (.int .i64 bad) := h.rd.cell (by decide)

theorem IsE.setOther {w : World} {eb hb n at' bad : Nat} {z : Nat → Nat} (h : IsE w eb hb n z at' bad) {a : Addr} (h1 : eb ≠ a.block) (h2 : hb ≠ a.block) (v : Value) : IsE (w.setCell a v) eb hb n z at' bad :=
  ⟨h.rd.setOther h1 v, h.row.setOther h2 v, h.ne, h.byte, h.le, h.room⟩


theorem eyeLeft (eb hb n at' bad : Nat) (z : Nat → Nat) (w : World) (h : IsE w eb hb n z at' bad) : Calls Tryz.prog 168 #[.pointer (some ⟨eb, 0, none⟩)] w fun e w' => e = .returned (.int .i64 ((n - at' : Nat) : Int)) ∧ ∃ m, w' = w.drewN m := by
  have c1 := h.c1
  have c0 := h.c0
  have hle := h.le
  have hroom := h.room
  go_enter Tryz.func168, Tryz.ntmps168
  go_wp2_with fail
  go_quiet (fail)
  go_wp2
  go_ret
  exact ⟨ret_int (by omega), nq, rfl⟩
theorem isE_eq {w : World} {rb hb n a b c d : Nat} {z : Nat → Nat} (h : IsE w rb hb n z a c) (e : a = b) (f : c = d) : IsE w rb hb n z b d := by subst e; subst f; exact h
theorem eye_place {w W : World} {rb hb n at' bad : Nat} {z : Nat → Nat} (h : IsE w rb hb n z at' bad) (hW : w.Since w.heap.size W) (o k : Nat) (hk : k ≤ n - at') (ho : n ≠ at' → o = at') : Byt W (some ⟨hb, o, none⟩) k (fun j => z (at' + j)) := fun j hj => by
  have hrow := row_since h.row hW
  have := hrow.cell (i := at' + j) (by omega)
  exact ⟨hb, o, rfl, by rw [ho (by omega)]; exact this⟩

set_option maxHeartbeats 1600000 in
set_option maxRecDepth 100000 in
theorem eyeRaw (eb hb n at' bad : Nat) (k : Int) (z : Nat → Nat) (w : World) (h : IsE w eb hb n z at' bad) (hm : k ≤ 9223372036854775807) :
    Calls Tryz.prog 169 #[.pointer (some ⟨eb, 0, none⟩), .int .i64 k] w fun e w' => (∃ ta, e = .returned (.slice ta (rawAns n k at' bad).1 (rawAns n k at' bad).1) ∧ Txt w.heap.size w' ta (rawAns n k at' bad).1 (fun j => z ((rawAns n k at' bad).2.1 + j))) ∧ But eb w w' ∧ IsE w' eb hb n z (rawAns n k at' bad).2.2.1 (rawAns n k at' bad).2.2.2 := by
  have c2 := h.c2
  unfold rawAns
  by_cases hbad : bad = 0
  · subst hbad
    rw [if_neg (by simp)]
    by_cases hneg : k < 0
    · rw [if_pos hneg]
      have f2 := h.rd.frozen 2
      have hI := h.setBad 14
      have hB : But eb w (w.setCell ⟨eb, 2, none⟩ (.int .i64 14)) := (But.of_since (World.Since.refl _ _)).setCell 2 _
      go_enter Tryz.func169, Tryz.ntmps169
      go_wp2_with fail
      go_ret
      exact ⟨⟨none, rfl, txt_none _ _ _ _ rfl⟩, hB, hI⟩
    · rw [if_neg hneg]
      obtain ⟨M, rfl⟩ : ∃ M : Nat, k = (M : Nat) := ⟨k.toNat, by omega⟩
      rw [Int.toNat_natCast]
      unfold rlook
      have hlf := eyeLeft eb hb n at' 0 z w h
      have hle := h.le
      have hroom := h.room
      by_cases hsh : n - at' < M
      · rw [if_pos hsh]
        have hgt : ((n - at' : Nat) : Int) < (M : Int) := by omega
        generalize ((n - at' : Nat) : Int) = LL at *
        go_enter Tryz.func169, Tryz.ntmps169
        go_wp2_with fail
        refine hlf.mono ?_
        rintro e w1 ⟨rfl, m1, rfl⟩
        have hs1 := since_drewN' (World.Since.refl w.heap.size w) m1
        have h1 := h.since hs1
        have f2 := h1.rd.frozen 2
        have c3 := h1.c2
        have hI := h1.setBad 10
        have hB : But eb w ((w.drewN m1).setCell ⟨eb, 2, none⟩ (.int .i64 10)) := (But.of_since hs1).setCell 2 _
        generalize w.drewN m1 = w1 at *
        clear hlf
        go_wp2_with fail
        go_ret
        exact ⟨⟨none, rfl, txt_none _ _ _ _ rfl⟩, hB, hI⟩
      · rw [if_neg hsh]
        have hgt : ¬ (((n - at' : Nat) : Int) < (M : Int)) := by omega
        obtain ⟨E, hE, hsum⟩ : ∃ E : Nat, E - at' = M ∧ (at' : Int) + (M : Int) = (E : Int) := ⟨at' + M, by omega, by omega⟩
        have hxa : (E : Int) ≤ (n : Int) := by omega
        have hxb : (at' : Int) ≤ (E : Int) := by omega
        have hwE : IntKind.i64.wrap (E : Int) = (E : Int) := by rw [IntKind.wrap_i64]; omega
        have hwS : IntKind.i64.wrap ((at' : Int) + (M : Int)) = (E : Int) := by rw [hsum]; exact hwE
        have hxc : at' ≤ E := by omega
        have hxd : E ≤ n := by omega
        have hcp : ∀ W, w.Since w.heap.size W → Calls Tryz.prog 15 #[.slice (if n = at' then some ⟨hb, 0, none⟩ else some ⟨hb, at', none⟩) (E - at') (n - at')] W fun e w' => e = .returned (.slice (some ⟨W.heap.size, 0, none⟩) M M) ∧ W.Since W.heap.size w' ∧ w'.rowIs W.heap.size 5 M (fun j => .int .u8 (z (at' + j) : Nat)) := fun W hs => by
          rw [hE]
          by_cases hna : n = at'
          · rw [if_pos hna]
            exact (copy_any _ M (n - at') (fun j => z (at' + j)) W (by omega) (eye_place h hs 0 M (by omega) (fun hh => absurd hna hh))).mono fun e w' ⟨h1, h2, _, h4⟩ => ⟨h1, h2, h4⟩
          · rw [if_neg hna]
            exact (copy_any _ M (n - at') (fun j => z (at' + j)) W (by omega) (eye_place h hs at' M (by omega) (fun _ => rfl))).mono fun e w' ⟨h1, h2, _, h4⟩ => ⟨h1, h2, h4⟩
        have HL := hide hcp
        clear hcp
        go_enter Tryz.func169, Tryz.ntmps169
        generalize hLL : ((n - at' : Nat) : Int) = LL at *
        go_wp2_with fail
        refine hlf.mono ?_
        rintro e w1 ⟨rfl, m1, rfl⟩
        have hs1 := since_drewN' (World.Since.refl w.heap.size w) m1
        have h1 := h.since hs1
        have hlt := h1.rd.lt
        generalize w.drewN m1 = w1 at *
        clear hlf c2 hLL hE
        have d0 := h1.c0
        have d1 := h1.c1
        have hwz : w.heap.size ≤ w1.heap.size := hs1.size
        go_upto_region 9 with fail
        go_cut [5] from 26 to 51 (fun s5 wx => ∃ g, s5 = .slice (some ⟨g, 0, none⟩) M M ∧ w.heap.size ≤ g ∧ w1.Since w1.heap.size wx ∧ wx.rowIs g 5 M (fun j => .int .u8 (z (at' + j) : Nat)))
        case first =>
          by_cases hna : n = at'
          · subst hna
            obtain rfl : n = E := by omega
            obtain rfl : M = 0 := by omega
            rw [if_pos rfl, Nat.sub_self] at HL
            go_region_held3 (fun W => w1.Since w1.heap.size W ∧ W.cell? ⟨eb, 0, none⟩ = some (.slice (some ⟨hb, 0, none⟩) n n) ∧ W.cell? ⟨eb, 1, none⟩ = some (.int .i64 n))
              ((first | exact ⟨(World.Since.refl _ _).drew, d0, d1⟩ | exact ⟨hs2, (h1.since hs2).c0, (h1.since hs2).c1⟩))
              ((first | (go_at_call 15; refine ((unhide HL) _ (hs1.trans (since_mono (B := w1.heap.size) (World.Since.refl _ _).drew (by omega)))).mono ?_; rintro e w2 ⟨rfl, hs2', hr2⟩; have hs2 : w1.Since w1.heap.size w2 := (World.Since.refl _ _).drew.trans hs2')))
            all_goals
              go_wp2_with fail
              go_meet
              case rel => go_light; exact ⟨_, rfl, hwz, hs2, hr2⟩
          · rw [if_neg hna] at HL
            go_region_held3 (fun W => w1.Since w1.heap.size W ∧ W.cell? ⟨eb, 0, none⟩ = some (.slice (some ⟨hb, 0, none⟩) n n) ∧ W.cell? ⟨eb, 1, none⟩ = some (.int .i64 at'))
              ((first | exact ⟨(World.Since.refl _ _).drew, d0, d1⟩ | exact ⟨hs2, (h1.since hs2).c0, (h1.since hs2).c1⟩))
              ((first | (go_at_call 15; refine ((unhide HL) _ (hs1.trans (since_mono (B := w1.heap.size) (World.Since.refl _ _).drew (by omega)))).mono ?_; rintro e w2 ⟨rfl, hs2', hr2⟩; have hs2 : w1.Since w1.heap.size w2 := (World.Since.refl _ _).drew.trans hs2')))
            all_goals
              go_wp2_with fail
              go_meet
              case rel => go_light; exact ⟨_, rfl, hwz, hs2, hr2⟩
        case rest =>
          obtain ⟨g, rfl, hg, hs2, hr2⟩ := hcut
          have h2 := h1.since hs2
          have t1 := h2.c1
          have tf := h2.rd.frozen 1
          have hI := h2.setAt (at' + M) (by omega)
          have hsw := hs1.trans (since_mono hs2 hwz)
          have hB : But eb w (wc.setCell ⟨eb, 1, none⟩ (.int .i64 ((at' + M : Nat) : Int))) := (But.of_since hsw).setCell 1 _
          have hge : g ≠ eb := fun e => by
            subst e
            have := hr2.lt
            have hh := h.rd.lt
            omega
          have hT : Txt w.heap.size (wc.setCell ⟨eb, 1, none⟩ (.int .i64 ((at' + M : Nat) : Int))) (some ⟨g, 0, none⟩) M (fun j => z (at' + j)) := Or.inr ⟨g, rfl, hg, hr2.setOther (by show g ≠ eb; exact hge) _⟩
          have ec : ((at' + M : Nat) : Int) = (at' : Int) + (M : Int) := by omega
          rw [ec, hsum] at hI hB hT
          clear HL d0 d1 hlt
          go_wp2_with fail
          go_ret
          exact ⟨⟨_, rfl, hT⟩, hB, hI⟩
  · rw [if_pos hbad]
    have hq : ((bad : Int) != 0) = true := by simp; omega
    go_enter Tryz.func169, Tryz.ntmps169
    go_wp2_with fail
    go_ret
    exact ⟨⟨none, rfl, txt_none _ _ _ _ rfl⟩, But.of_since (World.Since.refl _ _), h⟩
end Go.Proofs.YtonpmabdjngdcaaGreatDoor

/- What is read, written anew, is the bytes that were read: the plain mathematics. -/
namespace Go.Proofs.YtonpmabdjngdcaaGreatDoor
open Go.RowKit

theorem be_div (z : Nat → Nat) (hz : ∀ j, z j < 256) (k : Nat) : ∀ d, be z (k + d) / 256 ^ d = be z k
  | 0 => by simp
  | d + 1 => by
    have e : be z (k + (d + 1)) = be z (k + d) * 256 + z (k + d) := rfl
    have h := hz (k + d)
    rw [e, Nat.pow_succ, Nat.mul_comm (256 ^ d) 256, ← Nat.div_div_eq_div_mul, show (be z (k + d) * 256 + z (k + d)) / 256 = be z (k + d) by omega]
    exact be_div z hz k d
theorem fl_be (z : Nat → Nat) (hz : ∀ j, z j < 256) (width : Nat) : fl width (be z width) = (List.range width).map z := by
  unfold fl
  apply List.map_congr_left
  intro i hi
  have hi := List.mem_range.1 hi
  have e : width = (i + 1) + (width - 1 - i) := by omega
  have h1 := be_div z hz (i + 1) (width - 1 - i)
  rw [← e] at h1
  rw [h1]
  show (be z i * 256 + z i) % 256 = z i
  have := hz i
  omega
theorem range_cat (z : Nat → Nat) (a b : Nat) : (List.range a).map z ++ (List.range b).map (fun j => z (a + j)) = (List.range (a + b)).map z := by
  rw [List.range_add, List.map_append, List.map_map]; rfl

theorem vs_shift (z : Nat → Nat) : ∀ s, vs z (s + 1) = z 0 % 128 + 128 * vs (fun j => z (j + 1)) s
  | 0 => by simp [vs]
  | s + 1 => by
    have h := vs_shift z s
    have e1 : vs z (s + 1 + 1) = vs z (s + 1) + z (s + 1) % 128 * 128 ^ (s + 1) := rfl
    have e2 : vs (fun j => z (j + 1)) (s + 1) = vs (fun j => z (j + 1)) s + z (s + 1) % 128 * 128 ^ s := rfl
    rw [e1, e2, h, Nat.pow_succ, Nat.mul_add]
    have : z (s + 1) % 128 * (128 ^ s * 128) = 128 * (z (s + 1) % 128 * 128 ^ s) := by rw [← Nat.mul_assoc, Nat.mul_comm]
    omega
/-- A number in its shortest form: digits that go on, a last one that doesn't, and that isn't 0 but alone. -/
structure Shape (z : Nat → Nat) (s : Nat) : Prop where
  pos : 0 < s
  byte : ∀ j, z j < 256
  more : ∀ j, j + 1 < s → 128 ≤ z j
  last : z (s - 1) < 128
  nz : z (s - 1) = 0 → s = 1
theorem vl_shape : ∀ (s f : Nat) (z : Nat → Nat), Shape z s → s ≤ f + 1 → vl f (vs z s) = (List.range s).map z
  | 0, f, z, h, _ => absurd h.pos (Nat.lt_irrefl _)
  | 1, f, z, h, _ => by
    have h1 := h.last
    have h2 : z 0 < 128 := h1
    have e : vs z 1 = z 0 := by simp [vs]; omega
    rw [e]
    cases f with
    | zero => show [z 0 % 256] = [z 0]; rw [Nat.mod_eq_of_lt (by omega)]
    | succ f => unfold vl; rw [if_pos h2]; rfl
  | s + 2, f, z, h, hf => by
    have h0 := h.more 0 (by omega)
    have hb := h.byte 0
    have hS : Shape (fun j => z (j + 1)) (s + 1) := ⟨by omega, fun j => h.byte _, fun j hj => h.more (j + 1) (by omega), h.last, fun e => by have := h.nz e; omega⟩
    obtain ⟨g, rfl⟩ : ∃ g, f = g + 1 := ⟨f - 1, by omega⟩
    have ih := vl_shape (s + 1) g (fun j => z (j + 1)) hS (by omega)
    have hpos : 0 < vs (fun j => z (j + 1)) (s + 1) := by
      have e : vs (fun j => z (j + 1)) (s + 1) = vs (fun j => z (j + 1)) s + z (s + 1) % 128 * 128 ^ s := rfl
      have hl : z (s + 1) < 128 := h.last
      have hn : z (s + 1) ≠ 0 := fun e => by have := h.nz e; omega
      have : 0 < z (s + 1) % 128 * 128 ^ s := Nat.mul_pos (by omega) (Nat.pow_pos (by decide))
      omega
    have hN := vs_shift z (s + 1)
    rw [hN]
    unfold vl
    rw [if_neg (by omega), show (z 0 % 128 + 128 * vs (fun j => z (j + 1)) (s + 1)) / 128 = vs (fun j => z (j + 1)) (s + 1) by omega, ih, show (z 0 % 128 + 128 * vs (fun j => z (j + 1)) (s + 1)) % 128 + 128 = z 0 by omega]
    have er : (List.range (s + 2)).map z = z 0 :: (List.range (s + 1)).map (fun j => z (j + 1)) := by
      rw [show s + 2 = (s + 1) + 1 from rfl, List.range_succ_eq_map, List.map_cons, List.map_map]; rfl
    rw [er]
theorem vres_shape (z : Nat → Nat) (hz : ∀ j, z j < 256) (m most : Nat) : ∀ f i, (vres z m most f i).2.2 = 0 → (∀ j, i ≤ j → j + 1 < (vres z m most f i).2.1 → 128 ≤ z j) ∧ z ((vres z m most f i).2.1 - 1) < 128 ∧ (z ((vres z m most f i).2.1 - 1) = 0 → (vres z m most f i).2.1 = 1) ∧ (vres z m most f i).2.1 ≤ i + f
  | 0, i, h => by simp [vres] at h
  | f + 1, i, h => by
    unfold vres at h ⊢
    split at h
    · simp at h
    · next h1 =>
      rw [if_neg h1]
      split at h
      · simp at h
      · next h2 =>
        rw [if_neg h2]
        split at h
        · next h3 =>
          rw [if_pos h3]
          have := vres_shape z hz m most f (i + 1) h
          refine ⟨fun j hj hj2 => ?_, this.2.1, this.2.2.1, by omega⟩
          rcases Nat.eq_or_lt_of_le hj with e | e
          · rw [← e]; exact h3
          · exact this.1 j (by omega) hj2
        · next h3 =>
          rw [if_neg h3]
          split at h
          · simp at h
          · next h4 =>
            rw [if_neg h4]
            split at h
            · simp at h
            · next h5 =>
              rw [if_neg h5]
              refine ⟨fun j hj hj2 => ?_, ?_, ?_, by show i + 1 ≤ i + (f + 1); omega⟩
              · have : j + 1 < i + 1 := hj2
                omega
              · show z (i + 1 - 1) < 128
                rw [Nat.add_sub_cancel]; omega
              · show z (i + 1 - 1) = 0 → i + 1 = 1
                rw [Nat.add_sub_cancel]; omega
/-- WHAT IS READ AS A NUMBER, WRITTEN ANEW. -/
theorem vl_read (z : Nat → Nat) (hz : ∀ j, z j < 256) (m most : Nat) (h : (vlook z m most).2.2 = 0) : vl 9 (vlook z m most).1 = (List.range (vlook z m most).2.1).map z := by
  obtain ⟨h1, h2, h3, h4⟩ := vlook_size z m most h
  obtain ⟨g1, g2, g3, g4⟩ := vres_shape z hz m most 10 0 h
  rw [h3]
  exact vl_shape _ 9 z ⟨h2, hz, fun j hj => g1 j (Nat.zero_le _) hj, g2, g3⟩ (by have : (vlook z m most).2.1 ≤ 0 + 10 := g4; omega)
theorem vlook_lt (z : Nat → Nat) (hz : ∀ j, z j < 256) (m most : Nat) (hm : most < 18446744073709551616) : (vlook z m most).1 < 18446744073709551616 := by
  by_cases h : (vlook z m most).2.2 = 0
  · have := (vlook_size z m most h).2.2.2; have := hz 0; omega
  · rw [(vlook_bad z m most h).1]; decide
end Go.Proofs.YtonpmabdjngdcaaGreatDoor

/- The document's Reader: numbers of fixed size, End, and the place of a number's last byte. -/
namespace Go.Proofs.YtonpmabdjngdcaaGreatDoor
open Go.RowKit
set_option maxRecDepth 100000

theorem txt_byt' {B : Nat} {w : World} {ta : Option Addr} {l : Nat} {tx : Nat → Nat} (h : Txt B w ta l tx) : Byt w ta l tx ∧ (ta = none → l = 0 ∧ l = 0) ∧ ∀ b off, ta = some ⟨b, off, none⟩ → B ≤ b := by
  rcases h with ⟨rfl, rfl⟩ | ⟨t, rfl, hb, hr⟩
  · exact ⟨fun j hj => absurd hj (Nat.not_lt_zero _), fun _ => ⟨rfl, rfl⟩, fun b off e => by cases e⟩
  · exact ⟨Byt.of_row hr, (fun e => by cases e), (fun b off e => by cases e; exact hb)⟩
theorem fix_raw (z : Nat → Nat) (n k at' bad : Nat) : fixAns z n k at' bad = (be (fun j => z (at' + j)) (rawAns n k at' bad).1, (rawAns n k at' bad).2.2.1, (rawAns n k at' bad).2.2.2) := by
  unfold fixAns rawAns
  by_cases hb : bad ≠ 0
  · rw [if_pos hb, if_pos hb]; rfl
  · rw [if_neg hb, if_neg hb, if_neg (show ¬ ((k : Int) < 0) by omega), Int.toNat_natCast]
    unfold rlook
    by_cases hs : n - at' < k
    · rw [if_pos hs, if_pos hs]; rfl
    · rw [if_neg hs, if_neg hs]
theorem raw_from (n : Nat) (k : Int) (at' bad : Nat) : (rawAns n k at' bad).2.1 = at' := by
  unfold rawAns
  split
  · rfl
  · split <;> rfl
theorem raw_le (n k at' bad : Nat) : (rawAns n k at' bad).1 ≤ k := by
  unfold rawAns
  split
  · exact Nat.zero_le _
  · rw [if_neg (by omega), Int.toNat_natCast]
    unfold rlook
    split
    · exact Nat.zero_le _
    · exact Nat.le_refl _

set_option maxHeartbeats 800000 in
theorem eyeFixed (eb hb n at' bad k : Nat) (z : Nat → Nat) (w : World) (h : IsE w eb hb n z at' bad) (hk : k ≤ 8) :
    Calls Tryz.prog 166 #[.pointer (some ⟨eb, 0, none⟩), .int .i64 k] w fun e w' => e = .returned (.int .u64 ((fixAns z n k at' bad).1 : Nat)) ∧ But eb w w' ∧ IsE w' eb hb n z (fixAns z n k at' bad).2.1 (fixAns z n k at' bad).2.2 := by
  have hr := eyeRaw eb hb n at' bad k z w h (by omega)
  have hkl := raw_le n k at' bad
  rw [fix_raw]
  rw [raw_from] at hr
  have hz := h.byte
  generalize rawAns n k at' bad = V at *
  obtain ⟨l, fr, at2, bad2⟩ := V
  replace hkl : l ≤ k := hkl
  go_enter Tryz.func166, Tryz.ntmps166
  go_wp2_with fail
  refine hr.mono ?_
  rintro e w1 ⟨⟨ta, rfl, htx⟩, hB, hI⟩
  obtain ⟨hy, _, _⟩ := txt_byt' htx
  clear hr htx
  go_wp2_with fail
  go_loopg [6, 7] l (fun q s6 s7 wx => ∃ i : Nat, i ≤ l ∧ q = l - i ∧ s6 = .int .u64 (be (fun j => z (at' + j)) i : Nat) ∧ s7 = .int .i64 i ∧ wx = w1)
  case atStart => exact ⟨0, Nat.zero_le _, rfl, rfl, rfl, rfl⟩
  case round =>
    obtain ⟨i, hi, rfl, rfl, rfl, hwx⟩ := hrel
    subst hwx
    by_cases hlt : i < l
    · have hlz : (i : Int) < (l : Int) := by omega
      obtain ⟨b, off, rfl, hc0⟩ := hy i hlt
      have hc : wr.cell? ⟨b, off + i, none⟩ = some (.int .u8 (z (at' + i) : Nat)) := hc0
      have b1 := be_lt64 (fun j => z (at' + j)) (fun j => hz _) (i + 1) (by omega)
      have e1 : be (fun j => z (at' + j)) (i + 1) = be (fun j => z (at' + j)) i * 256 + z (at' + i) := rfl
      have b2 : be (fun j => z (at' + j)) i * 256 < 18446744073709551616 := by omega
      have b3 := hz (at' + i)
      have hsum : ((be (fun j => z (at' + j)) i : Nat) : Int) * 256 + ((z (at' + i) : Nat) : Int) = ((be (fun j => z (at' + j)) (i + 1) : Nat) : Int) := by omega
      clear hy e1 hc0
      generalize hN1 : be (fun j => z (at' + j)) (i + 1) = N1 at *
      generalize be (fun j => z (at' + j)) i = N0 at *
      generalize z (at' + i) = c at *
      go_wp2_with fail
      go_roundg (l - (i + 1))
      case measure => go_light; omega
      case rel => go_light; exact ⟨i + 1, by omega, rfl, by rw [hN1], by simp, rfl⟩
    · obtain rfl : i = l := by omega
      go_wp2_with fail
      go_ret
      exact ⟨rfl, hB, hI⟩

theorem eyeU8 (eb hb n at' bad : Nat) (z : Nat → Nat) (w : World) (h : IsE w eb hb n z at' bad) :
    Calls Tryz.prog 143 #[.pointer (some ⟨eb, 0, none⟩)] w fun e w' => e = .returned (.int .u8 ((fixAns z n 1 at' bad).1 : Nat)) ∧ But eb w w' ∧ IsE w' eb hb n z (fixAns z n 1 at' bad).2.1 (fixAns z n 1 at' bad).2.2 := by
  have hr := eyeFixed eb hb n at' bad 1 z w h (by decide)
  have hlt : (fixAns z n 1 at' bad).1 < 256 := by
    rw [fix_raw]
    exact Nat.lt_of_lt_of_le (be_lt _ (fun j => h.byte _) _) (Nat.pow_le_pow_right (n := 256) (by decide) (raw_le n 1 at' bad))
  generalize fixAns z n 1 at' bad = V at *
  obtain ⟨A, a2, b2⟩ := V
  go_enter Tryz.func143, Tryz.ntmps143
  go_wp2_with fail
  refine hr.mono ?_
  rintro e w1 ⟨rfl, hB, hI⟩
  go_wp2
  go_ret
  exact ⟨rfl, hB, hI⟩

/-- The first place of the first ten that has a byte below 128. -/
def lastAt (z : Nat → Nat) (m : Nat) : Nat → Nat → Option Nat
  | 0, _ => none
  | f + 1, i => if i < m then (if z i < 128 then some i else lastAt z m f (i + 1)) else none

set_option maxHeartbeats 1600000 in
theorem eyeLast (eb hb n at' bad : Nat) (z : Nat → Nat) (w : World) (h : IsE w eb hb n z at' bad) (R : Option Nat) (hR : lastAt (fun j => z (at' + j)) (n - at') 10 0 = R) :
    Calls Tryz.prog 167 #[.pointer (some ⟨eb, 0, none⟩)] w fun e w' => e = .returned (.int .i64 (match R with | none => -1 | some i => ((at' + i : Nat) : Int))) ∧ w.Since w.heap.size w' := by
  have hle := h.le
  have hroom := h.room
  go_enter Tryz.func167, Tryz.ntmps167
  go_wp2_with fail
  go_loopg [3] 10 (fun q s3 wx => ∃ i : Nat, i ≤ 10 ∧ q = 10 - i ∧ s3 = .int .i64 i ∧ w.Since w.heap.size wx ∧ lastAt (fun j => z (at' + j)) (n - at') (10 - i) i = R)
  case atStart => exact ⟨0, by omega, rfl, rfl, World.Since.refl _ _, hR⟩
  case round =>
    obtain ⟨i, hi, rfl, rfl, hs, hv⟩ := hrel
    have h1 := h.since hs
    have c0 := h1.c0
    have c1 := h1.c1
    by_cases h10 : i = 10
    · subst h10
      obtain rfl : none = R := hv
      go_wp2_with fail
      go_quiet (fail)
      go_wp2_with fail
      go_ret
      exact ⟨rfl, since_drewN' hs _⟩
    · obtain ⟨f, hf⟩ : ∃ f, 10 - i = f + 1 := ⟨9 - i, by omega⟩
      rw [hf] at hv
      unfold lastAt at hv
      have hi10 : (i : Int) < 10 := by omega
      obtain ⟨E, hE, hsum⟩ : ∃ E : Nat, at' + i = E ∧ (at' : Int) + (i : Int) = (E : Int) := ⟨at' + i, rfl, by omega⟩
      have hwE : IntKind.i64.wrap (E : Int) = (E : Int) := by rw [IntKind.wrap_i64]; omega
      have hwS : IntKind.i64.wrap ((at' : Int) + (i : Int)) = (E : Int) := by rw [hsum]; exact hwE
      have hf' : f = 9 - i := by omega
      by_cases hin : i < n - at'
      · rw [if_pos hin] at hv
        have hlt : (E : Int) < (n : Int) := by omega
        have cz : wr.cell? ⟨hb, E, none⟩ = some (.int .u8 (z E : Nat)) := h1.row.cell (i := E) (by omega)
        have hv1 : (if z E < 128 then some i else lastAt (fun j => z (at' + j)) (n - at') f (i + 1)) = R := by rw [← hE]; exact hv
        clear hv hf
        go_wp2_with fail
        go_quiet (fail)
        have hs2 := since_drewN' hs nq
        have h2 := h.since hs2
        have c0' := h2.c0
        have c1' := h2.c1
        have cz' : (wr.drewN nq).cell? ⟨hb, E, none⟩ = some (.int .u8 (z E : Nat)) := h2.row.cell (i := E) (by omega)
        generalize wr.drewN nq = wq at *
        clear c0 c1 cz h1
        by_cases hz : z E < 128
        · rw [if_pos hz] at hv1
          subst hv1
          have hz' : (z E : Int) < 128 := by omega
          go_wp2_with fail
          go_quiet (fail)
          have hs3 := since_drewN' hs2 nq
          have c1'' := (h.since hs3).c1
          generalize wq.drewN nq = wq2 at *
          go_wp2_with fail
          go_ret
          exact ⟨ret_int (by first | (simp; omega) | simp), hs3⟩
        · rw [if_neg hz] at hv1
          have hz' : ¬ ((z E : Int) < 128) := by omega
          go_wp2_with fail
          go_quiet (fail)
          have hs3 := since_drewN' hs2 nq
          generalize wq.drewN nq = wq2 at *
          go_wp2_with fail
          go_roundg (10 - (i + 1))
          case measure => go_light; omega
          case rel => go_light; exact ⟨i + 1, by omega, rfl, by simp, hs3, by rw [show 10 - (i + 1) = f by omega]; exact hv1⟩
      · rw [if_neg hin] at hv
        subst hv
        have hlt : ¬ ((E : Int) < (n : Int)) := by omega
        clear hf
        go_wp2_with fail
        go_quiet (fail)
        have hs2 := since_drewN' hs nq
        generalize wr.drewN nq = wq at *
        go_wp2_with fail
        go_ret
        exact ⟨rfl, hs2⟩
end Go.Proofs.YtonpmabdjngdcaaGreatDoor

/- What the document's Reader takes for a number, against package code's: the plain mathematics; Eq of bytes that differ. -/
namespace Go.Proofs.YtonpmabdjngdcaaGreatDoor
open Go.RowKit
set_option maxRecDepth 100000

theorem vres_last (z : Nat → Nat) (m most : Nat) : ∀ f i, i + f = 10 → i ≤ m → vres z m most f i = match lastAt z m f i with
    | none => if m < 10 then (0, 0, 10) else (0, 0, 11)
    | some k => if (k = 9 ∧ 1 < z k) ∨ (z k = 0 ∧ 0 < k) then (0, 0, 11) else if most < vs z (k + 1) then (0, 0, 12) else (vs z (k + 1), k + 1, 0)
  | 0, i, hi, him => by
    show ((0, 0, 11) : Nat × Nat × Nat) = if m < 10 then (0, 0, 10) else (0, 0, 11)
    rw [if_neg (by omega)]
  | f + 1, i, hi, him => by
    unfold vres lastAt
    by_cases h1 : i = m
    · rw [if_pos h1, if_neg (by omega)]
      show _ = if m < 10 then (0, 0, 10) else (0, 0, 11)
      rw [if_pos (by omega)]
    · rw [if_neg h1, if_pos (show i < m by omega)]
      by_cases h3 : 128 ≤ z i
      · rw [if_neg (show ¬ z i < 128 by omega)]
        by_cases h2 : i = 9 ∧ 1 < z i
        · rw [if_pos h2]
          obtain rfl : f = 0 := by omega
          show _ = if m < 10 then (0, 0, 10) else (0, 0, 11)
          rw [if_neg (by omega)]
        · rw [if_neg h2, if_pos h3]
          exact vres_last z m most f (i + 1) (by omega) (by omega)
      · rw [if_pos (show z i < 128 by omega)]
        show _ = if (i = 9 ∧ 1 < z i) ∨ (z i = 0 ∧ 0 < i) then ((0, 0, 11) : Nat × Nat × Nat) else if most < vs z (i + 1) then (0, 0, 12) else (vs z (i + 1), i + 1, 0)
        by_cases h2 : i = 9 ∧ 1 < z i
        · rw [if_pos h2, if_pos (Or.inl h2)]
        · rw [if_neg h2, if_neg h3]
          by_cases h4 : z i = 0 ∧ 0 < i
          · rw [if_pos h4, if_pos (Or.inr h4)]
          · rw [if_neg h4, if_neg (show ¬ ((i = 9 ∧ 1 < z i) ∨ (z i = 0 ∧ 0 < i)) from fun h => h.elim h2 h4)]
theorem last_some (z : Nat → Nat) (m : Nat) : ∀ f i k, lastAt z m f i = some k → i ≤ k ∧ k < i + f ∧ k < m ∧ z k < 128 ∧ ∀ j, i ≤ j → j < k → 128 ≤ z j
  | 0, i, k, h => by simp [lastAt] at h
  | f + 1, i, k, h => by
    unfold lastAt at h
    split at h
    · next h1 =>
      split at h
      · next h2 => cases h; exact ⟨Nat.le_refl _, by omega, h1, h2, fun j _ _ => by omega⟩
      · next h2 =>
        obtain ⟨a, b, c, d, e⟩ := last_some z m f (i + 1) k h
        refine ⟨by omega, by omega, c, d, fun j hj hk => ?_⟩
        rcases Nat.eq_or_lt_of_le hj with ee | ee
        · rw [← ee]; omega
        · exact e j (by omega) hk
    · cases h
theorem vs_congr {x y : Nat → Nat} : ∀ s, (∀ j, j < s → x j = y j) → vs x s = vs y s
  | 0, _ => rfl
  | s + 1, h => by
    show vs x s + x s % 128 * 128 ^ s = vs y s + y s % 128 * 128 ^ s
    rw [vs_congr s (fun j hj => h j (by omega)), h s (by omega)]
theorem vs_one (x : Nat → Nat) : vs x 1 = x 0 % 128 := by simp [vs]
theorem vs_vl : ∀ f N, N < 128 ^ (f + 1) → vs (fun j => (vl f N).getD j 0) (vl f N).length = N
  | 0, N, h => by
    show vs (fun j => [N % 256].getD j 0) 1 = N
    rw [vs_one]
    show N % 256 % 128 = N
    have : N < 128 := by simpa using h
    omega
  | f + 1, N, h => by
    unfold vl
    by_cases h1 : N < 128
    · rw [if_pos h1]
      show vs (fun j => [N].getD j 0) 1 = N
      rw [vs_one]
      show N % 128 = N
      omega
    · rw [if_neg h1]
      have ih := vs_vl f (N / 128) (by rw [Nat.pow_succ] at h; omega)
      show vs (fun j => ((N % 128 + 128) :: vl f (N / 128)).getD j 0) ((vl f (N / 128)).length + 1) = N
      rw [vs_shift]
      show (N % 128 + 128) % 128 + 128 * vs (fun j => (vl f (N / 128)).getD j 0) (vl f (N / 128)).length = N
      rw [ih]
      omega
theorem eye_vl_pos (f N : Nat) : 0 < (vl f N).length := by
  cases f with
  | zero => exact Nat.zero_lt_one
  | succ f => unfold vl; split <;> simp
theorem vl_last : ∀ f N, 0 < N → N < 128 ^ (f + 1) → (vl f N).getD ((vl f N).length - 1) 0 ≠ 0
  | 0, N, hp, h => by
    show [N % 256].getD 0 0 ≠ 0
    show N % 256 ≠ 0
    have : N < 128 := by simpa using h
    omega
  | f + 1, N, hp, h => by
    unfold vl
    by_cases h1 : N < 128
    · rw [if_pos h1]
      show N ≠ 0
      omega
    · rw [if_neg h1]
      have ih := vl_last f (N / 128) (by omega) (by rw [Nat.pow_succ] at h; omega)
      have hl := eye_vl_pos f (N / 128)
      show ((N % 128 + 128) :: vl f (N / 128)).getD ((vl f (N / 128)).length + 1 - 1) 0 ≠ 0
      have hL : (vl f (N / 128)).length + 1 - 1 = ((vl f (N / 128)).length - 1) + 1 := by omega
      rw [hL, List.getD_cons_succ]
      exact ih
/-- Bytes that are no number's shortest form. -/
theorem vl_ne (z : Nat → Nat) (k : Nat) (hk : k < 10) (hb : (k = 9 ∧ 1 < z k) ∨ (z k = 0 ∧ 0 < k)) (hz : z k < 128) : ¬ ((vl 9 (vs z (k + 1) % 18446744073709551616)).length = k + 1 ∧ ∀ j, j < k + 1 → (vl 9 (vs z (k + 1) % 18446744073709551616)).getD j 0 = z j) := by
  rintro ⟨h1, h2⟩
  have hlt : vs z (k + 1) % 18446744073709551616 < 18446744073709551616 := Nat.mod_lt _ (by decide)
  generalize hN : vs z (k + 1) % 18446744073709551616 = N at *
  have hp : N < 128 ^ (9 + 1) := Nat.lt_of_lt_of_le hlt (by decide)
  have e1 := vs_vl 9 N hp
  rw [h1, vs_congr (k + 1) h2] at e1
  rcases hb with ⟨rfl, h9⟩ | ⟨h0, hpos⟩
  · have e : vs z (9 + 1) = vs z 9 + z 9 % 128 * 128 ^ 9 := rfl
    have h3 : 2 * 128 ^ 9 ≤ z 9 % 128 * 128 ^ 9 := Nat.mul_le_mul_right _ (by omega)
    omega
  · by_cases hN0 : N = 0
    · subst hN0
      have : (vl 9 0).length = 1 := by decide
      omega
    · have := vl_last 9 N (by omega) hp
      rw [h1, Nat.add_sub_cancel, h2 k (by omega)] at this
      exact this h0
/-- Bytes that are one. -/
theorem vl_eq (z : Nat → Nat) (hz : ∀ j, z j < 256) (k : Nat) (hk : k < 10) (hb : ¬ ((k = 9 ∧ 1 < z k) ∨ (z k = 0 ∧ 0 < k))) (hl : z k < 128) (hm : ∀ j, j < k → 128 ≤ z j) : vs z (k + 1) % 18446744073709551616 = vs z (k + 1) ∧ vl 9 (vs z (k + 1)) = (List.range (k + 1)).map z := by
  have hlt : vs z (k + 1) < 18446744073709551616 := by
    have e : vs z (k + 1) = vs z k + z k % 128 * 128 ^ k := rfl
    by_cases e9 : k = 9
    · subst e9
      have := vs_lt z 9
      have h3 : z 9 % 128 * 128 ^ 9 ≤ 1 * 128 ^ 9 := Nat.mul_le_mul_right _ (by omega)
      omega
    · have h1 := vs_lt z (k + 1)
      have h2 : 128 ^ (k + 1) ≤ 128 ^ 9 := Nat.pow_le_pow_right (by decide) (by omega)
      omega
  exact ⟨Nat.mod_eq_of_lt hlt, vl_shape (k + 1) 9 z ⟨by omega, hz, fun j hj => hm j (by omega), hl, fun e => by
    have e : z k = 0 := e
    omega⟩ (by omega)⟩

set_option maxHeartbeats 800000 in
/-- Cmp of bytes that differ. -/
theorem cmp_diff (a b : Option Addr) (n m c d : Nat) (x y : Nat → Nat) (w : World) (ha : Byt w a n x) (hb : Byt w b m y) (hn : n ≤ 140737488355328) (_hm : m ≤ 140737488355328) (hne : ¬ (n = m ∧ ∀ j, j < n → x j = y j)) :
    Calls Tryz.prog 43 #[.slice a n c, .slice b m d] w fun e w' => (e = .returned (.int .i64 (-1)) ∨ e = .returned (.int .i64 1)) ∧ ∃ k, w' = w.drewN k := by
  go_enter Tryz.func43, Tryz.ntmps43
  go_wp2_with fail
  go_loopg [5] n (fun q s5 wx => ∃ i k : Nat, i ≤ n ∧ i ≤ m ∧ q = n - i ∧ s5 = .int .i64 i ∧ wx = w.drewN k ∧ ∀ j, j < i → x j = y j)
  case atStart => exact ⟨0, 0, Nat.zero_le _, Nat.zero_le _, rfl, rfl, rfl, fun j hj => absurd hj (Nat.not_lt_zero _)⟩
  case round =>
    obtain ⟨i, k, hi, him, rfl, rfl, rfl, hq⟩ := hrel
    by_cases hlt : i < n ∧ i < m
    · obtain ⟨b1, o1, rfl, hc1⟩ := ha i hlt.1
      obtain ⟨b2, o2, rfl, hc2⟩ := hb i hlt.2
      have hc1' : (w.drewN k).cell? ⟨b1, o1 + i, none⟩ = some (.int .u8 (x i : Nat)) := hc1
      have hc2' : (w.drewN k).cell? ⟨b2, o2 + i, none⟩ = some (.int .u8 (y i : Nat)) := hc2
      have hz : (i : Int) < (n : Int) := by omega
      have hz2 : (i : Int) < (m : Int) := by omega
      have HD : Hid (∀ n, (w.drewN k).drewN n = w.drewN (k + n)) := fun n => World.drewN_drewN _ _ _
      generalize w.drewN k = wd at *
      clear hc1 hc2 ha hb
      by_cases h1 : x i < y i
      · have h1' : (x i : Int) < (y i : Int) := by omega
        clear hne hq
        go_wp2_with fail
        go_quiet (fail)
        go_wp2_with fail
        go_ret
        exact ⟨Or.inl rfl, _, (unhide HD) _⟩
      · have h1' : ¬ ((x i : Int) < (y i : Int)) := by omega
        by_cases h2 : y i < x i
        · have h2' : (y i : Int) < (x i : Int) := by omega
          clear hne hq
          go_wp2_with fail
          go_quiet (fail)
          go_wp2_with fail
          go_quiet (fail)
          go_wp2_with fail
          go_ret
          exact ⟨Or.inr rfl, _, by rw [World.drewN_drewN]; exact (unhide HD) _⟩
        · have h2' : ¬ ((y i : Int) < (x i : Int)) := by omega
          have hxy : ∀ j, j < i + 1 → x j = y j := fun j hj => by
            rcases Nat.lt_or_ge j i with h | h
            · exact hq j h
            · obtain rfl : j = i := by omega
              omega
          clear hne hq h1 h2
          have HX := hide hxy
          clear hxy
          go_wp2_with fail
          go_quiet (fail)
          go_wp2_with fail
          go_quiet (fail)
          go_wp2_with fail
          go_roundg (n - (i + 1))
          case measure => go_light; omega
          case rel => go_light; exact ⟨i + 1, _, by omega, by omega, rfl, by simp, by first | exact (unhide HD) _ | (rw [World.drewN_drewN]; exact (unhide HD) _), unhide HX⟩
    · clear ha hb
      have hnm : n ≠ m := fun e => hne ⟨e, fun j hj => hq j (by omega)⟩
      clear hq hne
      have hil : (i : Int) < (n : Int) → ¬ ((i : Int) < (m : Int)) := by omega
      by_cases hin : (i : Int) < (n : Int)
      · have := hil hin
        have h3 : ¬ ((n : Int) < (m : Int)) := by omega
        have h4 : (m : Int) < (n : Int) := by omega
        clear hil
        go_wp2_with fail
        go_ret
        exact ⟨Or.inr rfl, k, rfl⟩
      · have h4 : (n : Int) < (m : Int) := by omega
        clear hil
        go_wp2_with fail
        go_ret
        exact ⟨Or.inl rfl, k, rfl⟩
theorem eq_diff (a b : Option Addr) (n m c d : Nat) (x y : Nat → Nat) (w : World) (ha : Byt w a n x) (hb : Byt w b m y) (hn : n ≤ 140737488355328) (hm : m ≤ 140737488355328) (hne : ¬ (n = m ∧ ∀ j, j < n → x j = y j)) :
    Calls Tryz.prog 13 #[.slice a n c, .slice b m d] w fun e w' => e = .returned (.bool false) ∧ ∃ m, w' = w.drewN m := by
  have hc := cmp_diff a b n m c d x y w ha hb hn hm hne
  go_enter Tryz.func13, Tryz.ntmps13
  go_wp2_with fail
  refine hc.mono ?_
  rintro e w1 ⟨rfl | rfl, k, rfl⟩
  · go_wp2
    go_ret
    exact ⟨rfl, k, rfl⟩
  · go_wp2
    go_ret
    exact ⟨rfl, k, rfl⟩
end Go.Proofs.YtonpmabdjngdcaaGreatDoor

/- The document's Reader: Var. -/
namespace Go.Proofs.YtonpmabdjngdcaaGreatDoor
open Go.RowKit
set_option maxRecDepth 100000

theorem horner (z : Nat → Nat) (d s : Nat) : vs (fun j => z (d + j)) (s + 1) % 18446744073709551616 = (vs (fun j => z (d + 1 + j)) s % 18446744073709551616 * 128 + z d % 128) % 18446744073709551616 := by
  rw [vs_shift]
  have e : vs (fun j => (fun j => z (d + j)) (j + 1)) s = vs (fun j => z (d + 1 + j)) s := vs_congr s (fun j _ => by show z (d + (j + 1)) = z (d + 1 + j); congr 1; omega)
  rw [e]
  show (z (d + 0) % 128 + 128 * _) % _ = _
  rw [Nat.add_zero]
  omega

set_option maxHeartbeats 3200000 in
set_option maxRecDepth 100000 in
theorem eyeVar_some (eb hb n at' most k : Nat) (z : Nat → Nat) (w : World) (h : IsE w eb hb n z at' 0) (hR : lastAt (fun j => z (at' + j)) (n - at') 10 0 = some k) (hn : n ≤ 140737488351232) (A a2 b2 : Nat)
    (hV : (if (k = 9 ∧ 1 < z (at' + k)) ∨ (z (at' + k) = 0 ∧ 0 < k) then ((0, at', 11) : Nat × Nat × Nat) else if most < vs (fun j => z (at' + j)) (k + 1) then (0, at', 12) else (vs (fun j => z (at' + j)) (k + 1), at' + (k + 1), 0)) = (A, a2, b2)) :
    Calls Tryz.prog 144 #[.pointer (some ⟨eb, 0, none⟩), .int .u64 most] w fun e w' => e = .returned (.int .u64 A) ∧ But eb w w' ∧ IsE w' eb hb n z a2 b2 := by
  have hla := eyeLast eb hb n at' 0 z w h _ hR
  obtain ⟨_, hk10, hkm, hkz, hkj⟩ := last_some _ _ _ _ _ hR
  replace hk10 : k < 10 := by omega
  have hle := h.le
  have hz := h.byte
  have c2 := h.c2
  obtain ⟨E, hE⟩ : ∃ E, at' + k = E := ⟨_, rfl⟩
  replace hla : Calls Tryz.prog 167 #[.pointer (some ⟨eb, 0, none⟩)] w fun e w' => e = .returned (.int .i64 (E : Nat)) ∧ w.Since w.heap.size w' := by rw [← hE]; exact hla
  go_enter Tryz.func144, Tryz.ntmps144
  go_wp2_with fail
  refine hla.mono ?_
  rintro e w1 ⟨rfl, hs1⟩
  have h1 := h.since hs1
  have d0 := h1.c0
  have d1 := h1.c1
  clear hla c2
  go_wp2_with fail
  go_loopg [6, 7] (k + 1) (fun q s6 s7 wx => ∃ (d : Nat) (Z : Int), d ≤ k + 1 ∧ d = q ∧ s6 = .int .u64 (vs (fun j => z (at' + (d + j))) (k + 1 - d) % 18446744073709551616 : Nat) ∧ s7 = .int .i64 Z ∧ Z = (at' : Int) + d - 1 ∧ wx = w1)
  case atStart => exact ⟨k + 1, (E : Int), Nat.le_refl _, rfl, by rw [Nat.sub_self]; rfl, rfl, by omega, rfl⟩
  case round =>
    obtain ⟨d, Z, hd, rfl, rfl, rfl, hZ, hwx⟩ := hrel
    subst hwx
    rcases Nat.eq_zero_or_pos d with hd0 | hdp
    · subst hd0
      have hge : ¬ ((at' : Int) ≤ Z) := by omega
      have e0 : vs (fun j => z (at' + (0 + j))) (k + 1 - 0) = vs (fun j => z (at' + j)) (k + 1) := vs_congr (k + 1) (fun j _ => by show z (at' + (0 + j)) = z (at' + j); rw [Nat.zero_add])
      rw [e0]
      clear hR e0
      have hlt64 : vs (fun j => z (at' + j)) (k + 1) % 18446744073709551616 < 18446744073709551616 := Nat.mod_lt _ (by decide)
      obtain ⟨G, hG⟩ : ∃ G, E + 1 = G := ⟨_, rfl⟩
      have hna : ¬ n = at' := by omega
      have hGa : (at' : Int) ≤ (G : Int) := by omega
      have hGn : (G : Int) ≤ (n : Int) := by omega
      have hGs : (E : Int) + 1 = (G : Int) := by omega
      have hwG : IntKind.i64.wrap (G : Int) = (G : Int) := by rw [IntKind.wrap_i64]; omega
      have hwS : IntKind.i64.wrap ((E : Int) + 1) = (G : Int) := by rw [hGs]; exact hwG
      have hG1 : G - at' = k + 1 := by omega
      have hbz : ∀ W, wr.Since wr.heap.size W → Byt W (some ⟨hb, at', none⟩) (k + 1) (fun j => z (at' + j)) := fun W hW => eye_place h1 hW at' (k + 1) (by omega) (fun _ => rfl)
      obtain ⟨BB, hBB, hEq⟩ : ∃ BB : Bool, (BB = true → ¬ ((k = 9 ∧ 1 < z (at' + k)) ∨ (z (at' + k) = 0 ∧ 0 < k)) ∧ vs (fun j => z (at' + j)) (k + 1) % 18446744073709551616 = vs (fun j => z (at' + j)) (k + 1)) ∧ (∀ W aa cc, wr.Since wr.heap.size W → Byt W aa (vl 9 (vs (fun j => z (at' + j)) (k + 1) % 18446744073709551616)).length (fun j => (vl 9 (vs (fun j => z (at' + j)) (k + 1) % 18446744073709551616)).getD j 0) → Calls Tryz.prog 13 #[.slice aa (vl 9 (vs (fun j => z (at' + j)) (k + 1) % 18446744073709551616)).length cc, .slice (some ⟨hb, at', none⟩) (G - at') (n - at')] W fun e w' => e = .returned (.bool BB) ∧ wr.Since wr.heap.size w') ∧ (BB = false → ((k = 9 ∧ 1 < z (at' + k)) ∨ (z (at' + k) = 0 ∧ 0 < k))) := by
        by_cases hcond : (k = 9 ∧ 1 < z (at' + k)) ∨ (z (at' + k) = 0 ∧ 0 < k)
        · refine ⟨false, fun e => (by cases e), fun W aa cc hW hy => ?_, fun _ => hcond⟩
          rw [hG1]
          have hne := vl_ne (fun j => z (at' + j)) k hk10 hcond hkz
          have hlen := vl_len 9 (vs (fun j => z (at' + j)) (k + 1) % 18446744073709551616)
          exact (eq_diff aa _ _ (k + 1) cc (n - at') _ _ W hy (hbz W hW) (by omega) (by omega) (fun hh => hne ⟨hh.1, fun j hj => hh.2 j (by omega)⟩)).mono fun e w' ⟨he, m, hm⟩ => ⟨he, by rw [hm]; exact since_drewN' hW m⟩
        · obtain ⟨g1, g2⟩ := vl_eq (fun j => z (at' + j)) (fun j => hz _) k hk10 hcond hkz (fun j hj => hkj j (Nat.zero_le _) hj)
          refine ⟨true, fun _ => ⟨hcond, g1⟩, fun W aa cc hW hy => ?_, fun e => (by cases e)⟩
          rw [hG1]
          rw [g1, g2] at hy ⊢
          simp only [List.length_map, List.length_range] at hy ⊢
          have hy' : Byt W aa (k + 1) (fun j => z (at' + j)) := fun j hj => by
            obtain ⟨b, off, ea, hc⟩ := hy j hj
            have hg := getD_range_map (fun j => z (at' + j)) (k + 1) j hj
            simp only [hg] at hc
            exact ⟨b, off, ea, hc⟩
          exact (eq_same aa _ (k + 1) cc (n - at') _ W hy' (hbz W hW) (by omega)).mono fun e w' ⟨he, m, hm⟩ => ⟨he, by rw [hm]; exact since_drewN' hW m⟩
      obtain ⟨hEq, hBF⟩ := hEq
      have hVar : ∀ W, wr.Since wr.heap.size W → Calls Tryz.prog 111 #[.int .u64 (vs (fun j => z (at' + j)) (k + 1) % 18446744073709551616 : Nat)] W fun e w' => ∃ v, e = .returned v ∧ wr.Since wr.heap.size w' ∧ ∃ aa cc, v = .slice aa (vl 9 (vs (fun j => z (at' + j)) (k + 1) % 18446744073709551616)).length cc ∧ Byt w' aa (vl 9 (vs (fun j => z (at' + j)) (k + 1) % 18446744073709551616)).length (fun j => (vl 9 (vs (fun j => z (at' + j)) (k + 1) % 18446744073709551616)).getD j 0) := fun W hW =>
        (refvar 9 _ W (Nat.lt_of_lt_of_le hlt64 (by decide)) hlt64 (by decide)).mono fun e w' ⟨v, he, hs, ho⟩ => by
          obtain ⟨a, c, rfl, hy, _⟩ := own_byt ho
          exact ⟨_, he, hW.trans (since_mono hs hW.size), a, c, rfl, hy⟩
      have hBT : BB = true → vs (fun j => z (at' + j)) (k + 1) % 18446744073709551616 = vs (fun j => z (at' + j)) (k + 1) := fun e => (hBB e).2
      have hV2 : (if BB = true then (if most < vs (fun j => z (at' + j)) (k + 1) % 18446744073709551616 then ((0, at', 12) : Nat × Nat × Nat) else (vs (fun j => z (at' + j)) (k + 1) % 18446744073709551616, at' + (k + 1), 0)) else (0, at', 11)) = (A, a2, b2) := by
        rw [← hV]
        cases BB with
        | true => rw [if_pos rfl, if_neg (hBB rfl).1, hBT rfl]
        | false => rw [if_neg (by decide), if_pos (hBF rfl)]
      have hG2 : at' + (k + 1) = G := by omega
      clear hV hBB hBF hBT hkj hkz hbz hG1
      generalize vs (fun j => z (at' + j)) (k + 1) % 18446744073709551616 = N at *
      have hcell : ∀ W, wr.Since wr.heap.size W → W.cell? ⟨eb, 0, none⟩ = some (.slice (some ⟨hb, 0, none⟩) n n) ∧ W.cell? ⟨eb, 1, none⟩ = some (.int .i64 at') := fun W hW => ⟨(h1.since hW).c0, (h1.since hW).c1⟩
      have HE := hide hEq
      have HV := hide hVar
      clear hEq hVar
      have hZ' : Z < (at' : Int) := by omega
      go_upto_region 14 with fail
      go_region_held3 (fun W => wr.Since wr.heap.size W ∧ W.cell? ⟨eb, 0, none⟩ = some (.slice (some ⟨hb, 0, none⟩) n n) ∧ W.cell? ⟨eb, 1, none⟩ = some (.int .i64 at'))
        ((first | exact ⟨by assumption, hcell _ (by assumption)⟩ | exact ⟨(World.Since.refl _ _).drew, hcell _ (World.Since.refl _ _).drew⟩))
        ((first
          | (go_at_call 111; refine ((unhide HV) _ ?_).mono ?_; (go_split_ands; assumption); rintro e w3 ⟨_, rfl, hs3, aa, cc, rfl, hy3⟩)
          | (go_at_call 13; refine ((unhide HE) _ _ _ ?_ hy3).mono ?_; (go_split_ands; assumption); rintro e w4 ⟨rfl, hs4⟩)))
      all_goals
        have h4 := h1.since hs4
        have hsw : w.Since w.heap.size w4 := hs1.trans (since_mono hs4 hs1.size)
        have f1 := h4.rd.frozen 1
        have f2 := h4.rd.frozen 2
        have g1 := h4.c1
        have g2 := h4.c2
        clear HE HV hcell hy3 hs3
        cases BB with
        | false =>
          rw [if_neg (by decide)] at hV2
          cases hV2
          have hI := h4.setBad 11
          have hB : But eb w (w4.setCell ⟨eb, 2, none⟩ (.int .i64 11)) := (But.of_since hsw).setCell 2 _
          go_wp2_with fail
          go_ret
          exact ⟨rfl, hB, hI⟩
        | true =>
          rw [if_pos rfl] at hV2
          by_cases hmo : most < N
          · rw [if_pos hmo] at hV2
            cases hV2
            have hmo' : (most : Int) < (N : Int) := by omega
            have hI := h4.setBad 12
            have hB : But eb w (w4.setCell ⟨eb, 2, none⟩ (.int .i64 12)) := (But.of_since hsw).setCell 2 _
            go_wp2_with fail
            go_ret
            exact ⟨rfl, hB, hI⟩
          · rw [if_neg hmo] at hV2
            have hmo' : ¬ ((most : Int) < (N : Int)) := by omega
            cases hV2
            have hI := h4.setAt (at' + (k + 1)) (by omega)
            have hB : But eb w (w4.setCell ⟨eb, 1, none⟩ (.int .i64 ((at' + (k + 1) : Nat) : Int))) := (But.of_since hsw).setCell 1 _
            have eG : ((at' + (k + 1) : Nat) : Int) = (G : Int) := by omega
            rw [eG] at hI hB
            clear eG
            go_wp2_with fail
            go_ret
            first | exact ⟨rfl, hB, hI⟩ | exact ⟨rfl, hB, isE_eq hI hG2 rfl⟩ | exact ⟨rfl, hB, isE_eq hI hG2.symm rfl⟩
    · obtain ⟨d', rfl⟩ : ∃ d', d = d' + 1 := ⟨d - 1, by omega⟩
      obtain ⟨P, hP, rfl⟩ : ∃ P : Nat, at' + d' = P ∧ Z = (P : Int) := ⟨at' + d', rfl, by omega⟩
      have hge : (at' : Int) ≤ (P : Int) := by omega
      clear hZ
      have hPn : (P : Int) < (n : Int) := by omega
      have cz : wr.cell? ⟨hb, P, none⟩ = some (.int .u8 (z P : Nat)) := h1.row.cell (i := P) (by omega)
      have hc := hz P
      have hho := horner (fun j => z (at' + j)) d' (k + 1 - (d' + 1))
      rw [show k + 1 - (d' + 1) + 1 = k + 1 - d' by omega] at hho
      replace hho : vs (fun j => z (at' + (d' + j))) (k + 1 - d') % 18446744073709551616 = (vs (fun j => z (at' + (d' + 1 + j))) (k + 1 - (d' + 1)) % 18446744073709551616 * 128 + z P % 128) % 18446744073709551616 := by rw [← hP]; exact hho
      have hX : vs (fun j => z (at' + (d' + 1 + j))) (k + 1 - (d' + 1)) % 18446744073709551616 < 18446744073709551616 := Nat.mod_lt _ (by decide)
      generalize hN1 : vs (fun j => z (at' + (d' + j))) (k + 1 - d') % 18446744073709551616 = N1 at *
      generalize vs (fun j => z (at' + (d' + 1 + j))) (k + 1 - (d' + 1)) % 18446744073709551616 = N0 at *
      have hw : IntKind.u64.wrap (IntKind.u64.wrap ((N0 : Int) * 128) + (z P : Int) % 128) = (N1 : Int) := by
        rw [IntKind.wrap_u64, IntKind.wrap_u64]; omega
      clear hR hV hkj hho
      go_wp2_with fail
      go_roundg d'
      case measure => go_light; omega
      case rel => go_light; exact ⟨d', (P : Int) - 1, by omega, rfl, by rw [hN1], rfl, by omega, rfl⟩
end Go.Proofs.YtonpmabdjngdcaaGreatDoor

/- The document's Reader: Var whatever its place and fault, Text. -/
namespace Go.Proofs.YtonpmabdjngdcaaGreatDoor
open Go.RowKit
set_option maxRecDepth 100000

set_option maxHeartbeats 1600000 in
set_option maxRecDepth 100000 in
theorem eyeVar (eb hb n at' bad most : Nat) (z : Nat → Nat) (w : World) (h : IsE w eb hb n z at' bad) (hn : n ≤ 140737488351232) :
    Calls Tryz.prog 144 #[.pointer (some ⟨eb, 0, none⟩), .int .u64 most] w fun e w' => e = .returned (.int .u64 ((varAns z n most at' bad).1 : Nat)) ∧ But eb w w' ∧ IsE w' eb hb n z (varAns z n most at' bad).2.1 (varAns z n most at' bad).2.2 := by
  unfold varAns
  by_cases hbad : bad = 0
  · subst hbad
    rw [if_neg (by simp)]
    have hvl : vlook (fun j => z (at' + j)) (n - at') most = _ := vres_last (fun j => z (at' + j)) (n - at') most 10 0 rfl (Nat.zero_le _)
    cases hR : lastAt (fun j => z (at' + j)) (n - at') 10 0 with
    | some k =>
      rw [hR] at hvl
      rw [hvl]
      refine eyeVar_some eb hb n at' most k z w h hR hn _ _ _ ?_
      show _ = ((if (k = 9 ∧ 1 < z (at' + k)) ∨ (z (at' + k) = 0 ∧ 0 < k) then ((0, 0, 11) : Nat × Nat × Nat) else if most < vs (fun j => z (at' + j)) (k + 1) then (0, 0, 12) else (vs (fun j => z (at' + j)) (k + 1), k + 1, 0)).1, at' + (if (k = 9 ∧ 1 < z (at' + k)) ∨ (z (at' + k) = 0 ∧ 0 < k) then ((0, 0, 11) : Nat × Nat × Nat) else if most < vs (fun j => z (at' + j)) (k + 1) then (0, 0, 12) else (vs (fun j => z (at' + j)) (k + 1), k + 1, 0)).2.1, (if (k = 9 ∧ 1 < z (at' + k)) ∨ (z (at' + k) = 0 ∧ 0 < k) then ((0, 0, 11) : Nat × Nat × Nat) else if most < vs (fun j => z (at' + j)) (k + 1) then (0, 0, 12) else (vs (fun j => z (at' + j)) (k + 1), k + 1, 0)).2.2)
      by_cases h1 : (k = 9 ∧ 1 < z (at' + k)) ∨ (z (at' + k) = 0 ∧ 0 < k)
      · rw [if_pos h1, if_pos h1]; rfl
      · rw [if_neg h1, if_neg h1]
        by_cases h2 : most < vs (fun j => z (at' + j)) (k + 1)
        · rw [if_pos h2, if_pos h2]; rfl
        · rw [if_neg h2, if_neg h2]
    | none =>
      rw [hR] at hvl
      rw [hvl]
      show Calls _ _ _ _ fun e w' => e = .returned (.int .u64 ((if n - at' < 10 then ((0, 0, 10) : Nat × Nat × Nat) else (0, 0, 11)).1 : Nat)) ∧ But eb w w' ∧ IsE w' eb hb n z (at' + (if n - at' < 10 then ((0, 0, 10) : Nat × Nat × Nat) else (0, 0, 11)).2.1) (if n - at' < 10 then ((0, 0, 10) : Nat × Nat × Nat) else (0, 0, 11)).2.2
      have hla := eyeLast eb hb n at' 0 z w h none hR
      replace hla : Calls Tryz.prog 167 #[.pointer (some ⟨eb, 0, none⟩)] w fun e w' => e = .returned (.int .i64 (-1)) ∧ w.Since w.heap.size w' := hla
      have c2 := h.c2
      clear hvl hR
      by_cases hm : n - at' < 10
      · rw [if_pos hm]
        have hp : ((n - at' : Nat) : Int) < 10 := by omega
        go_enter Tryz.func144, Tryz.ntmps144
        go_wp2_with fail
        refine hla.mono ?_
        rintro e w1 ⟨rfl, hs1⟩
        have h1 := h.since hs1
        have f2 := h1.rd.frozen 2
        have g2 := h1.c2
        have hI := h1.setBad 11
        have hB : But eb w (w1.setCell ⟨eb, 2, none⟩ (.int .i64 11)) := (But.of_since hs1).setCell 2 _
        have e11 : ((11 : Nat) : Int) = 11 := rfl
        rw [e11] at hI
        have hlf := eyeLeft eb hb n at' 11 z _ hI
        clear hla c2
        generalize ((n - at' : Nat) : Int) = LL at *
        go_wp2_with fail
        generalize w1.setCell ⟨eb, 2, none⟩ (.int .i64 11) = w2 at *
        refine hlf.mono ?_
        rintro e w3 ⟨rfl, m3, rfl⟩
        have h3 := hI.since (since_drewN' (World.Since.refl _ _) m3)
        have f3 := h3.rd.frozen 2
        have g3 := h3.c2
        have hI3 := h3.setBad 10
        have hB3 : But eb w ((w2.drewN m3).setCell ⟨eb, 2, none⟩ (.int .i64 10)) := (hB.trans (But.of_since (since_drewN' (World.Since.refl _ _) m3))).setCell 2 _
        generalize w2.drewN m3 = w3 at *
        clear hlf g2 f2
        go_wp2_with fail
        go_ret
        exact ⟨rfl, hB3, hI3⟩
      · rw [if_neg hm]
        have hp : ¬ (((n - at' : Nat) : Int) < 10) := by omega
        go_enter Tryz.func144, Tryz.ntmps144
        go_wp2_with fail
        refine hla.mono ?_
        rintro e w1 ⟨rfl, hs1⟩
        have h1 := h.since hs1
        have f2 := h1.rd.frozen 2
        have g2 := h1.c2
        have hI := h1.setBad 11
        have hB : But eb w (w1.setCell ⟨eb, 2, none⟩ (.int .i64 11)) := (But.of_since hs1).setCell 2 _
        have e11 : ((11 : Nat) : Int) = 11 := rfl
        rw [e11] at hI
        have hlf := eyeLeft eb hb n at' 11 z _ hI
        clear hla c2
        generalize ((n - at' : Nat) : Int) = LL at *
        go_wp2_with fail
        generalize w1.setCell ⟨eb, 2, none⟩ (.int .i64 11) = w2 at *
        refine hlf.mono ?_
        rintro e w3 ⟨rfl, m3, rfl⟩
        have h3 := hI.since (since_drewN' (World.Since.refl _ _) m3)
        have hB3 : But eb w (w2.drewN m3) := hB.trans (But.of_since (since_drewN' (World.Since.refl _ _) m3))
        generalize w2.drewN m3 = w3 at *
        clear hlf g2 f2
        go_wp2_with fail
        go_ret
        exact ⟨rfl, hB3, h3⟩
  · rw [if_pos hbad]
    have hq : ((bad : Int) != 0) = true := by simp; omega
    have c2 := h.c2
    go_enter Tryz.func144, Tryz.ntmps144
    go_wp2_with fail
    go_ret
    exact ⟨rfl, But.of_since (World.Since.refl _ _), h⟩

theorem bytes_parts (z : Nat → Nat) (n most at' bad : Nat) :
    ((rawAns n (varAns z n most at' bad).1 (varAns z n most at' bad).2.1 (varAns z n most at' bad).2.2).2.2.2 ≠ 0 → (bytesAns z n most at' bad).1 = 0 ∧ (bytesAns z n most at' bad).2.2.1 = at' ∧ (bytesAns z n most at' bad).2.2.2 = (rawAns n (varAns z n most at' bad).1 (varAns z n most at' bad).2.1 (varAns z n most at' bad).2.2).2.2.2) ∧
    ((rawAns n (varAns z n most at' bad).1 (varAns z n most at' bad).2.1 (varAns z n most at' bad).2.2).2.2.2 = 0 → (bytesAns z n most at' bad).1 = (rawAns n (varAns z n most at' bad).1 (varAns z n most at' bad).2.1 (varAns z n most at' bad).2.2).1 ∧ (bytesAns z n most at' bad).2.1 = (varAns z n most at' bad).2.1 ∧ (bytesAns z n most at' bad).2.2.1 = (rawAns n (varAns z n most at' bad).1 (varAns z n most at' bad).2.1 (varAns z n most at' bad).2.2).2.2.1 ∧ (bytesAns z n most at' bad).2.2.2 = 0) ∧ (varAns z n most at' bad).1 ≤ most := by
  unfold varAns bytesAns
  by_cases hb : bad ≠ 0
  · rw [if_pos hb, if_pos hb]
    unfold rawAns
    rw [if_pos hb]
    exact ⟨fun _ => ⟨rfl, rfl, rfl⟩, fun h => absurd h hb, Nat.zero_le _⟩
  · rw [if_neg hb, if_neg hb]
    have hvs := vlook_size (fun j => z (at' + j)) (n - at') most
    have hvb := vlook_bad (fun j => z (at' + j)) (n - at') most
    unfold blook
    generalize vlook (fun j => z (at' + j)) (n - at') most = V at *
    obtain ⟨N, s, bv⟩ := V
    unfold rawAns
    by_cases hbv : bv = 0
    · subst hbv
      obtain ⟨g1, _, _, g4⟩ := hvs rfl
      replace g1 : s ≤ n - at' := g1
      replace g4 : N ≤ most := g4
      simp only [ne_eq, not_true_eq_false, if_false]
      rw [if_neg (show ¬ ((N : Int) < 0) by omega), Int.toNat_natCast]
      unfold rlook
      by_cases hN : n - at' - s < N
      · have hN' : n - (at' + s) < N := by omega
        simp only [hN, hN', if_true]
        refine ⟨?_, ?_, g4⟩ <;> simp
      · have hN' : ¬ n - (at' + s) < N := by omega
        simp only [hN, hN', if_false]
        refine ⟨?_, ?_, g4⟩ <;> simp [Nat.add_assoc]
    · obtain ⟨e1, e2⟩ := hvb hbv
      replace e1 : N = 0 := e1
      replace e2 : s = 0 := e2
      subst e1
      subst e2
      simp only [ne_eq, hbv, not_false_eq_true, if_true]
      refine ⟨?_, ?_, Nat.zero_le _⟩ <;> simp

set_option maxHeartbeats 1600000 in
theorem eyeText (eb hb n at' bad : Nat) (most : Int) (z : Nat → Nat) (w : World) (h : IsE w eb hb n z at' bad) (hm : most ≤ 9223372036854775807) (hn : n ≤ 140737488351232) :
    Calls Tryz.prog 145 #[.pointer (some ⟨eb, 0, none⟩), .int .i64 most] w fun e w' => (∃ ta, e = .returned (.slice ta (bytesAns z n most.toNat at' bad).1 (bytesAns z n most.toNat at' bad).1) ∧ Txt w.heap.size w' ta (bytesAns z n most.toNat at' bad).1 (fun j => z ((bytesAns z n most.toNat at' bad).2.1 + j))) ∧ But eb w w' ∧ IsE w' eb hb n z (bytesAns z n most.toNat at' bad).2.2.1 (bytesAns z n most.toNat at' bad).2.2.2 := by
  obtain ⟨M, hM, hMb⟩ : ∃ M : Nat, M = most.toNat ∧ M < 9223372036854775808 := ⟨_, rfl, by omega⟩
  rw [← hM]
  have hle := h.le
  have c1 := h.c1
  have key : ∀ (X : Int), X = (M : Int) → Calls Tryz.prog 144 #[.pointer (some ⟨eb, 0, none⟩), .int .u64 X] w fun e w' => e = .returned (.int .u64 ((varAns z n M at' bad).1 : Nat)) ∧ But eb w w' ∧ IsE w' eb hb n z (varAns z n M at' bad).2.1 (varAns z n M at' bad).2.2 := fun X hX => by rw [hX]; exact eyeVar eb hb n at' bad M z w h hn
  obtain ⟨p1, p2, p3⟩ := bytes_parts z n M at' bad
  generalize bytesAns z n M at' bad = BB at *
  obtain ⟨bl, bf, ba, bb⟩ := BB
  generalize varAns z n M at' bad = V at *
  obtain ⟨A, a2, b2⟩ := V
  replace p3 : A ≤ M := p3
  have raw : ∀ w1, IsE w1 eb hb n z a2 b2 → Calls Tryz.prog 169 #[.pointer (some ⟨eb, 0, none⟩), .int .i64 (A : Nat)] w1 fun e w' => (∃ ta, e = .returned (.slice ta (rawAns n A a2 b2).1 (rawAns n A a2 b2).1) ∧ Txt w1.heap.size w' ta (rawAns n A a2 b2).1 (fun j => z (a2 + j))) ∧ But eb w1 w' ∧ IsE w' eb hb n z (rawAns n A a2 b2).2.2.1 (rawAns n A a2 b2).2.2.2 := fun w1 h1 => by
    have := eyeRaw eb hb n a2 b2 A z w1 h1 (by omega)
    rw [raw_from] at this
    exact this
  generalize rawAns n A a2 b2 = R at *
  obtain ⟨l, fr, a3, b3⟩ := R
  have HK := hide key
  have HR := hide raw
  clear key raw
  have hA64 : (A : Int) < 9223372036854775808 := by omega
  obtain ⟨X0, hX0, hcase⟩ : ∃ X0 : Int, X0 = (M : Int) ∧ ((most < 0 ∧ X0 = 0) ∨ (¬ most < 0 ∧ X0 = most)) := by
    by_cases hneg : most < 0
    · exact ⟨0, by omega, Or.inl ⟨hneg, rfl⟩⟩
    · exact ⟨most, by omega, Or.inr ⟨hneg, rfl⟩⟩
  clear hM
  rcases hcase with ⟨hneg, rfl⟩ | ⟨hneg, rfl⟩
  all_goals
    go_enter Tryz.func145, Tryz.ntmps145
    have HX := hide hX0
    clear hX0
    go_wp2_with fail
    refine ((unhide HK) _ (unhide HX)).mono ?_
    rintro e w1 ⟨rfl, hB1, hI1⟩
    have hr1 := (unhide HR) w1 hI1
    clear HK HR
    go_wp2_with fail
    refine hr1.mono ?_
    rintro e w2 ⟨⟨ta, rfl, htx⟩, hB2, hI2⟩
    have g2 := hI2.c2
    have hB := hB1.trans hB2
    clear hr1
    by_cases hb3 : b3 = 0
    · obtain ⟨q1, q2, q3, q4⟩ := p2 hb3
      replace q1 : bl = l := q1
      replace q2 : bf = a2 := q2
      replace q3 : ba = a3 := q3
      replace q4 : bb = 0 := q4
      subst q1
      subst q2
      subst q3
      subst q4
      subst hb3
      clear p1 p2
      go_wp2_with fail
      go_ret
      exact ⟨⟨ta, rfl, htx.mono' hB1.size⟩, hB, hI2⟩
    · obtain ⟨q1, q3, q4⟩ := p1 hb3
      replace q1 : bl = 0 := q1
      replace q3 : ba = at' := q3
      replace q4 : bb = b3 := q4
      subst q1
      subst q3
      subst q4
      have hq : ((bb : Int) != 0) = true := by simp; omega
      have f1 := hI2.rd.frozen 1
      have g1 := hI2.c1
      have hI3 := hI2.setAt ba hle
      have hB3 := hB.setCell 1 (.int .i64 (ba : Int))
      clear p1 p2
      go_wp2_with fail
      go_ret
      exact ⟨⟨none, rfl, txt_none _ _ _ _ rfl⟩, hB3, hI3⟩
end Go.Proofs.YtonpmabdjngdcaaGreatDoor
