/- What a Reader is in memory; the walk of its next. -/
import Derived.Test.YtbmdnlomhnodeabDoorFixed
import Derived.Deep.RegionHeld3
namespace Go.Proofs.YtbmdnlomhnodeabDoor
open Go.RowKit
set_option maxRecDepth 100000

/-- Nothing that was there has turned but block r. -/
structure But (r : Nat) (w w' : World) : Prop where
  os : w'.os = w.os
  tape : w'.tape = w.tape
  output : w'.output = w.output
  size : w.heap.size ≤ w'.heap.size
  block : ∀ k, k < w.heap.size → k ≠ r → w'.heap[k]? = w.heap[k]?
theorem But.of_since {r : Nat} {w w' : World} (h : w.Since w.heap.size w') : But r w w' := ⟨h.os, h.tape, h.output, h.size, fun k hk _ => h.block k hk⟩
theorem But.trans {r : Nat} {a b c : World} (h : But r a b) (k : But r b c) : But r a c :=
  ⟨k.os.trans h.os, k.tape.trans h.tape, k.output.trans h.output, Nat.le_trans h.size k.size, fun i hi hr => (k.block i (Nat.lt_of_lt_of_le hi h.size) hr).trans (h.block i hi hr)⟩
theorem But.setCell {r : Nat} {w w' : World} (h : But r w w') (i : Nat) (v : Value) : But r w (w'.setCell ⟨r, i, none⟩ v) :=
  ⟨h.os, h.tape, h.output, by have := h.size; simpa [World.setCell] using this, fun k hk hr => by rw [Below.heap_setCell _ _ _ _ hr]; exact h.block k hk hr⟩
theorem But.drew {r : Nat} {w w' : World} (h : But r w w') : But r w w'.drew := ⟨h.os, h.tape, h.output, h.size, h.block⟩
theorem But.since {r B : Nat} {w0 w w' : World} (h0 : w0.Since B w) (hB : B ≤ r) (hB2 : B ≤ w.heap.size) (h : But r w w') : w0.Since B w' :=
  ⟨h.os.trans h0.os, h.tape.trans h0.tape, h.output.trans h0.output, Nat.le_trans h0.size h.size, fun k hk => (h.block k (by omega) (by omega)).trans (h0.block k hk)⟩
theorem But.row {r b t n : Nat} {w w' : World} {f : Nat → Value} (h : But r w w') (hr : w.rowIs b t n f) (hb : b ≠ r) : w'.rowIs b t n f := hr.of_block (h.block b hr.lt hb)

/-- The cells of a Reader. -/
def rdCell (hb n at' bad : Nat) : Nat → Value
  | 0 => .slice (some ⟨hb, 0, none⟩) n n
  | 1 => .int .i64 at'
  | _ => .int .i64 bad
structure IsR (w : World) (rb hb n : Nat) (z : Nat → Nat) (at' bad : Nat) : Prop where
  rd : w.rowIs rb 89 3 (rdCell hb n at' bad)
  row : w.rowIs hb 5 n (fun j => .int .u8 (z j : Nat))
  ne : hb ≠ rb
  byte : ∀ j, z j < 256
  le : at' ≤ n
  room : n ≤ 281474976710656
theorem IsR.since {w w' : World} {rb hb n at' bad : Nat} {z : Nat → Nat} (h : IsR w rb hb n z at' bad) (hs : w.Since w.heap.size w') : IsR w' rb hb n z at' bad :=
  ⟨row_since h.rd hs, row_since h.row hs, h.ne, h.byte, h.le, h.room⟩
theorem IsR.but {r : Nat} {w w' : World} {rb hb n at' bad : Nat} {z : Nat → Nat} (h : IsR w rb hb n z at' bad) (hs : But r w w') (h1 : rb ≠ r) (h2 : hb ≠ r) : IsR w' rb hb n z at' bad :=
  ⟨hs.row h.rd h1, hs.row h.row h2, h.ne, h.byte, h.le, h.room⟩
theorem IsR.setAt {w : World} {rb hb n at' bad : Nat} {z : Nat → Nat} (h : IsR w rb hb n z at' bad) (q : Nat) (hq : q ≤ n) : IsR (w.setCell ⟨rb, 1, none⟩ (.int .i64 q)) rb hb n z q bad :=
  ⟨(h.rd.set 1 _).congr (fun i hi => by
      match i, hi with
      | 0, _ => rfl
      | 1, _ => rfl
      | 2, _ => rfl), h.row.setOther (by show hb ≠ rb; exact h.ne) _, h.ne, h.byte, hq, h.room⟩
theorem IsR.setBad {w : World} {rb hb n at' bad : Nat} {z : Nat → Nat} (h : IsR w rb hb n z at' bad) (q : Nat) : IsR (w.setCell ⟨rb, 2, none⟩ (.int .i64 q)) rb hb n z at' q :=
  ⟨(h.rd.set 2 _).congr (fun i hi => by
      match i, hi with
      | 0, _ => rfl
      | 1, _ => rfl
      | 2, _ => rfl), h.row.setOther (by show hb ≠ rb; exact h.ne) _, h.ne, h.byte, h.le, h.room⟩
theorem IsR.drew {w : World} {rb hb n at' bad : Nat} {z : Nat → Nat} (h : IsR w rb hb n z at' bad) : IsR w.drew rb hb n z at' bad := ⟨h.rd.drew, h.row.drew, h.ne, h.byte, h.le, h.room⟩
theorem IsR.c0 {w : World} {rb hb n at' bad : Nat} {z : Nat → Nat} (h : IsR w rb hb n z at' bad) : w.cell? ⟨rb, 0, none⟩ = some (.slice (some ⟨hb, 0, none⟩) n n) := h.rd.cell (by decide)
theorem IsR.c1 {w : World} {rb hb n at' bad : Nat} {z : Nat → Nat} (h : IsR w rb hb n z at' bad) : w.cell? ⟨rb, 1, none⟩ = some (.int .i64 at') := h.rd.cell (by decide)
theorem IsR.c2 {w : World} {rb hb n at' bad : Nat} {z : Nat → Nat} (h : IsR w rb hb n z at' bad) : w.cell? ⟨rb, 2, none⟩ = some (.int .i64 bad) := h.rd.cell (by decide)

theorem But.setNew {r : Nat} {w w' : World} (h : But r w w') {a : Addr} (ha : w.heap.size ≤ a.block) (v : Value) : But r w (w'.setCell a v) :=
  ⟨h.os, h.tape, h.output, by have := h.size; simpa [World.setCell] using this, fun k hk hr => by rw [Below.heap_setCell _ _ _ _ (by omega)]; exact h.block k hk hr⟩
theorem IsR.setOther {w : World} {rb hb n at' bad : Nat} {z : Nat → Nat} (h : IsR w rb hb n z at' bad) {a : Addr} (h1 : rb ≠ a.block) (h2 : hb ≠ a.block) (v : Value) : IsR (w.setCell a v) rb hb n z at' bad :=
  ⟨h.rd.setOther h1 v, h.row.setOther h2 v, h.ne, h.byte, h.le, h.room⟩

/-- A text in new memory, or none. -/
def Txt (B : Nat) (w : World) (ta : Option Addr) (l : Nat) (tx : Nat → Nat) : Prop :=
  (ta = none ∧ l = 0) ∨ ∃ t, ta = some ⟨t, 0, none⟩ ∧ B ≤ t ∧ w.rowIs t 5 l (fun j => .int .u8 (tx j : Nat))
theorem Txt.since {B : Nat} {w w' : World} {ta : Option Addr} {l : Nat} {tx : Nat → Nat} (h : Txt B w ta l tx) (hs : w.Since w.heap.size w') : Txt B w' ta l tx := by
  rcases h with h | ⟨t, e, hb, hr⟩
  · exact Or.inl h
  · exact Or.inr ⟨t, e, hb, row_since hr hs⟩

theorem Txt.setOther {B : Nat} {w : World} {ta : Option Addr} {l : Nat} {tx : Nat → Nat} (h : Txt B w ta l tx) {a : Addr} (ha : a.block < B) (v : Value) : Txt B (w.setCell a v) ta l tx := by
  rcases h with h | ⟨t, e, hb, hr⟩
  · exact Or.inl h
  · exact Or.inr ⟨t, e, hb, hr.setOther (by omega) v⟩
theorem Txt.mono {B B' : Nat} {w : World} {ta : Option Addr} {l : Nat} {tx : Nat → Nat} (h : Txt B w ta l tx) (hB : B' ≤ B) : Txt B' w ta l tx := by
  rcases h with h | ⟨t, e, hb, hr⟩
  · exact Or.inl h
  · exact Or.inr ⟨t, e, by omega, hr⟩

/-- next BEHIND A FAULT. -/
theorem next_bad (rb hb n at' bad : Nat) (z : Nat → Nat) (k bound : Int) (w : World) (h : IsR w rb hb n z at' bad) (hbad : bad ≠ 0) :
    Calls Tryd.prog 48 #[.pointer (some ⟨rb, 0, none⟩), .int .i64 k, .int .u64 bound] w fun e w' => e = .returned item0 ∧ w.Since w.heap.size w' := by
  have c2 := h.c2
  have hlt := World.block_lt_of_cell? _ _ c2
  have hq : ((bad : Int) != 0) = true := by simp; omega
  go_enter Tryd.func48, Tryd.ntmps48
  go_wp2_with fail
  exact bodyPost_ret (v := item0) (by simp [results, Tryd.results48, go_sem]) rfl ⟨rfl, (World.Since.refl _ _).alloc (Nat.le_refl _) _⟩

/-- What look says in every later world: its item, its fault. -/
def Looks (w : World) (sa : Option Addr) (m : Nat) (k bound : Int) (N l size bd : Nat) (tx : Nat → Nat) : Prop :=
  ∀ W, w.Since w.heap.size W → Calls Tryd.prog 67 #[.int .i64 k, .slice sa m m, .int .u64 bound] W fun e w' =>
    (∃ ta, e = .returned (.tuple #[.agg #[.int .u64 N, .slice ta l l, .int .i64 size], .int .i64 bd]) ∧ Txt W.heap.size w' ta l tx) ∧ W.Since W.heap.size w'

/-- Behind the region that looks: the item lies in a block of its own. -/
structure Seen (w wx : World) (ib : Nat) (ta : Option Addr) (N l size : Nat) (tx : Nat → Nat) : Prop where
  since : w.Since w.heap.size wx
  out : wx.rowIs w.heap.size 91 3 (itemCell 0 none 0 0)
  it : wx.rowIs ib 91 3 (itemCell N ta l size)
  lt : w.heap.size < ib
  txt : Txt (w.heap.size + 1) wx ta l tx

theorem seen_a {w w1 w' : World} {ta : Option Addr} {N l size : Nat} {tx : Nat → Nat} (e0 : w1.heap.size = w.heap.size + 1) (hs0 : w.Since w.heap.size w1) (hr0 : w1.rowIs w.heap.size 91 3 (itemCell 0 none 0 0))
    (hs : w1.drew.Since w1.drew.heap.size w') (htx : Txt w1.drew.heap.size w' ta l tx) :
    Seen w (w'.alloc (.cells #[.int .u64 N, .slice ta l l, .int .i64 size] 91)) w'.heap.size ta N l size tx := by
  have hz : w1.heap.size ≤ w'.heap.size := hs.size
  have hs' : w.Since w.heap.size w' := hs0.drew.trans (since_mono hs (by show w.heap.size ≤ w1.heap.size; omega))
  refine ⟨hs'.alloc (by omega) _, (row_since hr0.drew hs).alloc _, item_row w' N ta l size, by omega, ?_⟩
  rcases htx with h | ⟨t, e, hb, hr⟩
  · exact Or.inl h
  · exact Or.inr ⟨t, e, by have : w1.heap.size ≤ t := hb
                           omega, hr.alloc _⟩
theorem seen_b {w w1 w' : World} {ta : Option Addr} {N l size : Nat} {tx : Nat → Nat} (e0 : w1.heap.size = w.heap.size + 1) (hs0 : w.Since w.heap.size w1) (hr0 : w1.rowIs w.heap.size 91 3 (itemCell 0 none 0 0))
    (hs : (w1.alloc (.cells #[.int .u64 0, .slice none 0 0, .int .i64 0] 91)).drew.Since (w1.alloc (.cells #[.int .u64 0, .slice none 0 0, .int .i64 0] 91)).drew.heap.size w')
    (htx : Txt (w1.alloc (.cells #[.int .u64 0, .slice none 0 0, .int .i64 0] 91)).drew.heap.size w' ta l tx) :
    Seen w (((w'.setCell ⟨w.heap.size + 1, 0, none⟩ (.int .u64 N)).setCell ⟨w.heap.size + 1, 1, none⟩ (.slice ta l l)).setCell ⟨w.heap.size + 1, 2, none⟩ (.int .i64 size)) (w.heap.size + 1) ta N l size tx := by
  have hz : w1.heap.size + 1 ≤ w'.heap.size := by have := hs.size; simpa using this
  have hs' : w.Since w.heap.size w' := ((hs0.alloc (by omega) _).drew).trans (since_mono hs (by simp; omega))
  have hrow : w'.rowIs (w.heap.size + 1) 91 3 (itemCell 0 none 0 0) := by have := row_since (item_row w1 0 none 0 0).drew hs; rwa [e0] at this
  have hout : w'.rowIs w.heap.size 91 3 (itemCell 0 none 0 0) := row_since (hr0.alloc _).drew hs
  have q : ∀ i, w.heap.size ≤ (⟨w.heap.size + 1, i, none⟩ : Addr).block := fun i => by show w.heap.size ≤ w.heap.size + 1; omega
  have q2 : ∀ i, w.heap.size ≠ (⟨w.heap.size + 1, i, none⟩ : Addr).block := fun i => by show w.heap.size ≠ w.heap.size + 1; omega
  refine ⟨((hs'.setCell (q 0) _).setCell (q 1) _).setCell (q 2) _, ((hout.setOther (q2 0) _).setOther (q2 1) _).setOther (q2 2) _, (((hrow.set 0 _).set 1 _).set 2 _).congr (fun i hi => ?_), by omega, ?_⟩
  · match i, hi with
    | 0, _ => rfl
    | 1, _ => rfl
    | 2, _ => rfl
  · rcases htx with h | ⟨t, e, hb, hr⟩
    · exact Or.inl h
    · have hb' : w1.heap.size + 1 ≤ t := by simpa using hb
      have q3 : ∀ i, t ≠ (⟨w.heap.size + 1, i, none⟩ : Addr).block := fun i => by show t ≠ w.heap.size + 1; omega
      exact Or.inr ⟨t, e, by omega, ((hr.setOther (q3 0) _).setOther (q3 1) _).setOther (q3 2) _⟩
theorem scell {W w' : World} (hs : W.Since W.heap.size w') : (∀ b o, b < W.heap.size → w'.cell? ⟨b, o, none⟩ = W.cell? ⟨b, o, none⟩) ∧ (∀ b o, b < W.heap.size → w'.frozen? ⟨b, o, none⟩ = W.frozen? ⟨b, o, none⟩) :=
  ⟨fun b o h => hs.cell (a := ⟨b, o, none⟩) h, fun b o h => hs.frozen (a := ⟨b, o, none⟩) h⟩

set_option maxHeartbeats 800000 in
set_option maxRecDepth 100000 in
theorem next_any (rb hb n at' : Nat) (z : Nat → Nat) (k bound : Int) (N l size bd : Nat) (tx : Nat → Nat) (w : World) (h : IsR w rb hb n z at' 0) (hl : Looks w (if n = at' then some ⟨hb, 0, none⟩ else some ⟨hb, at', none⟩) (n - at') k bound N l size bd tx) (hsz : bd = 0 → at' + size ≤ n) :
    Calls Tryd.prog 48 #[.pointer (some ⟨rb, 0, none⟩), .int .i64 k, .int .u64 bound] w fun e w' => But rb w w' ∧
      ((bd = 0 ∧ (∃ ta, e = .returned (.agg #[.int .u64 N, .slice ta l l, .int .i64 size]) ∧ Txt w.heap.size w' ta l tx) ∧ IsR w' rb hb n z (at' + size) 0) ∨
       (bd ≠ 0 ∧ e = .returned item0 ∧ IsR w' rb hb n z at' bd)) := by
  have hrlt := h.rd.lt
  have hhlt := h.row.lt
  have hle := h.le
  have hroom := h.room
  have hz1 : (at' : Int) ≤ (n : Int) := by omega
  have hs0 : w.Since w.heap.size (w.alloc (.cells #[.int .u64 0, .slice none 0 0, .int .i64 0] 91)) := (World.Since.refl _ _).alloc (Nat.le_refl _) _
  have hr0 := item_row w 0 none 0 0
  have e0 : (w.alloc (.cells #[.int .u64 0, .slice none 0 0, .int .i64 0] 91)).heap.size = w.heap.size + 1 := by simp
  go_enter Tryd.func48, Tryd.ntmps48
  have c2 := h.c2
  go_upto_region 3 with fail
  have hI1 := h.since hs0
  generalize w.alloc (.cells #[.int .u64 0, .slice none 0 0, .int .i64 0] 91) = w1 at *
  have d0 := hI1.c0
  have d1 := hI1.c1
  have n0 := World.new_ne w1 _ d0
  have n1 := World.new_ne w1 _ d1
  have HL := hide hl
  clear hl c2
  go_cut [7, 8] from 15 to 45 (fun s7 s8 wx => ∃ ib ta, s7 = .pointer (some ⟨ib, 0, none⟩) ∧ s8 = .int .i64 bd ∧ Seen w wx ib ta N l size tx)
  case first =>
    by_cases hna : n = at'
    · subst hna
      rw [if_pos rfl, Nat.sub_self] at HL
      go_region_held3 (fun w' => w'.cell? ⟨rb, 0, none⟩ = some (.slice (some ⟨hb, 0, none⟩) n n) ∧ w'.cell? ⟨rb, 1, none⟩ = some (.int .i64 n))
        (first | go_keep | (refine ⟨?_, ?_⟩ <;> (iterate 3 (rw [World.cell?_setCell_far _ _ _ _ (by show w.heap.size + 1 ≠ rb; omega)])) <;> (rw [hcc _ _ (by simp; omega)]) <;> (go_simp)))
        (first | (go_at_call 67; refine ((unhide HL) _ ?_).mono ?_; (first | exact hs0.drew | exact (hs0.alloc (by omega) _).drew | exact (hs0.drew).alloc (by simp; omega) _); rintro e w' ⟨⟨ta, rfl, htx⟩, hs⟩; (obtain ⟨hcc, hff⟩ := scell hs; have x2 : rb < w'.heap.size := (by have := hs.size; simp at this; omega); have x3 : rb < w.heap.size + 1 := (by omega); have x4 : rb < w.heap.size + 2 := (by omega))))
      all_goals
        go_wp2_with fail
        go_meet
        case rel => go_light; first | exact ⟨_, ta, rfl, rfl, seen_a e0 hs0 hr0 hs htx⟩ | exact ⟨_, ta, rfl, rfl, seen_b e0 hs0 hr0 hs htx⟩
    · rw [if_neg hna] at HL
      go_region_held3 (fun w' => w'.cell? ⟨rb, 0, none⟩ = some (.slice (some ⟨hb, 0, none⟩) n n) ∧ w'.cell? ⟨rb, 1, none⟩ = some (.int .i64 at'))
        (first | go_keep | (refine ⟨?_, ?_⟩ <;> (iterate 3 (rw [World.cell?_setCell_far _ _ _ _ (by show w.heap.size + 1 ≠ rb; omega)])) <;> (rw [hcc _ _ (by simp; omega)]) <;> (go_simp)))
        (first | (go_at_call 67; refine ((unhide HL) _ ?_).mono ?_; (first | exact hs0.drew | exact (hs0.alloc (by omega) _).drew | exact (hs0.drew).alloc (by simp; omega) _); rintro e w' ⟨⟨ta, rfl, htx⟩, hs⟩; (obtain ⟨hcc, hff⟩ := scell hs; have x2 : rb < w'.heap.size := (by have := hs.size; simp at this; omega); have x3 : rb < w.heap.size + 1 := (by omega); have x4 : rb < w.heap.size + 2 := (by omega))))
      all_goals
        go_wp2_with fail
        go_meet
        case rel => go_light; first | exact ⟨_, ta, rfl, rfl, seen_a e0 hs0 hr0 hs htx⟩ | exact ⟨_, ta, rfl, rfl, seen_b e0 hs0 hr0 hs htx⟩
  case rest =>
    obtain ⟨ib, ta, rfl, rfl, hS⟩ := hcut
    have hIc := h.since hS.since
    have hlt := hS.lt
    have hbut : But rb w wc := But.of_since hS.since
    clear hs0 hr0 e0 hI1 d0 d1 n0 n1 HL
    by_cases hbd : bd = 0
    · have hle2 := hsz hbd
      subst hbd
      have c1 := hIc.c1
      have f1 := hIc.rd.frozen 1
      have k2 : wc.cell? ⟨ib, 2, none⟩ = some (.int .i64 size) := hS.it.cell (by decide)
      have hI2 := (hIc.setAt (at' + size) hle2).drew
      have hb2 := (hbut.setCell 1 (.int .i64 ((at' + size : Nat) : Int))).drew
      have ho2 : (wc.setCell ⟨rb, 1, none⟩ (.int .i64 ((at' + size : Nat) : Int))).drew.rowIs w.heap.size 91 3 (itemCell 0 none 0 0) := (hS.out.setOther (by show w.heap.size ≠ rb; omega) _).drew
      have hi2 : (wc.setCell ⟨rb, 1, none⟩ (.int .i64 ((at' + size : Nat) : Int))).drew.rowIs ib 91 3 (itemCell N ta l size) := (hS.it.setOther (by show ib ≠ rb; omega) _).drew
      have ht2 : Txt (w.heap.size + 1) (wc.setCell ⟨rb, 1, none⟩ (.int .i64 ((at' + size : Nat) : Int))).drew ta l tx := by
        rcases hS.txt with h | ⟨t, e, hb, hr⟩
        · exact Or.inl h
        · exact Or.inr ⟨t, e, hb, (hr.setOther (by show t ≠ rb; omega) _).drew⟩
      clear hS hIc hbut
      go_wp2_with fail
      go_big_region
      rw [show ((at' : Int) + (size : Int)) = ((at' + size : Nat) : Int) by omega]
      generalize (wc.setCell ⟨rb, 1, none⟩ (.int .i64 ((at' + size : Nat) : Int))).drew = W2 at *
      have o0 : W2.cell? ⟨w.heap.size, 0, none⟩ = some (.int .u64 0) := ho2.cell (by decide)
      have o1 : W2.cell? ⟨w.heap.size, 1, none⟩ = some (.slice none 0 0) := ho2.cell (by decide)
      have o2 : W2.cell? ⟨w.heap.size, 2, none⟩ = some (.int .i64 0) := ho2.cell (by decide)
      have p0 := ho2.frozen 0
      have p1 := ho2.frozen 1
      have p2 := ho2.frozen 2
      have i0 : W2.cell? ⟨ib, 0, none⟩ = some (.int .u64 N) := hi2.cell (by decide)
      have i1 : W2.cell? ⟨ib, 1, none⟩ = some (.slice ta l l) := hi2.cell (by decide)
      have i2 : W2.cell? ⟨ib, 2, none⟩ = some (.int .i64 size) := hi2.cell (by decide)
      clear ho2 hi2
      go_wp2_with fail
      have q1 : ∀ i, rb ≠ (⟨w.heap.size, i, none⟩ : Addr).block := fun i => by show rb ≠ w.heap.size; omega
      have q2 : ∀ i, hb ≠ (⟨w.heap.size, i, none⟩ : Addr).block := fun i => by show hb ≠ w.heap.size; omega
      have q3 : ∀ i, (⟨w.heap.size, i, none⟩ : Addr).block < w.heap.size + 1 := fun i => by show w.heap.size < w.heap.size + 1; omega
      have q4 : ∀ i, w.heap.size ≤ (⟨w.heap.size, i, none⟩ : Addr).block := fun i => Nat.le_refl _
      exact bodyPost_ret (v := .agg #[.int .u64 N, .slice ta l l, .int .i64 size]) (by simp [results, Tryd.results48, go_sem, o0, o1, o2]) rfl
        ⟨((hb2.setNew (q4 0) _).setNew (q4 1) _).setNew (q4 2) _, ⟨ta, rfl, (((ht2.setOther (q3 0) _).setOther (q3 1) _).setOther (q3 2) _).mono (by omega)⟩, ((hI2.setOther (q1 0) (q2 0) _).setOther (q1 1) (q2 1) _).setOther (q1 2) (q2 2) _⟩
    · have hq : ((bd : Int) != 0) = true := by simp; omega
      have c2 := hIc.c2
      have f2 := hIc.rd.frozen 2
      have hI2 := hIc.setBad bd
      have hb2 := hbut.setCell 2 (.int .i64 (bd : Int))
      have ho2 : (wc.setCell ⟨rb, 2, none⟩ (.int .i64 (bd : Int))).rowIs w.heap.size 91 3 (itemCell 0 none 0 0) := hS.out.setOther (by show w.heap.size ≠ rb; omega) _
      have hfl := fail_first rb bd wc c2 f2
      clear hS hIc hbut
      go_wp2_with fail
      refine hfl.mono ?_
      rintro e w' ⟨rfl, rfl⟩
      generalize (wc.setCell ⟨rb, 2, none⟩ (.int .i64 (bd : Int))) = W2 at *
      have o0 : W2.cell? ⟨w.heap.size, 0, none⟩ = some (.int .u64 0) := ho2.cell (by decide)
      have o1 : W2.cell? ⟨w.heap.size, 1, none⟩ = some (.slice none 0 0) := ho2.cell (by decide)
      have o2 : W2.cell? ⟨w.heap.size, 2, none⟩ = some (.int .i64 0) := ho2.cell (by decide)
      have p0 := ho2.frozen 0
      have p1 := ho2.frozen 1
      have p2 := ho2.frozen 2
      clear ho2 hfl
      go_wp2_with fail
      have q1 : ∀ i, rb ≠ (⟨w.heap.size, i, none⟩ : Addr).block := fun i => by show rb ≠ w.heap.size; omega
      have q2 : ∀ i, hb ≠ (⟨w.heap.size, i, none⟩ : Addr).block := fun i => by show hb ≠ w.heap.size; omega
      have q4 : ∀ i, w.heap.size ≤ (⟨w.heap.size, i, none⟩ : Addr).block := fun i => Nat.le_refl _
      exact bodyPost_ret (v := item0) (by simp [results, Tryd.results48, go_sem, o0, o1, o2]) rfl
        ⟨((hb2.setNew (q4 0) _).setNew (q4 1) _).setNew (q4 2) _, Or.inr ⟨hbd, rfl, ((hI2.setOther (q1 0) (q2 0) _).setOther (q1 1) (q2 1) _).setOther (q1 2) (q2 2) _⟩⟩
end Go.Proofs.YtbmdnlomhnodeabDoor
