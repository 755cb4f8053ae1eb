/- What a Writer is in memory; the walks of its calls. -/
import Derived.Test.YtbmdnlomhnodeabDoorLend
import Derived.Test.YtbmdnlomhnodeabDoorReads
import Derived.Maps.AppendAt
namespace Go.Proofs.YtbmdnlomhnodeabDoor
open Go.RowKit
set_option maxRecDepth 100000

/-- append of any bytes onto a slice of the call's own; where the new one lies. -/
theorem app_at (w : World) (B : Nat) (v : Value) (n : Nat) (x : Nat → Nat) (hown : Own w B v n x) (a : Option Addr) (m c : Nat) (y : Nat → Nat) (hb : Byt w a m y) (ha : a = none → m = 0 ∧ c = 0) (hmax : n + m ≤ 140737488355328) (hB : B ≤ w.heap.size) :
    ∃ v' w', (Builtin.append_ #[22, 22] 22 #[v, .slice a m c]).run Tryd.prog w = .ok v' w' ∧ Own w' B v' (n + m) (cat x n y) ∧ w.grownBy w' v.ownBlock ∧ (v'.ownBlock = v.ownBlock ∨ v'.ownBlock = some w.heap.size) := by
  obtain ⟨i0, hi, hz0, hz1, hz2⟩ := info_parts Tryd.info5
  cases a with
  | none =>
    obtain ⟨rfl, rfl⟩ := ha rfl
    refine ⟨v, w, run_append_owned_none w B 22 22 5 i0 1 Tryd.underlying22 hi v n _ hown, ?_, ⟨rfl, rfl, rfl, Nat.le_refl _, fun _ _ _ => rfl⟩, Or.inl rfl⟩
    have e : cellsOf (n + 0) (cat x n y) = cellsOf n x := by rw [← cellsOf_cat]; simp [cellsOf]
    show w.ownsRow B 5 1 v (n + 0) (cellsOf (n + 0) (cat x n y))
    rw [e]; exact hown
  | some ad =>
    obtain ⟨v', w', hr, h1, h2, _, h5⟩ := run_append_own_at (P := Tryd.prog) w B 22 22 5 i0 (.int .u8 0) 1 1 Tryd.underlying22 hi hz0 hz1 hz2 rfl (by decide) v n _ hown ad m c (cellsOf m y) (by rw [length_cellsOf, Nat.mul_one])
      (fun j u hu => by
        have hj : j < m := by have := (List.getElem?_eq_some_iff.1 hu).1; rwa [length_cellsOf] at this
        rw [get_cellsOf hj] at hu
        obtain ⟨b, off, e, hc⟩ := hb j hj
        obtain rfl : ad = ⟨b, off, none⟩ := by simpa using e
        rw [show (⟨b, off, none⟩ : Addr).add j = ⟨b, off + j, none⟩ by simp [Addr.add], hc]; exact hu)
      (one_cellsOf m y) (by unfold maxLen; omega) (by omega) hB
    exact ⟨v', w', hr, by rw [cellsOf_cat] at h1; exact h1, h2, h5⟩

theorem one_cell {v v' : Value} : ∀ i, i < 1 → (if i = 0 then v' else v) = v' := fun i hi => by rw [if_pos (by omega)]
theorem own_form {w : World} {B : Nat} {v : Value} {n : Nat} {x : Nat → Nat} (h : Own w B v n x) : ∃ a c, v = .slice a n c := by
  rcases h.2 with ⟨rfl, rfl⟩ | ⟨g, cap, cur, rfl, _⟩
  · exact ⟨none, 0, rfl⟩
  · exact ⟨_, cap, rfl⟩
/-- A Writer whose cell holds the slice v. -/
structure IsW (w : World) (wb B : Nat) (v : Value) (n : Nat) (x : Nat → Nat) : Prop where
  cell : w.rowIs wb 82 1 (fun _ => v)
  own : Own w B v n x
  ne : v.ownBlock ≠ some wb
  lo : B ≤ w.heap.size
/-- What one write leaves of the rest: all but the Writer's cell and its own bytes. -/
structure Ext (wb : Nat) (v v' : Value) (w w' : World) : Prop where
  os : w'.os = w.os
  tape : w'.tape = w.tape
  output : w'.output = w.output
  size : w.heap.size ≤ w'.heap.size
  block : ∀ k, k < w.heap.size → k ≠ wb → some k ≠ v.ownBlock → w'.heap[k]? = w.heap[k]?
  lies : v'.ownBlock = v.ownBlock ∨ ∃ g, v'.ownBlock = some g ∧ w.heap.size ≤ g
theorem Ext.refl (wb : Nat) (v : Value) (w : World) : Ext wb v v w w := ⟨rfl, rfl, rfl, Nat.le_refl _, fun _ _ _ _ => rfl, Or.inl rfl⟩
theorem Ext.trans {wb : Nat} {v v' v'' : Value} {a b c : World} (h : Ext wb v v' a b) (k : Ext wb v' v'' b c) : Ext wb v v'' a c :=
  ⟨k.os.trans h.os, k.tape.trans h.tape, k.output.trans h.output, Nat.le_trans h.size k.size, fun i hi h1 h2 => (k.block i (Nat.lt_of_lt_of_le hi h.size) h1 (by
      rcases h.lies with e | ⟨g, e, hg⟩
      · rw [e]; exact h2
      · rw [e]; intro e2; cases e2; omega)).trans (h.block i hi h1 h2), by
    rcases k.lies with e | ⟨g, e, hg⟩
    · rw [e]; exact h.lies
    · exact Or.inr ⟨g, e, Nat.le_trans h.size hg⟩⟩
theorem Ext.since {wb B : Nat} {v v' : Value} {w0 w w' : World} (h0 : w0.Since B w) (hB : B ≤ wb) (hB2 : B ≤ w.heap.size) (hv : ∀ k, v.ownBlock = some k → B ≤ k) (h : Ext wb v v' w w') : w0.Since B w' :=
  ⟨h.os.trans h0.os, h.tape.trans h0.tape, h.output.trans h0.output, Nat.le_trans h0.size h.size, fun k hk => (h.block k (by omega) (by omega) (fun e => by have := hv k e.symm; omega)).trans (h0.block k hk)⟩

/-- THE APPEND OF A WRITER: in a world that has a block more (the bytes to be appended), then the store into the Writer's cell. -/
theorem write_step {w wx : World} {wb B : Nat} {v : Value} {n : Nat} {x : Nat → Nat} (h : IsW w wb B v n x) (hx : w.Since w.heap.size wx) (a : Option Addr) (m c : Nat) (y : Nat → Nat) (hb : Byt wx a m y) (ha : a = none → m = 0 ∧ c = 0) (hmax : n + m ≤ 140737488355328) :
    ∃ v' w', (Builtin.append_ #[22, 22] 22 #[v, .slice a m c]).run Tryd.prog wx = .ok v' w' ∧ IsW (w'.setCell ⟨wb, 0, none⟩ v') wb B v' (n + m) (cat x n y) ∧ Ext wb v v' w (w'.setCell ⟨wb, 0, none⟩ v') ∧ w'.cell? ⟨wb, 0, none⟩ = some v ∧ w'.frozen? ⟨wb, 0, none⟩ = false := by
  have hown : Own wx B v n x := by
    have h0 := h.own
    refine ⟨h0.1, ?_⟩
    rcases h0.2 with h1 | ⟨g, cap, cur, e, hb, hh, r⟩
    · exact Or.inl h1
    · exact Or.inr ⟨g, cap, cur, e, hb, by rw [hx.block g (by
        rcases Nat.lt_or_ge g w.heap.size with h | h
        · exact h
        · rw [Array.getElem?_eq_none h] at hh; cases hh)]; exact hh, r⟩
  obtain ⟨v', w', hr, ho, hg, hl⟩ := app_at wx B v n x hown a m c y hb ha hmax (Nat.le_trans h.lo hx.size)
  have hwb : wb < w.heap.size := h.cell.lt
  have hcell : w'.rowIs wb 82 1 (fun _ => v) := h.cell.of_block ((hg.block wb (Nat.lt_of_lt_of_le hwb hx.size) (fun e => h.ne e.symm)).trans (hx.block wb hwb))
  have hne' : v'.ownBlock ≠ some wb := by
    rcases hl with e | e
    · rw [e]; exact h.ne
    · rw [e]; intro e2
      have := hx.size
      cases e2; omega
  refine ⟨v', w', hr, ⟨(hcell.set 0 v').congr one_cell, ?_, hne', by rw [show (w'.setCell ⟨wb, 0, none⟩ v').heap.size = w'.heap.size by simp [World.setCell]]; exact Nat.le_trans h.lo (Nat.le_trans hx.size hg.size)⟩, ?_, hcell.cell (by decide), hcell.frozen 0⟩
  · refine ⟨ho.1, ?_⟩
    rcases ho.2 with h1 | ⟨g, cap, cur, e, hb, hh, r⟩
    · exact Or.inl h1
    · refine Or.inr ⟨g, cap, cur, e, hb, ?_, r⟩
      rw [Below.heap_setCell _ _ _ _ (by intro e2; apply hne'; rw [e, show g = wb from e2]; rfl)]; exact hh
  · refine ⟨hg.os.trans hx.os, hg.tape.trans hx.tape, hg.output.trans hx.output, ?_, fun k hk h1 h2 => ?_, ?_⟩
    · rw [show (w'.setCell ⟨wb, 0, none⟩ v').heap.size = w'.heap.size by simp [World.setCell]]; exact Nat.le_trans hx.size hg.size
    · rw [Below.heap_setCell _ _ _ _ h1, hg.block k (Nat.lt_of_lt_of_le hk hx.size) h2, hx.block k hk]
    · rcases hl with e | e
      · exact Or.inl e
      · exact Or.inr ⟨_, e, hx.size⟩

/-- Raw. -/
theorem raw_w (wb B : Nat) (v : Value) (n : Nat) (x : Nat → Nat) (a : Option Addr) (m c : Nat) (y : Nat → Nat) (w : World) (h : IsW w wb B v n x) (hb : Byt w a m y) (ha : a = none → m = 0 ∧ c = 0) (hmax : n + m ≤ 140737488355328) :
    Calls Tryd.prog 33 #[.pointer (some ⟨wb, 0, none⟩), .slice a m c] w fun e w' => e = .returned (.tuple #[]) ∧ ∃ v', IsW w' wb B v' (n + m) (cat x n y) ∧ Ext wb v v' w w' := by
  obtain ⟨v', w', hr, hI, hE, hc, hf⟩ := write_step h (World.Since.refl _ _) a m c y hb ha hmax
  obtain ⟨va, vc, rfl⟩ := own_form h.own
  obtain ⟨va', vc', rfl⟩ := own_form hI.own
  have H := hide hr
  have c0 := h.cell.cell (i := 0) (by decide)
  clear hr
  go_enter Tryd.func33, Tryd.ntmps33
  go_wp2_with (at_builtin; refine wpList_append_eq rfl _ _ 22 rfl _ _ _ (by rfl) (by rfl) (unhide H) ?_)
  go_end0
  exact ⟨rfl, _, hI, hE⟩

/-- A number of up to eight bytes: its byte i of so many, the highest first. -/
def fixByte (width N i : Nat) : Nat := N / 256 ^ (width - 1 - i) % 256
theorem fixByte_lt (width N i : Nat) : fixByte width N i < 256 := Nat.mod_lt _ (by decide)

/-- Var: the byte i of so many, the lowest first. -/
def varLen : Nat → Nat → Nat
  | 0, _ => 1
  | f + 1, N => if N < 128 then 1 else varLen f (N / 128) + 1
def varByte : Nat → Nat → Nat → Nat
  | 0, N, _ => N % 256
  | f + 1, N, i => if N < 128 then N else (match i with | 0 => N % 128 + 128 | i + 1 => varByte f (N / 128) i)

set_option maxHeartbeats 800000 in
theorem new_w (w : World) : Calls Tryd.prog 8 #[] w fun e w' => e = .returned (.pointer (some ⟨w.heap.size, 0, none⟩)) ∧ w.Since w.heap.size w' ∧ w'.heap.size = w.heap.size + 1 ∧ ∀ x, IsW w' w.heap.size w'.heap.size (.slice none 0 0) 0 x := by
  go_enter Tryd.func8, Tryd.ntmps8
  go_wp2
  go_ret
  refine ⟨rfl, (World.Since.refl _ _).alloc (Nat.le_refl _) _, by simp, fun x => ⟨World.rowIs_alloc w #[.slice none 0 0] 82 _ (fun i hi => ?_), own_nil _ _ _, by simp [Value.ownBlock], Nat.le_refl _⟩⟩
  match i, hi with
  | 0, _ => rfl
theorem len_w (wb B : Nat) (v : Value) (n : Nat) (x : Nat → Nat) (w : World) (h : IsW w wb B v n x) : Calls Tryd.prog 13 #[.pointer (some ⟨wb, 0, none⟩)] w fun e w' => e = .returned (.int .i64 n) ∧ w' = w := by
  obtain ⟨va, vc, rfl⟩ := own_form h.own
  have c0 := h.cell.cell (i := 0) (by decide)
  go_enter Tryd.func13, Tryd.ntmps13
  go_wp2
  go_ret
  exact ⟨rfl, rfl⟩
theorem own_byt' {w : World} {B : Nat} {v : Value} {n : Nat} {y : Nat → Nat} (h : Own w B v n y) : ∃ a c, v = .slice a n c ∧ Byt w a n y ∧ (a = none → n = 0 ∧ c = 0) := by
  rcases Nat.eq_zero_or_pos n with rfl | hp
  · rcases h.2 with ⟨rfl, _⟩ | ⟨g, cap, cur, rfl, hb, _⟩
    · exact ⟨none, 0, rfl, fun j hj => absurd hj (Nat.not_lt_zero _), fun _ => ⟨rfl, rfl⟩⟩
    · exact ⟨_, cap, rfl, fun j hj => absurd hj (Nat.not_lt_zero _), (fun e => by cases e)⟩
  · obtain ⟨g, cap, f, rfl, hg, hc, hrow, hf⟩ := own_row h hp
    exact ⟨_, cap, rfl, fun j hj => ⟨g, 0, rfl, by rw [Nat.zero_add, hrow.cell (by omega), hf j hj]⟩, (fun e => by cases e)⟩
theorem out_w (wb B : Nat) (v : Value) (n : Nat) (x : Nat → Nat) (w : World) (h : IsW w wb B v n x) (hmax : n ≤ 281474976710656) : Calls Tryd.prog 11 #[.pointer (some ⟨wb, 0, none⟩)] w fun e w' => e = .returned (.slice (some ⟨w.heap.size, 0, none⟩) n n) ∧ w.Since w.heap.size w' ∧ w'.heap.size = w.heap.size + 1 ∧ w'.rowIs w.heap.size 5 n (fun j => .int .u8 (x j : Nat)) := by
  obtain ⟨va, vc, rfl, hb, _⟩ := own_byt' h.own
  have c0 := h.cell.cell (i := 0) (by decide)
  go_enter Tryd.func11, Tryd.ntmps11
  go_wp2_with fail
  refine (copied_any va n vc x w hmax hb).mono ?_
  rintro e w1 ⟨rfl, h1, h2, h3⟩
  go_wp2
  go_ret
  exact ⟨rfl, h1, h2, h3⟩
end Go.Proofs.YtbmdnlomhnodeabDoor
