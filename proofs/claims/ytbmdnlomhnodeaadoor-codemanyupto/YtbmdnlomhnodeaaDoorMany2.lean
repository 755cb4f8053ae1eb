/- The walk of CodeMany: the first loops. -/
import Derived.Test.YtbmdnlomhnodeaaDoorMany1
import Derived.Test.YtbmdnlomhnodeaaDoorBytesL2
import Derived.Test.YtbmdnlomhnodeaaDoorTurnMath
import Derived.Deep.RegionHeld3
namespace Go.Proofs.YtbmdnlomhnodeaaDoor
open Go.RowKit

/-- A call of a Go function by its contract, as one step of a region that draws. -/
theorem step_call_eq {P : Program} {ops : Array Oper} {o : Oper} {a : Act} {w : World} {K : Act → World → Prop} {Q : Exit → Act → World → Prop} {E : Prop} (hgd : o.guard = none) (f : FuncId) (args : Array Value) (hrun : (execOp a.eval o).run P w = .ok (.enter f args) w) {Post : Ending → World → Prop} (hc : Calls P f args w Post)
    (h : ∀ e w', Post e w' → ∃ v, e = .returned v ∧ K (a.put o.dst v) w') : if Region.wanted o (yielded ops a.tmps) = true then Oper.wp P o a w K Q else E := by
  have hw : Region.wanted o (yielded ops a.tmps) = true := by simp [Region.wanted, hgd]
  rw [if_pos hw]
  unfold Oper.wp
  rw [hrun, Oper.upon_enter]
  refine hc.mono fun e w'' hh => ?_
  obtain ⟨v, rfl, hk⟩ := h e w'' hh
  exact hk
theorem into_64 (K : Int) (w : World) : Calls Tryd.prog 26 #[.int .i64 K, .int .i64 64] w fun e w' => w' = w ∧ ∃ k : Nat, k < 64 ∧ e = .returned (.int .i64 (k : Nat)) := by
  have h1 := Int.tmod_lt_of_pos K (show (0 : Int) < 64 by decide)
  have h2 := Int.lt_tmod_of_pos K (show (0 : Int) < 64 by decide)
  by_cases hn : K.tmod 64 < 0
  · obtain ⟨k, hk⟩ : ∃ k : Nat, K.tmod 64 + 64 = (k : Int) := ⟨(K.tmod 64 + 64).toNat, by omega⟩
    have hk2 : k < 64 := by omega
    have hw : IntKind.i64.wrap (k : Int) = (k : Int) := by rw [IntKind.wrap_i64]; omega
    obtain ⟨T, hT⟩ : ∃ T, K.tmod 64 = T := ⟨_, rfl⟩
    rw [hT] at hk h1 h2 hn
    go_enter Tryd.func26, Tryd.ntmps26
    go_wp2_with fail
    go_ret
    exact ⟨rfl, k, hk2, rfl⟩
  · obtain ⟨k, hk⟩ : ∃ k : Nat, K.tmod 64 = (k : Int) := ⟨(K.tmod 64).toNat, by omega⟩
    have hk2 : k < 64 := by omega
    have hk0 : ¬ ((k : Int) < 0) := by omega
    clear hn
    go_enter Tryd.func26, Tryd.ntmps26
    go_wp2_with fail
    go_ret
    exact ⟨rfl, k, hk2, rfl⟩
theorem pair_put {w w3 w4 : World} {wb B : Nat} {v v3 hv rv : Value} {l r : List Nat} (h : Pair w wb B v hv l l) (hI : IsL w3 wb B v3 (l ++ r)) (hE : Ext wb v v3 w w3) (hs : w3.Since w3.heap.size w4) (ho : OwnL w4 w3.heap.size rv r) (hmax : l.length + r.length ≤ 140737488355328) :
    ∃ hv' w5, (Builtin.append_ #[27, 27] 27 #[hv, rv]).run Tryd.prog w4 = .ok hv' w5 ∧ Pair w5 wb B v3 hv' (l ++ r) (l ++ r) ∧ Move wb v hv v3 hv' w w5 := by
  obtain ⟨p1, m1⟩ := h.wrote hI hE
  obtain ⟨p2, m2⟩ := p1.since hs
  obtain ⟨hv', w5, hr, ho5, hg, hl⟩ := app_ll p2.own ho hmax p2.isl.lo
  obtain ⟨p3, m3⟩ := p2.held ho5 hg hl
  exact ⟨hv', w5, hr, p3, m1.trans (m2.trans m3)⟩
/-- The list beside a Writer is another one, in new memory. -/
theorem Pair.swap {w w' : World} {wb B : Nat} {v hv rv : Value} {l lh : List Nat} (h : Pair w wb B v hv l lh) (hs : w.Since w.heap.size w') (ho : OwnL w' w.heap.size rv l) : Pair w' wb B v rv l l ∧ Move wb v hv v rv w w' := by
  have hlo := own_block ho
  have hlt := own_lt h.isl.own
  have hwb := h.isl.cell.lt
  obtain ⟨p, m⟩ := h.since hs
  refine ⟨⟨p.isl, own_lower ho (by have := h.isl.lo; omega), fun e => by have := hlo _ e; omega, fun k e e2 => by have := hlt k e; have := hlo k e2; omega, h.low⟩, m.os, m.tape, m.output, m.size, m.block, fun k hf => ?_⟩
  rcases hf with e | e | e
  · exact Or.inl (Or.inl e)
  · exact Or.inl (Or.inr (Or.inl e))
  · exact Or.inr (hlo k e)
theorem owns_at {w : World} {B e n : Nat} {v : Value} {f : Nat → Value} (h : w.ownsRow B e 1 v n ((List.range n).map f)) (hn : 0 < n) : ∃ g c, v = .slice (some ⟨g, 0, none⟩) n c ∧ ∀ j, j < n → w.cell? ⟨g, j, none⟩ = some (f j) := by
  obtain ⟨g, c, rfl⟩ : ∃ g c, v = .slice (some ⟨g, 0, none⟩) n c := by
    rcases h.2 with ⟨_, h0⟩ | ⟨g, c, cur, e, _⟩
    · omega
    · exact ⟨g, c, e⟩
  exact ⟨g, c, rfl, fun j hj => by rw [h.cellAt j (by omega)]; simp [hj]⟩
/-- What the walk knows of the texts that are laid into the Writers. -/
structure Tx (w : World) (bb bo blen : Nat) (A : Nat → Option Addr) (L C : Nat → Nat) (Z : Nat → Nat → Nat) : Prop where
  c : ∀ i, i < blen → w.cell? ⟨bb, bo + i, none⟩ = some (.slice (A i) (L i) (C i))
  byt : ∀ i, i < blen → Byt w (A i) (L i) (Z i)
  nil : ∀ i, i < blen → A i = none → L i = 0 ∧ C i = 0
  le : ∀ i, i < blen → L i ≤ 1048576
  zb : ∀ i, i < blen → ∀ j, Z i j < 256
theorem Tx.since {w w' : World} {bb bo blen : Nat} {A : Nat → Option Addr} {L C : Nat → Nat} {Z : Nat → Nat → Nat} (h : Tx w bb bo blen A L C Z) (hs : w.Since w.heap.size w') : Tx w' bb bo blen A L C Z :=
  ⟨fun i hi => by rw [hs.cell (a := ⟨bb, bo + i, none⟩) (World.block_lt_of_cell? _ _ (h.c i hi))]; exact h.c i hi, fun i hi => (h.byt i hi).since hs, h.nil, h.le, h.zb⟩
theorem Tx.low {w : World} {bb bo blen : Nat} {A : Nat → Option Addr} {L C : Nat → Nat} {Z : Nat → Nat → Nat} (h : Tx w bb bo blen A L C Z) {i : Nat} (hi : i < blen) (hp : 0 < L i) {b off : Nat} (e : A i = some ⟨b, off, none⟩) : b < w.heap.size := by
  obtain ⟨b', off', e', hc⟩ := h.byt i hi 0 hp
  rw [e] at e'
  cases e'
  exact World.block_lt_of_cell? _ _ hc

theorem fl_byte (k M : Nat) : ∀ c ∈ fl k M, c < 256 := fun c hc => by
  unfold fl at hc
  obtain ⟨i, _, rfl⟩ := List.mem_map.1 hc
  exact Nat.mod_lt _ (by decide)
theorem getD_lt {l : List Nat} (h : ∀ c ∈ l, c < 256) (j : Nat) : l.getD j 0 < 256 := by
  rcases Nat.lt_or_ge j l.length with hj | hj
  · rw [List.getD_eq_getElem?_getD, List.getElem?_eq_getElem hj]
    exact h _ (List.getElem_mem hj)
  · rw [List.getD_eq_getElem?_getD, List.getElem?_eq_none hj]; decide
/-- Readers side by side, above all that was there. -/
structure Rds (wq wx : World) (n lo : Nat) (R HB LN : Nat → Nat) (z : Nat → Nat → Nat) (rv : Value) : Prop where
  since : wq.Since wq.heap.size wx
  own : wx.ownsRow wq.heap.size 42 1 rv n ((List.range n).map fun j => .pointer (some ⟨R j, 0, none⟩))
  rd : ∀ j, lo ≤ j → j < n → IsR wx (R j) (HB j) (LN j) (z j) 0 0
  low : ∀ j, j < n → wq.heap.size ≤ R j ∧ R j < wx.heap.size ∧ HB j < wx.heap.size
  ne : ∀ i j, i < n → j < n → i ≠ j → R i ≠ R j ∧ R i ≠ HB j
  nr : ∀ j, j < n → rv.ownBlock ≠ some (R j) ∧ rv.ownBlock ≠ some (HB j)
theorem Rds.later {wq wx w' : World} {n lo : Nat} {R HB LN : Nat → Nat} {z : Nat → Nat → Nat} {rv : Value} (h : Rds wq wx n lo R HB LN z rv) (hs : wx.Since wx.heap.size w') : Rds wq w' n lo R HB LN z rv :=
  ⟨h.since.trans (since_mono hs h.since.size), owns_keep h.own (fun k e => hs.block k (h.own.lt k e).2), fun j h1 h2 => (h.rd j h1 h2).since hs, fun j hj => by have := h.low j hj; have := hs.size; omega, h.ne, h.nr⟩
/-- A READER MORE, behind its append. -/
theorem Rds.add {wq wx w3 w4 : World} {n : Nat} {R HB LN : Nat → Nat} {z : Nat → Nat → Nat} {rv rv' : Value} {rb hb : Nat} (h : Rds wq wx n 0 R HB LN z rv) (hs : wx.Since wx.heap.size w3) (hR : IsR w3 rb hb (LN n) (z n) 0 0) (h1 : wx.heap.size ≤ rb) (h2 : wx.heap.size ≤ hb)
    (ho : w4.ownsRow wq.heap.size 42 1 rv' (n + 1) (((List.range n).map fun j => .pointer (some ⟨R j, 0, none⟩)) ++ [.pointer (some ⟨rb, 0, none⟩)])) (hg : w3.grownBy w4 rv.ownBlock) (hl : rv'.ownBlock = rv.ownBlock ∨ rv'.ownBlock = some w3.heap.size) :
    Rds wq w4 (n + 1) 0 (put R n rb) (put HB n hb) LN z rv' := by
  have h3 := h.later hs
  have z3 := h3.since.size
  have zx := hs.size
  have zg := hg.size
  have l1 := hR.rd.lt
  have l2 := hR.row.lt
  have zq := h.since.size
  have hno : ∀ k, wx.heap.size ≤ k → some k ≠ rv.ownBlock := fun k hk e => by have := (h.own.lt k e.symm).2; omega
  refine ⟨h3.since.grown hg z3 (fun k e => (h.own.lt k e).1), ?_, fun j _ hj => ?_, fun j hj => ?_, fun i j hi hj hij => ?_, fun j hj => ?_⟩
  · rw [range_map_succ]
    have e : ((List.range n).map fun j => Value.pointer (some ⟨put R n rb j, 0, none⟩)) = (List.range n).map fun j => Value.pointer (some ⟨R j, 0, none⟩) := by
      apply List.map_congr_left
      intro j hj
      rw [put_ne _ _ _ (by have := List.mem_range.1 hj; omega)]
    rw [e, put_at]; exact ho
  · by_cases e : j = n
    · subst e
      rw [put_at, put_at]
      exact ⟨hR.rd.of_block (hg.block rb l1 (hno rb h1)), hR.row.of_block (hg.block hb l2 (hno hb h2)), hR.ne, hR.byte, hR.le, hR.room⟩
    · rw [put_ne _ _ _ e, put_ne _ _ _ e]
      have hj' : j < n := by omega
      have r := h3.rd j (Nat.zero_le _) hj'
      have q := h.nr j hj'
      exact ⟨r.rd.of_block (hg.block (R j) r.rd.lt (fun e => q.1 e.symm)), r.row.of_block (hg.block (HB j) r.row.lt (fun e => q.2 e.symm)), r.ne, r.byte, r.le, r.room⟩
  · by_cases e : j = n
    · subst e; rw [put_at, put_at]; omega
    · rw [put_ne _ _ _ e, put_ne _ _ _ e]; have := h3.low j (by omega); omega
  · by_cases ei : i = n
    · subst ei
      have ej : j ≠ i := fun e => hij e.symm
      rw [put_at, put_ne _ _ _ ej, put_ne _ _ _ ej]
      have := h.low j (by omega)
      omega
    · rw [put_ne _ _ _ ei]
      by_cases ej : j = n
      · subst ej; rw [put_at, put_at]; have := h.low i (by omega); omega
      · rw [put_ne _ _ _ ej, put_ne _ _ _ ej]; exact h.ne i j (by omega) (by omega) hij
  · by_cases e : j = n
    · subst e
      rw [put_at, put_at]
      refine ⟨fun e2 => ?_, fun e2 => ?_⟩
      · rcases hl with e3 | e3
        · rw [e3] at e2; exact hno rb h1 e2.symm
        · rw [e3] at e2; cases e2; omega
      · rcases hl with e3 | e3
        · rw [e3] at e2; exact hno hb h2 e2.symm
        · rw [e3] at e2; cases e2; omega
    · rw [put_ne _ _ _ e, put_ne _ _ _ e]
      have q := h.nr j (by omega)
      have l := h3.low j (by omega)
      refine ⟨fun e2 => ?_, fun e2 => ?_⟩
      · rcases hl with e3 | e3
        · rw [e3] at e2; exact q.1 e2
        · rw [e3] at e2; have e4 := Option.some.inj e2; omega
      · rcases hl with e3 | e3
        · rw [e3] at e2; exact q.2 e2
        · rw [e3] at e2; have e4 := Option.some.inj e2; omega
/-- READER i HAS BEEN READ. -/
theorem Rds.read {wq wx w' : World} {n i : Nat} {R HB LN : Nat → Nat} {z : Nat → Nat → Nat} {rv : Value} (h : Rds wq wx n i R HB LN z rv) (hi : i < n) (hb : But (R i) wx w') : Rds wq w' n (i + 1) R HB LN z rv := by
  have hz := h.since.size
  have hl := h.low i hi
  refine ⟨hb.since h.since hl.1 hz, owns_keep h.own (fun k e => hb.block k (h.own.lt k e).2 (fun e2 => (h.nr i hi).1 (e2 ▸ e))), fun j h1 h2 => ?_, fun j hj => by have := h.low j hj; have := hb.size; omega, h.ne, h.nr⟩
  have r := h.rd j (by omega) h2
  have q := h.ne i j hi h2 (by omega)
  exact ⟨hb.row r.rd (fun e => q.1 e.symm), hb.row r.row (fun e => q.2 e.symm), r.ne, r.byte, r.le, r.room⟩
end Go.Proofs.YtbmdnlomhnodeaaDoor
