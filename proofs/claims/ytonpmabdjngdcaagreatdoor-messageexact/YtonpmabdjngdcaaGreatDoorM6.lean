/- Own texts, joined: Msg5, Msg6, Msg7, Msg8, Msg9, Msg10, Msg11, Msg12. -/
import Derived.Test.YtonpmabdjngdcaaGreatDoorM5
import Derived.Laws.ResultCell
import Derived.Laws.NewBlocks
import Derived.Laws.Rows
import Derived.Deep.MidRow
import Derived.Deep.WholeRow

/- Package message: what the closures read. -/
namespace Go.Proofs.YtonpmabdjngdcaaGreatDoor
open Go.RowKit
set_option maxRecDepth 100000

/-- Nothing that was there has turned but blocks r and m. -/
structure But2 (r m : Nat) (w w' : World) : Prop where
  os : w'.os = w.os
  tape : w'.tape = w.tape
  output : w'.output = w.output
  size : w.heap.size ≤ w'.heap.size
  block : ∀ k, k < w.heap.size → k ≠ r → k ≠ m → w'.heap[k]? = w.heap[k]?
theorem But2.trans {r m : Nat} {a b c : World} (h : But2 r m a b) (k : But2 r m b c) : But2 r m a c :=
  ⟨k.os.trans h.os, k.tape.trans h.tape, k.output.trans h.output, Nat.le_trans h.size k.size, fun i hi hr hm => (k.block i (Nat.lt_of_lt_of_le hi h.size) hr hm).trans (h.block i hi hr hm)⟩
theorem But2.of_but {r m : Nat} {w w' : World} (h : But r w w') : But2 r m w w' := ⟨h.os, h.tape, h.output, h.size, fun k hk hr _ => h.block k hk hr⟩
theorem But2.of_since {r m : Nat} {w w' : World} (h : w.Since w.heap.size w') : But2 r m w w' := ⟨h.os, h.tape, h.output, h.size, fun k hk _ _ => h.block k hk⟩
theorem But2.set {r m : Nat} {w w' : World} (h : But2 r m w w') (i : Nat) (v : Value) : But2 r m w (w'.setCell ⟨m, i, none⟩ v) :=
  ⟨h.os, h.tape, h.output, by have := h.size; simpa [World.setCell] using this, fun k hk hr hm => by rw [Below.heap_setCell _ _ _ _ hm]; exact h.block k hk hr hm⟩
def mgNum (c : Nat) (v : Int) : Value := if isU c = true then .int .u64 v else .int .i64 v
theorem mgCell_setN (m : Mg) (va : Option Addr) (vc c : Nat) (v : Int) (h10 : c ≠ 10) (h13 : c ≠ 13) (h14 : c ≠ 14) (i : Nat) : mgCell (m.setN c v) va vc i = if i = c then mgNum c v else mgCell m va vc i := by
  by_cases e : i = c
  · subst e
    rw [if_pos rfl]
    unfold mgCell mgNum
    rw [if_neg h10, if_neg (by omega)]
    simp [Mg.setN]
  · rw [if_neg e]
    unfold mgCell
    simp [Mg.setN, e]
theorem mgCell_setS (m : Mg) (va : Option Addr) (vc c : Nat) (l : List Nat) (h : c = 13 ∨ c = 14) (i : Nat) : mgCell (m.setS c l) va vc i = if i = c then .string (strL l) else mgCell m va vc i := by
  by_cases e : i = c
  · subst e
    rw [if_pos rfl]
    unfold mgCell
    rw [if_neg (by omega), if_pos h]
    simp [Mg.setS]
  · rw [if_neg e]
    unfold mgCell
    have : (10 : Nat) ≠ c := by omega
    simp [Mg.setS, e, this]
theorem mgCell_setV (m : Mg) (va ta : Option Addr) (vc k : Nat) (l : List Nat) (i : Nat) : mgCell (m.setS 10 l) ta k i = if i = 10 then .slice ta l.length k else mgCell m va vc i := by
  by_cases e : i = 10
  · subst e
    rw [if_pos rfl]
    unfold mgCell
    simp [Mg.setS]
  · rw [if_neg e]
    unfold mgCell
    simp [Mg.setS, e]
theorem Txt.toByt {B : Nat} {w : World} {ta : Option Addr} {l : Nat} {tx : Nat → Nat} (h : Txt B w ta l tx) : Byt w ta l tx := by
  rcases h with ⟨_, rfl⟩ | ⟨t, rfl, _, hr⟩
  · exact fun j hj => absurd hj (Nat.not_lt_zero _)
  · exact Byt.of_row hr
theorem Txt.keep {B : Nat} {w w' : World} {ta : Option Addr} {l : Nat} {tx : Nat → Nat} (h : Txt B w ta l tx) (hb : ∀ k, k < w.heap.size → B ≤ k → w'.heap[k]? = w.heap[k]?) : Txt B w' ta l tx := by
  rcases h with h | ⟨t, e, ht, hrow⟩
  · exact .inl h
  · exact .inr ⟨t, e, ht, hrow.of_block (hb t hrow.lt ht)⟩
theorem mk_msg {B : Nat} {w : World} {mb : Nat} {m : Mg} {va : Option Addr} (hr : w.rowIs mb 37 22 (mgCell m va (m.s 10).length)) (ht : Txt B w va (m.s 10).length (fun j => (m.s 10).getD j 0)) (hB : mb < B) (hl : ∀ c, (m.s c).length ≤ 140737488351232) (hb : ∀ c, ∀ v ∈ m.s c, v < 256) : MsgIs w mb m va (m.s 10).length := by
  refine ⟨hr, ht.toByt, fun e => ?_, fun q e _ => ?_, fun q e _ => ?_, hl, hb⟩
  · rcases ht with ⟨_, h⟩ | ⟨t, h, _⟩
    · exact ⟨h, h⟩
    · rw [h] at e; simp at e
  · rcases ht with ⟨h, _⟩ | ⟨t, h, _, h2⟩
    · rw [h] at e; simp at e
    · rw [h] at e
      rw [← Option.some.inj e]
      exact h2.lt
  · rcases ht with ⟨h, _⟩ | ⟨t, h, h1, h2⟩
    · rw [h] at e; simp at e
    · rw [h] at e
      rw [← Option.some.inj e]
      show t ≠ mb
      omega
/-- A message that is being read. -/
structure Rd (B : Nat) (w : World) (rb hb n : Nat) (z : Nat → Nat) (mb : Nat) (q : Mg × Nat × Nat) (va : Option Addr) : Prop where
  rd : IsR w rb hb n z q.2.1 q.2.2
  row : w.rowIs mb 37 22 (mgCell q.1 va (q.1.s 10).length)
  txt : Txt B w va (q.1.s 10).length (fun j => (q.1.s 10).getD j 0)
  len : ∀ c, (q.1.s c).length ≤ 140737488351232
  byte : ∀ c, ∀ v ∈ q.1.s c, v < 256
  ne : rb ≠ mb
  hne : hb ≠ mb
  lt : mb < B
  rlt : rb < B
  hlt : hb < B
  low : B ≤ w.heap.size
section
variable {B : Nat} {w w2 : World} {rb hb n : Nat} {z : Nat → Nat} {mb : Nat} {m : Mg} {a b a2 b2 : Nat} {va : Option Addr}
theorem Rd.msg {q : Mg × Nat × Nat} (h : Rd B w rb hb n z mb q va) : MsgIs w mb q.1 va (q.1.s 10).length := mk_msg h.row h.txt h.lt h.len h.byte
theorem Rd.on {q : Mg × Nat × Nat} (h : Rd B w rb hb n z mb q va) (k : w.Since w.heap.size w2) : Rd B w2 rb hb n z mb q va :=
  ⟨h.rd.since k, row_since h.row k, h.txt.since k, h.len, h.byte, h.ne, h.hne, h.lt, h.rlt, h.hlt, Nat.le_trans h.low k.size⟩
theorem Rd.step (h : Rd B w rb hb n z mb (m, a, b) va) (k : But rb w w2) (hI : IsR w2 rb hb n z a2 b2) : Rd B w2 rb hb n z mb (m, a2, b2) va :=
  ⟨hI, k.row h.row (fun e => h.ne e.symm), h.txt.keep (fun q hq hB => k.block q hq (by have := h.rlt; omega)), h.len, h.byte, h.ne, h.hne, h.lt, h.rlt, h.hlt, Nat.le_trans h.low k.size⟩
theorem Rd.num (h : Rd B w rb hb n z mb (m, a, b) va) (c : Nat) (v : Int) (_hc : c < 22) (h10 : c ≠ 10) (h13 : c ≠ 13) (h14 : c ≠ 14) : Rd B (w.setCell ⟨mb, c, none⟩ (mgNum c v)) rb hb n z mb (m.setN c v, a, b) va := by
  refine ⟨h.rd.setOther h.ne h.hne _, (h.row.set c _).congr (fun i hi => (mgCell_setN m va _ c v h10 h13 h14 i).symm), ?_, h.len, h.byte, h.ne, h.hne, h.lt, h.rlt, h.hlt, by have := h.low; simpa [World.setCell] using this⟩
  exact h.txt.keep (fun q hq hB => Below.heap_setCell _ _ _ _ (by have := h.lt; show q ≠ mb; omega))
theorem Rd.str (h : Rd B w rb hb n z mb (m, a, b) va) (c : Nat) (l : List Nat) (hc : c = 13 ∨ c = 14) (hl : l.length ≤ 140737488351232) (hby : ∀ v ∈ l, v < 256) : Rd B (w.setCell ⟨mb, c, none⟩ (.string (strL l))) rb hb n z mb (m.setS c l, a, b) va := by
  have e10 : (m.setS c l).s 10 = m.s 10 := by
    have : (10 : Nat) ≠ c := by omega
    simp [Mg.setS, this]
  refine ⟨h.rd.setOther h.ne h.hne _, ?_, ?_, fun d => ?_, fun d => ?_, h.ne, h.hne, h.lt, h.rlt, h.hlt, by have := h.low; simpa [World.setCell] using this⟩
  · show (w.setCell _ _).rowIs _ _ _ (mgCell (m.setS c l) va ((m.setS c l).s 10).length)
    rw [e10]
    exact (h.row.set c _).congr (fun i hi => (mgCell_setS m va _ c l hc i).symm)
  · show Txt B _ va ((m.setS c l).s 10).length (fun j => ((m.setS c l).s 10).getD j 0)
    rw [e10]
    exact h.txt.keep (fun q hq hB => Below.heap_setCell _ _ _ _ (by have := h.lt; show q ≠ mb; omega))
  · show ((m.setS c l).s d).length ≤ _
    by_cases e : d = c
    · subst e; simpa [Mg.setS] using hl
    · simpa [Mg.setS, e] using h.len d
  · show ∀ v ∈ (m.setS c l).s d, v < 256
    by_cases e : d = c
    · subst e; simpa [Mg.setS] using hby
    · simpa [Mg.setS, e] using h.byte d
theorem Rd.val (h : Rd B w rb hb n z mb (m, a, b) va) (ta : Option Addr) (l : List Nat) (ht : Txt B w ta l.length (fun j => l.getD j 0)) (hl : l.length ≤ 140737488351232) (hby : ∀ v ∈ l, v < 256) : Rd B (w.setCell ⟨mb, 10, none⟩ (.slice ta l.length l.length)) rb hb n z mb (m.setS 10 l, a, b) ta := by
  have e10 : (m.setS 10 l).s 10 = l := by simp [Mg.setS]
  refine ⟨h.rd.setOther h.ne h.hne _, ?_, ?_, fun d => ?_, fun d => ?_, h.ne, h.hne, h.lt, h.rlt, h.hlt, by have := h.low; simpa [World.setCell] using this⟩
  · show (w.setCell _ _).rowIs _ _ _ (mgCell (m.setS 10 l) ta ((m.setS 10 l).s 10).length)
    rw [e10]
    exact (h.row.set 10 _).congr (fun i hi => (mgCell_setV m va ta _ _ l i).symm)
  · show Txt B _ ta ((m.setS 10 l).s 10).length (fun j => ((m.setS 10 l).s 10).getD j 0)
    rw [e10]
    exact ht.keep (fun q hq hB => Below.heap_setCell _ _ _ _ (by have := h.lt; show q ≠ mb; omega))
  · show ((m.setS 10 l).s d).length ≤ _
    by_cases e : d = 10
    · subst e; simpa [Mg.setS] using hl
    · simpa [Mg.setS, e] using h.len d
  · show ∀ v ∈ (m.setS 10 l).s d, v < 256
    by_cases e : d = 10
    · subst e; simpa [Mg.setS] using hby
    · simpa [Mg.setS, e] using h.byte d
end
theorem cutZ_byte {z : Nat → Nat} (hz : ∀ j, z j < 256) (a k : Nat) : ∀ v ∈ cutZ z a k, v < 256 := fun v hv => by
  obtain ⟨j, _, rfl⟩ := List.mem_map.1 hv
  exact hz _
theorem bytesAns_le {z : Nat → Nat} {n most a b : Nat} : (bytesAns z n most a b).1 ≤ n := by
  unfold bytesAns
  split
  · exact Nat.zero_le _
  · simp only
    unfold blook
    split
    · exact Nat.zero_le _
    · split
      · exact Nat.zero_le _
      · simp only; omega
theorem cell_frozen {w : World} {b t k : Nat} {f : Nat → Value} (h : w.rowIs b t k f) (i : Nat) : w.frozen? ⟨b, i, none⟩ = false := h.frozen i
set_option maxHeartbeats 1000000 in
theorem varGetU (ka : FuncId) (c ab qb mb rb hb n B : Nat) (hat : IsAt ka c) (most : Nat) (z : Nat → Nat) (m : Mg) (a b : Nat) (va : Option Addr) (w : World) (hR : Rd B w rb hb n z mb (m, a, b) va) (h1 : w.cell? ⟨ab, 0, none⟩ = some (.func (.func ka) #[] #[])) (h2 : w.cell? ⟨qb, 0, none⟩ = some (.int .u64 (most : Nat))) (hab : ab ≠ rb ∧ ab ≠ mb) (hqb : qb ≠ rb ∧ qb ≠ mb) (hu : isU c = true) (hcl : c < 22) (hmost : most < 18446744073709551616) :
    Calls Tryz.prog 117 #[.pointer (some ⟨rb, 0, none⟩), .pointer (some ⟨mb, 0, none⟩), .pointer (some ⟨qb, 0, none⟩), .pointer (some ⟨ab, 0, none⟩)] w fun e w' => e = .returned (.tuple #[]) ∧ Rd B w' rb hb n z mb ((Fd.var c most).get z n m a b) va ∧ But2 rb mb w w' := by
  have hent := hat.ent
  unfold Ent at hent
  have HC := hide hat.call
  have hn : c ≠ 10 ∧ c ≠ 13 ∧ c ≠ 14 := by
    refine ⟨fun e => ?_, fun e => ?_, fun e => ?_⟩ <;> (subst e; revert hu; decide)
  have hq := var_r rb hb n a b most z w.drew hR.rd.drew
  have hwr : IntKind.u64.wrap (most : Int) = (most : Int) := by rw [IntKind.wrap_u64]; omega
  obtain ⟨X, HX⟩ : ∃ X : Int, Hid (((varAns z n most a b).1 : Nat) = X) := ⟨_, rfl⟩
  have hnum : mgNum c X = .int .u64 X := by
    unfold mgNum
    rw [if_pos hu]
  have HQ : Hid (Calls Tryz.prog 118 #[.pointer (some ⟨rb, 0, none⟩), .int .u64 most] w.drew fun e w' => e = .returned (.int .u64 ((varAns z n most a b).1 : Nat)) ∧ w'.cell? ⟨ab, 0, none⟩ = some (.func (.func ka) #[] #[]) ∧ w'.cell? ⟨qb, 0, none⟩ = some (.int .u64 (most : Nat)) ∧ (∃ y, w'.cell? ⟨mb, c, none⟩ = some (.int .u64 y)) ∧ w'.frozen? ⟨mb, c, none⟩ = false ∧ (w'.setCell ⟨mb, c, none⟩ (.int .u64 X)).cell? ⟨ab, 0, none⟩ = some (.func (.func ka) #[] #[]) ∧ (w'.setCell ⟨mb, c, none⟩ (.int .u64 X)).cell? ⟨qb, 0, none⟩ = some (.int .u64 (most : Nat)) ∧
      Hid (Rd B (w'.setCell ⟨mb, c, none⟩ (.int .u64 X)) rb hb n z mb ((Fd.var c most).get z n m a b) va ∧ But2 rb mb w (w'.setCell ⟨mb, c, none⟩ (.int .u64 X)))) := hq.mono fun e w' ⟨he, hbt, hI⟩ => by
    have hbt : But rb w w' := ⟨hbt.os, hbt.tape, hbt.output, hbt.size, hbt.block⟩
    have hS := hR.step hbt hI
    have c1 : w'.cell? ⟨ab, 0, none⟩ = some (.func (.func ka) #[] #[]) := by rw [World.cell?_of_block (a := ⟨ab, 0, none⟩) (hbt.block _ (World.block_lt_of_cell? _ _ h1) hab.1)]; exact h1
    have c2 : w'.cell? ⟨qb, 0, none⟩ = some (.int .u64 (most : Nat)) := by rw [World.cell?_of_block (a := ⟨qb, 0, none⟩) (hbt.block _ (World.block_lt_of_cell? _ _ h2) hqb.1)]; exact h2
    have c3 : w'.cell? ⟨mb, c, none⟩ = some (mgCell m va (m.s 10).length c) := hS.row.cell hcl
    rw [mgCell_u hu] at c3
    refine ⟨he, c1, c2, ⟨_, c3⟩, hS.row.frozen c, by rw [World.cell?_of_block (a := ⟨ab, 0, none⟩) (Below.heap_setCell _ _ _ _ hab.2)]; exact c1, by rw [World.cell?_of_block (a := ⟨qb, 0, none⟩) (Below.heap_setCell _ _ _ _ hqb.2)]; exact c2, ?_, ?_⟩
    · have := hS.num c X hcl hn.1 hn.2.1 hn.2.2
      rw [hnum] at this
      have e : (Fd.var c most).get z n m a b = (m.setN c X, (varAns z n most a b).2.1, (varAns z n most a b).2.2) := by
        show (m.setN c (cv c (varAns z n most a b).1), _, _) = _
        have : cv c (varAns z n most a b).1 = X := by
          rw [← HX.out]
          unfold cv
          rw [if_neg (fun e => by rcases e with rfl | rfl <;> exact absurd hu (by decide))]
        rw [this]
      rw [e]
      exact this
    · exact (But2.of_but hbt).set c _
  have h1d : w.drew.cell? ⟨ab, 0, none⟩ = some (.func (.func ka) #[] #[]) := h1
  have h2d : w.drew.cell? ⟨qb, 0, none⟩ = some (.int .u64 (most : Nat)) := h2
  clear hat hq hR hnum hn hu hcl hab hqb
  
  rw [HX.out] at HQ
  go_enter Tryz.func117, Tryz.ntmps117
  go_upto_region 0 with fail
  go_region_held3 (fun W => W.cell? ⟨ab, 0, none⟩ = some (.func (.func ka) #[] #[]) ∧ W.cell? ⟨qb, 0, none⟩ = some (.int .u64 (most : Nat)))
    (first | exact ⟨h1d, h2d⟩ | exact ⟨h1, h2⟩ | exact ⟨c1, c2⟩ | exact ⟨c4, c5⟩)
    (first
      | (go_at_call 118; with_reducible refine HQ.out.mono ?_; rintro e w2 ⟨rfl, c1, c2, ⟨y, c3⟩, f3, c4, c5, HE⟩)
      | (refine (HC.out _ _).mono ?_; rintro e w1 ⟨rfl, e1⟩; rw [e1]; clear e1))
  all_goals
    clear HQ HC
    go_wp2_with fail
    go_end0
    exact ⟨rfl, HE.out⟩
set_option maxHeartbeats 1000000 in
theorem varGetI (ka : FuncId) (c ab qb mb rb hb n B : Nat) (hat : IsAt ka c) (most : Nat) (z : Nat → Nat) (m : Mg) (a b : Nat) (va : Option Addr) (w : World) (hR : Rd B w rb hb n z mb (m, a, b) va) (h1 : w.cell? ⟨ab, 0, none⟩ = some (.func (.func ka) #[] #[])) (h2 : w.cell? ⟨qb, 0, none⟩ = some (.int .i64 (most : Nat))) (hab : ab ≠ rb ∧ ab ≠ mb) (hqb : qb ≠ rb ∧ qb ≠ mb) (hu : isU c = false ∧ (c = 8 ∨ c = 21)) (hcl : c < 22) (hmost : most < 9223372036854775808) :
    Calls Tryz.prog 125 #[.pointer (some ⟨rb, 0, none⟩), .pointer (some ⟨mb, 0, none⟩), .pointer (some ⟨qb, 0, none⟩), .pointer (some ⟨ab, 0, none⟩)] w fun e w' => e = .returned (.tuple #[]) ∧ Rd B w' rb hb n z mb ((Fd.var c most).get z n m a b) va ∧ But2 rb mb w w' := by
  have hent := hat.ent
  unfold Ent at hent
  have HC := hide hat.call
  have hn : c ≠ 10 ∧ c ≠ 13 ∧ c ≠ 14 := by
    refine ⟨fun e => ?_, fun e => ?_, fun e => ?_⟩ <;> (subst e; revert hu; decide)
  have hq := var_r rb hb n a b most z w.drew hR.rd.drew
  have hwr : IntKind.u64.wrap (most : Int) = (most : Int) := by rw [IntKind.wrap_u64]; omega
  obtain ⟨X, HX⟩ : ∃ X : Int, Hid (IntKind.i64.wrap (((varAns z n most a b).1 : Nat) : Int) = X) := ⟨_, rfl⟩
  have hnum : mgNum c X = .int .i64 X := by
    unfold mgNum
    rw [if_neg (by rw [hu.1]; decide)]
  have HQ : Hid (Calls Tryz.prog 118 #[.pointer (some ⟨rb, 0, none⟩), .int .u64 most] w.drew fun e w' => e = .returned (.int .u64 ((varAns z n most a b).1 : Nat)) ∧ w'.cell? ⟨ab, 0, none⟩ = some (.func (.func ka) #[] #[]) ∧ w'.cell? ⟨qb, 0, none⟩ = some (.int .i64 (most : Nat)) ∧ (∃ y, w'.cell? ⟨mb, c, none⟩ = some (.int .i64 y)) ∧ w'.frozen? ⟨mb, c, none⟩ = false ∧ (w'.setCell ⟨mb, c, none⟩ (.int .i64 X)).cell? ⟨ab, 0, none⟩ = some (.func (.func ka) #[] #[]) ∧ (w'.setCell ⟨mb, c, none⟩ (.int .i64 X)).cell? ⟨qb, 0, none⟩ = some (.int .i64 (most : Nat)) ∧
      Hid (Rd B (w'.setCell ⟨mb, c, none⟩ (.int .i64 X)) rb hb n z mb ((Fd.var c most).get z n m a b) va ∧ But2 rb mb w (w'.setCell ⟨mb, c, none⟩ (.int .i64 X)))) := hq.mono fun e w' ⟨he, hbt, hI⟩ => by
    have hbt : But rb w w' := ⟨hbt.os, hbt.tape, hbt.output, hbt.size, hbt.block⟩
    have hS := hR.step hbt hI
    have c1 : w'.cell? ⟨ab, 0, none⟩ = some (.func (.func ka) #[] #[]) := by rw [World.cell?_of_block (a := ⟨ab, 0, none⟩) (hbt.block _ (World.block_lt_of_cell? _ _ h1) hab.1)]; exact h1
    have c2 : w'.cell? ⟨qb, 0, none⟩ = some (.int .i64 (most : Nat)) := by rw [World.cell?_of_block (a := ⟨qb, 0, none⟩) (hbt.block _ (World.block_lt_of_cell? _ _ h2) hqb.1)]; exact h2
    have c3 : w'.cell? ⟨mb, c, none⟩ = some (mgCell m va (m.s 10).length c) := hS.row.cell hcl
    rw [mgCell_i hu.1 hn.1 hn.2.1 hn.2.2] at c3
    refine ⟨he, c1, c2, ⟨_, c3⟩, hS.row.frozen c, by rw [World.cell?_of_block (a := ⟨ab, 0, none⟩) (Below.heap_setCell _ _ _ _ hab.2)]; exact c1, by rw [World.cell?_of_block (a := ⟨qb, 0, none⟩) (Below.heap_setCell _ _ _ _ hqb.2)]; exact c2, ?_, ?_⟩
    · have := hS.num c X hcl hn.1 hn.2.1 hn.2.2
      rw [hnum] at this
      have e : (Fd.var c most).get z n m a b = (m.setN c X, (varAns z n most a b).2.1, (varAns z n most a b).2.2) := by
        show (m.setN c (cv c (varAns z n most a b).1), _, _) = _
        have : cv c (varAns z n most a b).1 = X := by
          rw [← HX.out]
          unfold cv
          rw [if_pos hu.2]
        rw [this]
      rw [e]
      exact this
    · exact (But2.of_but hbt).set c _
  have h1d : w.drew.cell? ⟨ab, 0, none⟩ = some (.func (.func ka) #[] #[]) := h1
  have h2d : w.drew.cell? ⟨qb, 0, none⟩ = some (.int .i64 (most : Nat)) := h2
  clear hat hq hR hnum hn hu hcl hab hqb
  have hX := HX.out
  
  go_enter Tryz.func125, Tryz.ntmps125
  go_upto_region 0 with fail
  go_region_held3 (fun W => W.cell? ⟨ab, 0, none⟩ = some (.func (.func ka) #[] #[]) ∧ W.cell? ⟨qb, 0, none⟩ = some (.int .i64 (most : Nat)))
    (first | exact ⟨h1d, h2d⟩ | exact ⟨h1, h2⟩ | exact ⟨c1, c2⟩ | exact ⟨c4, c5⟩)
    (first
      | (go_at_call 118; with_reducible refine HQ.out.mono ?_; rintro e w2 ⟨rfl, c1, c2, ⟨y, c3⟩, f3, c4, c5, HE⟩)
      | (refine (HC.out _ _).mono ?_; rintro e w1 ⟨rfl, e1⟩; rw [e1]; clear e1))
  all_goals
    clear HQ HC
    go_wp2_with fail
    go_end0
    exact ⟨rfl, HE.out⟩
set_option maxHeartbeats 1000000 in
theorem varGetE (ka : FuncId) (c ab qb mb rb hb n B : Nat) (hat : IsAt ka c) (most : Nat) (z : Nat → Nat) (m : Mg) (a b : Nat) (va : Option Addr) (w : World) (hR : Rd B w rb hb n z mb (m, a, b) va) (h1 : w.cell? ⟨ab, 0, none⟩ = some (.func (.func ka) #[] #[])) (h2 : w.cell? ⟨qb, 0, none⟩ = some (.int .i64 (most : Nat))) (hab : ab ≠ rb ∧ ab ≠ mb) (hqb : qb ≠ rb ∧ qb ≠ mb) (hu : isU c = false ∧ (c = 8 ∨ c = 21)) (hcl : c < 22) (hmost : most < 9223372036854775808) :
    Calls Tryz.prog 161 #[.pointer (some ⟨rb, 0, none⟩), .pointer (some ⟨mb, 0, none⟩), .pointer (some ⟨qb, 0, none⟩), .pointer (some ⟨ab, 0, none⟩)] w fun e w' => e = .returned (.tuple #[]) ∧ Rd B w' rb hb n z mb ((Fd.var c most).get z n m a b) va ∧ But2 rb mb w w' := by
  have hent := hat.ent
  unfold Ent at hent
  have HC := hide hat.call
  have hn : c ≠ 10 ∧ c ≠ 13 ∧ c ≠ 14 := by
    refine ⟨fun e => ?_, fun e => ?_, fun e => ?_⟩ <;> (subst e; revert hu; decide)
  have hq := var_r rb hb n a b most z w.drew hR.rd.drew
  have hwr : IntKind.u64.wrap (most : Int) = (most : Int) := by rw [IntKind.wrap_u64]; omega
  obtain ⟨X, HX⟩ : ∃ X : Int, Hid (IntKind.i64.wrap (((varAns z n most a b).1 : Nat) : Int) = X) := ⟨_, rfl⟩
  have hnum : mgNum c X = .int .i64 X := by
    unfold mgNum
    rw [if_neg (by rw [hu.1]; decide)]
  have HQ : Hid (Calls Tryz.prog 118 #[.pointer (some ⟨rb, 0, none⟩), .int .u64 most] w.drew fun e w' => e = .returned (.int .u64 ((varAns z n most a b).1 : Nat)) ∧ w'.cell? ⟨ab, 0, none⟩ = some (.func (.func ka) #[] #[]) ∧ w'.cell? ⟨qb, 0, none⟩ = some (.int .i64 (most : Nat)) ∧ (∃ y, w'.cell? ⟨mb, c, none⟩ = some (.int .i64 y)) ∧ w'.frozen? ⟨mb, c, none⟩ = false ∧ (w'.setCell ⟨mb, c, none⟩ (.int .i64 X)).cell? ⟨ab, 0, none⟩ = some (.func (.func ka) #[] #[]) ∧ (w'.setCell ⟨mb, c, none⟩ (.int .i64 X)).cell? ⟨qb, 0, none⟩ = some (.int .i64 (most : Nat)) ∧
      Hid (Rd B (w'.setCell ⟨mb, c, none⟩ (.int .i64 X)) rb hb n z mb ((Fd.var c most).get z n m a b) va ∧ But2 rb mb w (w'.setCell ⟨mb, c, none⟩ (.int .i64 X)))) := hq.mono fun e w' ⟨he, hbt, hI⟩ => by
    have hbt : But rb w w' := ⟨hbt.os, hbt.tape, hbt.output, hbt.size, hbt.block⟩
    have hS := hR.step hbt hI
    have c1 : w'.cell? ⟨ab, 0, none⟩ = some (.func (.func ka) #[] #[]) := by rw [World.cell?_of_block (a := ⟨ab, 0, none⟩) (hbt.block _ (World.block_lt_of_cell? _ _ h1) hab.1)]; exact h1
    have c2 : w'.cell? ⟨qb, 0, none⟩ = some (.int .i64 (most : Nat)) := by rw [World.cell?_of_block (a := ⟨qb, 0, none⟩) (hbt.block _ (World.block_lt_of_cell? _ _ h2) hqb.1)]; exact h2
    have c3 : w'.cell? ⟨mb, c, none⟩ = some (mgCell m va (m.s 10).length c) := hS.row.cell hcl
    rw [mgCell_i hu.1 hn.1 hn.2.1 hn.2.2] at c3
    refine ⟨he, c1, c2, ⟨_, c3⟩, hS.row.frozen c, by rw [World.cell?_of_block (a := ⟨ab, 0, none⟩) (Below.heap_setCell _ _ _ _ hab.2)]; exact c1, by rw [World.cell?_of_block (a := ⟨qb, 0, none⟩) (Below.heap_setCell _ _ _ _ hqb.2)]; exact c2, ?_, ?_⟩
    · have := hS.num c X hcl hn.1 hn.2.1 hn.2.2
      rw [hnum] at this
      have e : (Fd.var c most).get z n m a b = (m.setN c X, (varAns z n most a b).2.1, (varAns z n most a b).2.2) := by
        show (m.setN c (cv c (varAns z n most a b).1), _, _) = _
        have : cv c (varAns z n most a b).1 = X := by
          rw [← HX.out]
          unfold cv
          rw [if_pos hu.2]
        rw [this]
      rw [e]
      exact this
    · exact (But2.of_but hbt).set c _
  have h1d : w.drew.cell? ⟨ab, 0, none⟩ = some (.func (.func ka) #[] #[]) := h1
  have h2d : w.drew.cell? ⟨qb, 0, none⟩ = some (.int .i64 (most : Nat)) := h2
  clear hat hq hR hnum hn hu hcl hab hqb
  have hX := HX.out
  
  go_enter Tryz.func161, Tryz.ntmps161
  go_upto_region 0 with fail
  go_region_held3 (fun W => W.cell? ⟨ab, 0, none⟩ = some (.func (.func ka) #[] #[]) ∧ W.cell? ⟨qb, 0, none⟩ = some (.int .i64 (most : Nat)))
    (first | exact ⟨h1d, h2d⟩ | exact ⟨h1, h2⟩ | exact ⟨c1, c2⟩ | exact ⟨c4, c5⟩)
    (first
      | (go_at_call 118; with_reducible refine HQ.out.mono ?_; rintro e w2 ⟨rfl, c1, c2, ⟨y, c3⟩, f3, c4, c5, HE⟩)
      | (refine (HC.out _ _).mono ?_; rintro e w1 ⟨rfl, e1⟩; rw [e1]; clear e1))
  all_goals
    clear HQ HC
    go_wp2_with fail
    go_end0
    exact ⟨rfl, HE.out⟩
set_option maxHeartbeats 1000000 in
theorem smallGet (ka : FuncId) (c ab mb rb hb n B : Nat) (hat : IsAt ka c) (most : Nat) (z : Nat → Nat) (m : Mg) (a b : Nat) (va : Option Addr) (w : World) (hR : Rd B w rb hb n z mb (m, a, b) va) (hw : Wid w) (h1 : w.cell? ⟨ab, 0, none⟩ = some (.func (.func ka) #[] #[])) (hu : isU c = false ∧ c ≠ 10 ∧ c ≠ 13 ∧ c ≠ 14) (hcl : c < 22) :
    Calls Tryz.prog 133 #[.pointer (some ⟨rb, 0, none⟩), .pointer (some ⟨mb, 0, none⟩), .pointer (some ⟨ab, 0, none⟩)] w fun e w' => e = .returned (.tuple #[]) ∧ Rd B w' rb hb n z mb ((Fd.small c most).get z n m a b) va ∧ But2 rb mb w w' := by
  have hent := hat.ent
  unfold Ent at hent
  have HC := hide hat.call
  have hn := hu.2
  have hq := u8_r rb hb n a b z w hR.rd hw
  have hX : (fixAns z n 1 a b).1 < 256 := by
    unfold fixAns
    split
    · show 0 < 256; decide
    · split
      · show 0 < 256; decide
      · have := be_lt (fun j => z (a + j)) (fun j => hR.rd.byte _) 1
        simpa using this
  obtain ⟨X, HX⟩ : ∃ X : Nat, Hid ((fixAns z n 1 a b).1 = X) := ⟨_, rfl⟩
  rw [HX.out] at hq hX
  have hwr : IntKind.i64.wrap (X : Int) = (X : Int) := by rw [IntKind.wrap_i64]; omega
  have hnum : mgNum c X = .int .i64 X := by
    unfold mgNum
    rw [if_neg (by rw [hu.1]; decide)]
  have HQ : Hid (Calls Tryz.prog 86 #[.pointer (some ⟨rb, 0, none⟩)] w fun e w' => e = .returned (.int .u8 (X : Nat)) ∧ (∃ y, w'.cell? ⟨mb, c, none⟩ = some (.int .i64 y)) ∧ w'.frozen? ⟨mb, c, none⟩ = false ∧
      Hid (Rd B (w'.setCell ⟨mb, c, none⟩ (.int .i64 (X : Nat))) rb hb n z mb ((Fd.small c most).get z n m a b) va ∧ But2 rb mb w (w'.setCell ⟨mb, c, none⟩ (.int .i64 (X : Nat))))) := hq.mono fun e w' ⟨he, hbt, hI⟩ => by
    have hS := hR.step hbt hI
    have c3 : w'.cell? ⟨mb, c, none⟩ = some (mgCell m va (m.s 10).length c) := hS.row.cell hcl
    rw [mgCell_i hu.1 hn.1 hn.2.1 hn.2.2] at c3
    refine ⟨he, ⟨_, c3⟩, hS.row.frozen c, ?_, ?_⟩
    · have := hS.num c X hcl hn.1 hn.2.1 hn.2.2
      rw [hnum] at this
      have e : (Fd.small c most).get z n m a b = (m.setN c X, (fixAns z n 1 a b).2.1, (fixAns z n 1 a b).2.2) := by
        show (m.setN c ((fixAns z n 1 a b).1 : Nat), _, _) = _
        rw [HX.out]
      rw [e]
      exact this
    · exact (But2.of_but hbt).set c _
  clear hat hq hR hnum hn hu hcl
  go_enter Tryz.func133, Tryz.ntmps133
  go_wp2_with fail
  refine (HC.out _ _).mono ?_
  rintro e w1 ⟨rfl, e1⟩
  rw [e1]
  clear e1
  go_wp2_with fail
  refine HQ.out.mono ?_
  rintro e w2 ⟨rfl, ⟨y, c3⟩, f3, HE⟩
  clear HQ HC
  go_wp2_with fail
  go_end0
  exact ⟨rfl, HE.out⟩
set_option maxHeartbeats 1000000 in
theorem nameGet (ka : FuncId) (c ab mb rb hb n B : Nat) (hat : IsAt ka c) (z : Nat → Nat) (m : Mg) (a b : Nat) (va : Option Addr) (w : World) (hR : Rd B w rb hb n z mb (m, a, b) va) (h1 : w.cell? ⟨ab, 0, none⟩ = some (.func (.func ka) #[] #[])) (hc : c = 13 ∨ c = 14) (hn : n ≤ 140737488351232) :
    Calls Tryz.prog 136 #[.pointer (some ⟨rb, 0, none⟩), .pointer (some ⟨mb, 0, none⟩), .pointer (some ⟨ab, 0, none⟩)] w fun e w' => e = .returned (.tuple #[]) ∧ Rd B w' rb hb n z mb ((Fd.text c 64).get z n m a b) va ∧ But2 rb mb w w' := by
  have hent := hat.ent
  unfold Ent at hent
  have HC := hide hat.call
  have hq := bytes_r rb hb n a b 64 z w hR.rd (by decide)
  have hle := bytesAns_le (z := z) (n := n) (most := 64) (a := a) (b := b)
  have e64 : (64 : Int).toNat = 64 := rfl
  rw [e64] at hq
  have eg : (Fd.text c 64).get z n m a b = (m.setS c (cutZ z (bytesAns z n 64 a b).2.1 (bytesAns z n 64 a b).1), (bytesAns z n 64 a b).2.2.1, (bytesAns z n 64 a b).2.2.2) := rfl
  rw [eg]
  generalize bytesAns z n 64 a b = V at *
  obtain ⟨L, p, a2, b2⟩ := V
  simp only at hq hle ⊢
  have HQ : Hid (Calls Tryz.prog 130 #[.pointer (some ⟨rb, 0, none⟩), .int .i64 64] w fun e w' => ∃ ta, e = .returned (.slice ta L L) ∧ (convert 32 9 (.slice ta L L)).run Tryz.prog w' = .ok (.string (strL (cutZ z p L))) w' ∧ (∃ y, w'.cell? ⟨mb, c, none⟩ = some (.string y)) ∧ w'.frozen? ⟨mb, c, none⟩ = false ∧
      Hid (Rd B (w'.setCell ⟨mb, c, none⟩ (.string (strL (cutZ z p L)))) rb hb n z mb (m.setS c (cutZ z p L), a2, b2) va ∧ But2 rb mb w (w'.setCell ⟨mb, c, none⟩ (.string (strL (cutZ z p L)))))) := hq.mono fun e w' ⟨⟨ta, he, htx⟩, hbt, hI⟩ => by
    have hS := hR.step hbt hI
    have hcl : c < 22 := by omega
    have c3 : w'.cell? ⟨mb, c, none⟩ = some (mgCell m va (m.s 10).length c) := hS.row.cell hcl
    have e3 : mgCell m va (m.s 10).length c = .string (strL (m.s c)) := by
      unfold mgCell
      rw [if_neg (by omega), if_pos hc]
    rw [e3] at c3
    have hcv := str_byt ta L L (fun j => z (p + j)) w' htx.toByt (fun e => by
      rcases htx with ⟨_, h⟩ | ⟨t, h, _⟩
      · exact h
      · rw [h] at e; simp at e)
    rw [strOf_strL] at hcv
    exact ⟨ta, he, hcv, ⟨_, c3⟩, hS.row.frozen c, hS.str c _ hc (by rw [cutZ_len]; omega) (cutZ_byte hR.rd.byte p L), (But2.of_but hbt).set c _⟩
  clear hat hq hR hle hn hc eg
  generalize strL (cutZ z p L) = S at *
  go_enter Tryz.func136, Tryz.ntmps136
  go_wp2_with fail
  refine (HC.out _ _).mono ?_
  rintro e w1 ⟨rfl, e1⟩
  rw [e1]
  clear e1
  go_wp2_with fail
  refine HQ.out.mono ?_
  rintro e w2 ⟨ta, rfl, hcv, ⟨y, c3⟩, f3, HE⟩
  clear HQ HC
  go_wp2_with fail
  go_end0
  exact ⟨rfl, HE.out⟩
set_option maxHeartbeats 1000000 in
theorem valueGet (mb rb hb n B : Nat) (z : Nat → Nat) (m : Mg) (a b : Nat) (va : Option Addr) (w : World) (hR : Rd B w rb hb n z mb (m, a, b) va) (hn : n ≤ 140737488351232) :
    Calls Tryz.prog 129 #[.pointer (some ⟨rb, 0, none⟩), .pointer (some ⟨mb, 0, none⟩)] w fun e w' => e = .returned (.tuple #[]) ∧ ∃ ta, Rd B w' rb hb n z mb ((Fd.text 10 16384).get z n m a b) ta ∧ But2 rb mb w w' := by
  have hq := bytes_r rb hb n a b 16384 z w hR.rd (by decide)
  have hle := bytesAns_le (z := z) (n := n) (most := 16384) (a := a) (b := b)
  have e64 : (16384 : Int).toNat = 16384 := rfl
  rw [e64] at hq
  have eg : (Fd.text 10 16384).get z n m a b = (m.setS 10 (cutZ z (bytesAns z n 16384 a b).2.1 (bytesAns z n 16384 a b).1), (bytesAns z n 16384 a b).2.2.1, (bytesAns z n 16384 a b).2.2.2) := rfl
  rw [eg]
  generalize bytesAns z n 16384 a b = V at *
  obtain ⟨L, p, a2, b2⟩ := V
  simp only at hq hle ⊢
  have HQ : Hid (Calls Tryz.prog 130 #[.pointer (some ⟨rb, 0, none⟩), .int .i64 16384] w fun e w' => ∃ ta, e = .returned (.slice ta L L) ∧ (∃ x y q, w'.cell? ⟨mb, 10, none⟩ = some (.slice x y q)) ∧ w'.frozen? ⟨mb, 10, none⟩ = false ∧
      Hid (∃ ta', Rd B (w'.setCell ⟨mb, 10, none⟩ (.slice ta L L)) rb hb n z mb (m.setS 10 (cutZ z p L), a2, b2) ta' ∧ But2 rb mb w (w'.setCell ⟨mb, 10, none⟩ (.slice ta L L)))) := hq.mono fun e w' ⟨⟨ta, he, htx⟩, hbt, hI⟩ => by
    have hS := hR.step hbt hI
    have c3 : w'.cell? ⟨mb, 10, none⟩ = some (.slice va (m.s 10).length (m.s 10).length) := hS.row.cell (i := 10) (by decide)
    have el : (cutZ z p L).length = L := cutZ_len z p L
    have htx2 : Txt B w' ta (cutZ z p L).length (fun j => (cutZ z p L).getD j 0) := by
      rw [el]
      rcases htx with h | ⟨t, h, ht, hrow⟩
      · exact .inl h
      · exact .inr ⟨t, h, Nat.le_trans hR.low ht, hrow.congr (fun j hj => by show Value.int .u8 ((z (p + j) : Nat) : Int) = .int .u8 (((cutZ z p L).getD j 0 : Nat) : Int); rw [cutZ_get z p L j hj])⟩
    have := hS.val ta (cutZ z p L) htx2 (by omega) (cutZ_byte hR.rd.byte p L)
    rw [el] at this
    exact ⟨ta, he, ⟨_, _, _, c3⟩, hS.row.frozen 10, ta, this, (But2.of_but hbt).set 10 _⟩
  clear hq hR hle hn eg
  go_enter Tryz.func129, Tryz.ntmps129
  go_wp2_with fail
  refine HQ.out.mono ?_
  rintro e w2 ⟨ta, rfl, ⟨x, y, q, c3⟩, f3, HE⟩
  clear HQ
  go_wp2_with fail
  go_end0
  exact ⟨rfl, HE.out⟩
end Go.Proofs.YtonpmabdjngdcaaGreatDoor

/- Package message: a field: what its three functions do. -/
namespace Go.Proofs.YtonpmabdjngdcaaGreatDoor
open Go.RowKit
set_option maxRecDepth 100000

def Agr2 (lo hi : Nat) (w W : World) : Prop := ∀ k, lo ≤ k → k < hi → W.heap[k]? = w.heap[k]?
theorem Agr2.cell {lo hi : Nat} {w W : World} (h : Agr2 lo hi w W) {b i : Nat} {v : Value} (h1 : lo ≤ b) (h2 : b < hi) (hc : w.cell? ⟨b, i, none⟩ = some v) : W.cell? ⟨b, i, none⟩ = some v := by
  rw [World.cell?_of_block (a := ⟨b, i, none⟩) (h b h1 h2)]; exact hc
theorem Agr2.trans {lo hi : Nat} {a b c : World} (h : Agr2 lo hi a b) (k : Agr2 lo hi b c) : Agr2 lo hi a c := fun q h1 h2 => (k q h1 h2).trans (h q h1 h2)
theorem Agr2.since {lo hi : Nat} {w W : World} (h : w.Since w.heap.size W) (hz : hi ≤ w.heap.size) : Agr2 lo hi w W := fun q _ h2 => h.block q (by omega)
def ptr (b : Nat) : Value := .pointer (some ⟨b, 0, none⟩)
/-- May it be? -/
def FMay (lo hi : Nat) (w : World) (k : FuncId) (cp : Array Value) (fs : List Fd) : Prop :=
  Ent k ∧ ∀ W, Agr2 lo hi w W → ∀ mb m va vc used, MsgIs W mb m va vc → Calls Tryz.prog k (#[.pointer (some ⟨mb, 0, none⟩), .bool used] ++ cp) W fun e w' => e = .returned (.bool (fs.all fun f => f.may m used)) ∧ ∃ q, w' = W.drewN q
/-- Write it. -/
def FPut (lo hi : Nat) (w : World) (k : FuncId) (cp : Array Value) (fs : List Fd) : Prop :=
  Ent k ∧ ∀ w0 W wb l mb m va vc, Agr2 lo hi w w0 → hi ≤ w0.heap.size → Wr w0 W wb l → Tb w0 → MsgIs w0 mb m va vc → (∀ f ∈ fs, f.fits m) → l.length + (putL m fs).length ≤ 100000000000 →
    Calls Tryz.prog k (#[.pointer (some ⟨wb, 0, none⟩), .pointer (some ⟨mb, 0, none⟩)] ++ cp) W fun e w' => e = .returned (.tuple #[]) ∧ Wr w0 w' wb (l ++ putL m fs)
/-- Read it. -/
def FGet (lo hi : Nat) (w : World) (k : FuncId) (cp : Array Value) (fs : List Fd) : Prop :=
  Ent k ∧ ∀ W, Agr2 lo hi w W → hi ≤ W.heap.size → ∀ B rb hb n z mb m a b va, Rd B W rb hb n z mb (m, a, b) va → Wid W → ¬ (lo ≤ rb ∧ rb < hi) → ¬ (lo ≤ mb ∧ mb < hi) → rb ≠ 2 ∧ mb ≠ 2 → n ≤ 140737488351232 →
    Calls Tryz.prog k (#[.pointer (some ⟨rb, 0, none⟩), .pointer (some ⟨mb, 0, none⟩)] ++ cp) W fun e w' => e = .returned (.tuple #[]) ∧ ∃ va', Rd B w' rb hb n z mb (getL z n fs m a b) va' ∧ But2 rb mb W w'
theorem FMay.up {lo hi lo' hi' : Nat} {w w' : World} {k : FuncId} {cp : Array Value} {fs : List Fd} (h : FMay lo hi w k cp fs) (h1 : lo' ≤ lo) (h2 : hi ≤ hi') (hw : Agr2 lo hi w w') : FMay lo' hi' w' k cp fs :=
  ⟨h.1, fun W hW => h.2 W (hw.trans fun q q1 q2 => hW q (by omega) (by omega))⟩
theorem FPut.up {lo hi lo' hi' : Nat} {w w' : World} {k : FuncId} {cp : Array Value} {fs : List Fd} (h : FPut lo hi w k cp fs) (h1 : lo' ≤ lo) (h2 : hi ≤ hi') (hw : Agr2 lo hi w w') : FPut lo' hi' w' k cp fs :=
  ⟨h.1, fun w0 W wb l mb m va vc hW hz => h.2 w0 W wb l mb m va vc (hw.trans fun q q1 q2 => hW q (by omega) (by omega)) (by omega)⟩
theorem FGet.up {lo hi lo' hi' : Nat} {w w' : World} {k : FuncId} {cp : Array Value} {fs : List Fd} (h : FGet lo hi w k cp fs) (h1 : lo' ≤ lo) (h2 : hi ≤ hi') (hw : Agr2 lo hi w w') : FGet lo' hi' w' k cp fs :=
  ⟨h.1, fun W hW hz B rb hb n z mb m a b va hR hwid r1 r2 g hn => h.2 W (hw.trans fun q q1 q2 => hW q (by omega) (by omega)) (by omega) B rb hb n z mb m a b va hR hwid (fun e => r1 (by omega)) (fun e => r2 (by omega)) g hn⟩
theorem getL_one (z : Nat → Nat) (n : Nat) (f : Fd) (m : Mg) (a b : Nat) : getL z n [f] m a b = f.get z n m a b := rfl
theorem putL_one (m : Mg) (f : Fd) : putL m [f] = f.put m := List.append_nil _
theorem varMayOkU {ka : FuncId} {c : Nat} (hat : IsAt ka c) (hu : isU c = true) (hcl : c < 22) (h21 : c ≠ 21) (most : Nat) {lo hi ab qb : Nat} {w : World} (h1 : w.cell? ⟨ab, 0, none⟩ = some (.func (.func ka) #[] #[])) (h2 : w.cell? ⟨qb, 0, none⟩ = some (.int .u64 (most : Nat))) (a1 : lo ≤ ab ∧ ab < hi) (q1 : lo ≤ qb ∧ qb < hi) : FMay lo hi w 113 #[ptr ab, ptr qb] [.var c most] := by
  refine ⟨fun _ _ => rfl, fun W hW mb m va vc used hM => ?_⟩
  have hn : c ≠ 10 ∧ c ≠ 13 ∧ c ≠ 14 := by
    refine ⟨fun e => ?_, fun e => ?_, fun e => ?_⟩ <;> (subst e; revert hu; decide)
  have h3 := hM.cell hcl
  rw [mgCell_u hu] at h3
  have := varMayU ka c ab qb mb hat (most : Nat) (m.n c) used W (hW.cell a1.1 a1.2 h1) (hW.cell q1.1 q1.2 h2) h3
  have e : ([Fd.var c most].all fun f => f.may m used) = decide (0 ≤ m.n c ∧ m.n c ≤ (if used then ((most : Nat) : Int) else 0)) := by
    show ((Fd.var c most).may m used && true) = _
    rw [Bool.and_true]
    unfold Fd.may
    simp [h21]
  rw [e]
  exact this
theorem varPutOkU {ka : FuncId} {c : Nat} (hat : IsAt ka c) (hu : isU c = true) (hcl : c < 22) (most : Nat) (hmost : most < 18446744073709551616) {lo hi ab : Nat} {w : World} (h1 : w.cell? ⟨ab, 0, none⟩ = some (.func (.func ka) #[] #[])) (a1 : lo ≤ ab ∧ ab < hi) : FPut lo hi w 115 #[ptr ab] [.var c most] := by
  refine ⟨fun _ _ => rfl, fun w0 W wb l mb m va vc hW hz hWr ht hM hf hl => ?_⟩
  have hn : c ≠ 10 ∧ c ≠ 13 ∧ c ≠ 14 := by
    refine ⟨fun e => ?_, fun e => ?_, fun e => ?_⟩ <;> (subst e; revert hu; decide)
  have h3 := (hM.since hWr.2.1).cell hcl
  rw [mgCell_u hu] at h3
  obtain ⟨f1, f2, f3, f4⟩ := hf _ (List.mem_singleton.2 rfl)
  have h3' : W.cell? ⟨mb, c, none⟩ = some (.int .u64 (((m.n c).toNat : Nat) : Int)) := by rw [h3, Int.toNat_of_nonneg f1]
  have hab : W.cell? ⟨ab, 0, none⟩ = some (.func (.func ka) #[] #[]) := by
    have := hW.cell a1.1 a1.2 h1
    rw [World.cell?_of_block (a := ⟨ab, 0, none⟩) (hWr.2.1.block _ (World.block_lt_of_cell? _ _ this))]
    exact this
  have := varPutU ka c ab mb wb hat (m.n c).toNat w0 W l hWr hab h3' (by omega) (by omega)
  rw [putL_one]
  exact this
theorem varGetOkU {ka : FuncId} {c : Nat} (hat : IsAt ka c) (hu : isU c = true) (hcl : c < 22) (most : Nat) (hmost : most < 18446744073709551616) {lo hi ab qb : Nat} {w : World} (h1 : w.cell? ⟨ab, 0, none⟩ = some (.func (.func ka) #[] #[])) (h2 : w.cell? ⟨qb, 0, none⟩ = some (.int .u64 (most : Nat))) (a1 : lo ≤ ab ∧ ab < hi) (q1 : lo ≤ qb ∧ qb < hi) : FGet lo hi w 117 #[ptr qb, ptr ab] [.var c most] := by
  refine ⟨fun _ _ => rfl, fun W hW hz B rb hb n z mb m a b va hR hwid r1 r2 hg hn => ?_⟩
  refine (varGetU ka c ab qb mb rb hb n B hat most z m a b va W hR (hW.cell a1.1 a1.2 h1) (hW.cell q1.1 q1.2 h2) ⟨by omega, by omega⟩ ⟨by omega, by omega⟩ hu hcl hmost).mono fun e w' ⟨he, hx, hy⟩ => ⟨he, va, ?_, hy⟩
  rw [getL_one]
  exact hx
theorem varMayOkI {ka : FuncId} {c : Nat} (hat : IsAt ka c) (hu : isU c = false ∧ (c = 8 ∨ c = 21)) (hcl : c < 22) (h21 : c ≠ 21) (most : Nat) {lo hi ab qb : Nat} {w : World} (h1 : w.cell? ⟨ab, 0, none⟩ = some (.func (.func ka) #[] #[])) (h2 : w.cell? ⟨qb, 0, none⟩ = some (.int .i64 (most : Nat))) (a1 : lo ≤ ab ∧ ab < hi) (q1 : lo ≤ qb ∧ qb < hi) : FMay lo hi w 122 #[ptr ab, ptr qb] [.var c most] := by
  refine ⟨fun _ _ => rfl, fun W hW mb m va vc used hM => ?_⟩
  have hn : c ≠ 10 ∧ c ≠ 13 ∧ c ≠ 14 := by
    refine ⟨fun e => ?_, fun e => ?_, fun e => ?_⟩ <;> (subst e; revert hu; decide)
  have h3 := hM.cell hcl
  rw [mgCell_i hu.1 hn.1 hn.2.1 hn.2.2] at h3
  have := varMayI ka c ab qb mb hat (most : Nat) (m.n c) used W (hW.cell a1.1 a1.2 h1) (hW.cell q1.1 q1.2 h2) h3
  have e : ([Fd.var c most].all fun f => f.may m used) = decide (0 ≤ m.n c ∧ m.n c ≤ (if used then ((most : Nat) : Int) else 0)) := by
    show ((Fd.var c most).may m used && true) = _
    rw [Bool.and_true]
    unfold Fd.may
    simp [h21]
  rw [e]
  exact this
theorem varPutOkI {ka : FuncId} {c : Nat} (hat : IsAt ka c) (hu : isU c = false ∧ (c = 8 ∨ c = 21)) (hcl : c < 22) (most : Nat) (hmost : most < 9223372036854775808) {lo hi ab : Nat} {w : World} (h1 : w.cell? ⟨ab, 0, none⟩ = some (.func (.func ka) #[] #[])) (a1 : lo ≤ ab ∧ ab < hi) : FPut lo hi w 124 #[ptr ab] [.var c most] := by
  refine ⟨fun _ _ => rfl, fun w0 W wb l mb m va vc hW hz hWr ht hM hf hl => ?_⟩
  have hn : c ≠ 10 ∧ c ≠ 13 ∧ c ≠ 14 := by
    refine ⟨fun e => ?_, fun e => ?_, fun e => ?_⟩ <;> (subst e; revert hu; decide)
  have h3 := (hM.since hWr.2.1).cell hcl
  rw [mgCell_i hu.1 hn.1 hn.2.1 hn.2.2] at h3
  obtain ⟨f1, f2, f3, f4⟩ := hf _ (List.mem_singleton.2 rfl)
  have h3' : W.cell? ⟨mb, c, none⟩ = some (.int .i64 (((m.n c).toNat : Nat) : Int)) := by rw [h3, Int.toNat_of_nonneg f1]
  have hab : W.cell? ⟨ab, 0, none⟩ = some (.func (.func ka) #[] #[]) := by
    have := hW.cell a1.1 a1.2 h1
    rw [World.cell?_of_block (a := ⟨ab, 0, none⟩) (hWr.2.1.block _ (World.block_lt_of_cell? _ _ this))]
    exact this
  have := varPutI ka c ab mb wb hat (m.n c).toNat w0 W l hWr hab h3' (by omega) (by omega)
  rw [putL_one]
  exact this
theorem varGetOkI {ka : FuncId} {c : Nat} (hat : IsAt ka c) (hu : isU c = false ∧ (c = 8 ∨ c = 21)) (hcl : c < 22) (most : Nat) (hmost : most < 9223372036854775808) {lo hi ab qb : Nat} {w : World} (h1 : w.cell? ⟨ab, 0, none⟩ = some (.func (.func ka) #[] #[])) (h2 : w.cell? ⟨qb, 0, none⟩ = some (.int .i64 (most : Nat))) (a1 : lo ≤ ab ∧ ab < hi) (q1 : lo ≤ qb ∧ qb < hi) : FGet lo hi w 125 #[ptr qb, ptr ab] [.var c most] := by
  refine ⟨fun _ _ => rfl, fun W hW hz B rb hb n z mb m a b va hR hwid r1 r2 hg hn => ?_⟩
  refine (varGetI ka c ab qb mb rb hb n B hat most z m a b va W hR (hW.cell a1.1 a1.2 h1) (hW.cell q1.1 q1.2 h2) ⟨by omega, by omega⟩ ⟨by omega, by omega⟩ hu hcl hmost).mono fun e w' ⟨he, hx, hy⟩ => ⟨he, va, ?_, hy⟩
  rw [getL_one]
  exact hx
theorem varPutOkE {ka : FuncId} {c : Nat} (hat : IsAt ka c) (hu : isU c = false ∧ (c = 8 ∨ c = 21)) (hcl : c < 22) (most : Nat) (hmost : most < 9223372036854775808) {lo hi ab : Nat} {w : World} (h1 : w.cell? ⟨ab, 0, none⟩ = some (.func (.func ka) #[] #[])) (a1 : lo ≤ ab ∧ ab < hi) : FPut lo hi w 160 #[ptr ab] [.var c most] := by
  refine ⟨fun _ _ => rfl, fun w0 W wb l mb m va vc hW hz hWr ht hM hf hl => ?_⟩
  have hn : c ≠ 10 ∧ c ≠ 13 ∧ c ≠ 14 := by
    refine ⟨fun e => ?_, fun e => ?_, fun e => ?_⟩ <;> (subst e; revert hu; decide)
  have h3 := (hM.since hWr.2.1).cell hcl
  rw [mgCell_i hu.1 hn.1 hn.2.1 hn.2.2] at h3
  obtain ⟨f1, f2, f3, f4⟩ := hf _ (List.mem_singleton.2 rfl)
  have h3' : W.cell? ⟨mb, c, none⟩ = some (.int .i64 (((m.n c).toNat : Nat) : Int)) := by rw [h3, Int.toNat_of_nonneg f1]
  have hab : W.cell? ⟨ab, 0, none⟩ = some (.func (.func ka) #[] #[]) := by
    have := hW.cell a1.1 a1.2 h1
    rw [World.cell?_of_block (a := ⟨ab, 0, none⟩) (hWr.2.1.block _ (World.block_lt_of_cell? _ _ this))]
    exact this
  have := varPutE ka c ab mb wb hat (m.n c).toNat w0 W l hWr hab h3' (by omega) (by omega)
  rw [putL_one]
  exact this
theorem varGetOkE {ka : FuncId} {c : Nat} (hat : IsAt ka c) (hu : isU c = false ∧ (c = 8 ∨ c = 21)) (hcl : c < 22) (most : Nat) (hmost : most < 9223372036854775808) {lo hi ab qb : Nat} {w : World} (h1 : w.cell? ⟨ab, 0, none⟩ = some (.func (.func ka) #[] #[])) (h2 : w.cell? ⟨qb, 0, none⟩ = some (.int .i64 (most : Nat))) (a1 : lo ≤ ab ∧ ab < hi) (q1 : lo ≤ qb ∧ qb < hi) : FGet lo hi w 161 #[ptr qb, ptr ab] [.var c most] := by
  refine ⟨fun _ _ => rfl, fun W hW hz B rb hb n z mb m a b va hR hwid r1 r2 hg hn => ?_⟩
  refine (varGetE ka c ab qb mb rb hb n B hat most z m a b va W hR (hW.cell a1.1 a1.2 h1) (hW.cell q1.1 q1.2 h2) ⟨by omega, by omega⟩ ⟨by omega, by omega⟩ hu hcl hmost).mono fun e w' ⟨he, hx, hy⟩ => ⟨he, va, ?_, hy⟩
  rw [getL_one]
  exact hx
theorem smallMayOk {ka : FuncId} {c : Nat} (hat : IsAt ka c) (hu : isU c = false ∧ c ≠ 10 ∧ c ≠ 13 ∧ c ≠ 14) (hcl : c < 22) (most : Nat) {lo hi ab qb : Nat} {w : World} (h1 : w.cell? ⟨ab, 0, none⟩ = some (.func (.func ka) #[] #[])) (h2 : w.cell? ⟨qb, 0, none⟩ = some (.int .i64 (most : Nat))) (a1 : lo ≤ ab ∧ ab < hi) (q1 : lo ≤ qb ∧ qb < hi) : FMay lo hi w 131 #[ptr ab, ptr qb] [.small c most] := by
  refine ⟨fun _ _ => rfl, fun W hW mb m va vc used hM => ?_⟩
  have h3 := hM.cell hcl
  rw [mgCell_i hu.1 hu.2.1 hu.2.2.1 hu.2.2.2] at h3
  have := smallMay ka c ab qb mb hat (most : Nat) (m.n c) used W (hW.cell a1.1 a1.2 h1) (hW.cell q1.1 q1.2 h2) h3
  have e : ([Fd.small c most].all fun f => f.may m used) = decide (0 ≤ m.n c ∧ m.n c ≤ (if used then ((most : Nat) : Int) else 0)) := by
    show ((Fd.small c most).may m used && true) = _
    rw [Bool.and_true]
    rfl
  rw [e]
  exact this
theorem smallPutOk {ka : FuncId} {c : Nat} (hat : IsAt ka c) (hu : isU c = false ∧ c ≠ 10 ∧ c ≠ 13 ∧ c ≠ 14) (hcl : c < 22) (most : Nat) {lo hi ab : Nat} {w : World} (h1 : w.cell? ⟨ab, 0, none⟩ = some (.func (.func ka) #[] #[])) (a1 : lo ≤ ab ∧ ab < hi) : FPut lo hi w 132 #[ptr ab] [.small c most] := by
  refine ⟨fun _ _ => rfl, fun w0 W wb l mb m va vc hW hz hWr ht hM hf hl => ?_⟩
  have h3 := (hM.since hWr.2.1).cell hcl
  rw [mgCell_i hu.1 hu.2.1 hu.2.2.1 hu.2.2.2] at h3
  obtain ⟨f1, f2⟩ := hf _ (List.mem_singleton.2 rfl)
  have h3' : W.cell? ⟨mb, c, none⟩ = some (.int .i64 (((m.n c).toNat : Nat) : Int)) := by rw [h3, Int.toNat_of_nonneg f1]
  have hab : W.cell? ⟨ab, 0, none⟩ = some (.func (.func ka) #[] #[]) := by
    have := hW.cell a1.1 a1.2 h1
    rw [World.cell?_of_block (a := ⟨ab, 0, none⟩) (hWr.2.1.block _ (World.block_lt_of_cell? _ _ this))]
    exact this
  have := smallPut ka c ab mb wb hat (m.n c).toNat w0 W l hWr ht hab h3' (by omega) (by omega)
  rw [putL_one]
  exact this
theorem smallGetOk {ka : FuncId} {c : Nat} (hat : IsAt ka c) (hu : isU c = false ∧ c ≠ 10 ∧ c ≠ 13 ∧ c ≠ 14) (hcl : c < 22) (most : Nat) {lo hi ab : Nat} {w : World} (h1 : w.cell? ⟨ab, 0, none⟩ = some (.func (.func ka) #[] #[])) (a1 : lo ≤ ab ∧ ab < hi) : FGet lo hi w 133 #[ptr ab] [.small c most] := by
  refine ⟨fun _ _ => rfl, fun W hW hz B rb hb n z mb m a b va hR hwid r1 r2 hg hn => ?_⟩
  refine (smallGet ka c ab mb rb hb n B hat most z m a b va W hR hwid (hW.cell a1.1 a1.2 h1) hu hcl).mono fun e w' ⟨he, hx, hy⟩ => ⟨he, va, ?_, hy⟩
  rw [getL_one]
  exact hx
theorem nameMayOk {ka : FuncId} {c : Nat} (hat : IsAt ka c) (hc : c = 13 ∨ c = 14) {lo hi ab : Nat} {w : World} (h1 : w.cell? ⟨ab, 0, none⟩ = some (.func (.func ka) #[] #[])) (a1 : lo ≤ ab ∧ ab < hi) : FMay lo hi w 134 #[ptr ab] [.text c 64] := by
  refine ⟨fun _ _ => rfl, fun W hW mb m va vc used hM => ?_⟩
  have h3 := hM.cell (i := c) (by omega)
  have e3 : mgCell m va vc c = .string (strL (m.s c)) := by
    unfold mgCell
    rw [if_neg (by omega), if_pos hc]
  rw [e3] at h3
  have := nameMay ka c ab mb hat (m.s c) used W (hW.cell a1.1 a1.2 h1) h3
  have e : ([Fd.text c 64].all fun f => f.may m used) = decide ((m.s c).length ≤ (if used then 64 else 0)) := by
    show ((Fd.text c 64).may m used && true) = _
    rw [Bool.and_true]
    rfl
  rw [e]
  exact this
theorem namePutOk {ka : FuncId} {c : Nat} (hat : IsAt ka c) (hc : c = 13 ∨ c = 14) {lo hi ab : Nat} {w : World} (h1 : w.cell? ⟨ab, 0, none⟩ = some (.func (.func ka) #[] #[])) (a1 : lo ≤ ab ∧ ab < hi) : FPut lo hi w 135 #[ptr ab] [.text c 64] := by
  refine ⟨fun _ _ => rfl, fun w0 W wb l mb m va vc hW hz hWr ht hM hf hl => ?_⟩
  have h3 := (hM.since hWr.2.1).cell (i := c) (by omega)
  have e3 : mgCell m va vc c = .string (strL (m.s c)) := by
    unfold mgCell
    rw [if_neg (by omega), if_pos hc]
  rw [e3] at h3
  have hab : W.cell? ⟨ab, 0, none⟩ = some (.func (.func ka) #[] #[]) := by
    have := hW.cell a1.1 a1.2 h1
    rw [World.cell?_of_block (a := ⟨ab, 0, none⟩) (hWr.2.1.block _ (World.block_lt_of_cell? _ _ this))]
    exact this
  rw [putL_one] at hl
  have e4 : ((Fd.text c 64).put m).length = (vl 9 (m.s c).length).length + (m.s c).length := by show (vl 9 (m.s c).length ++ m.s c).length = _; simp
  have := namePut ka c ab mb wb hat (m.s c) (hM.byte c) w0 W l hWr hab h3 (by omega)
  rw [putL_one]
  exact this
theorem nameGetOk {ka : FuncId} {c : Nat} (hat : IsAt ka c) (hc : c = 13 ∨ c = 14) {lo hi ab : Nat} {w : World} (h1 : w.cell? ⟨ab, 0, none⟩ = some (.func (.func ka) #[] #[])) (a1 : lo ≤ ab ∧ ab < hi) : FGet lo hi w 136 #[ptr ab] [.text c 64] := by
  refine ⟨fun _ _ => rfl, fun W hW hz B rb hb n z mb m a b va hR hwid r1 r2 hg hn => ?_⟩
  refine (nameGet ka c ab mb rb hb n B hat z m a b va W hR (hW.cell a1.1 a1.2 h1) hc hn).mono fun e w' ⟨he, hx, hy⟩ => ⟨he, va, ?_, hy⟩
  rw [getL_one]
  exact hx
theorem valueMayOk {lo hi : Nat} {w : World} : FMay lo hi w 126 #[] [.text 10 16384] := by
  refine ⟨fun _ _ => rfl, fun W hW mb m va vc used hM => ?_⟩
  have h3 : W.cell? ⟨mb, 10, none⟩ = some (.slice va (m.s 10).length vc) := hM.cell (i := 10) (by decide)
  have := valueMay mb va (m.s 10).length vc used W h3
  have e : ([Fd.text 10 16384].all fun f => f.may m used) = decide ((m.s 10).length ≤ (if used then 16384 else 0)) := by
    show ((Fd.text 10 16384).may m used && true) = _
    rw [Bool.and_true]
    rfl
  rw [e]
  exact this
theorem valuePutOk {lo hi : Nat} {w : World} : FPut lo hi w 127 #[] [.text 10 16384] := by
  refine ⟨fun _ _ => rfl, fun w0 W wb l mb m va vc hW hz hWr ht hM hf hl => ?_⟩
  rw [putL_one] at hl
  have e4 : ((Fd.text 10 16384).put m).length = (vl 9 (m.s 10).length).length + (m.s 10).length := by show (vl 9 (m.s 10).length ++ m.s 10).length = _; simp
  have := valuePut mb wb m va vc w0 W l hWr hM (by omega)
  rw [putL_one]
  exact this
theorem valueGetOk {lo hi : Nat} {w : World} : FGet lo hi w 129 #[] [.text 10 16384] := by
  refine ⟨fun _ _ => rfl, fun W hW hz B rb hb n z mb m a b va hR hwid r1 r2 hg hn => ?_⟩
  exact valueGet mb rb hb n B z m a b va W hR hn
/-- The functions of a field that is two behind each other. -/
def f3 (k : FuncId) (cp : Array Value) : Value := .func (.func k) #[] cp
set_option maxHeartbeats 1000000 in
theorem bothMayOk {lo hi b1 b2 : Nat} {w : World} {k1 k2 : FuncId} {c1 c2 : Array Value} {fs gs : List Fd} (h1 : FMay lo hi w k1 c1 fs) (h2 : FMay lo hi w k2 c2 gs) (d1 : w.cell? ⟨b1, 0, none⟩ = some (f3 k1 c1)) (d2 : w.cell? ⟨b2, 0, none⟩ = some (f3 k2 c2)) (a1 : lo ≤ b1 ∧ b1 < hi) (a2 : lo ≤ b2 ∧ b2 < hi) : FMay lo hi w 119 #[ptr b1, ptr b2] (fs ++ gs) := by
  refine ⟨fun _ _ => rfl, fun W hW mb m va vc used hM => ?_⟩
  have hent1 := h1.1
  have hent2 := h2.1
  unfold Ent at hent1 hent2
  have q1 := h1.2 W hW mb m va vc used hM
  have HQ2 : Hid (∀ q, Calls Tryz.prog k2 (#[.pointer (some ⟨mb, 0, none⟩), .bool used] ++ c2) (W.drewN q) fun e w' => e = .returned (.bool (gs.all fun f => f.may m used)) ∧ ∃ q, w' = W.drewN q) := fun q =>
    (h2.2 (W.drewN q) (fun i i1 i2 => hW i i1 i2) mb m va vc used (hM.since (drewN_since W q))).mono fun e w' ⟨he, q2, hq⟩ => ⟨he, q + q2, by rw [hq, World.drewN_drewN]⟩
  have e1 : W.cell? ⟨b1, 0, none⟩ = some (.func (.func k1) #[] c1) := hW.cell a1.1 a1.2 d1
  have e2 : W.cell? ⟨b2, 0, none⟩ = some (.func (.func k2) #[] c2) := hW.cell a2.1 a2.2 d2
  have HE2 : Hid (∀ q, (W.drewN q).cell? ⟨b2, 0, none⟩ = some (.func (.func k2) #[] c2)) := fun _ => e2
  rw [List.all_append]
  clear h1 h2 hW hM d1 d2 a1 a2 e2
  unfold ptr
  generalize (fs.all fun f => f.may m used) = R1 at *
  generalize (gs.all fun f => f.may m used) = R2 at *
  go_enter Tryz.func119, Tryz.ntmps119
  go_wp2_with fail
  refine q1.mono ?_
  rintro e w1 ⟨rfl, q, e0⟩
  subst e0
  have e2 := HE2.out q
  have q2 := HQ2.out q
  cases R1 with
  | true =>
    go_wp2_with fail
    refine q2.mono ?_
    rintro e w2 ⟨rfl, p, e0⟩
    subst e0
    go_wp2_with fail
    go_ret
    exact ⟨rfl, _, rfl⟩
  | false =>
    go_wp2_with fail
    go_ret
    exact ⟨rfl, _, rfl⟩
end Go.Proofs.YtonpmabdjngdcaaGreatDoor

/- Package message: two fields behind each other; a verdict. -/
namespace Go.Proofs.YtonpmabdjngdcaaGreatDoor
open Go.RowKit
set_option maxRecDepth 100000

theorem But2.agr {r m lo hi : Nat} {w w' : World} (h : But2 r m w w') (hr : ¬ (lo ≤ r ∧ r < hi)) (hm : ¬ (lo ≤ m ∧ m < hi)) (hz : hi ≤ w.heap.size) : Agr2 lo hi w w' := fun k h1 h2 => h.block k (by omega) (fun e => hr (by omega)) (fun e => hm (by omega))
theorem But2.wid {r m : Nat} {w w' : World} (h : But2 r m w w') (hw : Wid w) (hg : r ≠ 2 ∧ m ≠ 2) : Wid w' := by
  have k1 : ∀ i v, w.cell? ⟨2, i, none⟩ = some v → w'.cell? ⟨2, i, none⟩ = some v := fun i v hc => by
    rw [World.cell?_of_block (a := ⟨2, i, none⟩) (h.block _ (World.block_lt_of_cell? _ _ hc) (fun e => hg.1 e.symm) (fun e => hg.2 e.symm))]; exact hc
  exact ⟨k1 0 _ hw.1, k1 1 _ hw.2.1, k1 2 _ hw.2.2⟩
theorem cell_later {w w' : World} {b i : Nat} {v : Value} (hs : w.Since w.heap.size w') (h : w.cell? ⟨b, i, none⟩ = some v) : w'.cell? ⟨b, i, none⟩ = some v := by
  rw [World.cell?_of_block (a := ⟨b, i, none⟩) (hs.block _ (World.block_lt_of_cell? _ _ h))]; exact h
set_option maxHeartbeats 1000000 in
theorem bothPutOk {lo hi b1 b2 : Nat} {w : World} {k1 k2 : FuncId} {c1 c2 : Array Value} {fs gs : List Fd} (h1 : FPut lo hi w k1 c1 fs) (h2 : FPut lo hi w k2 c2 gs) (d1 : w.cell? ⟨b1, 1, none⟩ = some (f3 k1 c1)) (d2 : w.cell? ⟨b2, 1, none⟩ = some (f3 k2 c2)) (a1 : lo ≤ b1 ∧ b1 < hi) (a2 : lo ≤ b2 ∧ b2 < hi) : FPut lo hi w 120 #[ptr b1, ptr b2] (fs ++ gs) := by
  refine ⟨fun _ _ => rfl, fun w0 W wb l mb m va vc hW hz hWr ht hM hf hl => ?_⟩
  have hent1 := h1.1
  have hent2 := h2.1
  unfold Ent at hent1 hent2
  rw [putL_app] at hl ⊢
  rw [List.length_append] at hl
  have q1 := h1.2 w0 W wb l mb m va vc hW hz hWr ht hM (fun f hf' => hf f (List.mem_append_left _ hf')) (by omega)
  have HQ2 : Hid (∀ W2, Wr w0 W2 wb (l ++ putL m fs) → Calls Tryz.prog k2 (#[.pointer (some ⟨wb, 0, none⟩), .pointer (some ⟨mb, 0, none⟩)] ++ c2) W2 fun e w' => e = .returned (.tuple #[]) ∧ Wr w0 w' wb (l ++ (putL m fs ++ putL m gs))) := fun W2 hW2 => by
    have := h2.2 w0 W2 wb (l ++ putL m fs) mb m va vc hW hz hW2 ht hM (fun f hf' => hf f (List.mem_append_right _ hf')) (by rw [List.length_append]; omega)
    rw [List.append_assoc] at this
    exact this
  have e1 : W.cell? ⟨b1, 1, none⟩ = some (.func (.func k1) #[] c1) := cell_later hWr.2.1 (hW.cell a1.1 a1.2 d1)
  have HE2 : Hid (∀ W2 l2, Wr w0 W2 wb l2 → W2.cell? ⟨b2, 1, none⟩ = some (.func (.func k2) #[] c2)) := fun W2 l2 hW2 => cell_later hW2.2.1 (hW.cell a2.1 a2.2 d2)
  clear h1 h2 hW hM d1 d2 a1 a2 hWr ht hf hl
  unfold ptr
  go_enter Tryz.func120, Tryz.ntmps120
  go_wp2_with fail
  refine q1.mono ?_
  rintro e w1 ⟨rfl, hW1⟩
  have e2 := HE2.out w1 _ hW1
  have q2 := HQ2.out w1 hW1
  clear q1 HE2 HQ2 hW1
  go_wp2_with fail
  refine q2.mono ?_
  rintro e w2 ⟨rfl, hx⟩
  have HX := hide hx
  clear q2 hx
  go_wp2_with fail
  go_end0
  exact ⟨rfl, HX.out⟩
set_option maxHeartbeats 1000000 in
theorem bothGetOk {lo hi b1 b2 : Nat} {w : World} {k1 k2 : FuncId} {c1 c2 : Array Value} {fs gs : List Fd} (h1 : FGet lo hi w k1 c1 fs) (h2 : FGet lo hi w k2 c2 gs) (d1 : w.cell? ⟨b1, 2, none⟩ = some (f3 k1 c1)) (d2 : w.cell? ⟨b2, 2, none⟩ = some (f3 k2 c2)) (a1 : lo ≤ b1 ∧ b1 < hi) (a2 : lo ≤ b2 ∧ b2 < hi) : FGet lo hi w 121 #[ptr b1, ptr b2] (fs ++ gs) := by
  refine ⟨fun _ _ => rfl, fun W hW hz B rb hb n z mb m a b va hR hwid r1 r2 hg hn => ?_⟩
  have hent1 := h1.1
  have hent2 := h2.1
  unfold Ent at hent1 hent2
  rw [getL_app]
  have q1 := h1.2 W hW hz B rb hb n z mb m a b va hR hwid r1 r2 hg hn
  generalize getL z n fs m a b = V at *
  obtain ⟨m1, a1', b1'⟩ := V
  have HQ2 : Hid (∀ W2 va2, Rd B W2 rb hb n z mb (m1, a1', b1') va2 → But2 rb mb W W2 → Calls Tryz.prog k2 (#[.pointer (some ⟨rb, 0, none⟩), .pointer (some ⟨mb, 0, none⟩)] ++ c2) W2 fun e w' => e = .returned (.tuple #[]) ∧ ∃ va', Rd B w' rb hb n z mb (getL z n gs m1 a1' b1') va' ∧ But2 rb mb W w') := fun W2 va2 hR2 hb2 =>
    (h2.2 W2 (hW.trans (hb2.agr r1 r2 hz)) (Nat.le_trans hz hb2.size) B rb hb n z mb m1 a1' b1' va2 hR2 (hb2.wid hwid hg) r1 r2 hg hn).mono fun e w' ⟨he, va', hx, hy⟩ => ⟨he, va', hx, hb2.trans hy⟩
  have e1 : W.cell? ⟨b1, 2, none⟩ = some (.func (.func k1) #[] c1) := hW.cell a1.1 a1.2 d1
  have HE2 : Hid (∀ W2, But2 rb mb W W2 → W2.cell? ⟨b2, 2, none⟩ = some (.func (.func k2) #[] c2)) := fun W2 hb2 => (hW.trans (hb2.agr r1 r2 hz)).cell a2.1 a2.2 d2
  clear h1 h2 hW d1 d2 a1 a2 hR hwid r1 r2 hg hn hz
  unfold ptr
  go_enter Tryz.func121, Tryz.ntmps121
  go_wp2_with fail
  refine q1.mono ?_
  rintro e w1 ⟨rfl, va1, hR1, hb1⟩
  have e2 := HE2.out w1 hb1
  have q2 := HQ2.out w1 va1 hR1 hb1
  clear q1 HE2 HQ2 hR1 hb1
  go_wp2_with fail
  refine q2.mono ?_
  rintro e w2 ⟨rfl, hx⟩
  have HX := hide hx
  clear q2 hx
  go_wp2_with fail
  go_end0
  exact ⟨rfl, HX.out⟩
set_option maxHeartbeats 1000000 in
theorem badMayOk {lo hi ab qb kb : Nat} {w : World} (h1 : w.cell? ⟨ab, 0, none⟩ = some (.func (.func 138) #[] #[])) (h2 : w.cell? ⟨qb, 0, none⟩ = some (.int .i64 307)) (h3 : w.cell? ⟨kb, 0, none⟩ = some (f3 158 #[ptr ab, ptr qb])) (a1 : lo ≤ ab ∧ ab < hi) (q1 : lo ≤ qb ∧ qb < hi) (k1 : lo ≤ kb ∧ kb < hi) : FMay lo hi w 139 #[ptr kb] [.var 21 307] := by
  refine ⟨fun _ _ => rfl, fun W hW mb m va vc used hM => ?_⟩
  have c3 : W.cell? ⟨mb, 21, none⟩ = some (.int .i64 (m.n 21)) := hM.cell (i := 21) (by decide)
  have q := varMayE _ 21 ab qb mb isAt21 307 (m.n 21) used W (hW.cell a1.1 a1.2 h1) (hW.cell q1.1 q1.2 h2) c3
  have HC3 : Hid (∀ q, (W.drewN q).cell? ⟨mb, 21, none⟩ = some (.int .i64 (m.n 21))) := fun _ => c3
  have ck : W.cell? ⟨kb, 0, none⟩ = some (.func (.func 158) #[] #[.pointer (some ⟨ab, 0, none⟩), .pointer (some ⟨qb, 0, none⟩)]) := hW.cell k1.1 k1.2 h3
  have e : ([Fd.var 21 307].all fun f => f.may m used) = (decide (0 ≤ m.n 21 ∧ m.n 21 ≤ (if used then (307 : Int) else 0)) && decide (m.n 21 = 0 ∨ 300 ≤ m.n 21)) := by
    show ((Fd.var 21 307).may m used && true) = _
    rw [Bool.and_true]
    rw [← Bool.decide_and]
    show decide (0 ≤ m.n 21 ∧ m.n 21 ≤ (if used then ((307 : Nat) : Int) else 0) ∧ (21 = 21 → m.n 21 = 0 ∨ 300 ≤ m.n 21)) = _
    refine decide_eq_decide.2 ⟨fun ⟨x1, x2, x3⟩ => ⟨⟨x1, x2⟩, x3 rfl⟩, fun ⟨⟨x1, x2⟩, x3⟩ => ⟨x1, x2, fun _ => x3⟩⟩
  rw [e]
  clear hW hM h1 h2 h3 a1 q1 k1 e c3
  unfold ptr
  generalize decide (0 ≤ m.n 21 ∧ m.n 21 ≤ (if used then (307 : Int) else 0)) = R at *
  generalize m.n 21 = X at *
  go_enter Tryz.func139, Tryz.ntmps139
  go_wp2_with fail
  refine q.mono ?_
  rintro e w1 ⟨rfl, p, e0⟩
  subst e0
  have c3 := HC3.out p
  clear q
  cases R with
  | false =>
    go_wp2_with fail
    go_ret
    exact ⟨rfl, _, rfl⟩
  | true =>
    by_cases x0 : X = 0
    · subst x0
      go_wp2_with fail
      go_ret
      exact ⟨rfl, _, rfl⟩
    · have xb : (X == 0) = false := by simp [x0]
      by_cases x1 : 300 ≤ X
      · have HE : Hid ((true && decide (X = 0 ∨ 300 ≤ X)) = true) := by show _ = _; simp [x1]
        go_wp2_with fail
        go_ret
        exact ⟨by rw [HE.out]; rfl, _, rfl⟩
      · have xd : decide (300 ≤ X) = false := by simp [x1]
        have HE : Hid ((true && decide (X = 0 ∨ 300 ≤ X)) = false) := by show _ = _; simp [x0, x1]
        go_wp2_with fail
        go_ret
        exact ⟨by rw [HE.out]; rfl, _, rfl⟩
end Go.Proofs.YtonpmabdjngdcaaGreatDoor

/- Package message: the fields are made. -/
namespace Go.Proofs.YtonpmabdjngdcaaGreatDoor
open Go.RowKit
set_option maxRecDepth 100000

/-- A field: three functions. -/
def FOk (lo hi : Nat) (w : World) (v1 v2 v3 : Value) (fs : List Fd) : Prop := (∃ k c, v1 = f3 k c ∧ FMay lo hi w k c fs) ∧ (∃ k c, v2 = f3 k c ∧ FPut lo hi w k c fs) ∧ ∃ k c, v3 = f3 k c ∧ FGet lo hi w k c fs
theorem FOk.up {lo hi lo' hi' : Nat} {w w' : World} {v1 v2 v3 : Value} {fs : List Fd} (h : FOk lo hi w v1 v2 v3 fs) (h1 : lo' ≤ lo) (h2 : hi ≤ hi') (hw : Agr2 lo hi w w') : FOk lo' hi' w' v1 v2 v3 fs := by
  obtain ⟨⟨k1, c1, e1, q1⟩, ⟨k2, c2, e2, q2⟩, ⟨k3, c3, e3, q3⟩⟩ := h
  exact ⟨⟨k1, c1, e1, q1.up h1 h2 hw⟩, ⟨k2, c2, e2, q2.up h1 h2 hw⟩, ⟨k3, c3, e3, q3.up h1 h2 hw⟩⟩
theorem row3_heap {w : World} {b : Nat} {t : TypeId} {f : Nat → Value} (h : w.rowIs b t 3 f) : w.heap[b]? = some (.cells #[f 0, f 1, f 2] t (0, 0)) := by
  obtain ⟨c, h1, h2, h3⟩ := h
  have : c = #[f 0, f 1, f 2] := by
    rcases c with ⟨l⟩
    have h2 : l.length = 3 := h2
    match l, h2 with
    | [a, b, d], _ =>
      have e0 := h3 0 (by decide)
      have e1 := h3 1 (by decide)
      have e2 := h3 2 (by decide)
      simp at e0 e1 e2
      rw [e0, e1, e2]
  rw [h1, this]
theorem infoFd : (Tryz.prog.info? 88).map (·.size) = some 3 := by kernel_rfl
/-- A field of nothing. -/
def fdZ : Obj := .cells #[.nilFunc, .nilFunc, .nilFunc] 88
theorem fdZ_row (w : World) : (w.alloc fdZ).rowIs w.heap.size 88 3 (fun _ => .nilFunc) :=
  World.rowIs_alloc w _ _ _ (fun i hi => by
    have hi' : i < 3 := hi
    match i, hi' with
    | 0, _ => rfl
    | 1, _ => rfl
    | 2, _ => rfl)
/-- The world behind the store of three functions. -/
theorem stored3 {W : World} {fb : Nat} {f : Nat → Value} (h : W.rowIs fb 88 3 f) (v0 v1 v2 : Value) : ∃ W4, (((W.setCell ⟨fb, 0, none⟩ v0).setCell ⟨fb, 1, none⟩ v1).setCell ⟨fb, 2, none⟩ v2 = W4) ∧ W4.heap[fb]? = some (.cells #[v0, v1, v2] 88 (0, 0)) ∧ W4.rowIs fb 88 3 (fun i => if i = 2 then v2 else if i = 1 then v1 else if i = 0 then v0 else f i) ∧ W4.heap.size = W.heap.size ∧ (∀ k, k ≠ fb → W4.heap[k]? = W.heap[k]?) ∧ W4.os = W.os ∧ W4.tape = W.tape ∧ W4.output = W.output := by
  have hr := ((h.set 0 v0).set 1 v1).set 2 v2
  refine ⟨_, rfl, ?_, hr, by simp [World.setCell], fun k hk => ?_, rfl, rfl, rfl⟩
  · have := row3_heap hr
    simpa using this
  · rw [Below.heap_setCell _ _ _ _ hk, Below.heap_setCell _ _ _ _ hk, Below.heap_setCell _ _ _ _ hk]
theorem cellB {w w' : World} {b i : Nat} {v : Value} (hb : w'.heap[b]? = w.heap[b]?) (h : w.cell? ⟨b, i, none⟩ = some v) : w'.cell? ⟨b, i, none⟩ = some v := by
  rw [World.cell?_of_block (a := ⟨b, i, none⟩) hb]; exact h
theorem cell_new (w : World) (v : Value) (t : TypeId) : (w.alloc (.cells #[v] t)).cell? ⟨w.heap.size, 0, none⟩ = some v := World.cell?_alloc_at (w := w) _ _ _ 0 rfl
set_option maxHeartbeats 1000000 in
theorem mkVarU {ka : FuncId} {c : Nat} (hat : IsAt ka c) (hu : isU c = true) (hcl : c < 22) (h21 : c ≠ 21) (most : Nat) (hmost : most < 18446744073709551616) (w : World) : Calls Tryz.prog 57 #[.int .u64 (most : Nat), .func (.func ka) #[] #[]] w fun e w' => ∃ v1 v2 v3, e = .returned (.agg #[v1, v2, v3]) ∧ Hid (FOk w.heap.size w'.heap.size w' v1 v2 v3 [.var c most] ∧ w.Since w.heap.size w') := by
  have hmf : ∀ (fn : Fn) (first cap : Array Value) (w : World), (Instr.makeFunc fn first cap).run Tryz.prog w = .ok (.func fn first cap) w := fun _ _ _ _ => rfl
  have hst : ∀ (a : Addr) (k : FuncId) (fr cp : Array Value) (m : Mode) (w : World), (store a (.func (.func k) fr cp) m).run Tryz.prog w = stored Tryz.prog w a (.func (.func k) fr cp) m := fun a k fr cp m w => run_store _ w a _ m rfl
  obtain ⟨W1, HW1⟩ : ∃ W, Hid (w.alloc (.cells #[.int .u64 (most : Nat)] 29) = W) := ⟨_, rfl⟩
  have s1 : w.Since w.heap.size W1 := by rw [← HW1.out]; exact (World.Since.refl _ _).alloc (Nat.le_refl _) _
  have z1 : W1.heap.size = w.heap.size + 1 := by rw [← HW1.out]; simp
  have k1 : W1.cell? ⟨w.heap.size, 0, none⟩ = some (.int .u64 (most : Nat)) := by rw [← HW1.out]; exact cell_new _ _ _
  obtain ⟨W2, HW2⟩ : ∃ W, Hid (W1.alloc (.cells #[.func (.func ka) #[] #[]] 118) = W) := ⟨_, rfl⟩
  have s2 : W1.Since W1.heap.size W2 := by rw [← HW2.out]; exact (World.Since.refl _ _).alloc (Nat.le_refl _) _
  have z2 : W2.heap.size = W1.heap.size + 1 := by rw [← HW2.out]; simp
  have k2 : W2.cell? ⟨W1.heap.size, 0, none⟩ = some (.func (.func ka) #[] #[]) := by rw [← HW2.out]; exact cell_new _ _ _
  obtain ⟨W3, HW3⟩ : ∃ W, Hid (W2.alloc fdZ = W) := ⟨_, rfl⟩
  have s3 : W2.Since W2.heap.size W3 := by rw [← HW3.out]; exact (World.Since.refl _ _).alloc (Nat.le_refl _) _
  have z3 : W3.heap.size = W2.heap.size + 1 := by rw [← HW3.out]; simp
  have hr : W3.rowIs W2.heap.size 88 3 (fun _ => .nilFunc) := by rw [← HW3.out]; exact fdZ_row _
  rw [z1] at k2
  rw [z2, z1] at hr
  obtain ⟨W4, e4, hh4, _, z4, b4, o4, t4, p4⟩ := stored3 hr (.func (.func 113) #[] #[.pointer (some ⟨(w.heap.size + 1), 0, none⟩), .pointer (some ⟨w.heap.size, 0, none⟩)]) (.func (.func 115) #[] #[.pointer (some ⟨(w.heap.size + 1), 0, none⟩)]) (.func (.func 117) #[] #[.pointer (some ⟨w.heap.size, 0, none⟩), .pointer (some ⟨(w.heap.size + 1), 0, none⟩)])
  have H4 := hide e4
  have sA : w.Since w.heap.size W3 := ((s1.trans (since_mono s2 (by omega))).trans (since_mono s3 (by omega)))
  have hs4 : w.Since w.heap.size W4 := ⟨o4.trans sA.os, t4.trans sA.tape, p4.trans sA.output, by rw [z4]; exact sA.size, fun k hk => (b4 k (by omega)).trans (sA.block k hk)⟩
  have c1 : W4.cell? ⟨w.heap.size, 0, none⟩ = some (.int .u64 (most : Nat)) := cellB (b4 _ (by omega)) (cellB (s3.block _ (by omega)) (cellB (s2.block _ (by omega)) k1))
  have c2 : W4.cell? ⟨(w.heap.size + 1), 0, none⟩ = some (.func (.func ka) #[] #[]) := cellB (b4 _ (by omega)) (cellB (s3.block _ (by omega)) k2)
  have HE : Hid (FOk w.heap.size W4.heap.size W4 (.func (.func 113) #[] #[.pointer (some ⟨(w.heap.size + 1), 0, none⟩), .pointer (some ⟨w.heap.size, 0, none⟩)]) (.func (.func 115) #[] #[.pointer (some ⟨(w.heap.size + 1), 0, none⟩)]) (.func (.func 117) #[] #[.pointer (some ⟨w.heap.size, 0, none⟩), .pointer (some ⟨(w.heap.size + 1), 0, none⟩)]) [.var c most] ∧ w.Since w.heap.size W4) := by
    refine ⟨⟨⟨_, _, rfl, varMayOkU hat hu hcl h21 most c2 c1 ⟨by omega, by omega⟩ ⟨by omega, by omega⟩⟩, ⟨_, _, rfl, varPutOkU hat hu hcl most hmost c2 ⟨by omega, by omega⟩⟩, ⟨_, _, rfl, varGetOkU hat hu hcl most hmost c2 c1 ⟨by omega, by omega⟩ ⟨by omega, by omega⟩⟩⟩, hs4⟩
  have HH4 := hide hh4
  have q0 := hr.cell (i := 0) (by decide)
  have q1 := hr.cell (i := 1) (by decide)
  have q2 := hr.cell (i := 2) (by decide)
  have p0 := hr.frozen 0
  have p1 := hr.frozen 1
  have p2 := hr.frozen 2
  clear s1 s2 s3 k1 k2 c1 c2 hr hs4 e4 hh4 z4 b4 o4 t4 p4 sA
  unfold fdZ at HW3
  go_enter Tryz.func57, Tryz.ntmps57
  go_upto_region 1 with fail
  rw [HW1.out, HW2.out, HW3.out]
  try rw [z2, z1]
  try simp only [z1, z2]
  go_wp2_with fail
  rw [H4.out]
  refine bodyPost_ret_by (results_cell_row rfl _ _ (w.heap.size + 1 + 1) 88 _ (0, 0) _ rfl HH4.out Tryz.underlying88 rfl infoFd) rfl ⟨_, _, _, rfl, HE.out⟩
set_option maxHeartbeats 1000000 in
theorem mkVarI {ka : FuncId} {c : Nat} (hat : IsAt ka c) (hu : isU c = false ∧ (c = 8 ∨ c = 21)) (hcl : c < 22) (h21 : c ≠ 21) (most : Nat) (hmost : most < 9223372036854775808) (w : World) : Calls Tryz.prog 63 #[.int .i64 (most : Nat), .func (.func ka) #[] #[]] w fun e w' => ∃ v1 v2 v3, e = .returned (.agg #[v1, v2, v3]) ∧ Hid (FOk w.heap.size w'.heap.size w' v1 v2 v3 [.var c most] ∧ w.Since w.heap.size w') := by
  have hmf : ∀ (fn : Fn) (first cap : Array Value) (w : World), (Instr.makeFunc fn first cap).run Tryz.prog w = .ok (.func fn first cap) w := fun _ _ _ _ => rfl
  have hst : ∀ (a : Addr) (k : FuncId) (fr cp : Array Value) (m : Mode) (w : World), (store a (.func (.func k) fr cp) m).run Tryz.prog w = stored Tryz.prog w a (.func (.func k) fr cp) m := fun a k fr cp m w => run_store _ w a _ m rfl
  obtain ⟨W1, HW1⟩ : ∃ W, Hid (w.alloc (.cells #[.int .i64 (most : Nat)] 3) = W) := ⟨_, rfl⟩
  have s1 : w.Since w.heap.size W1 := by rw [← HW1.out]; exact (World.Since.refl _ _).alloc (Nat.le_refl _) _
  have z1 : W1.heap.size = w.heap.size + 1 := by rw [← HW1.out]; simp
  have k1 : W1.cell? ⟨w.heap.size, 0, none⟩ = some (.int .i64 (most : Nat)) := by rw [← HW1.out]; exact cell_new _ _ _
  obtain ⟨W2, HW2⟩ : ∃ W, Hid (W1.alloc (.cells #[.func (.func ka) #[] #[]] 122) = W) := ⟨_, rfl⟩
  have s2 : W1.Since W1.heap.size W2 := by rw [← HW2.out]; exact (World.Since.refl _ _).alloc (Nat.le_refl _) _
  have z2 : W2.heap.size = W1.heap.size + 1 := by rw [← HW2.out]; simp
  have k2 : W2.cell? ⟨W1.heap.size, 0, none⟩ = some (.func (.func ka) #[] #[]) := by rw [← HW2.out]; exact cell_new _ _ _
  obtain ⟨W3, HW3⟩ : ∃ W, Hid (W2.alloc fdZ = W) := ⟨_, rfl⟩
  have s3 : W2.Since W2.heap.size W3 := by rw [← HW3.out]; exact (World.Since.refl _ _).alloc (Nat.le_refl _) _
  have z3 : W3.heap.size = W2.heap.size + 1 := by rw [← HW3.out]; simp
  have hr : W3.rowIs W2.heap.size 88 3 (fun _ => .nilFunc) := by rw [← HW3.out]; exact fdZ_row _
  rw [z1] at k2
  rw [z2, z1] at hr
  obtain ⟨W4, e4, hh4, _, z4, b4, o4, t4, p4⟩ := stored3 hr (.func (.func 122) #[] #[.pointer (some ⟨(w.heap.size + 1), 0, none⟩), .pointer (some ⟨w.heap.size, 0, none⟩)]) (.func (.func 124) #[] #[.pointer (some ⟨(w.heap.size + 1), 0, none⟩)]) (.func (.func 125) #[] #[.pointer (some ⟨w.heap.size, 0, none⟩), .pointer (some ⟨(w.heap.size + 1), 0, none⟩)])
  have H4 := hide e4
  have sA : w.Since w.heap.size W3 := ((s1.trans (since_mono s2 (by omega))).trans (since_mono s3 (by omega)))
  have hs4 : w.Since w.heap.size W4 := ⟨o4.trans sA.os, t4.trans sA.tape, p4.trans sA.output, by rw [z4]; exact sA.size, fun k hk => (b4 k (by omega)).trans (sA.block k hk)⟩
  have c1 : W4.cell? ⟨w.heap.size, 0, none⟩ = some (.int .i64 (most : Nat)) := cellB (b4 _ (by omega)) (cellB (s3.block _ (by omega)) (cellB (s2.block _ (by omega)) k1))
  have c2 : W4.cell? ⟨(w.heap.size + 1), 0, none⟩ = some (.func (.func ka) #[] #[]) := cellB (b4 _ (by omega)) (cellB (s3.block _ (by omega)) k2)
  have HE : Hid (FOk w.heap.size W4.heap.size W4 (.func (.func 122) #[] #[.pointer (some ⟨(w.heap.size + 1), 0, none⟩), .pointer (some ⟨w.heap.size, 0, none⟩)]) (.func (.func 124) #[] #[.pointer (some ⟨(w.heap.size + 1), 0, none⟩)]) (.func (.func 125) #[] #[.pointer (some ⟨w.heap.size, 0, none⟩), .pointer (some ⟨(w.heap.size + 1), 0, none⟩)]) [.var c most] ∧ w.Since w.heap.size W4) := by
    refine ⟨⟨⟨_, _, rfl, varMayOkI hat hu hcl h21 most c2 c1 ⟨by omega, by omega⟩ ⟨by omega, by omega⟩⟩, ⟨_, _, rfl, varPutOkI hat hu hcl most hmost c2 ⟨by omega, by omega⟩⟩, ⟨_, _, rfl, varGetOkI hat hu hcl most hmost c2 c1 ⟨by omega, by omega⟩ ⟨by omega, by omega⟩⟩⟩, hs4⟩
  have HH4 := hide hh4
  have q0 := hr.cell (i := 0) (by decide)
  have q1 := hr.cell (i := 1) (by decide)
  have q2 := hr.cell (i := 2) (by decide)
  have p0 := hr.frozen 0
  have p1 := hr.frozen 1
  have p2 := hr.frozen 2
  clear s1 s2 s3 k1 k2 c1 c2 hr hs4 e4 hh4 z4 b4 o4 t4 p4 sA
  unfold fdZ at HW3
  go_enter Tryz.func63, Tryz.ntmps63
  go_upto_region 1 with fail
  rw [HW1.out, HW2.out, HW3.out]
  try rw [z2, z1]
  try simp only [z1, z2]
  go_wp2_with fail
  rw [H4.out]
  refine bodyPost_ret_by (results_cell_row rfl _ _ (w.heap.size + 1 + 1) 88 _ (0, 0) _ rfl HH4.out Tryz.underlying88 rfl infoFd) rfl ⟨_, _, _, rfl, HE.out⟩
set_option maxHeartbeats 1000000 in
theorem mkSmall {ka : FuncId} {c : Nat} (hat : IsAt ka c) (hu : isU c = false ∧ c ≠ 10 ∧ c ≠ 13 ∧ c ≠ 14) (hcl : c < 22) (most : Nat) (w : World) : Calls Tryz.prog 67 #[.int .i64 (most : Nat), .func (.func ka) #[] #[]] w fun e w' => ∃ v1 v2 v3, e = .returned (.agg #[v1, v2, v3]) ∧ Hid (FOk w.heap.size w'.heap.size w' v1 v2 v3 [.small c most] ∧ w.Since w.heap.size w') := by
  have hmf : ∀ (fn : Fn) (first cap : Array Value) (w : World), (Instr.makeFunc fn first cap).run Tryz.prog w = .ok (.func fn first cap) w := fun _ _ _ _ => rfl
  have hst : ∀ (a : Addr) (k : FuncId) (fr cp : Array Value) (m : Mode) (w : World), (store a (.func (.func k) fr cp) m).run Tryz.prog w = stored Tryz.prog w a (.func (.func k) fr cp) m := fun a k fr cp m w => run_store _ w a _ m rfl
  obtain ⟨W1, HW1⟩ : ∃ W, Hid (w.alloc (.cells #[.int .i64 (most : Nat)] 3) = W) := ⟨_, rfl⟩
  have s1 : w.Since w.heap.size W1 := by rw [← HW1.out]; exact (World.Since.refl _ _).alloc (Nat.le_refl _) _
  have z1 : W1.heap.size = w.heap.size + 1 := by rw [← HW1.out]; simp
  have k1 : W1.cell? ⟨w.heap.size, 0, none⟩ = some (.int .i64 (most : Nat)) := by rw [← HW1.out]; exact cell_new _ _ _
  obtain ⟨W2, HW2⟩ : ∃ W, Hid (W1.alloc (.cells #[.func (.func ka) #[] #[]] 122) = W) := ⟨_, rfl⟩
  have s2 : W1.Since W1.heap.size W2 := by rw [← HW2.out]; exact (World.Since.refl _ _).alloc (Nat.le_refl _) _
  have z2 : W2.heap.size = W1.heap.size + 1 := by rw [← HW2.out]; simp
  have k2 : W2.cell? ⟨W1.heap.size, 0, none⟩ = some (.func (.func ka) #[] #[]) := by rw [← HW2.out]; exact cell_new _ _ _
  obtain ⟨W3, HW3⟩ : ∃ W, Hid (W2.alloc fdZ = W) := ⟨_, rfl⟩
  have s3 : W2.Since W2.heap.size W3 := by rw [← HW3.out]; exact (World.Since.refl _ _).alloc (Nat.le_refl _) _
  have z3 : W3.heap.size = W2.heap.size + 1 := by rw [← HW3.out]; simp
  have hr : W3.rowIs W2.heap.size 88 3 (fun _ => .nilFunc) := by rw [← HW3.out]; exact fdZ_row _
  rw [z1] at k2
  rw [z2, z1] at hr
  obtain ⟨W4, e4, hh4, _, z4, b4, o4, t4, p4⟩ := stored3 hr (.func (.func 131) #[] #[.pointer (some ⟨(w.heap.size + 1), 0, none⟩), .pointer (some ⟨w.heap.size, 0, none⟩)]) (.func (.func 132) #[] #[.pointer (some ⟨(w.heap.size + 1), 0, none⟩)]) (.func (.func 133) #[] #[.pointer (some ⟨(w.heap.size + 1), 0, none⟩)])
  have H4 := hide e4
  have sA : w.Since w.heap.size W3 := ((s1.trans (since_mono s2 (by omega))).trans (since_mono s3 (by omega)))
  have hs4 : w.Since w.heap.size W4 := ⟨o4.trans sA.os, t4.trans sA.tape, p4.trans sA.output, by rw [z4]; exact sA.size, fun k hk => (b4 k (by omega)).trans (sA.block k hk)⟩
  have c1 : W4.cell? ⟨w.heap.size, 0, none⟩ = some (.int .i64 (most : Nat)) := cellB (b4 _ (by omega)) (cellB (s3.block _ (by omega)) (cellB (s2.block _ (by omega)) k1))
  have c2 : W4.cell? ⟨(w.heap.size + 1), 0, none⟩ = some (.func (.func ka) #[] #[]) := cellB (b4 _ (by omega)) (cellB (s3.block _ (by omega)) k2)
  have HE : Hid (FOk w.heap.size W4.heap.size W4 (.func (.func 131) #[] #[.pointer (some ⟨(w.heap.size + 1), 0, none⟩), .pointer (some ⟨w.heap.size, 0, none⟩)]) (.func (.func 132) #[] #[.pointer (some ⟨(w.heap.size + 1), 0, none⟩)]) (.func (.func 133) #[] #[.pointer (some ⟨(w.heap.size + 1), 0, none⟩)]) [.small c most] ∧ w.Since w.heap.size W4) := by
    refine ⟨⟨⟨_, _, rfl, smallMayOk hat hu hcl most c2 c1 ⟨by omega, by omega⟩ ⟨by omega, by omega⟩⟩, ⟨_, _, rfl, smallPutOk hat hu hcl most c2 ⟨by omega, by omega⟩⟩, ⟨_, _, rfl, smallGetOk hat hu hcl most c2 ⟨by omega, by omega⟩⟩⟩, hs4⟩
  have HH4 := hide hh4
  have q0 := hr.cell (i := 0) (by decide)
  have q1 := hr.cell (i := 1) (by decide)
  have q2 := hr.cell (i := 2) (by decide)
  have p0 := hr.frozen 0
  have p1 := hr.frozen 1
  have p2 := hr.frozen 2
  clear s1 s2 s3 k1 k2 c1 c2 hr hs4 e4 hh4 z4 b4 o4 t4 p4 sA
  unfold fdZ at HW3
  go_enter Tryz.func67, Tryz.ntmps67
  go_upto_region 1 with fail
  rw [HW1.out, HW2.out, HW3.out]
  try rw [z2, z1]
  try simp only [z1, z2]
  go_wp2_with fail
  rw [H4.out]
  refine bodyPost_ret_by (results_cell_row rfl _ _ (w.heap.size + 1 + 1) 88 _ (0, 0) _ rfl HH4.out Tryz.underlying88 rfl infoFd) rfl ⟨_, _, _, rfl, HE.out⟩
set_option maxHeartbeats 1000000 in
theorem mkName {ka : FuncId} {c : Nat} (hat : IsAt ka c) (hc : c = 13 ∨ c = 14) (w : World) : Calls Tryz.prog 70 #[.func (.func ka) #[] #[]] w fun e w' => ∃ v1 v2 v3, e = .returned (.agg #[v1, v2, v3]) ∧ Hid (FOk w.heap.size w'.heap.size w' v1 v2 v3 [.text c 64] ∧ w.Since w.heap.size w') := by
  have hmf : ∀ (fn : Fn) (first cap : Array Value) (w : World), (Instr.makeFunc fn first cap).run Tryz.prog w = .ok (.func fn first cap) w := fun _ _ _ _ => rfl
  have hst : ∀ (a : Addr) (k : FuncId) (fr cp : Array Value) (m : Mode) (w : World), (store a (.func (.func k) fr cp) m).run Tryz.prog w = stored Tryz.prog w a (.func (.func k) fr cp) m := fun a k fr cp m w => run_store _ w a _ m rfl
  obtain ⟨W1, HW1⟩ : ∃ W, Hid (w.alloc (.cells #[.func (.func ka) #[] #[]] 126) = W) := ⟨_, rfl⟩
  have s1 : w.Since w.heap.size W1 := by rw [← HW1.out]; exact (World.Since.refl _ _).alloc (Nat.le_refl _) _
  have z1 : W1.heap.size = w.heap.size + 1 := by rw [← HW1.out]; simp
  have k1 : W1.cell? ⟨w.heap.size, 0, none⟩ = some (.func (.func ka) #[] #[]) := by rw [← HW1.out]; exact cell_new _ _ _
  obtain ⟨W2, HW2⟩ : ∃ W, Hid (W1.alloc fdZ = W) := ⟨_, rfl⟩
  have s2 : W1.Since W1.heap.size W2 := by rw [← HW2.out]; exact (World.Since.refl _ _).alloc (Nat.le_refl _) _
  have z2 : W2.heap.size = W1.heap.size + 1 := by rw [← HW2.out]; simp
  have hr : W2.rowIs W1.heap.size 88 3 (fun _ => .nilFunc) := by rw [← HW2.out]; exact fdZ_row _
  rw [z1] at hr
  obtain ⟨W4, e4, hh4, _, z4, b4, o4, t4, p4⟩ := stored3 hr (.func (.func 134) #[] #[.pointer (some ⟨w.heap.size, 0, none⟩)]) (.func (.func 135) #[] #[.pointer (some ⟨w.heap.size, 0, none⟩)]) (.func (.func 136) #[] #[.pointer (some ⟨w.heap.size, 0, none⟩)])
  have H4 := hide e4
  have sA : w.Since w.heap.size W2 := (s1.trans (since_mono s2 (by omega)))
  have hs4 : w.Since w.heap.size W4 := ⟨o4.trans sA.os, t4.trans sA.tape, p4.trans sA.output, by rw [z4]; exact sA.size, fun k hk => (b4 k (by omega)).trans (sA.block k hk)⟩
  have c1 : W4.cell? ⟨w.heap.size, 0, none⟩ = some (.func (.func ka) #[] #[]) := cellB (b4 _ (by omega)) (cellB (s2.block _ (by omega)) k1)
  have HE : Hid (FOk w.heap.size W4.heap.size W4 (.func (.func 134) #[] #[.pointer (some ⟨w.heap.size, 0, none⟩)]) (.func (.func 135) #[] #[.pointer (some ⟨w.heap.size, 0, none⟩)]) (.func (.func 136) #[] #[.pointer (some ⟨w.heap.size, 0, none⟩)]) [.text c 64] ∧ w.Since w.heap.size W4) := by
    refine ⟨⟨⟨_, _, rfl, nameMayOk hat hc c1 ⟨by omega, by omega⟩⟩, ⟨_, _, rfl, namePutOk hat hc c1 ⟨by omega, by omega⟩⟩, ⟨_, _, rfl, nameGetOk hat hc c1 ⟨by omega, by omega⟩⟩⟩, hs4⟩
  have HH4 := hide hh4
  have q0 := hr.cell (i := 0) (by decide)
  have q1 := hr.cell (i := 1) (by decide)
  have q2 := hr.cell (i := 2) (by decide)
  have p0 := hr.frozen 0
  have p1 := hr.frozen 1
  have p2 := hr.frozen 2
  clear s1 s2 k1 c1 hr hs4 e4 hh4 z4 b4 o4 t4 p4 sA
  unfold fdZ at HW2
  go_enter Tryz.func70, Tryz.ntmps70
  go_upto_region 1 with fail
  rw [HW1.out, HW2.out]
  try rw [z1]
  try simp only [z1]
  go_wp2_with fail
  rw [H4.out]
  refine bodyPost_ret_by (results_cell_row rfl _ _ (w.heap.size + 1) 88 _ (0, 0) _ rfl HH4.out Tryz.underlying88 rfl infoFd) rfl ⟨_, _, _, rfl, HE.out⟩
set_option maxHeartbeats 1000000 in
theorem mkValue  (w : World) : Calls Tryz.prog 66 #[] w fun e w' => ∃ v1 v2 v3, e = .returned (.agg #[v1, v2, v3]) ∧ Hid (FOk w.heap.size w'.heap.size w' v1 v2 v3 [.text 10 16384] ∧ w.Since w.heap.size w') := by
  have hmf : ∀ (fn : Fn) (first cap : Array Value) (w : World), (Instr.makeFunc fn first cap).run Tryz.prog w = .ok (.func fn first cap) w := fun _ _ _ _ => rfl
  have hst : ∀ (a : Addr) (k : FuncId) (fr cp : Array Value) (m : Mode) (w : World), (store a (.func (.func k) fr cp) m).run Tryz.prog w = stored Tryz.prog w a (.func (.func k) fr cp) m := fun a k fr cp m w => run_store _ w a _ m rfl
  obtain ⟨W1, HW1⟩ : ∃ W, Hid (w.alloc fdZ = W) := ⟨_, rfl⟩
  have s1 : w.Since w.heap.size W1 := by rw [← HW1.out]; exact (World.Since.refl _ _).alloc (Nat.le_refl _) _
  have z1 : W1.heap.size = w.heap.size + 1 := by rw [← HW1.out]; simp
  have hr : W1.rowIs w.heap.size 88 3 (fun _ => .nilFunc) := by rw [← HW1.out]; exact fdZ_row _
  obtain ⟨W4, e4, hh4, _, z4, b4, o4, t4, p4⟩ := stored3 hr (.func (.func 126) #[] #[]) (.func (.func 127) #[] #[]) (.func (.func 129) #[] #[])
  have H4 := hide e4
  have sA : w.Since w.heap.size W1 := s1
  have hs4 : w.Since w.heap.size W4 := ⟨o4.trans sA.os, t4.trans sA.tape, p4.trans sA.output, by rw [z4]; exact sA.size, fun k hk => (b4 k (by omega)).trans (sA.block k hk)⟩
  have HE : Hid (FOk w.heap.size W4.heap.size W4 (.func (.func 126) #[] #[]) (.func (.func 127) #[] #[]) (.func (.func 129) #[] #[]) [.text 10 16384] ∧ w.Since w.heap.size W4) := by
    refine ⟨⟨⟨_, _, rfl, valueMayOk⟩, ⟨_, _, rfl, valuePutOk⟩, ⟨_, _, rfl, valueGetOk⟩⟩, hs4⟩
  have HH4 := hide hh4
  have q0 := hr.cell (i := 0) (by decide)
  have q1 := hr.cell (i := 1) (by decide)
  have q2 := hr.cell (i := 2) (by decide)
  have p0 := hr.frozen 0
  have p1 := hr.frozen 1
  have p2 := hr.frozen 2
  clear s1 hr hs4 e4 hh4 z4 b4 o4 t4 p4 sA
  unfold fdZ at HW1
  go_enter Tryz.func66, Tryz.ntmps66
  go_upto_region 1 with fail
  rw [HW1.out]
  go_wp2_with fail
  rw [H4.out]
  refine bodyPost_ret_by (results_cell_row rfl _ _ w.heap.size 88 _ (0, 0) _ rfl HH4.out Tryz.underlying88 rfl infoFd) rfl ⟨_, _, _, rfl, HE.out⟩
end Go.Proofs.YtonpmabdjngdcaaGreatDoor

/- Package message: both, bad. -/
namespace Go.Proofs.YtonpmabdjngdcaaGreatDoor
open Go.RowKit
set_option maxRecDepth 100000

theorem row_new3 (w : World) (v0 v1 v2 : Value) (t : TypeId) : (w.alloc (.cells #[v0, v1, v2] t)).rowIs w.heap.size t 3 (fun i => if i = 0 then v0 else if i = 1 then v1 else v2) :=
  World.rowIs_alloc w _ _ _ (fun i hi => by
    have hi' : i < 3 := hi
    match i, hi' with
    | 0, _ => rfl
    | 1, _ => rfl
    | 2, _ => rfl)
set_option maxHeartbeats 1000000 in
theorem mkBoth {lo hi : Nat} {v1 v2 v3 u1 u2 u3 : Value} {fs gs : List Fd} (w : World) (h1 : FOk lo hi w v1 v2 v3 fs) (h2 : FOk lo hi w u1 u2 u3 gs) (hlo : lo ≤ w.heap.size) (hhi : hi ≤ w.heap.size) :
    Calls Tryz.prog 59 #[.agg #[v1, v2, v3], .agg #[u1, u2, u3]] w fun e w' => ∃ x1 x2 x3, e = .returned (.agg #[x1, x2, x3]) ∧ Hid (FOk lo w'.heap.size w' x1 x2 x3 (fs ++ gs) ∧ w.Since w.heap.size w') := by
  have hmf : ∀ (fn : Fn) (first cap : Array Value) (w : World), (Instr.makeFunc fn first cap).run Tryz.prog w = .ok (.func fn first cap) w := fun _ _ _ _ => rfl
  have hst : ∀ (a : Addr) (k : FuncId) (fr cp : Array Value) (m : Mode) (w : World), (store a (.func (.func k) fr cp) m).run Tryz.prog w = stored Tryz.prog w a (.func (.func k) fr cp) m := fun a k fr cp m w => run_store _ w a _ m rfl
  obtain ⟨⟨k1, d1, rfl, m1⟩, ⟨k2, d2, rfl, m2⟩, ⟨k3, d3, rfl, m3⟩⟩ := h1
  obtain ⟨⟨l1, e1, rfl, n1⟩, ⟨l2, e2, rfl, n2⟩, ⟨l3, e3, rfl, n3⟩⟩ := h2
  obtain ⟨W1, HW1⟩ : ∃ W, Hid (w.alloc (.cells #[.func (.func k1) #[] d1, .func (.func k2) #[] d2, .func (.func k3) #[] d3] 88) = W) := ⟨_, rfl⟩
  have s1 : w.Since w.heap.size W1 := by rw [← HW1.out]; exact (World.Since.refl _ _).alloc (Nat.le_refl _) _
  have z1 : W1.heap.size = w.heap.size + 1 := by rw [← HW1.out]; simp
  have r1 : W1.rowIs w.heap.size 88 3 (fun i => if i = 0 then f3 k1 d1 else if i = 1 then f3 k2 d2 else f3 k3 d3) := by rw [← HW1.out]; exact row_new3 _ _ _ _ _
  obtain ⟨W2, HW2⟩ : ∃ W, Hid (W1.alloc (.cells #[.func (.func l1) #[] e1, .func (.func l2) #[] e2, .func (.func l3) #[] e3] 88) = W) := ⟨_, rfl⟩
  have s2 : W1.Since W1.heap.size W2 := by rw [← HW2.out]; exact (World.Since.refl _ _).alloc (Nat.le_refl _) _
  have z2 : W2.heap.size = W1.heap.size + 1 := by rw [← HW2.out]; simp
  have r2 : W2.rowIs W1.heap.size 88 3 (fun i => if i = 0 then f3 l1 e1 else if i = 1 then f3 l2 e2 else f3 l3 e3) := by rw [← HW2.out]; exact row_new3 _ _ _ _ _
  obtain ⟨W3, HW3⟩ : ∃ W, Hid (W2.alloc fdZ = W) := ⟨_, rfl⟩
  have s3 : W2.Since W2.heap.size W3 := by rw [← HW3.out]; exact (World.Since.refl _ _).alloc (Nat.le_refl _) _
  have z3 : W3.heap.size = W2.heap.size + 1 := by rw [← HW3.out]; simp
  have hr : W3.rowIs W2.heap.size 88 3 (fun _ => .nilFunc) := by rw [← HW3.out]; exact fdZ_row _
  rw [z1] at r2
  rw [z2, z1] at hr
  obtain ⟨W4, e4, hh4, _, z4, b4, o4, t4, p4⟩ := stored3 hr (.func (.func 119) #[] #[.pointer (some ⟨w.heap.size, 0, none⟩), .pointer (some ⟨(w.heap.size + 1), 0, none⟩)]) (.func (.func 120) #[] #[.pointer (some ⟨w.heap.size, 0, none⟩), .pointer (some ⟨(w.heap.size + 1), 0, none⟩)]) (.func (.func 121) #[] #[.pointer (some ⟨w.heap.size, 0, none⟩), .pointer (some ⟨(w.heap.size + 1), 0, none⟩)])
  have H4 := hide e4
  have sA : w.Since w.heap.size W3 := ((s1.trans (since_mono s2 (by omega))).trans (since_mono s3 (by omega)))
  have hs4 : w.Since w.heap.size W4 := ⟨o4.trans sA.os, t4.trans sA.tape, p4.trans sA.output, by rw [z4]; exact sA.size, fun k hk => (b4 k (by omega)).trans (sA.block k hk)⟩
  have R1 : W4.rowIs w.heap.size 88 3 (fun i => if i = 0 then f3 k1 d1 else if i = 1 then f3 k2 d2 else f3 k3 d3) := ((r1.of_block (s2.block _ (by omega))).of_block (s3.block _ (by omega))).of_block (b4 _ (by omega))
  have R2 : W4.rowIs (w.heap.size + 1) 88 3 (fun i => if i = 0 then f3 l1 e1 else if i = 1 then f3 l2 e2 else f3 l3 e3) := (r2.of_block (s3.block _ (by omega))).of_block (b4 _ (by omega))
  have hag : Agr2 lo hi w W4 := Agr2.since hs4 hhi
  have hz : hi ≤ W4.heap.size := by omega
  have HE : Hid (FOk lo W4.heap.size W4 (.func (.func 119) #[] #[.pointer (some ⟨w.heap.size, 0, none⟩), .pointer (some ⟨(w.heap.size + 1), 0, none⟩)]) (.func (.func 120) #[] #[.pointer (some ⟨w.heap.size, 0, none⟩), .pointer (some ⟨(w.heap.size + 1), 0, none⟩)]) (.func (.func 121) #[] #[.pointer (some ⟨w.heap.size, 0, none⟩), .pointer (some ⟨(w.heap.size + 1), 0, none⟩)]) (fs ++ gs) ∧ w.Since w.heap.size W4) := by
    refine ⟨⟨⟨_, _, rfl, bothMayOk (m1.up (Nat.le_refl _) hz hag) (n1.up (Nat.le_refl _) hz hag) (R1.cell (i := 0) (by decide)) (R2.cell (i := 0) (by decide)) ⟨by omega, by omega⟩ ⟨by omega, by omega⟩⟩, ⟨_, _, rfl, bothPutOk (m2.up (Nat.le_refl _) hz hag) (n2.up (Nat.le_refl _) hz hag) (R1.cell (i := 1) (by decide)) (R2.cell (i := 1) (by decide)) ⟨by omega, by omega⟩ ⟨by omega, by omega⟩⟩, ⟨_, _, rfl, bothGetOk (m3.up (Nat.le_refl _) hz hag) (n3.up (Nat.le_refl _) hz hag) (R1.cell (i := 2) (by decide)) (R2.cell (i := 2) (by decide)) ⟨by omega, by omega⟩ ⟨by omega, by omega⟩⟩⟩, hs4⟩
  have HH4 := hide hh4
  have q0 := hr.cell (i := 0) (by decide)
  have q1 := hr.cell (i := 1) (by decide)
  have q2 := hr.cell (i := 2) (by decide)
  have p0 := hr.frozen 0
  have p1 := hr.frozen 1
  have p2 := hr.frozen 2
  clear s1 s2 s3 r1 r2 R1 R2 hr hs4 e4 hh4 z4 b4 o4 t4 p4 sA hag hz m1 m2 m3 n1 n2 n3 hlo hhi
  unfold fdZ at HW3
  unfold f3
  go_enter Tryz.func59, Tryz.ntmps59
  go_upto_region 1 with fail
  rw [HW1.out, HW2.out, HW3.out]
  try rw [z2, z1]
  try simp only [z1, z2]
  go_wp2_with fail
  rw [H4.out]
  refine bodyPost_ret_by (results_cell_row rfl _ _ (w.heap.size + 1 + 1) 88 _ (0, 0) _ rfl HH4.out Tryz.underlying88 rfl infoFd) rfl ⟨_, _, _, rfl, HE.out⟩
set_option maxHeartbeats 1000000 in
theorem mkVarE  (w : World) : Calls Tryz.prog 137 #[.int .i64 307, .func (.func 138) #[] #[]] w fun e w' => ∃ ab qb, e = .returned (.agg #[.func (.func 158) #[] #[.pointer (some ⟨ab, 0, none⟩), .pointer (some ⟨qb, 0, none⟩)], .func (.func 160) #[] #[.pointer (some ⟨ab, 0, none⟩)], .func (.func 161) #[] #[.pointer (some ⟨qb, 0, none⟩), .pointer (some ⟨ab, 0, none⟩)]]) ∧ Hid (w'.cell? ⟨ab, 0, none⟩ = some (.func (.func 138) #[] #[]) ∧ w'.cell? ⟨qb, 0, none⟩ = some (.int .i64 307) ∧ w.heap.size ≤ ab ∧ w.heap.size ≤ qb ∧ w.Since w.heap.size w') := by
  have hmf : ∀ (fn : Fn) (first cap : Array Value) (w : World), (Instr.makeFunc fn first cap).run Tryz.prog w = .ok (.func fn first cap) w := fun _ _ _ _ => rfl
  have hst : ∀ (a : Addr) (k : FuncId) (fr cp : Array Value) (m : Mode) (w : World), (store a (.func (.func k) fr cp) m).run Tryz.prog w = stored Tryz.prog w a (.func (.func k) fr cp) m := fun a k fr cp m w => run_store _ w a _ m rfl
  obtain ⟨W1, HW1⟩ : ∃ W, Hid (w.alloc (.cells #[.int .i64 307] 35) = W) := ⟨_, rfl⟩
  have s1 : w.Since w.heap.size W1 := by rw [← HW1.out]; exact (World.Since.refl _ _).alloc (Nat.le_refl _) _
  have z1 : W1.heap.size = w.heap.size + 1 := by rw [← HW1.out]; simp
  have k1 : W1.cell? ⟨w.heap.size, 0, none⟩ = some (.int .i64 307) := by rw [← HW1.out]; exact cell_new _ _ _
  obtain ⟨W2, HW2⟩ : ∃ W, Hid (W1.alloc (.cells #[.func (.func 138) #[] #[]] 161) = W) := ⟨_, rfl⟩
  have s2 : W1.Since W1.heap.size W2 := by rw [← HW2.out]; exact (World.Since.refl _ _).alloc (Nat.le_refl _) _
  have z2 : W2.heap.size = W1.heap.size + 1 := by rw [← HW2.out]; simp
  have k2 : W2.cell? ⟨W1.heap.size, 0, none⟩ = some (.func (.func 138) #[] #[]) := by rw [← HW2.out]; exact cell_new _ _ _
  obtain ⟨W3, HW3⟩ : ∃ W, Hid (W2.alloc fdZ = W) := ⟨_, rfl⟩
  have s3 : W2.Since W2.heap.size W3 := by rw [← HW3.out]; exact (World.Since.refl _ _).alloc (Nat.le_refl _) _
  have z3 : W3.heap.size = W2.heap.size + 1 := by rw [← HW3.out]; simp
  have hr : W3.rowIs W2.heap.size 88 3 (fun _ => .nilFunc) := by rw [← HW3.out]; exact fdZ_row _
  rw [z1] at k2
  rw [z2, z1] at hr
  obtain ⟨W4, e4, hh4, _, z4, b4, o4, t4, p4⟩ := stored3 hr (.func (.func 158) #[] #[.pointer (some ⟨(w.heap.size + 1), 0, none⟩), .pointer (some ⟨w.heap.size, 0, none⟩)]) (.func (.func 160) #[] #[.pointer (some ⟨(w.heap.size + 1), 0, none⟩)]) (.func (.func 161) #[] #[.pointer (some ⟨w.heap.size, 0, none⟩), .pointer (some ⟨(w.heap.size + 1), 0, none⟩)])
  have H4 := hide e4
  have sA : w.Since w.heap.size W3 := ((s1.trans (since_mono s2 (by omega))).trans (since_mono s3 (by omega)))
  have hs4 : w.Since w.heap.size W4 := ⟨o4.trans sA.os, t4.trans sA.tape, p4.trans sA.output, by rw [z4]; exact sA.size, fun k hk => (b4 k (by omega)).trans (sA.block k hk)⟩
  have c1 : W4.cell? ⟨w.heap.size, 0, none⟩ = some (.int .i64 307) := cellB (b4 _ (by omega)) (cellB (s3.block _ (by omega)) (cellB (s2.block _ (by omega)) k1))
  have c2 : W4.cell? ⟨(w.heap.size + 1), 0, none⟩ = some (.func (.func 138) #[] #[]) := cellB (b4 _ (by omega)) (cellB (s3.block _ (by omega)) k2)
  have HE : Hid (W4.cell? ⟨(w.heap.size + 1), 0, none⟩ = some (.func (.func 138) #[] #[]) ∧ W4.cell? ⟨w.heap.size, 0, none⟩ = some (.int .i64 307) ∧ w.heap.size ≤ w.heap.size + 1 ∧ w.heap.size ≤ w.heap.size ∧ w.Since w.heap.size W4) := ⟨c2, c1, by omega, Nat.le_refl _, hs4⟩
  have HH4 := hide hh4
  have q0 := hr.cell (i := 0) (by decide)
  have q1 := hr.cell (i := 1) (by decide)
  have q2 := hr.cell (i := 2) (by decide)
  have p0 := hr.frozen 0
  have p1 := hr.frozen 1
  have p2 := hr.frozen 2
  clear s1 s2 s3 k1 k2 c1 c2 hr hs4 e4 hh4 z4 b4 o4 t4 p4 sA
  unfold fdZ at HW3
  go_enter Tryz.func137, Tryz.ntmps137
  go_upto_region 1 with fail
  rw [HW1.out, HW2.out, HW3.out]
  try rw [z2, z1]
  try simp only [z1, z2]
  go_wp2_with fail
  rw [H4.out]
  refine bodyPost_ret_by (results_cell_row rfl _ _ (w.heap.size + 1 + 1) 88 _ (0, 0) _ rfl HH4.out Tryz.underlying88 rfl infoFd) rfl ⟨_, _, rfl, HE.out⟩
set_option maxHeartbeats 1000000 in
theorem mkBad (w : World) : Calls Tryz.prog 79 #[] w fun e w' => ∃ x1 x2 x3, e = .returned (.agg #[x1, x2, x3]) ∧ Hid (FOk w.heap.size w'.heap.size w' x1 x2 x3 [.var 21 307] ∧ w.Since w.heap.size w') := by
  have hmf : ∀ (fn : Fn) (first cap : Array Value) (w : World), (Instr.makeFunc fn first cap).run Tryz.prog w = .ok (.func fn first cap) w := fun _ _ _ _ => rfl
  have hst : ∀ (a : Addr) (k : FuncId) (fr cp : Array Value) (m : Mode) (w : World), (store a (.func (.func k) fr cp) m).run Tryz.prog w = stored Tryz.prog w a (.func (.func k) fr cp) m := fun a k fr cp m w => run_store _ w a _ m rfl
  obtain ⟨W1, HW1⟩ : ∃ W, Hid (w.alloc fdZ = W) := ⟨_, rfl⟩
  have s1 : w.Since w.heap.size W1 := by rw [← HW1.out]; exact (World.Since.refl _ _).alloc (Nat.le_refl _) _
  have z1 : W1.heap.size = w.heap.size + 1 := by rw [← HW1.out]; simp
  have hr : W1.rowIs w.heap.size 88 3 (fun _ => .nilFunc) := by rw [← HW1.out]; exact fdZ_row _
  have q := mkVarE W1
  have HR := hide hr
  have HS := hide s1
  clear s1 hr
  unfold fdZ at HW1
  go_enter Tryz.func79, Tryz.ntmps79
  go_upto_region 1 with fail
  rw [HW1.out]
  go_wp2_with fail
  refine q.mono ?_
  rintro e w2 ⟨ab, qb, rfl, HX⟩
  clear q
  obtain ⟨xa, xq, la, lq, xs⟩ := HX.out
  obtain ⟨W3, HW3⟩ : ∃ W, Hid (w2.alloc (.cells #[.func (.func 158) #[] #[.pointer (some ⟨ab, 0, none⟩), .pointer (some ⟨qb, 0, none⟩)], .func (.func 160) #[] #[.pointer (some ⟨ab, 0, none⟩)], .func (.func 161) #[] #[.pointer (some ⟨qb, 0, none⟩), .pointer (some ⟨ab, 0, none⟩)]] 88) = W) := ⟨_, rfl⟩
  have s3 : w2.Since w2.heap.size W3 := by rw [← HW3.out]; exact (World.Since.refl _ _).alloc (Nat.le_refl _) _
  have z3 : W3.heap.size = w2.heap.size + 1 := by rw [← HW3.out]; simp
  have r3 : W3.rowIs w2.heap.size 88 3 (fun i => if i = 0 then (.func (.func 158) #[] #[.pointer (some ⟨ab, 0, none⟩), .pointer (some ⟨qb, 0, none⟩)]) else if i = 1 then (.func (.func 160) #[] #[.pointer (some ⟨ab, 0, none⟩)]) else (.func (.func 161) #[] #[.pointer (some ⟨qb, 0, none⟩), .pointer (some ⟨ab, 0, none⟩)])) := by rw [← HW3.out]; exact row_new3 _ _ _ _ _
  obtain ⟨fb, Hfb⟩ : ∃ x, Hid (w2.heap.size = x) := ⟨_, rfl⟩
  obtain ⟨kb, Hkb⟩ : ∃ x, Hid (fb + 1 = x) := ⟨_, rfl⟩
  obtain ⟨W4, HW4⟩ : ∃ W, Hid (W3.alloc (.cells #[.func (.func 158) #[] #[.pointer (some ⟨ab, 0, none⟩), .pointer (some ⟨qb, 0, none⟩)]] 84) = W) := ⟨_, rfl⟩
  have s4 : W3.Since W3.heap.size W4 := by rw [← HW4.out]; exact (World.Since.refl _ _).alloc (Nat.le_refl _) _
  have z4 : W4.heap.size = W3.heap.size + 1 := by rw [← HW4.out]; simp
  have k4 : W4.cell? ⟨W3.heap.size, 0, none⟩ = some (.func (.func 158) #[] #[.pointer (some ⟨ab, 0, none⟩), .pointer (some ⟨qb, 0, none⟩)]) := by rw [← HW4.out]; exact cell_new _ _ _
  have hz2 := xs.size
  have hfb : fb = w2.heap.size := Hfb.out.symm
  have hkb : kb = fb + 1 := Hkb.out.symm
  rw [← hfb] at r3
  have r4 := r3.of_block (s4.block fb (by omega))
  have r5 := r4.set 0 (.func (.func 139) #[] #[.pointer (some ⟨kb, 0, none⟩)])
  have hz3 : W3.heap.size = kb := by omega
  rw [hz3] at k4
  obtain ⟨W5, HW5⟩ : ∃ W, Hid (W4.setCell ⟨fb, 0, none⟩ (.func (.func 139) #[] #[.pointer (some ⟨kb, 0, none⟩)]) = W) := ⟨_, rfl⟩
  rw [HW5.out] at r5
  have b5 : ∀ k, k ≠ fb → W5.heap[k]? = W4.heap[k]? := fun k hk => by rw [← HW5.out]; exact Below.heap_setCell _ _ _ _ hk
  have z5 : W5.heap.size = W4.heap.size := by rw [← HW5.out]; simp [World.setCell]
  have sW : w.Since w.heap.size w2 := HS.out.trans (since_mono xs (by omega))
  have s5 : w.Since w.heap.size W5 := by
    have a1 := (sW.trans (since_mono s3 (by omega))).trans (since_mono s4 (by omega))
    rw [← HW5.out]
    exact a1.setCell (a := ⟨fb, 0, none⟩) (by show w.heap.size ≤ fb; omega) _
  have rR : W5.rowIs w.heap.size 88 3 (fun _ => .nilFunc) := (((HR.out.of_block (xs.block _ (by omega))).of_block (s3.block _ (by omega))).of_block (s4.block _ (by omega))).of_block (b5 _ (by omega))
  obtain ⟨W6, e6, hh6, _, z6, b6, o6, t6, p6⟩ := stored3 rR (.func (.func 139) #[] #[.pointer (some ⟨kb, 0, none⟩)]) (.func (.func 160) #[] #[.pointer (some ⟨ab, 0, none⟩)]) (.func (.func 161) #[] #[.pointer (some ⟨qb, 0, none⟩), .pointer (some ⟨ab, 0, none⟩)])
  have H6 := hide e6
  have hs6 : w.Since w.heap.size W6 := ⟨o6.trans s5.os, t6.trans s5.tape, p6.trans s5.output, by rw [z6]; exact s5.size, fun k hk => (b6 k (by omega)).trans (s5.block k hk)⟩
  have la2 := World.block_lt_of_cell? _ _ xa
  have lq2 := World.block_lt_of_cell? _ _ xq
  have la3 : ab < w2.heap.size := la2
  have lq3 : qb < w2.heap.size := lq2
  have ca : W6.cell? ⟨ab, 0, none⟩ = some (.func (.func 138) #[] #[]) := cellB (b6 _ (by omega)) (cellB (b5 _ (by omega)) (cellB (s4.block _ (by omega)) (cellB (s3.block _ (by omega)) xa)))
  have cq : W6.cell? ⟨qb, 0, none⟩ = some (.int .i64 307) := cellB (b6 _ (by omega)) (cellB (b5 _ (by omega)) (cellB (s4.block _ (by omega)) (cellB (s3.block _ (by omega)) xq)))
  have ck : W6.cell? ⟨kb, 0, none⟩ = some (.func (.func 158) #[] #[.pointer (some ⟨ab, 0, none⟩), .pointer (some ⟨qb, 0, none⟩)]) := cellB (b6 _ (by omega)) (cellB (b5 _ (by omega)) k4)
  have HE : Hid (FOk w.heap.size W6.heap.size W6 (.func (.func 139) #[] #[.pointer (some ⟨kb, 0, none⟩)]) (.func (.func 160) #[] #[.pointer (some ⟨ab, 0, none⟩)]) (.func (.func 161) #[] #[.pointer (some ⟨qb, 0, none⟩), .pointer (some ⟨ab, 0, none⟩)]) [.var 21 307] ∧ w.Since w.heap.size W6) := by
    refine ⟨⟨⟨_, _, rfl, badMayOk ca cq ck ⟨by omega, by omega⟩ ⟨by omega, by omega⟩ ⟨by omega, by omega⟩⟩, ⟨_, _, rfl, varPutOkE isAt21 ⟨rfl, .inr rfl⟩ (by decide) 307 (by decide) ca ⟨by omega, by omega⟩⟩, ⟨_, _, rfl, varGetOkE isAt21 ⟨rfl, .inr rfl⟩ (by decide) 307 (by decide) ca cq ⟨by omega, by omega⟩ ⟨by omega, by omega⟩⟩⟩, hs6⟩
  have HH6 := hide hh6
  have q0 := rR.cell (i := 0) (by decide)
  have q1 := rR.cell (i := 1) (by decide)
  have q2 := rR.cell (i := 2) (by decide)
  have p0 := rR.frozen 0
  have p1 := rR.frozen 1
  have p2 := rR.frozen 2
  have g0 := r4.cell (i := 0) (by decide)
  have f0 := r4.frozen 0
  have u0 : W5.cell? ⟨fb, 0, none⟩ = some (.func (.func 139) #[] #[.pointer (some ⟨kb, 0, none⟩)]) := r5.cell (i := 0) (by decide)
  have u1 : W5.cell? ⟨fb, 1, none⟩ = some (.func (.func 160) #[] #[.pointer (some ⟨ab, 0, none⟩)]) := r5.cell (i := 1) (by decide)
  have u2 : W5.cell? ⟨fb, 2, none⟩ = some (.func (.func 161) #[] #[.pointer (some ⟨qb, 0, none⟩), .pointer (some ⟨ab, 0, none⟩)]) := r5.cell (i := 2) (by decide)
  clear s3 r3 s4 k4 hz2 r4 r5 b5 sW s5 rR e6 hh6 z6 b6 o6 t6 p6 hs6 la la2 la3 lq lq2 lq3 ca cq ck xa xq xs HX z4 z5 hz3
  go_upto_region 3 with fail
  rw [HW3.out, HW4.out]
  try rw [z3]
  try simp only [z3]
  try rw [Hfb.out]
  try simp only [Hfb.out]
  try simp only [Hkb.out]
  clear hfb hkb z3
  go_upto_region 4 with fail
  rw [HW5.out]
  go_wp2_with fail
  rw [H6.out]
  refine bodyPost_ret_by (results_cell_row rfl _ _ w.heap.size 88 _ (0, 0) _ rfl HH6.out Tryz.underlying88 rfl infoFd) rfl ⟨_, _, _, rfl, HE.out⟩
end Go.Proofs.YtonpmabdjngdcaaGreatDoor

/- Package message: fields. -/
namespace Go.Proofs.YtonpmabdjngdcaaGreatDoor
open Go.RowKit
set_option maxRecDepth 100000

theorem row_heap {w : World} {b : Nat} {t : TypeId} {n : Nat} {f : Nat → Value} (h : w.rowIs b t n f) : w.heap[b]? = some (.cells ((List.range n).map f).toArray t (0, 0)) := by
  obtain ⟨c, h1, h2, h3⟩ := h
  have : c = ((List.range n).map f).toArray := by
    refine Array.ext (by simp [h2]) (fun i i1 i2 => ?_)
    have := h3 i (by omega)
    rw [Array.getElem?_eq_getElem i1] at this
    rw [Option.some.inj this]
    simp
  rw [h1, this]
theorem infoFs : (Tryz.prog.info? 89).map (·.size) = some 48 := by kernel_rfl
/-- Fields that were made one behind the other. -/
structure Acc (w0 W : World) (L : List (Value × Value × Value × List Fd)) : Prop where
  since : w0.Since w0.heap.size W
  ok : ∀ q ∈ L, FOk w0.heap.size W.heap.size W q.1 q.2.1 q.2.2.1 q.2.2.2
theorem Acc.add {w0 W W' : World} {L : List (Value × Value × Value × List Fd)} {v1 v2 v3 : Value} {fs : List Fd} (h : Acc w0 W L) (hx : Hid (FOk W.heap.size W'.heap.size W' v1 v2 v3 fs ∧ W.Since W.heap.size W')) : Acc w0 W' ((v1, v2, v3, fs) :: L) := by
  obtain ⟨h1, hs⟩ := hx.out
  refine ⟨h.since.trans (since_mono hs h.since.size), fun q hq => ?_⟩
  rcases List.mem_cons.1 hq with rfl | hq
  · exact h1.up h.since.size (Nat.le_refl _) (fun _ _ _ => rfl)
  · exact (h.ok q hq).up (Nat.le_refl _) hs.size (Agr2.since hs (Nat.le_refl _))
theorem Acc.both {w0 W W' : World} {L : List (Value × Value × Value × List Fd)} {v1 v2 v3 : Value} {fs : List Fd} (h : Acc w0 W L) (hx : Hid (FOk w0.heap.size W'.heap.size W' v1 v2 v3 fs ∧ W.Since W.heap.size W')) : Acc w0 W' ((v1, v2, v3, fs) :: L) := by
  obtain ⟨h1, hs⟩ := hx.out
  refine ⟨h.since.trans (since_mono hs h.since.size), fun q hq => ?_⟩
  rcases List.mem_cons.1 hq with rfl | hq
  · exact h1
  · exact (h.ok q hq).up (Nat.le_refl _) hs.size (Agr2.since hs (Nat.le_refl _))
/-- All fields. -/
def FAll (lo hi : Nat) (w : World) (G : Nat → Value) : Prop := ∀ i, i < 16 → FOk lo hi w (G (3 * i)) (G (3 * i + 1)) (G (3 * i + 2)) (fds i)
theorem FAll.up {lo hi lo' hi' : Nat} {w w' : World} {G : Nat → Value} (h : FAll lo hi w G) (h1 : lo' ≤ lo) (h2 : hi ≤ hi') (hw : Agr2 lo hi w w') : FAll lo' hi' w' G := fun i hi => (h i hi).up h1 h2 hw
def faV (G : Nat → Value) : Value := .agg ((List.range 48).map G).toArray
/-- The array of fields, of nothing. -/
def fsZ : Obj := .cells (Array.replicate 48 .nilFunc) 89
theorem fsZ_row (w : World) : (w.alloc fsZ).rowIs w.heap.size 89 48 (fun _ => .nilFunc) := by
  have := World.rowIs_alloc w (Array.replicate 48 Value.nilFunc) 89 (fun _ => .nilFunc) (fun i hi => by
    rw [Array.getElem?_replicate, if_pos (by simpa using hi)])
  unfold fsZ
  simpa using this
set_option maxHeartbeats 4000000 in
theorem fields_any (w : World) : Calls Tryz.prog 33 #[] w fun e w' => ∃ G, e = .returned (faV G) ∧ Hid (FAll (w.heap.size + 1) w'.heap.size w' G ∧ w.Since w.heap.size w' ∧ w.heap.size + 1 ≤ w'.heap.size) := by
  obtain ⟨W0, HW0⟩ : ∃ W, Hid (w.alloc fsZ = W) := ⟨_, rfl⟩
  have s0 : w.Since w.heap.size W0 := by rw [← HW0.out]; exact (World.Since.refl _ _).alloc (Nat.le_refl _) _
  have z0 : W0.heap.size = w.heap.size + 1 := by rw [← HW0.out]; simp
  have r0 : W0.rowIs w.heap.size 89 48 (fun _ => .nilFunc) := by rw [← HW0.out]; exact fsZ_row _
  have HR0 := hide r0
  have HS0 := hide s0
  have HA0 : Hid (Acc W0 W0 []) := ⟨World.Since.refl _ _, fun q hq => absurd hq (List.not_mem_nil)⟩
  have HQ1 : Hid (∀ w, Calls Tryz.prog 57 #[.int .u64 1099511627776, .func (.func 58) #[] #[]] w fun e w' => ∃ v1 v2 v3, e = .returned (.agg #[v1, v2, v3]) ∧ Hid (FOk w.heap.size w'.heap.size w' v1 v2 v3 [.var 4 1099511627776] ∧ w.Since w.heap.size w')) := fun w => mkVarU isAt4 rfl (by decide) (by decide) 1099511627776 (by decide) w
  have HQ2 : Hid (∀ w, Calls Tryz.prog 57 #[.int .u64 1099511627776, .func (.func 60) #[] #[]] w fun e w' => ∃ v1 v2 v3, e = .returned (.agg #[v1, v2, v3]) ∧ Hid (FOk w.heap.size w'.heap.size w' v1 v2 v3 [.var 5 1099511627776] ∧ w.Since w.heap.size w')) := fun w => mkVarU isAt5 rfl (by decide) (by decide) 1099511627776 (by decide) w
  have HQ3 : Hid (∀ w, Calls Tryz.prog 57 #[.int .u64 1099511627776, .func (.func 61) #[] #[]] w fun e w' => ∃ v1 v2 v3, e = .returned (.agg #[v1, v2, v3]) ∧ Hid (FOk w.heap.size w'.heap.size w' v1 v2 v3 [.var 6 1099511627776] ∧ w.Since w.heap.size w')) := fun w => mkVarU isAt6 rfl (by decide) (by decide) 1099511627776 (by decide) w
  have HQ5 : Hid (∀ w, Calls Tryz.prog 57 #[.int .u64 1099511627776, .func (.func 62) #[] #[]] w fun e w' => ∃ v1 v2 v3, e = .returned (.agg #[v1, v2, v3]) ∧ Hid (FOk w.heap.size w'.heap.size w' v1 v2 v3 [.var 7 1099511627776] ∧ w.Since w.heap.size w')) := fun w => mkVarU isAt7 rfl (by decide) (by decide) 1099511627776 (by decide) w
  have HQ6 : Hid (∀ w, Calls Tryz.prog 63 #[.int .i64 1025, .func (.func 64) #[] #[]] w fun e w' => ∃ v1 v2 v3, e = .returned (.agg #[v1, v2, v3]) ∧ Hid (FOk w.heap.size w'.heap.size w' v1 v2 v3 [.var 8 1025] ∧ w.Since w.heap.size w')) := fun w => mkVarI isAt8 ⟨rfl, .inl rfl⟩ (by decide) (by decide) 1025 (by decide) w
  have HQ7 : Hid (∀ w, Calls Tryz.prog 57 #[.int .u64 1099511627776, .func (.func 65) #[] #[]] w fun e w' => ∃ v1 v2 v3, e = .returned (.agg #[v1, v2, v3]) ∧ Hid (FOk w.heap.size w'.heap.size w' v1 v2 v3 [.var 9 1099511627776] ∧ w.Since w.heap.size w')) := fun w => mkVarU isAt9 rfl (by decide) (by decide) 1099511627776 (by decide) w
  have HQ8 : Hid (∀ w, Calls Tryz.prog 66 #[] w fun e w' => ∃ v1 v2 v3, e = .returned (.agg #[v1, v2, v3]) ∧ Hid (FOk w.heap.size w'.heap.size w' v1 v2 v3 [.text 10 16384] ∧ w.Since w.heap.size w')) := fun w => mkValue w
  have HQ9 : Hid (∀ w, Calls Tryz.prog 67 #[.int .i64 7, .func (.func 68) #[] #[]] w fun e w' => ∃ v1 v2 v3, e = .returned (.agg #[v1, v2, v3]) ∧ Hid (FOk w.heap.size w'.heap.size w' v1 v2 v3 [.small 11 7] ∧ w.Since w.heap.size w')) := fun w => mkSmall isAt11 ⟨rfl, by decide, by decide, by decide⟩ (by decide) 7 w
  have HQ10 : Hid (∀ w, Calls Tryz.prog 57 #[.int .u64 1099511627776, .func (.func 69) #[] #[]] w fun e w' => ∃ v1 v2 v3, e = .returned (.agg #[v1, v2, v3]) ∧ Hid (FOk w.heap.size w'.heap.size w' v1 v2 v3 [.var 12 1099511627776] ∧ w.Since w.heap.size w')) := fun w => mkVarU isAt12 rfl (by decide) (by decide) 1099511627776 (by decide) w
  have HQ11 : Hid (∀ w, Calls Tryz.prog 70 #[.func (.func 71) #[] #[]] w fun e w' => ∃ v1 v2 v3, e = .returned (.agg #[v1, v2, v3]) ∧ Hid (FOk w.heap.size w'.heap.size w' v1 v2 v3 [.text 13 64] ∧ w.Since w.heap.size w')) := fun w => mkName isAt13 (.inl rfl) w
  have HQ12 : Hid (∀ w, Calls Tryz.prog 70 #[.func (.func 72) #[] #[]] w fun e w' => ∃ v1 v2 v3, e = .returned (.agg #[v1, v2, v3]) ∧ Hid (FOk w.heap.size w'.heap.size w' v1 v2 v3 [.text 14 64] ∧ w.Since w.heap.size w')) := fun w => mkName isAt14 (.inr rfl) w
  have HQ13 : Hid (∀ w, Calls Tryz.prog 57 #[.int .u64 9007199254740992, .func (.func 73) #[] #[]] w fun e w' => ∃ v1 v2 v3, e = .returned (.agg #[v1, v2, v3]) ∧ Hid (FOk w.heap.size w'.heap.size w' v1 v2 v3 [.var 15 9007199254740992] ∧ w.Since w.heap.size w')) := fun w => mkVarU isAt15 rfl (by decide) (by decide) 9007199254740992 (by decide) w
  have HQ14 : Hid (∀ w, Calls Tryz.prog 57 #[.int .u64 1099511627776, .func (.func 74) #[] #[]] w fun e w' => ∃ v1 v2 v3, e = .returned (.agg #[v1, v2, v3]) ∧ Hid (FOk w.heap.size w'.heap.size w' v1 v2 v3 [.var 16 1099511627776] ∧ w.Since w.heap.size w')) := fun w => mkVarU isAt16 rfl (by decide) (by decide) 1099511627776 (by decide) w
  have HQ15 : Hid (∀ w, Calls Tryz.prog 57 #[.int .u64 1099511627776, .func (.func 75) #[] #[]] w fun e w' => ∃ v1 v2 v3, e = .returned (.agg #[v1, v2, v3]) ∧ Hid (FOk w.heap.size w'.heap.size w' v1 v2 v3 [.var 17 1099511627776] ∧ w.Since w.heap.size w')) := fun w => mkVarU isAt17 rfl (by decide) (by decide) 1099511627776 (by decide) w
  have HQ17 : Hid (∀ w, Calls Tryz.prog 67 #[.int .i64 3, .func (.func 76) #[] #[]] w fun e w' => ∃ v1 v2 v3, e = .returned (.agg #[v1, v2, v3]) ∧ Hid (FOk w.heap.size w'.heap.size w' v1 v2 v3 [.small 18 3] ∧ w.Since w.heap.size w')) := fun w => mkSmall isAt18 ⟨rfl, by decide, by decide, by decide⟩ (by decide) 3 w
  have HQ18 : Hid (∀ w, Calls Tryz.prog 67 #[.int .i64 7, .func (.func 77) #[] #[]] w fun e w' => ∃ v1 v2 v3, e = .returned (.agg #[v1, v2, v3]) ∧ Hid (FOk w.heap.size w'.heap.size w' v1 v2 v3 [.small 19 7] ∧ w.Since w.heap.size w')) := fun w => mkSmall isAt19 ⟨rfl, by decide, by decide, by decide⟩ (by decide) 7 w
  have HQ19 : Hid (∀ w, Calls Tryz.prog 67 #[.int .i64 4, .func (.func 78) #[] #[]] w fun e w' => ∃ v1 v2 v3, e = .returned (.agg #[v1, v2, v3]) ∧ Hid (FOk w.heap.size w'.heap.size w' v1 v2 v3 [.small 20 4] ∧ w.Since w.heap.size w')) := fun w => mkSmall isAt20 ⟨rfl, by decide, by decide, by decide⟩ (by decide) 4 w
  have HQ20 : Hid (∀ w, Calls Tryz.prog 79 #[] w fun e w' => ∃ v1 v2 v3, e = .returned (.agg #[v1, v2, v3]) ∧ Hid (FOk w.heap.size w'.heap.size w' v1 v2 v3 [.var 21 307] ∧ w.Since w.heap.size w')) := fun w => mkBad w
  clear s0 r0
  unfold fsZ at HW0
  go_enter Tryz.func33, Tryz.ntmps33
  go_upto_region 1 with fail
  simp only [show Array.replicate 48 Value.nilFunc = #[Value.nilFunc, Value.nilFunc, Value.nilFunc, Value.nilFunc, Value.nilFunc, Value.nilFunc, Value.nilFunc, Value.nilFunc, Value.nilFunc, Value.nilFunc, Value.nilFunc, Value.nilFunc, Value.nilFunc, Value.nilFunc, Value.nilFunc, Value.nilFunc, Value.nilFunc, Value.nilFunc, Value.nilFunc, Value.nilFunc, Value.nilFunc, Value.nilFunc, Value.nilFunc, Value.nilFunc, Value.nilFunc, Value.nilFunc, Value.nilFunc, Value.nilFunc, Value.nilFunc, Value.nilFunc, Value.nilFunc, Value.nilFunc, Value.nilFunc, Value.nilFunc, Value.nilFunc, Value.nilFunc, Value.nilFunc, Value.nilFunc, Value.nilFunc, Value.nilFunc, Value.nilFunc, Value.nilFunc, Value.nilFunc, Value.nilFunc, Value.nilFunc, Value.nilFunc, Value.nilFunc, Value.nilFunc] from rfl] at HW0
  rw [HW0.out]
  go_wp2_with fail
  refine (HQ1.out _).mono ?_
  rintro e W1 ⟨a1, b1, c1, rfl, HX1⟩
  have HA1 : Hid (Acc W0 W1 _) := HA0.out.add HX1
  clear HX1 HA0
  go_wp2_with fail
  refine (HQ2.out _).mono ?_
  rintro e W2 ⟨a2, b2, c2, rfl, HX2⟩
  have HA2 : Hid (Acc W0 W2 _) := HA1.out.add HX2
  clear HX2 HA1
  go_wp2_with fail
  refine (HQ3.out _).mono ?_
  rintro e W3 ⟨a3, b3, c3, rfl, HX3⟩
  have HA3 : Hid (Acc W0 W3 _) := HA2.out.add HX3
  clear HX3 HA2
  have HQ4 : Hid (Calls Tryz.prog 59 #[.agg #[a2, b2, c2], .agg #[a3, b3, c3]] W3 fun e w' => ∃ v1 v2 v3, e = .returned (.agg #[v1, v2, v3]) ∧ Hid (FOk W0.heap.size w'.heap.size w' v1 v2 v3 ([.var 5 1099511627776] ++ [.var 6 1099511627776]) ∧ W3.Since W3.heap.size w')) := mkBoth W3 (HA3.out.ok (a2, b2, c2, [.var 5 1099511627776]) (by simp)) (HA3.out.ok (a3, b3, c3, [.var 6 1099511627776]) (by simp)) HA3.out.since.size (Nat.le_refl _)
  go_wp2_with fail
  refine HQ4.out.mono ?_
  rintro e W4 ⟨a4, b4, c4, rfl, HX4⟩
  have HA4 : Hid (Acc W0 W4 _) := HA3.out.both HX4
  clear HX4 HA3 HQ4
  go_wp2_with fail
  refine (HQ5.out _).mono ?_
  rintro e W5 ⟨a5, b5, c5, rfl, HX5⟩
  have HA5 : Hid (Acc W0 W5 _) := HA4.out.add HX5
  clear HX5 HA4
  go_wp2_with fail
  refine (HQ6.out _).mono ?_
  rintro e W6 ⟨a6, b6, c6, rfl, HX6⟩
  have HA6 : Hid (Acc W0 W6 _) := HA5.out.add HX6
  clear HX6 HA5
  go_wp2_with fail
  refine (HQ7.out _).mono ?_
  rintro e W7 ⟨a7, b7, c7, rfl, HX7⟩
  have HA7 : Hid (Acc W0 W7 _) := HA6.out.add HX7
  clear HX7 HA6
  go_wp2_with fail
  refine (HQ8.out _).mono ?_
  rintro e W8 ⟨a8, b8, c8, rfl, HX8⟩
  have HA8 : Hid (Acc W0 W8 _) := HA7.out.add HX8
  clear HX8 HA7
  go_wp2_with fail
  refine (HQ9.out _).mono ?_
  rintro e W9 ⟨a9, b9, c9, rfl, HX9⟩
  have HA9 : Hid (Acc W0 W9 _) := HA8.out.add HX9
  clear HX9 HA8
  go_wp2_with fail
  refine (HQ10.out _).mono ?_
  rintro e W10 ⟨a10, b10, c10, rfl, HX10⟩
  have HA10 : Hid (Acc W0 W10 _) := HA9.out.add HX10
  clear HX10 HA9
  go_wp2_with fail
  refine (HQ11.out _).mono ?_
  rintro e W11 ⟨a11, b11, c11, rfl, HX11⟩
  have HA11 : Hid (Acc W0 W11 _) := HA10.out.add HX11
  clear HX11 HA10
  go_wp2_with fail
  refine (HQ12.out _).mono ?_
  rintro e W12 ⟨a12, b12, c12, rfl, HX12⟩
  have HA12 : Hid (Acc W0 W12 _) := HA11.out.add HX12
  clear HX12 HA11
  go_wp2_with fail
  refine (HQ13.out _).mono ?_
  rintro e W13 ⟨a13, b13, c13, rfl, HX13⟩
  have HA13 : Hid (Acc W0 W13 _) := HA12.out.add HX13
  clear HX13 HA12
  go_wp2_with fail
  refine (HQ14.out _).mono ?_
  rintro e W14 ⟨a14, b14, c14, rfl, HX14⟩
  have HA14 : Hid (Acc W0 W14 _) := HA13.out.add HX14
  clear HX14 HA13
  go_wp2_with fail
  refine (HQ15.out _).mono ?_
  rintro e W15 ⟨a15, b15, c15, rfl, HX15⟩
  have HA15 : Hid (Acc W0 W15 _) := HA14.out.add HX15
  clear HX15 HA14
  have HQ16 : Hid (Calls Tryz.prog 59 #[.agg #[a14, b14, c14], .agg #[a15, b15, c15]] W15 fun e w' => ∃ v1 v2 v3, e = .returned (.agg #[v1, v2, v3]) ∧ Hid (FOk W0.heap.size w'.heap.size w' v1 v2 v3 ([.var 16 1099511627776] ++ [.var 17 1099511627776]) ∧ W15.Since W15.heap.size w')) := mkBoth W15 (HA15.out.ok (a14, b14, c14, [.var 16 1099511627776]) (by simp)) (HA15.out.ok (a15, b15, c15, [.var 17 1099511627776]) (by simp)) HA15.out.since.size (Nat.le_refl _)
  go_wp2_with fail
  refine HQ16.out.mono ?_
  rintro e W16 ⟨a16, b16, c16, rfl, HX16⟩
  have HA16 : Hid (Acc W0 W16 _) := HA15.out.both HX16
  clear HX16 HA15 HQ16
  go_wp2_with fail
  refine (HQ17.out _).mono ?_
  rintro e W17 ⟨a17, b17, c17, rfl, HX17⟩
  have HA17 : Hid (Acc W0 W17 _) := HA16.out.add HX17
  clear HX17 HA16
  go_wp2_with fail
  refine (HQ18.out _).mono ?_
  rintro e W18 ⟨a18, b18, c18, rfl, HX18⟩
  have HA18 : Hid (Acc W0 W18 _) := HA17.out.add HX18
  clear HX18 HA17
  go_wp2_with fail
  refine (HQ19.out _).mono ?_
  rintro e W19 ⟨a19, b19, c19, rfl, HX19⟩
  have HA19 : Hid (Acc W0 W19 _) := HA18.out.add HX19
  clear HX19 HA18
  go_wp2_with fail
  refine (HQ20.out _).mono ?_
  rintro e W20 ⟨a20, b20, c20, rfl, HX20⟩
  have HA20 : Hid (Acc W0 W20 _) := HA19.out.add HX20
  clear HX20 HA19
  have HFA : Hid (FAll (w.heap.size + 1) W20.heap.size W20 (fun j => [a1, b1, c1, a4, b4, c4, a5, b5, c5, a6, b6, c6, a7, b7, c7, a8, b8, c8, a9, b9, c9, a10, b10, c10, a11, b11, c11, a12, b12, c12, a13, b13, c13, a16, b16, c16, a17, b17, c17, a18, b18, c18, a19, b19, c19, a20, b20, c20].getD j undef)) := by
    rw [← z0]
    intro i hi
    match i, hi with
    | 0, _ => exact HA20.out.ok (a1, b1, c1, [.var 4 1099511627776]) (by simp)
    | 1, _ => exact HA20.out.ok (a4, b4, c4, ([.var 5 1099511627776] ++ [.var 6 1099511627776])) (by simp)
    | 2, _ => exact HA20.out.ok (a5, b5, c5, [.var 7 1099511627776]) (by simp)
    | 3, _ => exact HA20.out.ok (a6, b6, c6, [.var 8 1025]) (by simp)
    | 4, _ => exact HA20.out.ok (a7, b7, c7, [.var 9 1099511627776]) (by simp)
    | 5, _ => exact HA20.out.ok (a8, b8, c8, [.text 10 16384]) (by simp)
    | 6, _ => exact HA20.out.ok (a9, b9, c9, [.small 11 7]) (by simp)
    | 7, _ => exact HA20.out.ok (a10, b10, c10, [.var 12 1099511627776]) (by simp)
    | 8, _ => exact HA20.out.ok (a11, b11, c11, [.text 13 64]) (by simp)
    | 9, _ => exact HA20.out.ok (a12, b12, c12, [.text 14 64]) (by simp)
    | 10, _ => exact HA20.out.ok (a13, b13, c13, [.var 15 9007199254740992]) (by simp)
    | 11, _ => exact HA20.out.ok (a16, b16, c16, ([.var 16 1099511627776] ++ [.var 17 1099511627776])) (by simp)
    | 12, _ => exact HA20.out.ok (a17, b17, c17, [.small 18 3]) (by simp)
    | 13, _ => exact HA20.out.ok (a18, b18, c18, [.small 19 7]) (by simp)
    | 14, _ => exact HA20.out.ok (a19, b19, c19, [.small 20 4]) (by simp)
    | 15, _ => exact HA20.out.ok (a20, b20, c20, [.var 21 307]) (by simp)
    | n + 16, h => omega
  have hsz := HA20.out.since.size
  have HS20 : Hid (w.Since w.heap.size W20) := HS0.out.trans (since_mono HA20.out.since (by omega))
  have HR20 : Hid (W20.rowIs w.heap.size 89 48 (fun _ => .nilFunc)) := HR0.out.of_block (HA20.out.since.block _ (by omega))
  have HT : Hid (W20.there w.heap.size 0 48) := fun j hj => ⟨by rw [Nat.zero_add, HR20.out.cell hj]; rfl, by rw [Nat.zero_add]; exact HR20.out.frozen j⟩
  have HO : Hid ((#[a1, b1, c1, a4, b4, c4, a5, b5, c5, a6, b6, c6, a7, b7, c7, a8, b8, c8, a9, b9, c9, a10, b10, c10, a11, b11, c11, a12, b12, c12, a13, b13, c13, a16, b16, c16, a17, b17, c17, a18, b18, c18, a19, b19, c19, a20, b20, c20] : Array Value).all (·.oneCell') = true) := by
    have h1 : ∀ j, j < 48 → ([a1, b1, c1, a4, b4, c4, a5, b5, c5, a6, b6, c6, a7, b7, c7, a8, b8, c8, a9, b9, c9, a10, b10, c10, a11, b11, c11, a12, b12, c12, a13, b13, c13, a16, b16, c16, a17, b17, c17, a18, b18, c18, a19, b19, c19, a20, b20, c20].getD j undef).oneCell' = true := fun j hj => by
      obtain ⟨q1, q2, q3⟩ := HFA.out (j / 3) (by omega)
      obtain ⟨k1, d1, e1, _⟩ := q1
      obtain ⟨k2, d2, e2, _⟩ := q2
      obtain ⟨k3, d3, e3, _⟩ := q3
      have hm : j = 3 * (j / 3) ∨ j = 3 * (j / 3) + 1 ∨ j = 3 * (j / 3) + 2 := by omega
      rcases hm with hm | hm | hm
      · rw [hm]; exact (congrArg (·.oneCell') e1).trans rfl
      · rw [hm]; exact (congrArg (·.oneCell') e2).trans rfl
      · rw [hm]; exact (congrArg (·.oneCell') e3).trans rfl
    refine Array.all_eq_true.2 (fun j hj => ?_)
    have := h1 j hj
    rw [List.getD_eq_getElem?_getD, List.getElem?_eq_getElem hj] at this
    exact this
  obtain ⟨W21, HW21⟩ : ∃ W, Hid (W20.setCells w.heap.size 0 [a1, b1, c1, a4, b4, c4, a5, b5, c5, a6, b6, c6, a7, b7, c7, a8, b8, c8, a9, b9, c9, a10, b10, c10, a11, b11, c11, a12, b12, c12, a13, b13, c13, a16, b16, c16, a17, b17, c17, a18, b18, c18, a19, b19, c19, a20, b20, c20] = W) := ⟨_, rfl⟩
  have hr := rowIs_setCells [a1, b1, c1, a4, b4, c4, a5, b5, c5, a6, b6, c6, a7, b7, c7, a8, b8, c8, a9, b9, c9, a10, b10, c10, a11, b11, c11, a12, b12, c12, a13, b13, c13, a16, b16, c16, a17, b17, c17, a18, b18, c18, a19, b19, c19, a20, b20, c20] 0 W20 _ HR20.out
  rw [HW21.out] at hr
  have hr2 : W21.rowIs w.heap.size 89 48 (fun j => [a1, b1, c1, a4, b4, c4, a5, b5, c5, a6, b6, c6, a7, b7, c7, a8, b8, c8, a9, b9, c9, a10, b10, c10, a11, b11, c11, a12, b12, c12, a13, b13, c13, a16, b16, c16, a17, b17, c17, a18, b18, c18, a19, b19, c19, a20, b20, c20].getD j undef) := hr.congr (fun j hj => by
    rw [if_pos ⟨Nat.zero_le _, by simpa using hj⟩, Nat.sub_zero])
  have HH := hide (row_heap hr2)
  have hs21 : w.Since w.heap.size W21 := by rw [← HW21.out]; exact since_setCells (Nat.le_refl _) _ _ _ HS20.out
  have z21 : W21.heap.size = W20.heap.size := by rw [← HW21.out]; exact size_setCells _ _ _ _
  have hag : Agr2 (w.heap.size + 1) W20.heap.size W20 W21 := fun k k1 k2 => by
    rw [← HW21.out]
    have : ∀ (vs : List Value) (o : Nat) (W : World), (W.setCells w.heap.size o vs).heap[k]? = W.heap[k]? := by
      intro vs
      induction vs with
      | nil => intro o W; rfl
      | cons v r ih => intro o W; rw [World.setCells, ih]; exact Below.heap_setCell _ _ _ _ (by show k ≠ w.heap.size; omega)
    exact this _ _ _
  have HE : Hid (FAll (w.heap.size + 1) W21.heap.size W21 (fun j => [a1, b1, c1, a4, b4, c4, a5, b5, c5, a6, b6, c6, a7, b7, c7, a8, b8, c8, a9, b9, c9, a10, b10, c10, a11, b11, c11, a12, b12, c12, a13, b13, c13, a16, b16, c16, a17, b17, c17, a18, b18, c18, a19, b19, c19, a20, b20, c20].getD j undef) ∧ w.Since w.heap.size W21 ∧ w.heap.size + 1 ≤ W21.heap.size) := ⟨HFA.out.up (Nat.le_refl _) (by omega) hag, hs21, by omega⟩
  clear hr hr2 hs21 z21 hag HFA HS20 HR20 hsz HA20 HR0 HS0 HQ1 HQ2 HQ3 HQ5 HQ6 HQ7 HQ8 HQ9 HQ10 HQ11 HQ12 HQ13 HQ14 HQ15 HQ17 HQ18 HQ19 HQ20
  go_wp2_with (refine wpList_store_mid rfl 89 _ _ rfl w.heap.size 0 _ rfl rfl HT.out infoFs HO.out ?_)
  rw [HW21.out]
  refine bodyPost_ret_by (results_cell_row rfl _ _ w.heap.size 89 _ (0, 0) _ rfl HH.out Tryz.underlying89 rfl infoFs) rfl ⟨_, rfl, HE.out⟩
end Go.Proofs.YtonpmabdjngdcaaGreatDoor

/- Package message: mayBe. -/
namespace Go.Proofs.YtonpmabdjngdcaaGreatDoor
open Go.RowKit
set_option maxRecDepth 100000

theorem fa_get (G : Nat → Value) (j : Nat) (h : j < 48) : ((List.range 48).map G).toArray[j]? = some (G j) := by
  rw [List.getElem?_toArray, List.getElem?_map, List.getElem?_range h]
  rfl
theorem fa_size (G : Nat → Value) : ((List.range 48).map G).toArray.size = 48 := by simp
theorem fa_part (G : Nat → Value) (i : Nat) (h : i < 16) : ((List.range 48).map G).toArray.extract (i * 3) (i * 3 + 3) = #[G (3 * i), G (3 * i + 1), G (3 * i + 2)] := by
  refine Array.ext (by rw [Array.size_extract, fa_size]; show min (i * 3 + 3) 48 - i * 3 = 3; omega) (fun j h1 h2 => ?_)
  have h2 : j < 3 := h2
  have e : (((List.range 48).map G).toArray.extract (i * 3) (i * 3 + 3))[j]? = some (G (3 * i + j)) := by
    rw [Array.getElem?_extract, if_pos (by rw [fa_size]; omega), fa_get G _ (by omega), Nat.mul_comm]
  rw [Array.getElem?_eq_getElem h1] at e
  rw [Option.some.inj e]
  match j, h2 with
  | 0, _ => rfl
  | 1, _ => rfl
  | 2, _ => rfl
theorem run_index_fs (G : Nat → Value) (i : Nat) (hi : i < 16) (w : World) : (Instr.index 89 (faV G) (.int .i64 (i : Nat))).run Tryz.prog w = .ok (.agg #[G (3 * i), G (3 * i + 1), G (3 * i + 2)]) w := by
  have e1 : (0 : Int) ≤ (i : Int) ∧ (i : Int) < ((16 : Nat) : Int) := by omega
  have hag : (isAgg 88).run Tryz.prog w = .ok true w := by kernel_rfl
  have hsz : (sizeOf 88).run Tryz.prog w = .ok 3 w := by kernel_rfl
  unfold faV
  simp only [Instr.index, asIntOf, Sem.run_bind, Sem.run_pure, Result.andThen_ok, run_underlying Tryz.underlying89]
  rw [if_pos e1]
  simp only [part, Sem.run_bind, hsz, hag, Result.andThen_ok, if_true, Int.toNat_natCast, Sem.run_pure]
  rw [fa_part G i hi]
theorem fa_alloc (w : World) (G : Nat → Value) : (w.alloc (.cells ((List.range 48).map G).toArray 89)).heap[w.heap.size]? = some (.cells ((List.range 48).map G).toArray 89 (0, 0)) := heap_alloc_last w _
theorem mayU_down (m : Mg) (k i : Nat) (hi : i < 16) (h : ((fds i).all fun f => f.may m (usedB k i)) = false) : mayU m k 16 = false := by
  cases hq : mayU m k 16 with
  | false => rfl
  | true =>
    have := (mayU_iff m k 16).1 hq i hi
    rw [← List.all_eq_true] at this
    rw [this] at h
    exact absurd h (by decide)
set_option maxHeartbeats 4000000 in
theorem mayBe_any (w : World) (mb : Nat) (m : Mg) (va : Option Addr) (vc : Nat) (hM : MsgIs w mb m va vc) (hk : kindB m = true) (hU : Us w) (G : Nat → Value) (lo hi : Nat) (hF : FAll lo hi w G) (hhi : hi ≤ w.heap.size) :
    Calls Tryz.prog 34 #[.pointer (some ⟨mb, 0, none⟩), faV G] w fun e w' => e = .returned (.bool (mayM m)) ∧ w.Since w.heap.size w' := by
  obtain ⟨k, hkk, hk12⟩ : ∃ k : Nat, m.n 0 = (k : Int) ∧ k < 12 := by
    have := of_decide_eq_true hk
    exact ⟨(m.n 0).toNat, by omega, by omega⟩
  have hkt : (m.n 0).toNat = k := by omega
  obtain ⟨FA, HFA⟩ : ∃ x, Hid (((List.range 48).map G).toArray = x) := ⟨_, rfl⟩
  have hfv : faV G = .agg FA := by unfold faV; rw [HFA.out]
  have hix := fun i hi w => run_index_fs G i hi w
  rw [hfv] at hix ⊢
  have HIX := hide hix
  obtain ⟨W1, HW1⟩ : ∃ W, Hid (w.alloc (.cells FA 89) = W) := ⟨_, rfl⟩
  have s1 : w.Since w.heap.size W1 := by rw [← HW1.out]; exact (World.Since.refl _ _).alloc (Nat.le_refl _) _
  have z1 : W1.heap.size = w.heap.size + 1 := by rw [← HW1.out]; simp
  have hh1 : W1.heap[w.heap.size]? = some (.cells FA 89 (0, 0)) := by rw [← HW1.out, ← HFA.out]; exact fa_alloc w G
  have hM1 := hM.since s1
  have c1 : W1.cell? ⟨mb, 1, none⟩ = some (.int .i64 (m.n 1)) := hM1.cell (i := 1) (by decide)
  have c2 : W1.cell? ⟨mb, 2, none⟩ = some (.int .i64 (m.n 2)) := hM1.cell (i := 2) (by decide)
  have c3 : W1.cell? ⟨mb, 3, none⟩ = some (.int .i64 (m.n 3)) := hM1.cell (i := 3) (by decide)
  have HB : Hid (∀ n c w, Calls Tryz.prog 80 #[.int .i64 n, .int .i64 c] w fun e w' => e = .returned (.bool (decide (0 ≤ n ∧ n < c))) ∧ w' = w) := fun n c w => isBelow_any n c w
  have HM1 := hide hM1
  have HS1 := hide s1
  have HF1 : Hid (FAll lo hi W1 G) := hF.up (Nat.le_refl _) (Nat.le_refl _) (Agr2.since s1 hhi)
  have HU1 := hide (hU.since s1)
  have HH1 := hide hh1
  have HKK := hide hkk
  have hr1 : decide (0 ≤ m.n 1 ∧ m.n 1 < 9) = false → mayM m = false := fun h => by
    unfold mayM headB
    have : decide (0 ≤ m.n 1 ∧ m.n 1 < 9 ∧ 0 ≤ m.n 2 ∧ m.n 2 < 9 ∧ 0 ≤ m.n 3 ∧ m.n 3 < 8) = false := decide_eq_false (fun e => of_decide_eq_false h ⟨e.1, e.2.1⟩)
    rw [this]; rfl
  have hr2 : decide (0 ≤ m.n 2 ∧ m.n 2 < 9) = false → mayM m = false := fun h => by
    unfold mayM headB
    have : decide (0 ≤ m.n 1 ∧ m.n 1 < 9 ∧ 0 ≤ m.n 2 ∧ m.n 2 < 9 ∧ 0 ≤ m.n 3 ∧ m.n 3 < 8) = false := decide_eq_false (fun e => of_decide_eq_false h ⟨e.2.2.1, e.2.2.2.1⟩)
    rw [this]; rfl
  have hr3 : decide (0 ≤ m.n 3 ∧ m.n 3 < 8) = false → mayM m = false := fun h => by
    unfold mayM headB
    have : decide (0 ≤ m.n 1 ∧ m.n 1 < 9 ∧ 0 ≤ m.n 2 ∧ m.n 2 < 9 ∧ 0 ≤ m.n 3 ∧ m.n 3 < 8) = false := decide_eq_false (fun e => of_decide_eq_false h ⟨e.2.2.2.2.1, e.2.2.2.2.2⟩)
    rw [this]; rfl
  have hr4 : decide (0 ≤ m.n 1 ∧ m.n 1 < 9) = true → decide (0 ≤ m.n 2 ∧ m.n 2 < 9) = true → decide (0 ≤ m.n 3 ∧ m.n 3 < 8) = true → mayM m = mayU m k 16 := fun a b c => by
    have a := of_decide_eq_true a
    have b := of_decide_eq_true b
    have c := of_decide_eq_true c
    unfold mayM headB
    have : decide (0 ≤ m.n 1 ∧ m.n 1 < 9 ∧ 0 ≤ m.n 2 ∧ m.n 2 < 9 ∧ 0 ≤ m.n 3 ∧ m.n 3 < 8) = true := decide_eq_true ⟨a.1, a.2, b.1, b.2, c.1, c.2⟩
    rw [this, hkt]; rfl
  have HR1 := hide hr1
  have HR2 := hide hr2
  have HR3 := hide hr3
  have HR4 := hide hr4
  clear hM hk hU hF hM1 s1 hh1 hix hfv hr1 hr2 hr3 hr4 hkk hkt
  obtain ⟨R, HRR⟩ : ∃ x, Hid (mayM m = x) := ⟨_, rfl⟩
  rw [HRR.out] at HR1 HR2 HR3 HR4 ⊢
  obtain ⟨n1, Hn1⟩ : ∃ x, Hid (m.n 1 = x) := ⟨_, rfl⟩
  obtain ⟨n2, Hn2⟩ : ∃ x, Hid (m.n 2 = x) := ⟨_, rfl⟩
  obtain ⟨n3, Hn3⟩ : ∃ x, Hid (m.n 3 = x) := ⟨_, rfl⟩
  rw [Hn1.out] at HR1 HR4 c1
  rw [Hn2.out] at HR2 HR4 c2
  rw [Hn3.out] at HR3 HR4 c3
  go_enter Tryz.func34, Tryz.ntmps34
  go_upto_region 1 with fail
  rw [HW1.out]
  have HQ1 : Hid (Calls Tryz.prog 80 #[.int .i64 n1, .int .i64 9] W1 fun e w' => e = .returned (.bool (decide (0 ≤ n1 ∧ n1 < 9))) ∧ w' = W1) := HB.out n1 9 W1
  have HQ2 : Hid (Calls Tryz.prog 80 #[.int .i64 n2, .int .i64 9] W1 fun e w' => e = .returned (.bool (decide (0 ≤ n2 ∧ n2 < 9))) ∧ w' = W1) := HB.out n2 9 W1
  have HQ3 : Hid (Calls Tryz.prog 80 #[.int .i64 n3, .int .i64 8] W1 fun e w' => e = .returned (.bool (decide (0 ≤ n3 ∧ n3 < 8))) ∧ w' = W1) := HB.out n3 8 W1
  generalize decide (0 ≤ n1 ∧ n1 < 9) = B1 at *
  generalize decide (0 ≤ n2 ∧ n2 < 9) = B2 at *
  generalize decide (0 ≤ n3 ∧ n3 < 8) = B3 at *
  clear HB
  go_wp2_with fail
  refine HQ1.out.mono ?_
  rintro e w1 ⟨rfl, e1⟩
  rw [e1]
  clear e1 HQ1
  cases B1 with
  | false =>
    obtain rfl : R = false := HR1.out rfl
    go_wp2_with fail
    go_ret
    exact ⟨rfl, HS1.out⟩
  | true =>
    go_wp2_with fail
    refine HQ2.out.mono ?_
    rintro e w1 ⟨rfl, e1⟩
    rw [e1]
    clear e1 HQ2
    cases B2 with
    | false =>
      obtain rfl : R = false := HR2.out rfl
      go_wp2_with fail
      go_ret
      exact ⟨rfl, HS1.out⟩
    | true =>
      go_wp2_with fail
      refine HQ3.out.mono ?_
      rintro e w1 ⟨rfl, e1⟩
      rw [e1]
      clear e1 HQ3
      cases B3 with
      | false =>
        obtain rfl : R = false := HR3.out rfl
        go_wp2_with fail
        go_ret
        exact ⟨rfl, HS1.out⟩
      | true =>
        have HRM : Hid (R = mayU m k 16) := by have h := HR4.out; show R = mayU m k 16; simpa using h
        have HSZ : Hid ((Tryz.prog.info? 89).map (·.size) = some FA.size) := by show _ = _; rw [← HFA.out, fa_size]; exact infoFs
        clear HR1 HR2 HR3 HR4 c1 c2 c3
        go_wp2_with (refine wpList_load_row rfl 89 _ rfl w.heap.size rfl _ _ (0, 0) _ HH1.out Tryz.underlying89 rfl HSZ.out ?_)
        have HL0 : Hid (mayU m k 0 = true ∧ W1.Since W1.heap.size W1) := ⟨rfl, World.Since.refl _ _⟩
        go_loopg [33] 16 (fun q s33 wx => ∃ i : Nat, i ≤ 16 ∧ q = 16 - i ∧ s33 = .int .i64 (i : Nat) ∧ Hid (mayU m k i = true ∧ W1.Since W1.heap.size wx))
        case atStart => exact ⟨0, by decide, rfl, rfl, HL0⟩
        case round =>
          clear HL0
          obtain ⟨i, hi, rfl, rfl, HX⟩ := hrel
          by_cases hlt : i < 16
          · have hst : ∀ (a : Addr) (k : FuncId) (fr cp : Array Value) (m : Mode) (w : World), (store a (.func (.func k) fr cp) m).run Tryz.prog w = stored Tryz.prog w a (.func (.func k) fr cp) m := fun a k fr cp m w => run_store _ w a _ m rfl
            have hix := HIX.out i hlt wr
            obtain ⟨⟨k1, d1, e1, q1⟩, ⟨k2, d2, e2, _⟩, ⟨k3, d3, e3, _⟩⟩ := HF1.out i hlt
            rw [e1, e2, e3] at hix
            unfold f3 at hix
            have sX := HX.out.2
            obtain ⟨W2, HW2⟩ : ∃ W, Hid (wr.alloc (.cells #[.func (.func k1) #[] d1, .func (.func k2) #[] d2, .func (.func k3) #[] d3] 88) = W) := ⟨_, rfl⟩
            have s2 : wr.Since wr.heap.size W2 := by rw [← HW2.out]; exact (World.Since.refl _ _).alloc (Nat.le_refl _) _
            have r2 : W2.rowIs wr.heap.size 88 3 (fun i => if i = 0 then .func (.func k1) #[] d1 else if i = 1 then .func (.func k2) #[] d2 else .func (.func k3) #[] d3) := by rw [← HW2.out]; exact row_new3 _ _ _ _ _
            have cf : W2.cell? ⟨wr.heap.size, 0, none⟩ = some (.func (.func k1) #[] d1) := r2.cell (i := 0) (by decide)
            have sW : W1.Since W1.heap.size W2 := sX.trans (since_mono s2 sX.size)
            have hM2 := HM1.out.since sW
            have ck : W2.cell? ⟨mb, 0, none⟩ = some (.int .i64 (k : Nat)) := by
              have : W2.cell? ⟨mb, 0, none⟩ = some (.int .i64 (m.n 0)) := hM2.cell (i := 0) (by decide)
              rw [this, HKK.out]
            have hent := q1.1
            unfold Ent at hent
            have HQU : Hid (∀ n, Calls Tryz.prog 81 #[.int .i64 (k : Nat), .int .i64 (i : Nat)] (W2.drewN n) fun e w' => e = .returned (.bool (usedB k i)) ∧ w' = W2.drewN n) := fun n => isUsed_any k i (W2.drewN n) ((HU1.out.since sW).since (drewN_since _ _)) hk12 hlt
            have HQM : Hid (∀ n, Calls Tryz.prog k1 (#[.pointer (some ⟨mb, 0, none⟩), .bool (usedB k i)] ++ d1) (W2.drewN n) fun e w' => e = .returned (.bool ((fds i).all fun f => f.may m (usedB k i))) ∧ ∃ q, w' = W2.drewN q) := fun n =>
              (q1.2 (W2.drewN n) ((Agr2.since sW (by have := HS1.out.size; omega)).trans fun _ _ _ => rfl) mb m va vc (usedB k i) (hM2.since (drewN_since _ _))).mono fun e w' ⟨he, q, hq⟩ => ⟨he, n + q, by rw [hq, World.drewN_drewN]⟩
            have HN : Hid (∀ b, ((fds i).all fun f => f.may m (usedB k i)) = b → if b = true then mayU m k (i + 1) = true else R = false) := fun b hb => by
              cases b with
              | true =>
                rw [if_pos rfl]
                show (mayU m k i && (fds i).all (fun f => f.may m (usedB k i))) = true
                rw [HX.out.1, hb]; rfl
              | false =>
                rw [if_neg (by decide), HRM.out]
                exact mayU_down m k i hlt hb
            have HSW := hide sW
            have z5 : (i : Int) < 16 := by omega
            have z6 : (0 : Int) ≤ (i : Int) := by omega
            have hwi : IntKind.i64.wrap ((i : Int) + 1) = (i : Int) + 1 := by rw [IntKind.wrap_i64]; omega
            obtain ⟨M, HMM⟩ : ∃ x, Hid (((fds i).all fun f => f.may m (usedB k i)) = x) := ⟨_, rfl⟩
            rw [HMM.out] at HQM
            have hb := HN.out M HMM.out
            have HB := hide hb
            clear hb HN HX sX s2 r2 sW hM2 e1 e2 e3 q1
            generalize usedB k i = ub at *
            go_upto_region 6 with fail
            rw [HW2.out]
            go_quiet (first | exact Calls.quiet_of_same (HQU.out _) | exact HQM.out _)
            clear HQU HQM
            cases M with
            | true =>
              have h2 : mayU m k (i + 1) = true := by have := HB.out; simpa using this
              have HL : Hid (∀ n, mayU m k (i + 1) = true ∧ W1.Since W1.heap.size (W2.drewN n)) := fun n => ⟨h2, since_drewN' HSW.out n⟩
              clear h2
              go_wp2_with fail
              go_roundg (16 - (i + 1))
              case measure => go_light; omega
              case rel => go_light; exact ⟨i + 1, hlt, rfl, by simp, HL.out _⟩
            | false =>
              have h2 : R = false := by have := HB.out; simpa using this
              subst h2
              have HL : Hid (∀ n, w.Since w.heap.size (W2.drewN n)) := fun n => since_drewN' (HS1.out.trans (since_mono HSW.out HS1.out.size)) n
              go_wp2_with fail
              go_ret
              exact ⟨rfl, HL.out _⟩
          · obtain rfl : i = 16 := by omega
            have z5 : ¬ ((16 : Nat) : Int) < 16 := by decide
            have h2 : R = true := by rw [HRM.out]; exact HX.out.1
            subst h2
            have HL : Hid (w.Since w.heap.size wr) := HS1.out.trans (since_mono HX.out.2 HS1.out.size)
            clear HX
            go_wp2_with fail
            go_ret
            exact ⟨rfl, HL.out⟩
end Go.Proofs.YtonpmabdjngdcaaGreatDoor

/- Package message: write. -/
namespace Go.Proofs.YtonpmabdjngdcaaGreatDoor
open Go.RowKit
set_option maxRecDepth 100000

theorem put_len {f : Fd} {m : Mg} (hg : ∀ c most, f = .text c most → most ≤ 16384) (h : f.may m true = true) : (f.put m).length ≤ 16394 := by
  cases f with
  | var c most => have := vl_len 9 (m.n c).toNat; show (vl 9 (m.n c).toNat).length ≤ _; omega
  | small c most => show (fl 1 _).length ≤ _; rw [fl_len]; decide
  | text c most =>
    have h := of_decide_eq_true h
    simp only [if_true] at h
    have := hg c most rfl
    have := vl_len 9 (m.s c).length
    show (vl 9 (m.s c).length ++ m.s c).length ≤ _
    rw [List.length_append]
    omega
theorem fds_text : ∀ i, ∀ f ∈ fds i, ∀ c most, f = .text c most → most ≤ 16384 := by
  intro i f hf c most e
  subst e
  match i, hf with
  | 0, hf => simp [fds] at hf
  | 1, hf => simp [fds] at hf
  | 2, hf => simp [fds] at hf
  | 3, hf => simp [fds] at hf
  | 4, hf => simp [fds] at hf
  | 5, hf => simp [fds] at hf; omega
  | 6, hf => simp [fds] at hf
  | 7, hf => simp [fds] at hf
  | 8, hf => simp [fds] at hf; omega
  | 9, hf => simp [fds] at hf; omega
  | 10, hf => simp [fds] at hf
  | 11, hf => simp [fds] at hf
  | 12, hf => simp [fds] at hf
  | 13, hf => simp [fds] at hf
  | 14, hf => simp [fds] at hf
  | 15, hf => simp [fds] at hf
  | _ + 16, hf => simp [fds] at hf
theorem fds_len : ∀ i, (fds i).length ≤ 2 := by
  intro i
  unfold fds
  split <;> simp
theorem putL_len {m : Mg} : ∀ {fs : List Fd}, (∀ f ∈ fs, (f.put m).length ≤ 16394) → (putL m fs).length ≤ 16394 * fs.length
  | [], _ => Nat.le_refl _
  | f :: fs, h => by
    show (f.put m ++ putL m fs).length ≤ 16394 * (fs.length + 1)
    rw [List.length_append]
    have h1 := h f (List.mem_cons_self ..)
    have h2 := putL_len (m := m) (fs := fs) (fun g hg => h g (List.mem_cons_of_mem _ hg))
    omega
theorem fdsU_len (k : Nat) : ∀ i, (fdsU k i).length ≤ 2 * i
  | 0 => Nat.le_refl _
  | i + 1 => by
    show (fdsU k i ++ (if usedB k i then fds i else [])).length ≤ _
    rw [List.length_append]
    have h1 := fdsU_len k i
    have h2 := fds_len i
    split
    · omega
    · rw [List.length_nil]; omega
theorem puts_len {m : Mg} {k : Nat} (hm : mayU m k 16 = true) (i : Nat) (hi : i ≤ 16) : (putL m (fdsU k i)).length ≤ 600000 ∧ ∀ j, j < 16 → (putL m (fds j)).length ≤ 600000 := by
  have hf := (mayU_iff m k 16).1 hm
  refine ⟨?_, fun j hj => ?_⟩
  · have h1 := putL_len (m := m) (fs := fdsU k i) (fun f h => by
      obtain ⟨j, h1, h2, h3⟩ := mem_fdsU h
      exact put_len (fds_text j f h3) (may_weak (hf j (by omega) f h3)))
    have h2 := fdsU_len k i
    have : 16394 * (fdsU k i).length ≤ 16394 * (2 * i) := Nat.mul_le_mul_left _ h2
    omega
  · have h1 := putL_len (m := m) (fs := fds j) (fun f h => put_len (fds_text j f h) (may_weak (hf j hj f h)))
    have h2 := fds_len j
    have : 16394 * (fds j).length ≤ 16394 * 2 := Nat.mul_le_mul_left _ h2
    omega
/-- A Writer, and a block that it leaves. -/
structure WrQ (w0 W : World) (wb : Nat) (l : List Nat) (q : Nat) (o : Option Obj) : Prop where
  wr : Wr w0 W wb l
  go : ∃ B v, w0.heap.size ≤ B ∧ IsL W wb B v l ∧ some q ≠ v.ownBlock
  ne : q ≠ wb
  lt : q < W.heap.size
  is : W.heap[q]? = o
theorem WrQ.new {w0 W : World} {wb : Nat} {l : List Nat} (h : Wr w0 W wb l) (o : Obj) : WrQ w0 (W.alloc o) wb l W.heap.size (some o) := by
  have hs : W.Since W.heap.size (W.alloc o) := (World.Since.refl _ _).alloc (Nat.le_refl _) _
  obtain ⟨B, v, hB, hI⟩ := h.2.2
  have hwb : wb < W.heap.size := hI.cell.lt
  exact ⟨h.later hs, ⟨B, v, hB, ⟨row_since hI.cell hs, own_since hI.own hs, hI.ne, Nat.le_trans hI.lo hs.size⟩, fun e => by have := own_lt hI.own _ e.symm; omega⟩, by omega, by simp, heap_alloc_last W o⟩
theorem WrQ.u8 {w0 w : World} {wb : Nat} {l : List Nat} {q : Nat} {o : Option Obj} (h : WrQ w0 w wb l q o) (ht : Tb w0) (N : Nat) (hN : N < 256) (hm : l.length ≤ 100000000000) : Calls Tryz.prog 82 #[.pointer (some ⟨wb, 0, none⟩), .int .u8 N] w fun e w' => e = .returned (.tuple #[]) ∧ WrQ w0 w' wb (l ++ fl 1 N) q o := by
  obtain ⟨B, v, hB, hI, hv⟩ := h.go
  refine (u8_l wb B v l N w hI (ht.since h.wr.2.1).wid hN (by omega)).mono fun e w' ⟨he, v', h1, h2⟩ => ⟨he, h.wr.on hB hI h1 h2, ⟨B, v', hB, h1, ?_⟩, h.ne, Nat.lt_of_lt_of_le h.lt h2.size, (h2.block q h.lt h.ne hv).trans h.is⟩
  rcases h2.lies with e | ⟨g, e, hg⟩
  · rw [e]; exact hv
  · rw [e]
    intro e2
    have := Option.some.inj e2
    have := h.lt
    omega
set_option maxHeartbeats 4000000 in
theorem write_any (w0 W : World) (wb mb : Nat) (m : Mg) (va : Option Addr) (vc : Nat) (hW : Wr w0 W wb []) (ht : Tb w0) (hM : MsgIs w0 mb m va vc) (hk : kindB m = true) (hm : mayM m = true) (hU : Us w0) (G : Nat → Value) (lo hi : Nat) (hF : FAll lo hi w0 G) (hhi : hi ≤ w0.heap.size) :
    Calls Tryz.prog 36 #[.pointer (some ⟨wb, 0, none⟩), .pointer (some ⟨mb, 0, none⟩), faV G] W fun e w' => e = .returned (.tuple #[]) ∧ Wr w0 w' wb (bodyG m) := by
  obtain ⟨k, hkk, hk12⟩ : ∃ k : Nat, m.n 0 = (k : Int) ∧ k < 12 := by
    have := of_decide_eq_true hk
    exact ⟨(m.n 0).toNat, by omega, by omega⟩
  have hkt : (m.n 0).toNat = k := by omega
  have hmU : mayU m k 16 = true := by rw [← hkt]; exact (Bool.and_eq_true_iff.1 hm).2
  have hh := of_decide_eq_true (Bool.and_eq_true_iff.1 hm).1
  obtain ⟨n1, e1, l1⟩ : ∃ n : Nat, m.n 1 = (n : Int) ∧ n < 9 := ⟨(m.n 1).toNat, by omega, by omega⟩
  obtain ⟨n2, e2, l2⟩ : ∃ n : Nat, m.n 2 = (n : Int) ∧ n < 9 := ⟨(m.n 2).toNat, by omega, by omega⟩
  obtain ⟨n3, e3, l3⟩ : ∃ n : Nat, m.n 3 = (n : Int) ∧ n < 8 := ⟨(m.n 3).toNat, by omega, by omega⟩
  obtain ⟨FA, HFA⟩ : ∃ x, Hid (((List.range 48).map G).toArray = x) := ⟨_, rfl⟩
  have hfv : faV G = .agg FA := by unfold faV; rw [HFA.out]
  have hix := fun i hi w => run_index_fs G i hi w
  rw [hfv] at hix ⊢
  have HIX := hide hix
  obtain ⟨W1, HW1⟩ : ∃ X, Hid (W.alloc (.cells FA 89) = X) := ⟨_, rfl⟩
  have s1 : W.Since W.heap.size W1 := by rw [← HW1.out]; exact (World.Since.refl _ _).alloc (Nat.le_refl _) _
  have HW' : Hid (WrQ w0 W1 wb [] W.heap.size (some (.cells FA 89))) := by rw [← HW1.out]; exact WrQ.new hW _
  have HSZ : Hid ((Tryz.prog.info? 89).map (·.size) = some FA.size) := by show _ = _; rw [← HFA.out, fa_size]; exact infoFs
  have HC : Hid (∀ X l, Wr w0 X wb l → X.cell? ⟨mb, 0, none⟩ = some (.int .i64 (k : Nat)) ∧ X.cell? ⟨mb, 1, none⟩ = some (.int .i64 (n1 : Nat)) ∧ X.cell? ⟨mb, 2, none⟩ = some (.int .i64 (n2 : Nat)) ∧ X.cell? ⟨mb, 3, none⟩ = some (.int .i64 (n3 : Nat))) := fun X l hX => by
    have hMX := hM.since hX.2.1
    have c0 : X.cell? ⟨mb, 0, none⟩ = some (.int .i64 (m.n 0)) := hMX.cell (i := 0) (by decide)
    have c1 : X.cell? ⟨mb, 1, none⟩ = some (.int .i64 (m.n 1)) := hMX.cell (i := 1) (by decide)
    have c2 : X.cell? ⟨mb, 2, none⟩ = some (.int .i64 (m.n 2)) := hMX.cell (i := 2) (by decide)
    have c3 : X.cell? ⟨mb, 3, none⟩ = some (.int .i64 (m.n 3)) := hMX.cell (i := 3) (by decide)
    rw [c0, c1, c2, c3, hkk, e1, e2, e3]
    exact ⟨rfl, rfl, rfl, rfl⟩
  have hu0 : IntKind.u8.wrap (k : Int) = (k : Int) := by rw [IntKind.wrap_u8]; omega
  have hu1 : IntKind.u8.wrap (n1 : Int) = (n1 : Int) := by rw [IntKind.wrap_u8]; omega
  have hu2 : IntKind.u8.wrap (n2 : Int) = (n2 : Int) := by rw [IntKind.wrap_u8]; omega
  have hu3 : IntKind.u8.wrap (n3 : Int) = (n3 : Int) := by rw [IntKind.wrap_u8]; omega
  have HHD : Hid (putL m hds = fl 1 k ++ fl 1 n1 ++ fl 1 n2 ++ fl 1 n3) := by
    show fl 1 (m.n 0).toNat ++ (fl 1 (m.n 1).toNat ++ (fl 1 (m.n 2).toNat ++ (fl 1 (m.n 3).toNat ++ []))) = _
    rw [hkk, e1, e2, e3, Int.toNat_natCast, Int.toNat_natCast, Int.toNat_natCast, Int.toNat_natCast, List.append_nil, List.append_assoc, List.append_assoc]
  have HBD : Hid (bodyG m = putL m hds ++ putL m (fdsU k 16)) := by
    show putL m hds ++ putL m (fdsK (m.n 0).toNat) = _
    rw [hkt]; rfl
  have HLN := hide (puts_len hmU)
  have HFT : Hid (∀ j, j < 16 → usedB k j = true → ∀ f ∈ fds j, f.fits m) := fun j hj hu f hf => (fds_good j f hf).fits (may_weak ((mayU_iff m k 16).1 hmU j hj f hf))
  have HT := hide ht
  have HM := hide hM
  have HU := hide hU
  have HF := hide hF
  clear hW ht hM hk hm hU hF hix hfv s1 hkt hmU hh e1 e2 e3 hkk
  have hst : ∀ (a : Addr) (k : FuncId) (fr cp : Array Value) (m : Mode) (w : World), (store a (.func (.func k) fr cp) m).run Tryz.prog w = stored Tryz.prog w a (.func (.func k) fr cp) m := fun a k fr cp m w => run_store _ w a _ m rfl
  go_enter Tryz.func36, Tryz.ntmps36
  go_upto_region 1 with fail
  rw [HW1.out]
  obtain ⟨c0, _, _, _⟩ := HC.out _ _ HW'.out.wr
  have q := HW'.out.u8 HT.out k (by omega) (by decide)
  go_wp2_with fail
  refine q.mono ?_
  rintro e w1 ⟨rfl, hX1⟩
  have HX1 := hide hX1
  obtain ⟨_, c1, _, _⟩ := HC.out _ _ hX1.wr
  clear q hX1 c0
  have q := HX1.out.u8 HT.out n1 (by omega) (by simp [fl_len])
  go_wp2_with fail
  refine q.mono ?_
  rintro e w2 ⟨rfl, hX2⟩
  have HX2 := hide hX2
  obtain ⟨_, _, c2, _⟩ := HC.out _ _ hX2.wr
  clear q hX2 c1
  have q := HX2.out.u8 HT.out n2 (by omega) (by simp [fl_len])
  go_wp2_with fail
  refine q.mono ?_
  rintro e w3 ⟨rfl, hX3⟩
  have HX3 := hide hX3
  obtain ⟨_, _, _, c3⟩ := HC.out _ _ hX3.wr
  clear q hX3 c2
  have q := HX3.out.u8 HT.out n3 (by omega) (by simp [fl_len])
  go_wp2_with fail
  refine q.mono ?_
  rintro e w4 ⟨rfl, hX4⟩
  have HX4 := hide hX4
  clear q hX4 c3
  have HHH : Hid (w4.heap[W.heap.size]? = some (.cells FA 89 (0, 0))) := HX4.out.is
  have HL0 : Hid (Wr w0 w4 wb (putL m hds ++ putL m (fdsU k 0))) := by
    show Wr w0 w4 wb (putL m hds ++ [])
    rw [List.append_nil, HHD.out]
    exact HX4.out.wr
  clear HX1 HX2 HX3 HX4 HW' HW1
  go_wp2_with (refine wpList_load_row rfl 89 _ rfl W.heap.size rfl _ _ (0, 0) _ HHH.out Tryz.underlying89 rfl HSZ.out ?_)
  go_loopg [41] 16 (fun q s41 wx => ∃ i : Nat, i ≤ 16 ∧ q = 16 - i ∧ s41 = .int .i64 (i : Nat) ∧ Hid (Wr w0 wx wb (putL m hds ++ putL m (fdsU k i))))
  case atStart => exact ⟨0, by decide, rfl, rfl, HL0⟩
  case round =>
    clear HL0
    obtain ⟨i, hi, rfl, rfl, HX⟩ := hrel
    by_cases hlt : i < 16
    · have hix := HIX.out i hlt wr
      obtain ⟨⟨k1, d1, e1, _⟩, ⟨k2, d2, e2, q2⟩, ⟨k3, d3, e3, _⟩⟩ := HF.out i hlt
      rw [e1, e2, e3] at hix
      unfold f3 at hix
      obtain ⟨W2, HW2⟩ : ∃ W, Hid (wr.alloc (.cells #[.func (.func k1) #[] d1, .func (.func k2) #[] d2, .func (.func k3) #[] d3] 88) = W) := ⟨_, rfl⟩
      have s2 : wr.Since wr.heap.size W2 := by rw [← HW2.out]; exact (World.Since.refl _ _).alloc (Nat.le_refl _) _
      have r2 : W2.rowIs wr.heap.size 88 3 (fun i => if i = 0 then .func (.func k1) #[] d1 else if i = 1 then .func (.func k2) #[] d2 else .func (.func k3) #[] d3) := by rw [← HW2.out]; exact row_new3 _ _ _ _ _
      have cf : W2.cell? ⟨wr.heap.size, 1, none⟩ = some (.func (.func k2) #[] d2) := r2.cell (i := 1) (by decide)
      have hX2 := HX.out.later s2
      obtain ⟨ck, _, _, _⟩ := HC.out _ _ hX2
      have hent := q2.1
      unfold Ent at hent
      have hqu := isUsed_any k i W2 (HU.out.since hX2.2.1) hk12 hlt
      have hl1 := (HLN.out i (by omega)).1
      have hl2 := (HLN.out i (by omega)).2 i hlt
      have hln : (putL m hds ++ putL m (fdsU k i)).length + (putL m (fds i)).length ≤ 100000000000 := by rw [List.length_append, hds_len]; omega
      have HQP : Hid (usedB k i = true → Calls Tryz.prog k2 (#[.pointer (some ⟨wb, 0, none⟩), .pointer (some ⟨mb, 0, none⟩)] ++ d2) W2 fun e w' => e = .returned (.tuple #[]) ∧ Hid (Wr w0 w' wb (putL m hds ++ putL m (fdsU k (i + 1))))) := fun hu => by
        refine (q2.2 w0 W2 wb _ mb m va vc (fun _ _ _ => rfl) hhi hX2 HT.out HM.out (HFT.out i hlt hu) hln).mono fun e w' ⟨he, hx⟩ => ⟨he, ?_⟩
        show Wr w0 w' wb (putL m hds ++ putL m (fdsU k i ++ (if usedB k i then fds i else [])))
        rw [if_pos hu, putL_app, ← List.append_assoc]
        exact hx
      have HQN : Hid (usedB k i = false → Wr w0 W2 wb (putL m hds ++ putL m (fdsU k (i + 1)))) := fun hu => by
        show Wr w0 W2 wb (putL m hds ++ putL m (fdsU k i ++ (if usedB k i then fds i else [])))
        rw [if_neg (by rw [hu]; decide), List.append_nil]
        exact hX2
      have z5 : (i : Int) < 16 := by omega
      have z6 : (0 : Int) ≤ (i : Int) := by omega
      have hwi : IntKind.i64.wrap ((i : Int) + 1) = (i : Int) + 1 := by rw [IntKind.wrap_i64]; omega
      clear HX s2 r2 hX2 e1 e2 e3 q2 hl1 hl2 hln
      generalize usedB k i = ub at *
      go_upto_region 8 with fail
      rw [HW2.out]
      go_wp2_with fail
      refine hqu.mono ?_
      rintro e w5 ⟨rfl, e5⟩
      rw [e5]
      clear e5 hqu
      cases ub with
      | true =>
        have q := HQP.out rfl
        clear HQP HQN
        go_wp2_with fail
        refine q.mono ?_
        rintro e w6 ⟨rfl, HX6⟩
        clear q
        go_wp2_with fail
        go_roundg (16 - (i + 1))
        case measure => go_light; omega
        case rel => go_light; exact ⟨i + 1, hlt, rfl, by simp, HX6⟩
      | false =>
        have HX6 := hide (HQN.out rfl)
        clear HQP HQN
        go_wp2_with fail
        go_roundg (16 - (i + 1))
        case measure => go_light; omega
        case rel => go_light; exact ⟨i + 1, hlt, rfl, by simp, HX6⟩
    · obtain rfl : i = 16 := by omega
      have z5 : ¬ ((16 : Nat) : Int) < 16 := by decide
      have HE : Hid (Wr w0 wr wb (bodyG m)) := by rw [HBD.out]; exact HX.out
      clear HX
      go_wp2_with fail
      go_end0
      exact ⟨rfl, HE.out⟩
end Go.Proofs.YtonpmabdjngdcaaGreatDoor
