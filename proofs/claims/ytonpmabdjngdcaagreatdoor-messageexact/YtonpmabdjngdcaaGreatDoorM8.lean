/- Own texts, joined: RefO0, RefL, RefL2, RefC8, RefC9, RefC10, RefC11, RefK. -/
import Derived.Test.YtonpmabdjngdcaaGreatDoorM7

/- The document's Only: rows. -/
namespace Go.Proofs.YtonpmabdjngdcaaGreatDoor
open Go.RowKit
set_option maxRecDepth 100000

/-- The cells of a message's head alone. -/
theorem head_row (w : World) (m : Mg) : (w.alloc (.cells #[.int .i64 (m.n 0), .int .i64 (m.n 1), .int .i64 (m.n 2), .int .i64 (m.n 3), .int .u64 0, .int .u64 0, .int .u64 0, .int .u64 0, .int .i64 0, .int .u64 0, .slice none 0 0, .int .i64 0, .int .u64 0, .string ⟨#[]⟩, .string ⟨#[]⟩, .int .u64 0, .int .u64 0, .int .u64 0, .int .i64 0, .int .i64 0, .int .i64 0, .int .i64 0] 37)).rowIs w.heap.size 37 22 (mgCell (takeL m hds mg0) none 0) :=
  World.rowIs_alloc w _ _ _ (fun i hi => by
    have hi' : i < 22 := hi
    match i, hi' with
    | 0, _ => rfl
    | 1, _ => rfl
    | 2, _ => rfl
    | 3, _ => rfl
    | 4, _ => rfl
    | 5, _ => rfl
    | 6, _ => rfl
    | 7, _ => rfl
    | 8, _ => rfl
    | 9, _ => rfl
    | 10, _ => rfl
    | 11, _ => rfl
    | 12, _ => rfl
    | 13, _ => rfl
    | 14, _ => rfl
    | 15, _ => rfl
    | 16, _ => rfl
    | 17, _ => rfl
    | 18, _ => rfl
    | 19, _ => rfl
    | 20, _ => rfl
    | 21, _ => rfl
    | n + 22, h => exact absurd h (by omega))
theorem mgV_head (m : Mg) : mgV (takeL m hds mg0) none 0 = .agg #[.int .i64 (m.n 0), .int .i64 (m.n 1), .int .i64 (m.n 2), .int .i64 (m.n 3), .int .u64 0, .int .u64 0, .int .u64 0, .int .u64 0, .int .i64 0, .int .u64 0, .slice none 0 0, .int .i64 0, .int .u64 0, .string ⟨#[]⟩, .string ⟨#[]⟩, .int .u64 0, .int .u64 0, .int .u64 0, .int .i64 0, .int .i64 0, .int .i64 0, .int .i64 0] := rfl
theorem op_runW {P : Program} {o : Oper} {a : Act} {w w' : World} {K : Act → World → Prop} {Q : Exit → Act → World → Prop} (v : Value) (hrun : (execOp a.eval o).run P w = .ok (.value v) w') (h : K (a.put o.dst v) w') : Oper.wp P o a w K Q := by
  unfold Oper.wp
  rw [hrun]
  exact h
theorem infoHd : (Tryz.prog.info? 28).map (·.size) = some 4 := by kernel_rfl
theorem row_setN {W : World} {kb : Nat} {m : Mg} {va : Option Addr} {vc : Nat} (h : W.rowIs kb 37 22 (mgCell m va vc)) (c : Nat) (v : Int) (h10 : c ≠ 10) (h13 : c ≠ 13) (h14 : c ≠ 14) : (W.setCell ⟨kb, c, none⟩ (mgNum c v)).rowIs kb 37 22 (mgCell (m.setN c v) va vc) :=
  (h.set c _).congr (fun i _ => (mgCell_setN m va vc c v h10 h13 h14 i).symm)
theorem row_setS {W : World} {kb : Nat} {m : Mg} {va : Option Addr} {vc : Nat} (h : W.rowIs kb 37 22 (mgCell m va vc)) (c : Nat) (l : List Nat) (hc : c = 13 ∨ c = 14) : (W.setCell ⟨kb, c, none⟩ (.string (strL l))).rowIs kb 37 22 (mgCell (m.setS c l) va vc) :=
  (h.set c _).congr (fun i _ => (mgCell_setS m va vc c l hc i).symm)
theorem row_setV {W : World} {kb : Nat} {m : Mg} {va : Option Addr} {vc : Nat} (h : W.rowIs kb 37 22 (mgCell m va vc)) (l : List Nat) (ta : Option Addr) (k : Nat) : (W.setCell ⟨kb, 10, none⟩ (.slice ta l.length k)).rowIs kb 37 22 (mgCell (m.setS 10 l) ta k) :=
  (h.set 10 _).congr (fun i _ => (mgCell_setV m va ta vc k l i).symm)
end Go.Proofs.YtonpmabdjngdcaaGreatDoor

/- The document's look: one step of it. -/
namespace Go.Proofs.YtonpmabdjngdcaaGreatDoor
open Go.RowKit
set_option maxRecDepth 100000

/-- A message that the document's eye is reading. -/
structure Lk (B : Nat) (w : World) (yb eb hb ho hc n : Nat) (z : Nat → Nat) (kb : Nat) (q : Mg × Nat × Nat) (va : Option Addr) : Prop where
  ey : IsEy w yb eb n
  rd : IsG w eb hb ho hc n z q.2.1 q.2.2
  row : w.rowIs kb 37 22 (mgCell q.1 va (q.1.s 10).length)
  txt : Txt B w va (q.1.s 10).length (fun j => (q.1.s 10).getD j 0)
  len : ∀ c, (q.1.s c).length ≤ 140737488351232
  byte : ∀ c, ∀ v ∈ q.1.s c, v < 256
  ke : kb ≠ eb
  ky : kb ≠ yb
  kh : kb ≠ hb
  klt : kb < B
  elt : eb < B
  ylt : yb < B
  low : B ≤ w.heap.size
section
variable {B : Nat} {w w2 : World} {yb eb hb ho hc n : Nat} {z : Nat → Nat} {kb : Nat} {m : Mg} {a b a2 b2 : Nat} {va : Option Addr}
theorem Lk.step (h : Lk B w yb eb hb ho hc n z kb (m, a, b) va) (k : But eb w w2) (hI : IsG w2 eb hb ho hc n z a2 b2) : Lk B w2 yb eb hb ho hc n z kb (m, a2, b2) va :=
  ⟨⟨k.row h.ey.row h.ey.ne, h.ey.ne⟩, hI, k.row h.row h.ke, h.txt.keep (fun q hq hB => k.block q hq (by have := h.elt; omega)), h.len, h.byte, h.ke, h.ky, h.kh, h.klt, h.elt, h.ylt, Nat.le_trans h.low k.size⟩
theorem Lk.num (h : Lk B w yb eb hb ho hc n z kb (m, a, b) va) (c : Nat) (v : Int) (h10 : c ≠ 10) (h13 : c ≠ 13) (h14 : c ≠ 14) : Lk B (w.setCell ⟨kb, c, none⟩ (mgNum c v)) yb eb hb ho hc n z kb (m.setN c v, a, b) va :=
  ⟨⟨h.ey.row.setOther (fun e => h.ky e.symm) _, h.ey.ne⟩, h.rd.later (Below.heap_setCell _ _ _ _ (fun e => h.ke e.symm)) (fun _ => Below.heap_setCell _ _ _ _ (fun e => h.kh e.symm)), row_setN h.row c v h10 h13 h14, h.txt.keep (fun q hq hB => Below.heap_setCell _ _ _ _ (by have := h.klt; show q ≠ kb; omega)), h.len, h.byte, h.ke, h.ky, h.kh, h.klt, h.elt, h.ylt, by have := h.low; simpa [World.setCell] using this⟩
theorem lk_small (h : Lk B w yb eb hb ho hc n z kb (m, a, b) va) (c most : Nat) (hcl : c < 22) (hu : isU c = false ∧ c ≠ 10 ∧ c ≠ 13 ∧ c ≠ 14) :
    Calls Tryz.prog 88 #[.pointer (some ⟨yb, 0, none⟩)] w fun e w' => ∃ X : Nat, e = .returned (.int .i64 (X : Nat)) ∧ (∃ y, w'.cell? ⟨kb, c, none⟩ = some (.int .i64 y)) ∧ w'.frozen? ⟨kb, c, none⟩ = false ∧ Hid (Lk B (w'.setCell ⟨kb, c, none⟩ (.int .i64 (X : Nat))) yb eb hb ho hc n z kb ((Fd.small c most).get z n m a b) va ∧ But2 eb kb w (w'.setCell ⟨kb, c, none⟩ (.int .i64 (X : Nat)))) := by
  refine (eye_small yb eb hb ho hc n a b n z w h.ey h.rd).mono fun e w' ⟨he, hbt, hI⟩ => ?_
  have hS := h.step hbt hI
  have c3 : w'.cell? ⟨kb, c, none⟩ = some (mgCell m va (m.s 10).length c) := hS.row.cell hcl
  rw [mgCell_i hu.1 hu.2.1 hu.2.2.1 hu.2.2.2] at c3
  have hnum : mgNum c (((fixAns z n 1 a b).1 : Nat) : Int) = .int .i64 (((fixAns z n 1 a b).1 : Nat) : Int) := by
    unfold mgNum
    rw [if_neg (by rw [hu.1]; decide)]
  have := hS.num c (((fixAns z n 1 a b).1 : Nat) : Int) hu.2.1 hu.2.2.1 hu.2.2.2
  rw [hnum] at this
  exact ⟨_, he, ⟨_, c3⟩, hS.row.frozen c, this, (But2.of_but hbt).set c _⟩
theorem lk_number (h : Lk B w yb eb hb ho hc n z kb (m, a, b) va) (hn : n ≤ 140737488351232) (c most : Nat) (hcl : c < 22) (hu : isU c = true) :
    Calls Tryz.prog 89 #[.pointer (some ⟨yb, 0, none⟩)] w fun e w' => ∃ X : Nat, e = .returned (.int .u64 (X : Nat)) ∧ (∃ y, w'.cell? ⟨kb, c, none⟩ = some (.int .u64 y)) ∧ w'.frozen? ⟨kb, c, none⟩ = false ∧ Hid (Lk B (w'.setCell ⟨kb, c, none⟩ (.int .u64 (X : Nat))) yb eb hb ho hc n z kb ((wide n (.var c most)).get z n m a b) va ∧ But2 eb kb w (w'.setCell ⟨kb, c, none⟩ (.int .u64 (X : Nat)))) := by
  refine (eye_number yb eb hb ho hc n a b n z w h.ey h.rd hn).mono fun e w' ⟨he, hbt, hI⟩ => ?_
  have hS := h.step hbt hI
  have c3 : w'.cell? ⟨kb, c, none⟩ = some (mgCell m va (m.s 10).length c) := hS.row.cell hcl
  rw [mgCell_u hu] at c3
  have hne : c ≠ 10 ∧ c ≠ 13 ∧ c ≠ 14 ∧ ¬ (c = 8 ∨ c = 21) := by
    refine ⟨fun e => ?_, fun e => ?_, fun e => ?_, fun e => ?_⟩
    · subst e; revert hu; decide
    · subst e; revert hu; decide
    · subst e; revert hu; decide
    · rcases e with e | e <;> (subst e; revert hu; decide)
  have hnum : mgNum c (((varAns z n 18446744073709551615 a b).1 : Nat) : Int) = .int .u64 (((varAns z n 18446744073709551615 a b).1 : Nat) : Int) := by
    unfold mgNum
    rw [if_pos hu]
  have := hS.num c (((varAns z n 18446744073709551615 a b).1 : Nat) : Int) hne.1 hne.2.1 hne.2.2.1
  rw [hnum] at this
  have eg : (wide n (.var c most)).get z n m a b = (m.setN c (((varAns z n 18446744073709551615 a b).1 : Nat) : Int), (varAns z n 18446744073709551615 a b).2.1, (varAns z n 18446744073709551615 a b).2.2) := by
    show (m.setN c (cv c (varAns z n 18446744073709551615 a b).1), _, _) = _
    unfold cv
    rw [if_neg hne.2.2.2]
  rw [eg]
  exact ⟨_, he, ⟨_, c3⟩, hS.row.frozen c, this, (But2.of_but hbt).set c _⟩
theorem lk_wrap (h : Lk B w yb eb hb ho hc n z kb (m, a, b) va) (hn : n ≤ 140737488351232) (c most : Nat) (hu : c = 8 ∨ c = 21) :
    Calls Tryz.prog 89 #[.pointer (some ⟨yb, 0, none⟩)] w fun e w' => ∃ (X : Nat) (Y : Int), e = .returned (.int .u64 (X : Nat)) ∧ IntKind.i64.wrap (X : Int) = Y ∧ (∃ y, w'.cell? ⟨kb, c, none⟩ = some (.int .i64 y)) ∧ w'.frozen? ⟨kb, c, none⟩ = false ∧ Hid (Lk B (w'.setCell ⟨kb, c, none⟩ (.int .i64 Y)) yb eb hb ho hc n z kb ((wide n (.var c most)).get z n m a b) va ∧ But2 eb kb w (w'.setCell ⟨kb, c, none⟩ (.int .i64 Y))) := by
  refine (eye_number yb eb hb ho hc n a b n z w h.ey h.rd hn).mono fun e w' ⟨he, hbt, hI⟩ => ?_
  have hS := h.step hbt hI
  have hcl : c < 22 := by omega
  have hi : isU c = false := by rcases hu with e | e <;> (subst e; decide)
  have hne : c ≠ 10 ∧ c ≠ 13 ∧ c ≠ 14 := by omega
  have c3 : w'.cell? ⟨kb, c, none⟩ = some (mgCell m va (m.s 10).length c) := hS.row.cell hcl
  rw [mgCell_i hi hne.1 hne.2.1 hne.2.2] at c3
  have hnum : ∀ v, mgNum c v = .int .i64 v := fun v => by
    unfold mgNum
    rw [if_neg (by rw [hi]; decide)]
  have := hS.num c (IntKind.i64.wrap (((varAns z n 18446744073709551615 a b).1 : Nat) : Int)) hne.1 hne.2.1 hne.2.2
  rw [hnum] at this
  have eg : (wide n (.var c most)).get z n m a b = (m.setN c (IntKind.i64.wrap (((varAns z n 18446744073709551615 a b).1 : Nat) : Int)), (varAns z n 18446744073709551615 a b).2.1, (varAns z n 18446744073709551615 a b).2.2) := by
    show (m.setN c (cv c (varAns z n 18446744073709551615 a b).1), _, _) = _
    unfold cv
    rw [if_pos hu]
  rw [eg]
  exact ⟨_, _, he, rfl, ⟨_, c3⟩, hS.row.frozen c, this, (But2.of_but hbt).set c _⟩
end
end Go.Proofs.YtonpmabdjngdcaaGreatDoor

/- The document's look: texts. -/
namespace Go.Proofs.YtonpmabdjngdcaaGreatDoor
open Go.RowKit
set_option maxRecDepth 100000

theorem getL_cons (z : Nat → Nat) (n : Nat) (f : Fd) (fs : List Fd) (m : Mg) (a b : Nat) : getL z n (f :: fs) m a b = getL z n fs (f.get z n m a b).1 (f.get z n m a b).2.1 (f.get z n m a b).2.2 := rfl
section
variable {B : Nat} {w w2 : World} {yb eb hb ho hc n : Nat} {z : Nat → Nat} {kb : Nat} {m : Mg} {a b a2 b2 : Nat} {va : Option Addr}
theorem Lk.str (h : Lk B w yb eb hb ho hc n z kb (m, a, b) va) (c : Nat) (l : List Nat) (hc' : c = 13 ∨ c = 14) (hl : l.length ≤ 140737488351232) (hby : ∀ v ∈ l, v < 256) : Lk B (w.setCell ⟨kb, c, none⟩ (.string (strL l))) yb eb hb ho hc n z kb (m.setS c l, a, b) va := by
  have e10 : (m.setS c l).s 10 = m.s 10 := by
    have : (10 : Nat) ≠ c := by omega
    simp [Mg.setS, this]
  refine ⟨⟨h.ey.row.setOther (fun e => h.ky e.symm) _, h.ey.ne⟩, h.rd.later (Below.heap_setCell _ _ _ _ (fun e => h.ke e.symm)) (fun _ => Below.heap_setCell _ _ _ _ (fun e => h.kh e.symm)), ?_, ?_, fun d => ?_, fun d => ?_, h.ke, h.ky, h.kh, h.klt, h.elt, h.ylt, by have := h.low; simpa [World.setCell] using this⟩
  · show (w.setCell _ _).rowIs _ _ _ (mgCell (m.setS c l) va ((m.setS c l).s 10).length)
    rw [e10]
    exact row_setS h.row c l hc'
  · show Txt B _ va ((m.setS c l).s 10).length (fun j => ((m.setS c l).s 10).getD j 0)
    rw [e10]
    exact h.txt.keep (fun q hq hB => Below.heap_setCell _ _ _ _ (by have := h.klt; show q ≠ kb; omega))
  · show ((m.setS c l).s d).length ≤ _
    by_cases e : d = c
    · subst e; simpa [Mg.setS] using hl
    · simpa [Mg.setS, e] using h.len d
  · show ∀ v ∈ (m.setS c l).s d, v < 256
    by_cases e : d = c
    · subst e; simpa [Mg.setS] using hby
    · simpa [Mg.setS, e] using h.byte d
theorem Lk.val (h : Lk B w yb eb hb ho hc n z kb (m, a, b) va) (ta : Option Addr) (l : List Nat) (ht : Txt B w ta l.length (fun j => l.getD j 0)) (hl : l.length ≤ 140737488351232) (hby : ∀ v ∈ l, v < 256) : Lk B (w.setCell ⟨kb, 10, none⟩ (.slice ta l.length l.length)) yb eb hb ho hc n z kb (m.setS 10 l, a, b) ta := by
  have e10 : (m.setS 10 l).s 10 = l := by simp [Mg.setS]
  refine ⟨⟨h.ey.row.setOther (fun e => h.ky e.symm) _, h.ey.ne⟩, h.rd.later (Below.heap_setCell _ _ _ _ (fun e => h.ke e.symm)) (fun _ => Below.heap_setCell _ _ _ _ (fun e => h.kh e.symm)), ?_, ?_, fun d => ?_, fun d => ?_, h.ke, h.ky, h.kh, h.klt, h.elt, h.ylt, by have := h.low; simpa [World.setCell] using this⟩
  · show (w.setCell _ _).rowIs _ _ _ (mgCell (m.setS 10 l) ta ((m.setS 10 l).s 10).length)
    rw [e10]
    exact row_setV h.row l ta l.length
  · show Txt B _ ta ((m.setS 10 l).s 10).length (fun j => ((m.setS 10 l).s 10).getD j 0)
    rw [e10]
    exact ht.keep (fun q hq hB => Below.heap_setCell _ _ _ _ (by have := h.klt; show q ≠ kb; omega))
  · show ((m.setS 10 l).s d).length ≤ _
    by_cases e : d = 10
    · subst e; simpa [Mg.setS] using hl
    · simpa [Mg.setS, e] using h.len d
  · show ∀ v ∈ (m.setS 10 l).s d, v < 256
    by_cases e : d = 10
    · subst e; simpa [Mg.setS] using hby
    · simpa [Mg.setS, e] using h.byte d
theorem lk_value (h : Lk B w yb eb hb ho hc n z kb (m, a, b) va) (hn : n ≤ 140737488351232) (most : Nat) :
    Calls Tryz.prog 90 #[.pointer (some ⟨yb, 0, none⟩)] w fun e w' => ∃ (ta : Option Addr) (L : Nat), e = .returned (.slice ta L L) ∧ (∃ x y q, w'.cell? ⟨kb, 10, none⟩ = some (.slice x y q)) ∧ w'.frozen? ⟨kb, 10, none⟩ = false ∧ Hid (Lk B (w'.setCell ⟨kb, 10, none⟩ (.slice ta L L)) yb eb hb ho hc n z kb ((wide n (.text 10 most)).get z n m a b) ta ∧ But2 eb kb w (w'.setCell ⟨kb, 10, none⟩ (.slice ta L L))) := by
  have hle := bytesAns_le (z := z) (n := n) (most := n) (a := a) (b := b)
  refine (eye_text yb eb hb ho hc n a b n z w h.ey h.rd hn hn).mono fun e w' ⟨⟨ta, he, htx⟩, hbt, hI⟩ => ?_
  have hS := h.step hbt hI
  have c3 : w'.cell? ⟨kb, 10, none⟩ = some (.slice va (m.s 10).length (m.s 10).length) := hS.row.cell (i := 10) (by decide)
  have eg : (wide n (.text 10 most)).get z n m a b = (m.setS 10 (cutZ z (bytesAns z n n a b).2.1 (bytesAns z n n a b).1), (bytesAns z n n a b).2.2.1, (bytesAns z n n a b).2.2.2) := rfl
  rw [eg]
  generalize bytesAns z n n a b = V at *
  obtain ⟨L, p, a2, b2⟩ := V
  have hle : L ≤ n := hle
  have el : (cutZ z p L).length = L := cutZ_len z p L
  have htx2 : Txt B w' ta (cutZ z p L).length (fun j => (cutZ z p L).getD j 0) := by
    rw [el]
    rcases htx with h1 | ⟨t, h1, ht, hrow⟩
    · exact .inl h1
    · exact .inr ⟨t, h1, Nat.le_trans h.low ht, hrow.congr (fun j hj => by show Value.int .u8 ((z (p + j) : Nat) : Int) = .int .u8 (((cutZ z p L).getD j 0 : Nat) : Int); rw [cutZ_get z p L j hj])⟩
  have := hS.val ta (cutZ z p L) htx2 (by omega) (cutZ_byte h.rd.byte p L)
  rw [el] at this
  exact ⟨ta, L, he, ⟨_, _, _, c3⟩, hS.row.frozen 10, this, (But2.of_but hbt).set 10 _⟩
theorem lk_name (h : Lk B w yb eb hb ho hc n z kb (m, a, b) va) (hn : n ≤ 140737488351232) (c most : Nat) (hc' : c = 13 ∨ c = 14) :
    Calls Tryz.prog 90 #[.pointer (some ⟨yb, 0, none⟩)] w fun e w' => ∃ (ta : Option Addr) (L : Nat) (S : ByteArray), e = .returned (.slice ta L L) ∧ (convert 32 9 (.slice ta L L)).run Tryz.prog w' = .ok (.string S) w' ∧ (∃ y, w'.cell? ⟨kb, c, none⟩ = some (.string y)) ∧ w'.frozen? ⟨kb, c, none⟩ = false ∧ Hid (Lk B (w'.setCell ⟨kb, c, none⟩ (.string S)) yb eb hb ho hc n z kb ((wide n (.text c most)).get z n m a b) va ∧ But2 eb kb w (w'.setCell ⟨kb, c, none⟩ (.string S))) := by
  have hle := bytesAns_le (z := z) (n := n) (most := n) (a := a) (b := b)
  refine (eye_text yb eb hb ho hc n a b n z w h.ey h.rd hn hn).mono fun e w' ⟨⟨ta, he, htx⟩, hbt, hI⟩ => ?_
  have hS := h.step hbt hI
  have hcl : c < 22 := by omega
  have c3 : w'.cell? ⟨kb, c, none⟩ = some (mgCell m va (m.s 10).length c) := hS.row.cell hcl
  have e3 : mgCell m va (m.s 10).length c = .string (strL (m.s c)) := by
    unfold mgCell
    rw [if_neg (by omega), if_pos hc']
  rw [e3] at c3
  have eg : (wide n (.text c most)).get z n m a b = (m.setS c (cutZ z (bytesAns z n n a b).2.1 (bytesAns z n n a b).1), (bytesAns z n n a b).2.2.1, (bytesAns z n n a b).2.2.2) := rfl
  rw [eg]
  generalize bytesAns z n n a b = V at *
  obtain ⟨L, p, a2, b2⟩ := V
  have hle : L ≤ n := hle
  have hcv := str_byt ta L L (fun j => z (p + j)) w' htx.toByt (fun e => by
    rcases htx with ⟨_, h1⟩ | ⟨t, h1, _⟩
    · exact h1
    · rw [h1] at e; simp at e)
  rw [strOf_strL] at hcv
  exact ⟨ta, L, strL (cutZ z p L), he, hcv, ⟨_, c3⟩, hS.row.frozen c, hS.str c _ hc' (by rw [cutZ_len]; omega) (cutZ_byte h.rd.byte p L), (But2.of_but hbt).set c _⟩
end
end Go.Proofs.YtonpmabdjngdcaaGreatDoor

/- The document's calls: 8. -/
namespace Go.Proofs.YtonpmabdjngdcaaGreatDoor
open Go.RowKit
set_option maxRecDepth 100000

set_option maxHeartbeats 8000000 in
theorem calls8 {B : Nat} {w : World} {yb eb hb ho hc n : Nat} {z : Nat → Nat} {kb : Nat} {m : Mg} {a b : Nat} {va : Option Addr} (h : Lk B w yb eb hb ho hc n z kb (m, a, b) va) (hn : n ≤ 140737488351232) (h0 : m.n 0 = 8) :
    Calls Tryz.prog 91 #[.pointer (some ⟨yb, 0, none⟩), .pointer (some ⟨kb, 0, none⟩)] w fun e w' => e = .returned (.tuple #[]) ∧ Lk B w' yb eb hb ho hc n z kb (getL z n ((fdsK 8).map (wide n)) m a b) va ∧ But2 eb kb w w' := by
  have hfd : fdsK 8 = [.small 11 7, .var 12 1099511627776, .text 13 64, .var 15 9007199254740992] := by kernel_rfl
  have c0 : w.cell? ⟨kb, 0, none⟩ = some (.int .i64 8) := by
    have : w.cell? ⟨kb, 0, none⟩ = some (.int .i64 (m.n 0)) := h.row.cell (i := 0) (by decide)
    rw [this, h0]
  have HFD := hide hfd
  have HL : Hid (Lk B w yb eb hb ho hc n z kb (m, a, b) va ∧ But2 eb kb w w) := ⟨h, But2.of_since (World.Since.refl _ _)⟩
  clear h hfd h0
  go_enter Tryz.func91, Tryz.ntmps91
  have HQ := hide (lk_small HL.out.1 11 7 (by decide) (by decide))
  go_wp2_with fail
  refine HQ.out.mono ?_
  rintro e w10 ⟨X, rfl, ⟨y, cy⟩, fz, HN⟩
  obtain ⟨m10, a10, b10, HG10⟩ : ∃ x y t, Hid ((Fd.small 11 7).get z n m a b = (x, y, t)) := ⟨_, _, _, rfl⟩
  rw [HG10.out] at HN
  have HL10 := hide (And.intro HN.out.1 (HL.out.2.trans HN.out.2))
  clear HQ HN HL c0
  go_upto_region 3 with fail
  clear cy fz
  have HQ := hide (lk_number HL10.out.1 hn 12 1099511627776 (by decide) (by decide))
  go_wp2_with fail
  refine HQ.out.mono ?_
  rintro e w11 ⟨X, rfl, ⟨y, cy⟩, fz, HN⟩
  obtain ⟨m11, a11, b11, HG11⟩ : ∃ x y t, Hid ((wide n (.var 12 1099511627776)).get z n m10 a10 b10 = (x, y, t)) := ⟨_, _, _, rfl⟩
  rw [HG11.out] at HN
  have HL11 := hide (And.intro HN.out.1 (HL10.out.2.trans HN.out.2))
  clear HQ HN HL10
  go_upto_region 4 with fail
  clear cy fz
  have HQ := hide (lk_name HL11.out.1 hn 13 64 (by decide))
  go_wp2_with fail
  refine HQ.out.mono ?_
  rintro e w12 ⟨ta, L, S, rfl, hcv, ⟨y, cy⟩, fz, HN⟩
  obtain ⟨m12, a12, b12, HG12⟩ : ∃ x y t, Hid ((wide n (.text 13 64)).get z n m11 a11 b11 = (x, y, t)) := ⟨_, _, _, rfl⟩
  rw [HG12.out] at HN
  have HL12 := hide (And.intro HN.out.1 (HL11.out.2.trans HN.out.2))
  clear HQ HN HL11
  go_upto_region 5 with fail
  clear cy fz hcv
  have HQ := hide (lk_number HL12.out.1 hn 15 9007199254740992 (by decide) (by decide))
  go_wp2_with fail
  refine HQ.out.mono ?_
  rintro e w13 ⟨X, rfl, ⟨y, cy⟩, fz, HN⟩
  obtain ⟨m13, a13, b13, HG13⟩ : ∃ x y t, Hid ((wide n (.var 15 9007199254740992)).get z n m12 a12 b12 = (x, y, t)) := ⟨_, _, _, rfl⟩
  rw [HG13.out] at HN
  have HL13 := hide (And.intro HN.out.1 (HL12.out.2.trans HN.out.2))
  clear HQ HN HL12
  go_wp2_with fail
  clear cy fz
  go_end0
  refine ⟨rfl, ?_, HL13.out.2⟩
  rw [HFD.out]
  have e : getL z n [Fd.small 11 7, wide n (.var 12 1099511627776), wide n (.text 13 64), wide n (.var 15 9007199254740992)] m a b = (m13, a13, b13) := by
    rw [getL_cons, HG10.out]
    dsimp only
    rw [getL_cons, HG11.out]
    dsimp only
    rw [getL_cons, HG12.out]
    dsimp only
    rw [getL_cons, HG13.out]
    dsimp only
    rfl
  show Lk _ _ _ _ _ _ _ _ _ _ (getL z n [Fd.small 11 7, wide n (.var 12 1099511627776), wide n (.text 13 64), wide n (.var 15 9007199254740992)] m a b) _
  rw [e]
  exact HL13.out.1
end Go.Proofs.YtonpmabdjngdcaaGreatDoor

/- The document's calls: 9. -/
namespace Go.Proofs.YtonpmabdjngdcaaGreatDoor
open Go.RowKit
set_option maxRecDepth 100000

set_option maxHeartbeats 8000000 in
theorem calls9 {B : Nat} {w : World} {yb eb hb ho hc n : Nat} {z : Nat → Nat} {kb : Nat} {m : Mg} {a b : Nat} {va : Option Addr} (h : Lk B w yb eb hb ho hc n z kb (m, a, b) va) (hn : n ≤ 140737488351232) (h0 : m.n 0 = 9) :
    Calls Tryz.prog 91 #[.pointer (some ⟨yb, 0, none⟩), .pointer (some ⟨kb, 0, none⟩)] w fun e w' => e = .returned (.tuple #[]) ∧ Lk B w' yb eb hb ho hc n z kb (getL z n ((fdsK 9).map (wide n)) m a b) va ∧ But2 eb kb w w' := by
  have hfd : fdsK 9 = [.small 11 7, .var 12 1099511627776] := by kernel_rfl
  have c0 : w.cell? ⟨kb, 0, none⟩ = some (.int .i64 9) := by
    have : w.cell? ⟨kb, 0, none⟩ = some (.int .i64 (m.n 0)) := h.row.cell (i := 0) (by decide)
    rw [this, h0]
  have HFD := hide hfd
  have HL : Hid (Lk B w yb eb hb ho hc n z kb (m, a, b) va ∧ But2 eb kb w w) := ⟨h, But2.of_since (World.Since.refl _ _)⟩
  clear h hfd h0
  go_enter Tryz.func91, Tryz.ntmps91
  have HQ := hide (lk_small HL.out.1 11 7 (by decide) (by decide))
  go_wp2_with fail
  refine HQ.out.mono ?_
  rintro e w10 ⟨X, rfl, ⟨y, cy⟩, fz, HN⟩
  obtain ⟨m10, a10, b10, HG10⟩ : ∃ x y t, Hid ((Fd.small 11 7).get z n m a b = (x, y, t)) := ⟨_, _, _, rfl⟩
  rw [HG10.out] at HN
  have HL10 := hide (And.intro HN.out.1 (HL.out.2.trans HN.out.2))
  clear HQ HN HL c0
  go_upto_region 8 with fail
  clear cy fz
  have HQ := hide (lk_number HL10.out.1 hn 12 1099511627776 (by decide) (by decide))
  go_wp2_with fail
  refine HQ.out.mono ?_
  rintro e w11 ⟨X, rfl, ⟨y, cy⟩, fz, HN⟩
  obtain ⟨m11, a11, b11, HG11⟩ : ∃ x y t, Hid ((wide n (.var 12 1099511627776)).get z n m10 a10 b10 = (x, y, t)) := ⟨_, _, _, rfl⟩
  rw [HG11.out] at HN
  have HL11 := hide (And.intro HN.out.1 (HL10.out.2.trans HN.out.2))
  clear HQ HN HL10
  go_wp2_with fail
  clear cy fz
  go_end0
  refine ⟨rfl, ?_, HL11.out.2⟩
  rw [HFD.out]
  have e : getL z n [Fd.small 11 7, wide n (.var 12 1099511627776)] m a b = (m11, a11, b11) := by
    rw [getL_cons, HG10.out]
    dsimp only
    rw [getL_cons, HG11.out]
    dsimp only
    rfl
  show Lk _ _ _ _ _ _ _ _ _ _ (getL z n [Fd.small 11 7, wide n (.var 12 1099511627776)] m a b) _
  rw [e]
  exact HL11.out.1
end Go.Proofs.YtonpmabdjngdcaaGreatDoor

/- The document's calls: 10. -/
namespace Go.Proofs.YtonpmabdjngdcaaGreatDoor
open Go.RowKit
set_option maxRecDepth 100000

set_option maxHeartbeats 8000000 in
theorem calls10 {B : Nat} {w : World} {yb eb hb ho hc n : Nat} {z : Nat → Nat} {kb : Nat} {m : Mg} {a b : Nat} {va : Option Addr} (h : Lk B w yb eb hb ho hc n z kb (m, a, b) va) (hn : n ≤ 140737488351232) (h0 : m.n 0 = 10) :
    Calls Tryz.prog 91 #[.pointer (some ⟨yb, 0, none⟩), .pointer (some ⟨kb, 0, none⟩)] w fun e w' => e = .returned (.tuple #[]) ∧ Lk B w' yb eb hb ho hc n z kb (getL z n ((fdsK 10).map (wide n)) m a b) va ∧ But2 eb kb w w' := by
  have hfd : fdsK 10 = [.var 12 1099511627776, .text 13 64, .text 14 64, .var 15 9007199254740992, .var 16 1099511627776, .var 17 1099511627776, .small 18 3, .small 19 7] := by kernel_rfl
  have c0 : w.cell? ⟨kb, 0, none⟩ = some (.int .i64 10) := by
    have : w.cell? ⟨kb, 0, none⟩ = some (.int .i64 (m.n 0)) := h.row.cell (i := 0) (by decide)
    rw [this, h0]
  have HFD := hide hfd
  have HL : Hid (Lk B w yb eb hb ho hc n z kb (m, a, b) va ∧ But2 eb kb w w) := ⟨h, But2.of_since (World.Since.refl _ _)⟩
  clear h hfd h0
  go_enter Tryz.func91, Tryz.ntmps91
  have HQ := hide (lk_number HL.out.1 hn 12 1099511627776 (by decide) (by decide))
  go_wp2_with fail
  refine HQ.out.mono ?_
  rintro e w10 ⟨X, rfl, ⟨y, cy⟩, fz, HN⟩
  obtain ⟨m10, a10, b10, HG10⟩ : ∃ x y t, Hid ((wide n (.var 12 1099511627776)).get z n m a b = (x, y, t)) := ⟨_, _, _, rfl⟩
  rw [HG10.out] at HN
  have HL10 := hide (And.intro HN.out.1 (HL.out.2.trans HN.out.2))
  clear HQ HN HL c0
  go_upto_region 11 with fail
  clear cy fz
  have HQ := hide (lk_name HL10.out.1 hn 13 64 (by decide))
  go_wp2_with fail
  refine HQ.out.mono ?_
  rintro e w11 ⟨ta, L, S, rfl, hcv, ⟨y, cy⟩, fz, HN⟩
  obtain ⟨m11, a11, b11, HG11⟩ : ∃ x y t, Hid ((wide n (.text 13 64)).get z n m10 a10 b10 = (x, y, t)) := ⟨_, _, _, rfl⟩
  rw [HG11.out] at HN
  have HL11 := hide (And.intro HN.out.1 (HL10.out.2.trans HN.out.2))
  clear HQ HN HL10
  go_upto_region 12 with fail
  clear cy fz hcv
  have HQ := hide (lk_name HL11.out.1 hn 14 64 (by decide))
  go_wp2_with fail
  refine HQ.out.mono ?_
  rintro e w12 ⟨ta, L, S, rfl, hcv, ⟨y, cy⟩, fz, HN⟩
  obtain ⟨m12, a12, b12, HG12⟩ : ∃ x y t, Hid ((wide n (.text 14 64)).get z n m11 a11 b11 = (x, y, t)) := ⟨_, _, _, rfl⟩
  rw [HG12.out] at HN
  have HL12 := hide (And.intro HN.out.1 (HL11.out.2.trans HN.out.2))
  clear HQ HN HL11
  go_upto_region 13 with fail
  clear cy fz hcv
  have HQ := hide (lk_number HL12.out.1 hn 15 9007199254740992 (by decide) (by decide))
  go_wp2_with fail
  refine HQ.out.mono ?_
  rintro e w13 ⟨X, rfl, ⟨y, cy⟩, fz, HN⟩
  obtain ⟨m13, a13, b13, HG13⟩ : ∃ x y t, Hid ((wide n (.var 15 9007199254740992)).get z n m12 a12 b12 = (x, y, t)) := ⟨_, _, _, rfl⟩
  rw [HG13.out] at HN
  have HL13 := hide (And.intro HN.out.1 (HL12.out.2.trans HN.out.2))
  clear HQ HN HL12
  go_upto_region 14 with fail
  clear cy fz
  have HQ := hide (lk_number HL13.out.1 hn 16 1099511627776 (by decide) (by decide))
  go_wp2_with fail
  refine HQ.out.mono ?_
  rintro e w14 ⟨X, rfl, ⟨y, cy⟩, fz, HN⟩
  obtain ⟨m14, a14, b14, HG14⟩ : ∃ x y t, Hid ((wide n (.var 16 1099511627776)).get z n m13 a13 b13 = (x, y, t)) := ⟨_, _, _, rfl⟩
  rw [HG14.out] at HN
  have HL14 := hide (And.intro HN.out.1 (HL13.out.2.trans HN.out.2))
  clear HQ HN HL13
  go_upto_region 15 with fail
  clear cy fz
  have HQ := hide (lk_number HL14.out.1 hn 17 1099511627776 (by decide) (by decide))
  go_wp2_with fail
  refine HQ.out.mono ?_
  rintro e w15 ⟨X, rfl, ⟨y, cy⟩, fz, HN⟩
  obtain ⟨m15, a15, b15, HG15⟩ : ∃ x y t, Hid ((wide n (.var 17 1099511627776)).get z n m14 a14 b14 = (x, y, t)) := ⟨_, _, _, rfl⟩
  rw [HG15.out] at HN
  have HL15 := hide (And.intro HN.out.1 (HL14.out.2.trans HN.out.2))
  clear HQ HN HL14
  go_upto_region 16 with fail
  clear cy fz
  have HQ := hide (lk_small HL15.out.1 18 3 (by decide) (by decide))
  go_wp2_with fail
  refine HQ.out.mono ?_
  rintro e w16 ⟨X, rfl, ⟨y, cy⟩, fz, HN⟩
  obtain ⟨m16, a16, b16, HG16⟩ : ∃ x y t, Hid ((Fd.small 18 3).get z n m15 a15 b15 = (x, y, t)) := ⟨_, _, _, rfl⟩
  rw [HG16.out] at HN
  have HL16 := hide (And.intro HN.out.1 (HL15.out.2.trans HN.out.2))
  clear HQ HN HL15
  go_upto_region 17 with fail
  clear cy fz
  have HQ := hide (lk_small HL16.out.1 19 7 (by decide) (by decide))
  go_wp2_with fail
  refine HQ.out.mono ?_
  rintro e w17 ⟨X, rfl, ⟨y, cy⟩, fz, HN⟩
  obtain ⟨m17, a17, b17, HG17⟩ : ∃ x y t, Hid ((Fd.small 19 7).get z n m16 a16 b16 = (x, y, t)) := ⟨_, _, _, rfl⟩
  rw [HG17.out] at HN
  have HL17 := hide (And.intro HN.out.1 (HL16.out.2.trans HN.out.2))
  clear HQ HN HL16
  go_wp2_with fail
  clear cy fz
  go_end0
  refine ⟨rfl, ?_, HL17.out.2⟩
  rw [HFD.out]
  have e : getL z n [wide n (.var 12 1099511627776), wide n (.text 13 64), wide n (.text 14 64), wide n (.var 15 9007199254740992), wide n (.var 16 1099511627776), wide n (.var 17 1099511627776), Fd.small 18 3, Fd.small 19 7] m a b = (m17, a17, b17) := by
    rw [getL_cons, HG10.out]
    dsimp only
    rw [getL_cons, HG11.out]
    dsimp only
    rw [getL_cons, HG12.out]
    dsimp only
    rw [getL_cons, HG13.out]
    dsimp only
    rw [getL_cons, HG14.out]
    dsimp only
    rw [getL_cons, HG15.out]
    dsimp only
    rw [getL_cons, HG16.out]
    dsimp only
    rw [getL_cons, HG17.out]
    dsimp only
    rfl
  show Lk _ _ _ _ _ _ _ _ _ _ (getL z n [wide n (.var 12 1099511627776), wide n (.text 13 64), wide n (.text 14 64), wide n (.var 15 9007199254740992), wide n (.var 16 1099511627776), wide n (.var 17 1099511627776), Fd.small 18 3, Fd.small 19 7] m a b) _
  rw [e]
  exact HL17.out.1
end Go.Proofs.YtonpmabdjngdcaaGreatDoor

/- The document's calls: 11. -/
namespace Go.Proofs.YtonpmabdjngdcaaGreatDoor
open Go.RowKit
set_option maxRecDepth 100000

set_option maxHeartbeats 8000000 in
theorem calls11 {B : Nat} {w : World} {yb eb hb ho hc n : Nat} {z : Nat → Nat} {kb : Nat} {m : Mg} {a b : Nat} {va : Option Addr} (h : Lk B w yb eb hb ho hc n z kb (m, a, b) va) (hn : n ≤ 140737488351232) (h0 : m.n 0 = 11) :
    Calls Tryz.prog 91 #[.pointer (some ⟨yb, 0, none⟩), .pointer (some ⟨kb, 0, none⟩)] w fun e w' => e = .returned (.tuple #[]) ∧ Lk B w' yb eb hb ho hc n z kb (getL z n ((fdsK 11).map (wide n)) m a b) va ∧ But2 eb kb w w' := by
  have hfd : fdsK 11 = [.var 15 9007199254740992, .var 16 1099511627776, .var 17 1099511627776, .small 20 4, .var 21 307] := by kernel_rfl
  have c0 : w.cell? ⟨kb, 0, none⟩ = some (.int .i64 11) := by
    have : w.cell? ⟨kb, 0, none⟩ = some (.int .i64 (m.n 0)) := h.row.cell (i := 0) (by decide)
    rw [this, h0]
  have HFD := hide hfd
  have HL : Hid (Lk B w yb eb hb ho hc n z kb (m, a, b) va ∧ But2 eb kb w w) := ⟨h, But2.of_since (World.Since.refl _ _)⟩
  clear h hfd h0
  go_enter Tryz.func91, Tryz.ntmps91
  have HQ := hide (lk_number HL.out.1 hn 15 9007199254740992 (by decide) (by decide))
  go_wp2_with fail
  refine HQ.out.mono ?_
  rintro e w10 ⟨X, rfl, ⟨y, cy⟩, fz, HN⟩
  obtain ⟨m10, a10, b10, HG10⟩ : ∃ x y t, Hid ((wide n (.var 15 9007199254740992)).get z n m a b = (x, y, t)) := ⟨_, _, _, rfl⟩
  rw [HG10.out] at HN
  have HL10 := hide (And.intro HN.out.1 (HL.out.2.trans HN.out.2))
  clear HQ HN HL c0
  go_upto_region 20 with fail
  clear cy fz
  have HQ := hide (lk_number HL10.out.1 hn 16 1099511627776 (by decide) (by decide))
  go_wp2_with fail
  refine HQ.out.mono ?_
  rintro e w11 ⟨X, rfl, ⟨y, cy⟩, fz, HN⟩
  obtain ⟨m11, a11, b11, HG11⟩ : ∃ x y t, Hid ((wide n (.var 16 1099511627776)).get z n m10 a10 b10 = (x, y, t)) := ⟨_, _, _, rfl⟩
  rw [HG11.out] at HN
  have HL11 := hide (And.intro HN.out.1 (HL10.out.2.trans HN.out.2))
  clear HQ HN HL10
  go_upto_region 21 with fail
  clear cy fz
  have HQ := hide (lk_number HL11.out.1 hn 17 1099511627776 (by decide) (by decide))
  go_wp2_with fail
  refine HQ.out.mono ?_
  rintro e w12 ⟨X, rfl, ⟨y, cy⟩, fz, HN⟩
  obtain ⟨m12, a12, b12, HG12⟩ : ∃ x y t, Hid ((wide n (.var 17 1099511627776)).get z n m11 a11 b11 = (x, y, t)) := ⟨_, _, _, rfl⟩
  rw [HG12.out] at HN
  have HL12 := hide (And.intro HN.out.1 (HL11.out.2.trans HN.out.2))
  clear HQ HN HL11
  go_upto_region 22 with fail
  clear cy fz
  have HQ := hide (lk_small HL12.out.1 20 4 (by decide) (by decide))
  go_wp2_with fail
  refine HQ.out.mono ?_
  rintro e w13 ⟨X, rfl, ⟨y, cy⟩, fz, HN⟩
  obtain ⟨m13, a13, b13, HG13⟩ : ∃ x y t, Hid ((Fd.small 20 4).get z n m12 a12 b12 = (x, y, t)) := ⟨_, _, _, rfl⟩
  rw [HG13.out] at HN
  have HL13 := hide (And.intro HN.out.1 (HL12.out.2.trans HN.out.2))
  clear HQ HN HL12
  go_upto_region 23 with fail
  clear cy fz
  have HQ := hide (lk_wrap HL13.out.1 hn 21 307 (by decide))
  go_wp2_with fail
  refine HQ.out.mono ?_
  rintro e w14 ⟨X, Y, rfl, hwr, ⟨y, cy⟩, fz, HN⟩
  obtain ⟨m14, a14, b14, HG14⟩ : ∃ x y t, Hid ((wide n (.var 21 307)).get z n m13 a13 b13 = (x, y, t)) := ⟨_, _, _, rfl⟩
  rw [HG14.out] at HN
  have HL14 := hide (And.intro HN.out.1 (HL13.out.2.trans HN.out.2))
  clear HQ HN HL13
  go_wp2_with fail
  clear cy fz hwr
  go_end0
  refine ⟨rfl, ?_, HL14.out.2⟩
  rw [HFD.out]
  have e : getL z n [wide n (.var 15 9007199254740992), wide n (.var 16 1099511627776), wide n (.var 17 1099511627776), Fd.small 20 4, wide n (.var 21 307)] m a b = (m14, a14, b14) := by
    rw [getL_cons, HG10.out]
    dsimp only
    rw [getL_cons, HG11.out]
    dsimp only
    rw [getL_cons, HG12.out]
    dsimp only
    rw [getL_cons, HG13.out]
    dsimp only
    rw [getL_cons, HG14.out]
    dsimp only
    rfl
  show Lk _ _ _ _ _ _ _ _ _ _ (getL z n [wide n (.var 15 9007199254740992), wide n (.var 16 1099511627776), wide n (.var 17 1099511627776), Fd.small 20 4, wide n (.var 21 307)] m a b) _
  rw [e]
  exact HL14.out.1
end Go.Proofs.YtonpmabdjngdcaaGreatDoor

/- The document's look: its answer. -/
namespace Go.Proofs.YtonpmabdjngdcaaGreatDoor
open Go.RowKit
set_option maxRecDepth 100000

/-- What look answers. -/
def LookAns (z : Nat → Nat) (n B : Nat) (e : Ending) (w' : World) : Prop := ∃ va, e = .returned (mgV (lookG z n) va ((lookG z n).s 10).length) ∧ Txt B w' va ((lookG z n).s 10).length (fun j => ((lookG z n).s 10).getD j 0) ∧ (∀ c, ((lookG z n).s c).length ≤ 140737488351232) ∧ ∀ c, ∀ v ∈ (lookG z n).s c, v < 256
theorem eyeZ_row (w : World) (hb ho hc n : Nat) : (w.alloc (.cells #[.slice (some ⟨hb, ho, none⟩) n hc, .int .i64 0, .int .i64 0] 144)).rowIs w.heap.size 144 3 (gCell hb ho hc n 0 0) :=
  World.rowIs_alloc w _ _ _ (fun i hi => by
    have hi' : i < 3 := hi
    match i, hi' with
    | 0, _ => rfl
    | 1, _ => rfl
    | 2, _ => rfl)
theorem eyZ_row (w : World) (eb n : Nat) : (w.alloc (.cells #[.pointer (some ⟨eb, 0, none⟩), .int .i64 (n : Nat)] 146)).rowIs w.heap.size 146 2 (eyCell eb n) :=
  World.rowIs_alloc w _ _ _ (fun i hi => by
    have hi' : i < 2 := hi
    match i, hi' with
    | 0, _ => rfl
    | 1, _ => rfl)
/-- What the answer's cell is given. -/
theorem look_end {B : Nat} {w w3 w' : World} {yb eb hb ho hc n : Nat} {z : Nat → Nat} {kb : Nat} {q : Mg × Nat × Nat} {va : Option Addr} (h : Lk B w' yb eb hb ho hc n z kb q va) (hb2 : But2 eb kb w3 w') (hq : q.1 = lookG z n) (hs3 : w.Since w.heap.size w3) (hr3 : w3.rowIs w.heap.size 37 22 (mgCell mg0 none 0)) (hB : w.heap.size ≤ B) (he : w.heap.size < eb) (hk : w.heap.size < kb) :
    ∃ W, Hid (w'.setCells w.heap.size 0 (mgL q.1 va (q.1.s 10).length) = W) ∧ Hid (w'.there w.heap.size 0 (mgL q.1 va (q.1.s 10).length).toArray.size) ∧ Hid (W.heap[w.heap.size]? = some (.cells (mgL q.1 va (q.1.s 10).length).toArray 37 (0, 0))) ∧ Hid (LookAns z n w.heap.size (.returned (.agg (mgL q.1 va (q.1.s 10).length).toArray)) W ∧ w.Since w.heap.size W) := by
  have hs : w.Since w.heap.size w' := hb2.since_of hs3 (Nat.le_of_lt he) (Nat.le_of_lt hk)
  have hr : w'.rowIs w.heap.size 37 22 (mgCell mg0 none 0) := hr3.of_block (hb2.block _ hr3.lt (by omega) (by omega))
  obtain ⟨Z, HZ, rZ, hZ, zZ, bZ, oZ, tZ, pZ⟩ := mg_stored hr q.1 va (q.1.s 10).length
  have e : (mgL q.1 va (q.1.s 10).length).toArray.size = 22 := by rw [List.size_toArray, mgL_len]
  refine ⟨Z, HZ, ?_, hZ, ?_, ?_⟩
  · show World.there _ _ _ _
    rw [e]
    exact row_there hr
  · refine ⟨va, by rw [← hq]; rfl, ?_, by rw [← hq]; exact h.len, by rw [← hq]; exact h.byte⟩
    rw [← hq]
    rcases h.txt with h1 | ⟨t, h1, ht, hrow⟩
    · exact .inl h1
    · exact .inr ⟨t, h1, Nat.le_trans hB ht, hrow.of_block (bZ t (by have := h.klt; omega))⟩
  · exact ⟨oZ.trans hs.os, tZ.trans hs.tape, pZ.trans hs.output, by rw [zZ]; exact hs.size, fun k hk => (bZ k (by omega)).trans (hs.block k hk)⟩
theorem headG_kind (z : Nat → Nat) (n : Nat) : ((headG z n).1.n 0) = ((fixAns z n 1 0 0).1 : Nat) := by
  unfold headG
  simp [hds, getL, Fd.get, Mg.setN]
end Go.Proofs.YtonpmabdjngdcaaGreatDoor
