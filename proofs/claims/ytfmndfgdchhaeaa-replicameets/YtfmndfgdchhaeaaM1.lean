/- Own texts, joined: Kit, Lend, MgB, R1, R2, R3, R4, R5. -/
import Derived.Test.YtfmndfgdchhaeaaRows
import Derived.WalkKit
import Derived.Laws.BitsAllLaws
import Derived.Deep.LoopGhost
import Derived.Deep.OwnRows
import Derived.Deep.Cut
import Derived.Deep.Light
import Derived.Deep.CutRange
import Derived.CellFam
import Derived.BigGuard
import Derived.Lib.SlBytesConst
import Derived.BigQuiet
import Derived.BigRegion
import Derived.Deep.RegionWith
import Derived.Deep.QuietTactic
import Derived.Laws.IdiomCopy
import Derived.Deep.AppendLies
import Derived.Laws.AppendOwnNone
import Derived.OwnWalk
import Derived.Laws.BytesArg
import Derived.Lib.ConvBytes
import Derived.Deep.MidRow
import Derived.Lib.Bytes
import Derived.Deep.RegionLaw
import Derived.Deep.RegionHeld3
import Derived.Laws.ResultCell
import Derived.Laws.NewBlocks
import Derived.Laws.Rows
import Derived.Below

/- Small laws on rows of bytes that the walks of this seat share; the walk of tallyref0.Copy. -/
namespace Go.Proofs.Ytfmndfgdchhaeaa
open Go.RowKit
set_option maxRecDepth 100000

theorem hide {p : Prop} (h : p) : Hid p := h
theorem unhide {p : Prop} (h : Hid p) : p := h
theorem since_mono {B B' : Nat} {w w' : World} (h : w.Since B w') (hB : B' ≤ B) : w.Since B' w' := ⟨h.os, h.tape, h.output, h.size, fun k hk => h.block k (by omega)⟩
theorem Try.info5 : (Try.prog.info? 5).map (fun i => (i.zero, i.size, i.bytes)) = some (some (.int .u8 0), 1, 1) := by kernel_rfl
theorem Try.size5 : (Try.prog.info? 5).map (·.size) = some 1 := by kernel_rfl

/-- A slice's cells hold these bytes. -/
def Byt (w : World) (a : Option Addr) (len : Nat) (x : Nat → Nat) : Prop := ∀ j, j < len → ∃ b off, a = some ⟨b, off, none⟩ ∧ w.cell? ⟨b, off + j, none⟩ = some (.int .u8 (x j : Nat))

theorem Byt.since {w w' : World} {a : Option Addr} {len : Nat} {x : Nat → Nat} (h : Byt w a len x) (hs : w.Since w.heap.size w') : Byt w' a len x := fun j hj => by
  obtain ⟨b, off, e, hc⟩ := h j hj
  exact ⟨b, off, e, by rw [hs.cell (a := ⟨b, off + j, none⟩) (World.block_lt_of_cell? _ _ hc)]; exact hc⟩
theorem Byt.of_row {w : World} {b t n : Nat} {x : Nat → Nat} (h : w.rowIs b t n (fun j => .int .u8 (x j : Nat))) : Byt w (some ⟨b, 0, none⟩) n x := fun j hj =>
  ⟨b, 0, rfl, by have := h.cell hj; simpa using this⟩
theorem Byt.drewN {w : World} {a : Option Addr} {len : Nat} {x : Nat → Nat} (h : Byt w a len x) (n : Nat) : Byt (w.drewN n) a len x := fun j hj => h j hj
theorem Byt.le {w : World} {a : Option Addr} {len m : Nat} {x : Nat → Nat} (h : Byt w a len x) (hm : m ≤ len) : Byt w a m x := fun j hj => h j (by omega)

theorem getD_range_map (f : Nat → Nat) (n j : Nat) (h : j < n) : ((List.range n).map f).getD j 0 = f j := by
  simp [List.getD, h]
theorem lt_range_map (f : Nat → Nat) (n j : Nat) (h : ∀ i, f i < 256) : ((List.range n).map f).getD j 0 < 256 := by
  by_cases hj : j < n
  · rw [getD_range_map f n j hj]; exact h j
  · simp [List.getD, hj]
theorem since_setCells {B b : Nat} {w : World} (hb : B ≤ b) : ∀ (vs : List Value) (o : Nat) (w' : World), w.Since B w' → w.Since B (w'.setCells b o vs)
  | [], _, _, h => h
  | v :: r, o, _, h => since_setCells hb r (o + 1) _ (h.setCell (a := ⟨b, o, none⟩) hb v)
theorem size_setCells (b : Nat) : ∀ (vs : List Value) (o : Nat) (w : World), (w.setCells b o vs).heap.size = w.heap.size
  | [], _, _ => rfl
  | v :: r, o, w => by rw [World.setCells, size_setCells b r (o + 1)]; simp [World.setCell]
theorem rowIs_setCells {b t n : Nat} : ∀ (vs : List Value) (o : Nat) (w : World) (f : Nat → Value), w.rowIs b t n f → (w.setCells b o vs).rowIs b t n (fun j => if o ≤ j ∧ j < o + vs.length then vs.getD (j - o) undef else f j)
  | [], o, w, f, h => h.congr (fun i _ => by simp; omega)
  | v :: r, o, w, f, h => by
    refine (rowIs_setCells r (o + 1) _ _ (h.set o v)).congr (fun i _ => ?_)
    by_cases e : i = o
    · subst e
      rw [if_neg (by omega), if_pos rfl, if_pos (by simp)]; simp
    · by_cases hin : o + 1 ≤ i ∧ i < o + 1 + r.length
      · rw [if_pos hin, if_pos (by simp; omega)]
        rw [show i - o = (i - (o + 1)) + 1 by omega]; simp
      · rw [if_neg hin, if_neg e, if_neg (by simp; omega)]

/-- tallyref0.Copy: the same bytes in new memory. -/
theorem copy_any (a : Option Addr) (len cap : Nat) (x : Nat → Nat) (w : World) (hmax : len ≤ 281474976710656) (hc : Byt w a len x) :
    Calls Try.prog 15 #[.slice a len cap] w fun e w' => e = .returned (.slice (some ⟨w.heap.size, 0, none⟩) len len) ∧ w.Since w.heap.size w' ∧ w'.heap.size = w.heap.size + 1 ∧ w'.rowIs w.heap.size 5 len (fun j => .int .u8 (x j : Nat)) := by
  have hmk := run_make_row' (P := Try.prog) 29 5 (.int .u8 0) 1 Try.underlying29 Try.info5 rfl .i64 .i64 len (by omega) (by omega)
  have hs0 : w.Since w.heap.size (w.alloc (.cells (madeCells #[.int .u8 0] len) 5)) := (World.Since.refl _ _).alloc (Nat.le_refl _) _
  have hr0 := World.rowIs_made w (.int .u8 0) len 5
  have hz0 : (w.alloc (.cells (madeCells #[.int .u8 0] len) 5)).heap.size = w.heap.size + 1 := by simp
  generalize hW : w.alloc (.cells (madeCells #[.int .u8 0] len) 5) = W at *
  rcases Nat.eq_zero_or_pos len with rfl | hp
  · have hcp := run_copy_none (P := Try.prog) W 29 29 3 5 (some ⟨w.heap.size, 0, none⟩) a 0 0 0 cap Try.underlying29 Try.size5 (by simp)
    have hmk0 : (Instr.makeSlice 29 (.int .i64 0) (.int .i64 0)).run Try.prog w = .ok (.slice (some ⟨w.heap.size, 0, none⟩) 0 0) W := by rw [← hW]; simpa using hmk w
    clear hmk hW
    go_enter Try.func15, Try.ntmps15
    go_wp2
    go_ret
    exact ⟨rfl, hs0, hz0, hr0.congr (fun j hj => by omega)⟩
  · obtain ⟨b, off, rfl, _⟩ := hc 0 hp
    have hc' : ∀ j, j < len → w.cell? ⟨b, off + j, none⟩ = some (.int .u8 (x j : Nat)) := fun j hj => by obtain ⟨b', off', e, hh⟩ := hc j hj; cases e; exact hh
    have hcp := run_copy_cells (P := Try.prog) W 29 29 3 5 w.heap.size 0 len len ⟨b, off, none⟩ len cap ((List.range len).map fun j => .int .u8 (x j : Nat)) Try.underlying29 Try.size5 (by simp)
      (fun j v hv => by
        have hj : j < len := by have := (List.getElem?_eq_some_iff.1 hv).1; simpa using this
        have : v = .int .u8 (x j : Nat) := by rw [List.getElem?_map, List.getElem?_range hj] at hv; simpa using hv.symm
        rw [this, show (⟨b, off, none⟩ : Addr).add j = ⟨b, off + j, none⟩ by simp [Addr.add], hs0.cell (a := ⟨b, off + j, none⟩) (World.block_lt_of_cell? _ _ (hc' j hj))]
        exact hc' j hj)
      (fun j hj => by rw [Nat.zero_add, hr0.cell (by simpa using hj)]; rfl) (fun j _ => by rw [Nat.zero_add]; exact hr0.frozen j) (fun v hv => by obtain ⟨j, _, rfl⟩ := List.mem_map.1 hv; rfl)
    have hend : w.Since w.heap.size (W.setCells w.heap.size 0 ((List.range len).map fun j => .int .u8 (x j : Nat))) ∧ (W.setCells w.heap.size 0 ((List.range len).map fun j => .int .u8 (x j : Nat))).heap.size = w.heap.size + 1 ∧
        (W.setCells w.heap.size 0 ((List.range len).map fun j => .int .u8 (x j : Nat))).rowIs w.heap.size 5 len (fun j => .int .u8 (x j : Nat)) :=
      ⟨since_setCells (Nat.le_refl _) _ _ _ hs0, by rw [size_setCells]; exact hz0, (rowIs_setCells _ 0 _ _ hr0).congr (fun j hj => by
        rw [if_pos (by simp; exact hj)]; simp [List.getD, hj])⟩
    have hmk1 : (Instr.makeSlice 29 (.int .i64 len) (.int .i64 len)).run Try.prog w = .ok (.slice (some ⟨w.heap.size, 0, none⟩) len len) W := by rw [← hW]; exact hmk w
    clear hmk hW
    generalize W.setCells w.heap.size 0 ((List.range len).map fun j => .int .u8 (x j : Nat)) = W2 at *
    go_enter Try.func15, Try.ntmps15
    go_wp2
    go_ret
    exact ⟨rfl, hend⟩
end Go.Proofs.Ytfmndfgdchhaeaa

/- The walks of tallylaw1's Lend and Intact: bytes lent with marks behind them. -/
namespace Go.Proofs.Ytfmndfgdchhaeaa
open Go.RowKit
set_option maxRecDepth 100000
set_option maxRecDepth 100000

/-- Bytes as cells. -/
def cellsOf (n : Nat) (x : Nat → Nat) : List Value := (List.range n).map fun j => .int .u8 (x j : Nat)
theorem length_cellsOf (n : Nat) (x : Nat → Nat) : (cellsOf n x).length = n := by simp [cellsOf]
theorem get_cellsOf {n j : Nat} {x : Nat → Nat} (h : j < n) : (cellsOf n x)[j]? = some (.int .u8 (x j : Nat)) := by simp [cellsOf, h]
def cat (x : Nat → Nat) (n : Nat) (y : Nat → Nat) : Nat → Nat := fun j => if j < n then x j else y (j - n)
theorem cat_ge {x : Nat → Nat} {n : Nat} {y : Nat → Nat} {j : Nat} (h : n ≤ j) : cat x n y j = y (j - n) := if_neg (by omega)
theorem cellsOf_cat (n m : Nat) (x y : Nat → Nat) : cellsOf n x ++ cellsOf m y = cellsOf (n + m) (cat x n y) := by
  apply List.ext_getElem?
  intro j
  rcases Nat.lt_or_ge j n with h | h
  · rw [List.getElem?_append_left (by rw [length_cellsOf]; exact h), get_cellsOf h, get_cellsOf (by omega)]; simp [cat, h]
  · rw [List.getElem?_append_right (by rw [length_cellsOf]; exact h), length_cellsOf]
    rcases Nat.lt_or_ge (j - n) m with g | g
    · rw [get_cellsOf g, get_cellsOf (by omega)]; simp [cat, Nat.not_lt.2 h]
    · rw [List.getElem?_eq_none (by rw [length_cellsOf]; exact g), List.getElem?_eq_none (by rw [length_cellsOf]; omega)]
theorem one_cellsOf (n : Nat) (x : Nat → Nat) : ∀ u ∈ cellsOf n x, u.oneCell' = true := fun u hu => by
  obtain ⟨j, _, rfl⟩ := List.mem_map.1 hu; rfl

/-- A slice of bytes of the call's own. -/
def Own (w : World) (B : Nat) (v : Value) (n : Nat) (x : Nat → Nat) : Prop := w.ownsRow B 5 1 v n (cellsOf n x)
theorem own_nil (w : World) (B : Nat) (x : Nat → Nat) : Own w B (.slice none 0 0) 0 x := ⟨rfl, Or.inl ⟨rfl, rfl⟩⟩
/-- append OF ANY BYTES ONTO SUCH A SLICE. -/
theorem app_own (w : World) (B : Nat) (v : Value) (n : Nat) (x : Nat → Nat) (hown : Own w B v n x) (a : Option Addr) (m c : Nat) (y : Nat → Nat) (hb : Byt w a m y) (ha : a = none → m = 0 ∧ c = 0) (hmax : n + m ≤ 140737488355328) (hB : B ≤ w.heap.size) :
    ∃ v' w', (Builtin.append_ #[29, 29] 29 #[v, .slice a m c]).run Try.prog w = .ok v' w' ∧ Own w' B v' (n + m) (cat x n y) ∧ w.grownBy w' v.ownBlock := by
  obtain ⟨i0, hi, hz0, hz1, hz2⟩ := info_parts Try.info5
  cases a with
  | none =>
    obtain ⟨rfl, rfl⟩ := ha rfl
    refine ⟨v, w, run_append_owned_none w B 29 29 5 i0 1 Try.underlying29 hi v n _ hown, ?_, ⟨rfl, rfl, rfl, Nat.le_refl _, fun _ _ _ => rfl⟩⟩
    have e : cellsOf (n + 0) (cat x n y) = cellsOf n x := by rw [← cellsOf_cat]; simp [cellsOf]
    show w.ownsRow B 5 1 v (n + 0) (cellsOf (n + 0) (cat x n y))
    rw [e]; exact hown
  | some ad =>
    obtain ⟨v', w', hr, h1, h2, _⟩ := run_append_own (P := Try.prog) w B 29 29 5 i0 (.int .u8 0) 1 1 Try.underlying29 hi hz0 hz1 hz2 rfl (by decide) v n _ hown ad m c (cellsOf m y) (by rw [length_cellsOf, Nat.mul_one])
      (fun j u hu => by
        have hj : j < m := by have := (List.getElem?_eq_some_iff.1 hu).1; rwa [length_cellsOf] at this
        rw [get_cellsOf hj] at hu
        obtain ⟨b, off, e, hc⟩ := hb j hj
        obtain rfl : ad = ⟨b, off, none⟩ := by simpa using e
        rw [show (⟨b, off, none⟩ : Addr).add j = ⟨b, off + j, none⟩ by simp [Addr.add], hc]; exact hu)
      (one_cellsOf m y) (by unfold maxLen; omega) (by omega) hB
    exact ⟨v', w', hr, by rw [cellsOf_cat] at h1; exact h1, h2⟩
theorem grown_since {B : Nat} {w0 w w' : World} {row : Option Nat} (h : w0.Since B w) (hg : w.grownBy w' row) (hB : B ≤ w.heap.size) (hr : ∀ k, row = some k → B ≤ k) : w0.Since B w' := h.grown hg hB hr
theorem own_block {w : World} {B : Nat} {v : Value} {n : Nat} {x : Nat → Nat} (h : Own w B v n x) : ∀ k, v.ownBlock = some k → B ≤ k := fun k hk => by
  rcases h.2 with ⟨rfl, _⟩ | ⟨g, cap, cur, rfl, hb, _⟩
  · simp [Value.ownBlock] at hk
  · obtain rfl : g = k := by simpa [Value.ownBlock] using hk
    exact hb
theorem own_row {w : World} {B : Nat} {v : Value} {n : Nat} {x : Nat → Nat} (h : Own w B v n x) (hn : 0 < n) : ∃ g cap f, v = .slice (some ⟨g, 0, none⟩) n cap ∧ B ≤ g ∧ n ≤ cap ∧ w.rowIs g 5 cap f ∧ ∀ j, j < n → f j = .int .u8 (x j : Nat) := by
  rcases h.2 with ⟨rfl, h0⟩ | ⟨g, cap, cur, rfl, hb, hh, hnc, hm, hsz, htk⟩
  · omega
  · refine ⟨g, cap, fun j => cur[j]?.getD undef, rfl, hb, hnc, ⟨cur, hh, by omega, fun i hi => by show cur[i]? = some (cur[i]?.getD undef); rw [Array.getElem?_eq_getElem (by omega)]; rfl⟩, fun j hj => ?_⟩
    have h2 := congrArg (fun l : List Value => l[j]?) htk
    simp only [Nat.mul_one] at h2
    rw [List.getElem?_take_of_lt hj, get_cellsOf hj, Array.getElem?_toList] at h2
    show cur[j]?.getD undef = _
    rw [h2]; rfl

/-- append, by its run: at the operation. -/
theorem wpList_append_eq {P : Program} {w w' : World} {ops : Array Oper} {rest : List Oper} {o : Oper} {a : Act} {Q : Exit → Act → World → Prop} (hgd : o.guard = none) (s x : Operand) (t : TypeId)
    (ho : o.op = .call { callee := .builtin .append, args := #[s, x], argTypes := #[t, t] }) (v u v' : Value) (hs : a.eval s = v) (hx : a.eval x = u)
    (hrun : (Builtin.append_ #[t, t] o.type #[v, u]).run P w = .ok v' w') (h : wpList P ops Q rest (a.put o.dst v') w') : wpList P ops Q (o :: rest) a w := by
  refine wpList_plain hgd fun K hK => ?_
  unfold Oper.wp
  simp [execOp, ho, resolve, invoke, builtin, hs, hx, hrun, Result.andThen]
  exact hK _ _ h

/-- What is lent: the bytes, three marks behind them. -/
structure Lent (w : World) (g len cap : Nat) (x : Nat → Nat) (f : Nat → Value) : Prop where
  row : w.rowIs g 5 cap f
  room : len + 3 ≤ cap
  cap : cap ≤ 9223372036854775807
  byte : ∀ j, j < len → f j = .int .u8 (x j : Nat)
  k0 : f len = .int .u8 165
  k1 : f (len + 1) = .int .u8 90
  k2 : f (len + 2) = .int .u8 165

/-- Bytes as a string. -/
def strOf (n : Nat) (x : Nat → Nat) : ByteArray := strOfNums ((List.range n).map fun j => (x j : Int))
theorem str_byt (a : Option Addr) (len cap : Nat) (x : Nat → Nat) (w : World) (hb : Byt w a len x) (ha : a = none → len = 0) : (convert 29 9 (.slice a len cap)).run Try.prog w = .ok (.string (strOf len x)) w := by
  rcases Nat.eq_zero_or_pos len with rfl | hp
  · cases a with
    | none =>
      rw [run_convert_bytes_nil (P := Try.prog) w 29 5 Try.underlying29 Try.underlying5 0 cap 9 Try.underlying9]; rfl
    | some ad =>
      have hl : (loadCells ad 0).run Try.prog w = .ok (([] : List Int).map (Value.int .u8)).toArray w := by simpa using run_loadCells_list (P := Try.prog) w ad [] (by simp)
      rw [run_convert_bytes_string (P := Try.prog) w 29 9 5 _ 0 cap Try.underlying29 Try.underlying5 Try.underlying9, run_bytesToString w ad 0 cap [] hl]; rfl
  · obtain ⟨b, off, rfl, _⟩ := hb 0 hp
    exact run_convert_bytes_arg (P := Try.prog) w 29 5 Try.underlying29 Try.underlying5 b off len cap _ (by simp) (fun i hi => by
      obtain ⟨b', off', e, hc⟩ := hb i hi
      cases e
      rw [hc]; simp [List.getD, hi]) 9 Try.underlying9

theorem Lent.byt {w : World} {g len cap : Nat} {x : Nat → Nat} {f : Nat → Value} (h : Lent w g len cap x f) : Byt w (some ⟨g, 0, none⟩) len x := fun j hj =>
  ⟨g, 0, rfl, by rw [Nat.zero_add, h.row.cell (by have := h.room; omega), h.byte j hj]⟩
theorem Lent.since {w w' : World} {g len cap : Nat} {x : Nat → Nat} {f : Nat → Value} (h : Lent w g len cap x f) (hs : w.Since w.heap.size w') : Lent w' g len cap x f :=
  ⟨h.row.of_block (hs.block g h.row.lt), h.room, h.cap, h.byte, h.k0, h.k1, h.k2⟩
theorem Lent.drewN {w : World} {g len cap : Nat} {x : Nat → Nat} {f : Nat → Value} (h : Lent w g len cap x f) (n : Nat) : Lent (w.drewN n) g len cap x f := ⟨h.row, h.room, h.cap, h.byte, h.k0, h.k1, h.k2⟩

end Go.Proofs.Ytfmndfgdchhaeaa

/- Messages in memory, apart from how they are written. -/
namespace Go.Proofs.Ytfmndfgdchhaeaa
open Go.RowKit
set_option maxRecDepth 100000
set_option maxRecDepth 100000

/-- A message: its numbers and its texts, by the cell in which they lie. -/
structure Mg where
  n : Nat → Int
  s : Nat → List Nat
def mg0 : Mg := ⟨fun _ => 0, fun _ => []⟩
def Mg.setN (m : Mg) (c : Nat) (v : Int) : Mg := ⟨fun i => if i = c then v else m.n i, m.s⟩
def Mg.setS (m : Mg) (c : Nat) (l : List Nat) : Mg := ⟨m.n, fun i => if i = c then l else m.s i⟩
theorem Mg.ext' {a b : Mg} (h1 : ∀ c, a.n c = b.n c) (h2 : ∀ c, a.s c = b.s c) : a = b := by
  obtain ⟨n1, s1⟩ := a
  obtain ⟨n2, s2⟩ := b
  have e1 : n1 = n2 := funext h1
  have e2 : s1 = s2 := funext h2
  rw [e1, e2]
def strL (l : List Nat) : ByteArray := strOfNums (l.map fun v : Nat => (v : Int))
def isU (i : Nat) : Bool := i == 4 || i == 5 || i == 6 || i == 7 || i == 9 || i == 12 || i == 15 || i == 16 || i == 17
/-- The cells of a message; va, vc: where its Value lies, and its room. -/
def mgCell (m : Mg) (va : Option Addr) (vc : Nat) (i : Nat) : Value :=
  if i = 10 then .slice va (m.s 10).length vc else if i = 13 ∨ i = 14 then .string (strL (m.s i)) else if isU i = true then .int .u64 (m.n i) else .int .i64 (m.n i)
theorem mgCell_u {m : Mg} {va : Option Addr} {vc i : Nat} (h : isU i = true) : mgCell m va vc i = .int .u64 (m.n i) := by
  have h10 : i ≠ 10 := fun e => by rw [e] at h; exact absurd h (by decide)
  have h13 : ¬ (i = 13 ∨ i = 14) := fun e => by rcases e with e | e <;> (rw [e] at h; exact absurd h (by decide))
  unfold mgCell
  rw [if_neg h10, if_neg h13, if_pos h]
theorem mgCell_i {m : Mg} {va : Option Addr} {vc i : Nat} (h : isU i = false) (h10 : i ≠ 10) (h13 : i ≠ 13) (h14 : i ≠ 14) : mgCell m va vc i = .int .i64 (m.n i) := by
  unfold mgCell
  rw [if_neg h10, if_neg (by omega), if_neg (by rw [h]; decide)]
def mgNum (c : Nat) (v : Int) : Value := if isU c = true then .int .u64 v else .int .i64 v
theorem mgCell_setN (m : Mg) (va : Option Addr) (vc c : Nat) (v : Int) (h10 : c ≠ 10) (h13 : c ≠ 13) (h14 : c ≠ 14) (i : Nat) : mgCell (m.setN c v) va vc i = if i = c then mgNum c v else mgCell m va vc i := by
  by_cases e : i = c
  · subst e
    rw [if_pos rfl]
    unfold mgCell mgNum
    rw [if_neg h10, if_neg (by omega)]
    simp [Mg.setN]
  · rw [if_neg e]
    unfold mgCell
    simp [Mg.setN, e]
theorem mgCell_setS (m : Mg) (va : Option Addr) (vc c : Nat) (l : List Nat) (h : c = 13 ∨ c = 14) (i : Nat) : mgCell (m.setS c l) va vc i = if i = c then .string (strL l) else mgCell m va vc i := by
  by_cases e : i = c
  · subst e
    rw [if_pos rfl]
    unfold mgCell
    rw [if_neg (by omega), if_pos h]
    simp [Mg.setS]
  · rw [if_neg e]
    unfold mgCell
    have : (10 : Nat) ≠ c := by omega
    simp [Mg.setS, e, this]
theorem mgCell_setV (m : Mg) (va ta : Option Addr) (vc k : Nat) (l : List Nat) (i : Nat) : mgCell (m.setS 10 l) ta k i = if i = 10 then .slice ta l.length k else mgCell m va vc i := by
  by_cases e : i = 10
  · subst e
    rw [if_pos rfl]
    unfold mgCell
    simp [Mg.setS]
  · rw [if_neg e]
    unfold mgCell
    simp [Mg.setS, e]
/-- The bytes of a string. -/
def bx (s : ByteArray) (j : Nat) : Nat := (s.data.toList.getD j 0).toNat
theorem bx_lt (s : ByteArray) (j : Nat) : bx s j < 256 := (s.data.toList.getD j 0).toNat_lt
/-- Block g is what []byte(s) made: the bytes, then zeros, c in all. -/
structure FlB (w : World) (g c : Nat) (s : ByteArray) : Prop where
  blk : ∃ cs, w.heap[g]? = some (.cells cs 5 (c, c + 1)) ∧ cs.size = c ∧ (∀ j, j < s.size → cs[j]? = some (.int .u8 (bx s j : Nat))) ∧ ∀ j, j < c → ∃ q : Nat, cs[j]? = some (.int .u8 (q : Nat))
  le : s.size ≤ c
theorem FlB.on {w w' : World} {g c : Nat} {s : ByteArray} (h : FlB w g c s) (e : w'.heap[g]? = w.heap[g]?) : FlB w' g c s := by
  obtain ⟨cs, h1, h2⟩ := h.blk
  exact ⟨⟨cs, e.trans h1, h2⟩, h.le⟩
theorem FlB.lt {w : World} {g c : Nat} {s : ByteArray} (h : FlB w g c s) : g < w.heap.size := by
  obtain ⟨cs, h1, h2⟩ := h.blk
  exact (Array.getElem?_eq_some_iff.1 h1).1
theorem FlB.cell {w : World} {g c : Nat} {s : ByteArray} (h : FlB w g c s) (j : Nat) (hj : j < s.size) : w.cell? ⟨g, j, none⟩ = some (.int .u8 (bx s j : Nat)) := by
  obtain ⟨cs, h1, h2, h3, _⟩ := h.blk
  simp [World.cell?, h1, h3 j hj]
theorem FlB.byt {w : World} {g c : Nat} {s : ByteArray} (h : FlB w g c s) : Byt w (some ⟨g, 0, none⟩) s.size (bx s) := fun j hj => ⟨g, 0, rfl, by rw [Nat.zero_add]; exact h.cell j hj⟩
theorem flb_new (w : World) (s : ByteArray) : FlB (Lib.bytesWorld w 5 s) w.heap.size (grownCap w s.size 0 5) s := by
  have hc := grownCap_ge w s.size 0 5
  have hds : s.data.size = s.size := rfl
  have hsz : (Lib.bytesCells w 5 s).size = grownCap w s.size 0 5 := by
    unfold Lib.bytesCells
    rw [Array.size_append, Array.size_map, Array.size_replicate]
    omega
  refine ⟨⟨Lib.bytesCells w 5 s, ?_, hsz, fun j hj => ?_, fun j hj => ?_⟩, hc⟩
  · rw [Lib.bytesWorld_at_new, hsz]
  · unfold Lib.bytesCells bx
    rw [Array.getElem?_append_left (by rw [Array.size_map]; omega), Array.getElem?_map, Array.getElem?_eq_getElem (by omega)]
    simp only [List.getD, Array.getElem?_toList, Option.map_some]
    rw [Array.getElem?_eq_getElem (by omega)]
    rfl
  · unfold Lib.bytesCells
    by_cases h : j < s.data.size
    · rw [Array.getElem?_append_left (by rw [Array.size_map]; omega), Array.getElem?_map, Array.getElem?_eq_getElem h]
      exact ⟨s.data[j].toNat, rfl⟩
    · rw [Array.getElem?_append_right (by rw [Array.size_map]; omega), Array.getElem?_replicate, Array.size_map, if_pos (by omega)]
      exact ⟨0, rfl⟩
theorem since_bytes (w : World) (s : ByteArray) : w.Since w.heap.size (Lib.bytesWorld w 5 s) :=
  ⟨rfl, rfl, rfl, by rw [Lib.bytesWorld_size]; omega, fun k hk => Lib.bytesWorld_at_old w _ s k hk⟩
theorem strL_size (l : List Nat) : (strL l).size = l.length := by unfold strL; rw [strOfNums_size]; simp
theorem bx_strL {l : List Nat} (h : ∀ v ∈ l, v < 256) (j : Nat) : bx (strL l) j = l.getD j 0 := by
  unfold bx strL
  rw [strOfNums_data]
  by_cases hj : j < l.length
  · have hv := h l[j] (List.getElem_mem hj)
    have e : (l.map fun v : Nat => (v : Int)).map (fun n => UInt8.ofNat n.toNat) = l.map fun v => UInt8.ofNat v := by
      rw [List.map_map]
      exact List.map_congr_left fun v _ => by simp
    rw [e]
    simp only [List.getD, List.getElem?_map, List.getElem?_eq_getElem hj, Option.map_some, Option.getD_some]
    rw [UInt8.toNat_ofNat']
    omega
  · simp [List.getD, hj]
theorem strOf_strL (n : Nat) (x : Nat → Nat) : strOf n x = strL ((List.range n).map x) := by
  unfold strOf strL
  rw [List.map_map]
  rfl
theorem strL_inj {a b : List Nat} (ha : ∀ v ∈ a, v < 256) (hb : ∀ v ∈ b, v < 256) (h : strL a = strL b) : a = b := by
  have hl : a.length = b.length := by rw [← strL_size a, ← strL_size b, h]
  refine List.ext_getElem hl (fun j h1 h2 => ?_)
  have := congrArg (fun s => bx s j) h
  simp only [bx_strL ha, bx_strL hb] at this
  simpa [List.getD, h1, h2] using this
/-- The bytes of a string as a list. -/
def listS (s : ByteArray) : List Nat := s.data.toList.map (·.toNat)
theorem listS_len (s : ByteArray) : (listS s).length = s.size := by unfold listS; rw [List.length_map, Array.length_toList]; rfl
theorem listS_byte (s : ByteArray) : ∀ v ∈ listS s, v < 256 := fun v hv => by
  obtain ⟨u, _, rfl⟩ := List.mem_map.1 hv
  exact u.toNat_lt
theorem strL_listS (s : ByteArray) : strL (listS s) = s := by
  unfold strL listS strOfNums
  rw [List.map_map, List.map_map]
  have : (((fun n : Int => UInt8.ofNat n.toNat) ∘ fun v : Nat => (v : Int)) ∘ fun x : UInt8 => x.toNat) = id := by
    funext u
    simp
  rw [this]
  simp
/-- Nothing that was there has turned but block r. -/
structure But (r : Nat) (w w' : World) : Prop where
  os : w'.os = w.os
  tape : w'.tape = w.tape
  output : w'.output = w.output
  size : w.heap.size ≤ w'.heap.size
  block : ∀ k, k < w.heap.size → k ≠ r → w'.heap[k]? = w.heap[k]?
theorem But.of_since {r : Nat} {w w' : World} (h : w.Since w.heap.size w') : But r w w' := ⟨h.os, h.tape, h.output, h.size, fun k hk _ => h.block k hk⟩
theorem But.trans {r : Nat} {a b c : World} (h : But r a b) (k : But r b c) : But r a c :=
  ⟨k.os.trans h.os, k.tape.trans h.tape, k.output.trans h.output, Nat.le_trans h.size k.size, fun i hi hr => (k.block i (Nat.lt_of_lt_of_le hi h.size) hr).trans (h.block i hi hr)⟩
theorem But.setCell {r : Nat} {w w' : World} (h : But r w w') (i : Nat) (v : Value) : But r w (w'.setCell ⟨r, i, none⟩ v) :=
  ⟨h.os, h.tape, h.output, by have := h.size; simpa [World.setCell] using this, fun k hk hr => by rw [Below.heap_setCell _ _ _ _ hr]; exact h.block k hk hr⟩
theorem But.drew {r : Nat} {w w' : World} (h : But r w w') : But r w w'.drew := ⟨h.os, h.tape, h.output, h.size, h.block⟩
theorem But.since {r B : Nat} {w0 w w' : World} (h0 : w0.Since B w) (hB : B ≤ r) (hB2 : B ≤ w.heap.size) (h : But r w w') : w0.Since B w' :=
  ⟨h.os.trans h0.os, h.tape.trans h0.tape, h.output.trans h0.output, Nat.le_trans h0.size h.size, fun k hk => (h.block k (by omega) (by omega)).trans (h0.block k hk)⟩
theorem But.row {r b t n : Nat} {w w' : World} {f : Nat → Value} (h : But r w w') (hr : w.rowIs b t n f) (hb : b ≠ r) : w'.rowIs b t n f := hr.of_block (h.block b hr.lt hb)
theorem But.setNew {r : Nat} {w w' : World} (h : But r w w') {a : Addr} (ha : w.heap.size ≤ a.block) (v : Value) : But r w (w'.setCell a v) :=
  ⟨h.os, h.tape, h.output, by have := h.size; simpa [World.setCell] using this, fun k hk hr => by rw [Below.heap_setCell _ _ _ _ (by omega)]; exact h.block k hk hr⟩
theorem But.range {r : Nat} {w w' : World} (h : But r w w') {b : Nat} {cs : List Value} (hb : b ≠ r) (hl : b < w.heap.size) (hr : w.rangeAt b 0 cs) : w'.rangeAt b 0 cs := fun j v hv => by
  rw [World.cell?_of_block (a := ⟨b, 0 + j, none⟩) (h.block b hl hb)]
  exact hr j v hv
theorem But.sin {r : Nat} {w w1 w2 : World} (h : But r w w1) (k : w1.Since w1.heap.size w2) : But r w w2 := h.trans (But.of_since k)
theorem row_since {w w' : World} {b t n : Nat} {f : Nat → Value} (h : w.rowIs b t n f) (hs : w.Since w.heap.size w') : w'.rowIs b t n f := h.of_block (hs.block b h.lt)
def mgL (m : Mg) (va : Option Addr) (vc : Nat) : List Value := (List.range 22).map (mgCell m va vc)
def mgV (m : Mg) (va : Option Addr) (vc : Nat) : Value := .agg (mgL m va vc).toArray
theorem mgL_len (m : Mg) (va : Option Addr) (vc : Nat) : (mgL m va vc).length = 22 := by simp [mgL]
theorem infoMg : (Try.prog.info? 42).map (·.size) = some 22 := by kernel_rfl
theorem infoMg' (m : Mg) (va : Option Addr) (vc : Nat) : (Try.prog.info? 42).map (·.size) = some (mgL m va vc).length := by rw [mgL_len]; exact infoMg
theorem mgCell_one (m : Mg) (va : Option Addr) (vc i : Nat) : (mgCell m va vc i).oneCell' = true := by
  unfold mgCell
  split
  · rfl
  · split
    · rfl
    · split <;> rfl
theorem mgL_one (m : Mg) (va : Option Addr) (vc : Nat) : ∀ v ∈ mgL m va vc, v.oneCell' = true := fun v hv => by
  obtain ⟨i, _, rfl⟩ := List.mem_map.1 hv
  exact mgCell_one m va vc i
theorem mgL_range {w : World} {mb : Nat} {m : Mg} {va : Option Addr} {vc : Nat} (h : w.rowIs mb 42 22 (mgCell m va vc)) : w.rangeAt mb 0 (mgL m va vc) := fun j v hv => by
  have hj : j < 22 := by have := (List.getElem?_eq_some_iff.1 hv).1; rwa [mgL_len] at this
  have : v = mgCell m va vc j := by
    unfold mgL at hv
    rw [List.getElem?_map, List.getElem?_range hj] at hv
    exact (Option.some.inj hv).symm
  rw [this, Nat.zero_add]
  exact h.cell hj
theorem row_there {w : World} {b t k : Nat} {f : Nat → Value} (h : w.rowIs b t k f) : w.there b 0 k := fun j hj => ⟨by rw [Nat.zero_add, h.cell hj]; rfl, by rw [Nat.zero_add]; exact h.frozen j⟩
/-- A message of nothing. -/
def mgZ : Obj := .cells #[.int .i64 0, .int .i64 0, .int .i64 0, .int .i64 0, .int .u64 0, .int .u64 0, .int .u64 0, .int .u64 0, .int .i64 0, .int .u64 0, .slice none 0 0, .int .i64 0, .int .u64 0, .string ⟨#[]⟩, .string ⟨#[]⟩, .int .u64 0, .int .u64 0, .int .u64 0, .int .i64 0, .int .i64 0, .int .i64 0, .int .i64 0] 42
theorem mgZ_row (w : World) : (w.alloc mgZ).rowIs w.heap.size 42 22 (mgCell mg0 none 0) :=
  World.rowIs_alloc w _ _ _ (fun i hi => by
    have hi' : i < 22 := hi
    have : ∀ j : Fin 22, (#[Value.int .i64 0, .int .i64 0, .int .i64 0, .int .i64 0, .int .u64 0, .int .u64 0, .int .u64 0, .int .u64 0, .int .i64 0, .int .u64 0, .slice none 0 0, .int .i64 0, .int .u64 0, .string ⟨#[]⟩, .string ⟨#[]⟩, .int .u64 0, .int .u64 0, .int .u64 0, .int .i64 0, .int .i64 0, .int .i64 0, .int .i64 0] : Array Value)[j.val]? = some (mgCell mg0 none 0 j.val) := by
      intro j
      match j with
      | ⟨0, _⟩ => rfl
      | ⟨1, _⟩ => rfl
      | ⟨2, _⟩ => rfl
      | ⟨3, _⟩ => rfl
      | ⟨4, _⟩ => rfl
      | ⟨5, _⟩ => rfl
      | ⟨6, _⟩ => rfl
      | ⟨7, _⟩ => rfl
      | ⟨8, _⟩ => rfl
      | ⟨9, _⟩ => rfl
      | ⟨10, _⟩ => rfl
      | ⟨11, _⟩ => rfl
      | ⟨12, _⟩ => rfl
      | ⟨13, _⟩ => rfl
      | ⟨14, _⟩ => rfl
      | ⟨15, _⟩ => rfl
      | ⟨16, _⟩ => rfl
      | ⟨17, _⟩ => rfl
      | ⟨18, _⟩ => rfl
      | ⟨19, _⟩ => rfl
      | ⟨20, _⟩ => rfl
      | ⟨21, _⟩ => rfl
      | ⟨n + 22, h⟩ => exact absurd h (by omega)
    exact this ⟨i, hi'⟩)
theorem op_run {P : Program} {o : Oper} {a : Act} {w : World} {K : Act → World → Prop} {Q : Exit → Act → World → Prop} (v : Value) (hrun : (execOp a.eval o).run P w = .ok (.value v) w) (h : K (a.put o.dst v) w) : Oper.wp P o a w K Q := by
  unfold Oper.wp
  rw [hrun]
  exact h
theorem op_runW {P : Program} {o : Oper} {a : Act} {w w' : World} {K : Act → World → Prop} {Q : Exit → Act → World → Prop} (v : Value) (hrun : (execOp a.eval o).run P w = .ok (.value v) w') (h : K (a.put o.dst v) w') : Oper.wp P o a w K Q := by
  unfold Oper.wp
  rw [hrun]
  exact h
theorem mgV_zero : mgV mg0 none 0 = .agg #[.int .i64 0, .int .i64 0, .int .i64 0, .int .i64 0, .int .u64 0, .int .u64 0, .int .u64 0, .int .u64 0, .int .i64 0, .int .u64 0, .slice none 0 0, .int .i64 0, .int .u64 0, .string ⟨#[]⟩, .string ⟨#[]⟩, .int .u64 0, .int .u64 0, .int .u64 0, .int .i64 0, .int .i64 0, .int .i64 0, .int .i64 0] := rfl
theorem mg_all (m : Mg) (va : Option Addr) (vc : Nat) : (mgL m va vc).toArray.all (·.oneCell') = true := all_oneCell_toArray (mgL_one m va vc)
theorem infoMgA (m : Mg) (va : Option Addr) (vc : Nat) : (Try.prog.info? 42).map (·.size) = some (mgL m va vc).toArray.size := by rw [List.size_toArray]; exact infoMg' m va vc
theorem row_heap {w : World} {b : Nat} {t : TypeId} {n : Nat} {f : Nat → Value} (h : w.rowIs b t n f) : w.heap[b]? = some (.cells ((List.range n).map f).toArray t (0, 0)) := by
  obtain ⟨c, h1, h2, h3⟩ := h
  have : c = ((List.range n).map f).toArray := by
    refine Array.ext (by simp [h2]) (fun i i1 i2 => ?_)
    have := h3 i (by omega)
    rw [Array.getElem?_eq_getElem i1] at this
    rw [Option.some.inj this]
    simp
  rw [h1, this]
/-- A message stored whole. -/
theorem mg_stored {W : World} {qb : Nat} {f : Nat → Value} (h : W.rowIs qb 42 22 f) (m : Mg) (va : Option Addr) (vc : Nat) : ∃ W1, Hid (W.setCells qb 0 (mgL m va vc) = W1) ∧ W1.rowIs qb 42 22 (mgCell m va vc) ∧ W1.heap[qb]? = some (.cells (mgL m va vc).toArray 42 (0, 0)) ∧ W1.heap.size = W.heap.size ∧ (∀ k, k ≠ qb → W1.heap[k]? = W.heap[k]?) ∧ W1.os = W.os ∧ W1.tape = W.tape ∧ W1.output = W.output := by
  have hr := rowIs_setCells (mgL m va vc) 0 W f h
  have hr2 : (W.setCells qb 0 (mgL m va vc)).rowIs qb 42 22 (mgCell m va vc) := hr.congr (fun j hj => by
    rw [if_pos ⟨Nat.zero_le _, by rw [mgL_len]; omega⟩, Nat.sub_zero]
    simp [mgL, List.getD, hj])
  have hk : ∀ (vs : List Value) (o : Nat) (W : World), (∀ k, k ≠ qb → (W.setCells qb o vs).heap[k]? = W.heap[k]?) ∧ (W.setCells qb o vs).os = W.os ∧ (W.setCells qb o vs).tape = W.tape ∧ (W.setCells qb o vs).output = W.output := by
    intro vs
    induction vs with
    | nil => intro o W; exact ⟨fun _ _ => rfl, rfl, rfl, rfl⟩
    | cons v r ih =>
      intro o W
      obtain ⟨i1, i2, i3, i4⟩ := ih (o + 1) (W.setCell ⟨qb, o, none⟩ v)
      exact ⟨fun k hk => (i1 k hk).trans (Below.heap_setCell _ _ _ _ hk), i2, i3, i4⟩
  obtain ⟨h1, h2, h3, h4⟩ := hk (mgL m va vc) 0 W
  exact ⟨_, rfl, hr2, row_heap hr2, size_setCells _ _ _ _, h1, h2, h3, h4⟩
theorem step_callW {P : Program} {ops : Array Oper} {o : Oper} {a : Act} {w : World} {K : Act → World → Prop} {Q : Exit → Act → World → Prop} {E : Prop} (hw : Region.wanted o (yielded ops a.tmps) = true) (f : FuncId) (args : Array Value) (hrun : (execOp a.eval o).run P w = .ok (.enter f args) w) {Post : Ending → World → Prop} (hc : Calls P f args w Post)
    (h : ∀ e w', Post e w' → ∃ v, e = .returned v ∧ K (a.put o.dst v) w') : if Region.wanted o (yielded ops a.tmps) = true then Oper.wp P o a w K Q else E := by
  rw [if_pos hw]
  unfold Oper.wp
  rw [hrun, Oper.upon_enter]
  refine hc.mono fun e w'' hh => ?_
  obtain ⟨v, rfl, hk⟩ := h e w'' hh
  exact hk
theorem step_storeM {P : Program} {ops : Array Oper} {o : Oper} {a : Act} {w : World} {K : Act → World → Prop} {Q : Exit → Act → World → Prop} {E : Prop} (hw : Region.wanted o (yielded ops a.tmps) = true) (h : Oper.wp P o a w K Q) : if Region.wanted o (yielded ops a.tmps) = true then Oper.wp P o a w K Q else E := by
  rw [if_pos hw]
  exact h
/-- A message that is handed in: its Value lies in memory. -/
structure MgA (w : World) (m : Mg) (va : Option Addr) (vc : Nat) : Prop where
  val : Byt w va (m.s 10).length (fun j => (m.s 10).getD j 0)
  nil : va = none → (m.s 10).length = 0 ∧ vc = 0
  lt : ∀ q, va = some q → 0 < (m.s 10).length → q.block < w.heap.size
  len : ∀ c, (m.s c).length ≤ 140737488351232
  byte : ∀ c, ∀ v ∈ m.s c, v < 256
theorem MgA.since {w w' : World} {m : Mg} {va : Option Addr} {vc : Nat} (h : MgA w m va vc) (hs : w.Since w.heap.size w') : MgA w' m va vc :=
  ⟨h.val.since hs, h.nil, fun q e h0 => Nat.lt_of_lt_of_le (h.lt q e h0) hs.size, h.len, h.byte⟩
theorem mg_row (w : World) (m : Mg) (va : Option Addr) (vc : Nat) : (w.alloc (.cells (mgL m va vc).toArray 42)).rowIs w.heap.size 42 22 (mgCell m va vc) := by
  have := World.rowIs_alloc w (mgL m va vc).toArray 42 (mgCell m va vc) (fun i hi => by
    have hi : i < 22 := by rw [List.size_toArray, mgL_len] at hi; exact hi
    rw [List.getElem?_toArray]
    unfold mgL
    rw [List.getElem?_map, List.getElem?_range hi]
    rfl)
  have e : (mgL m va vc).toArray.size = 22 := by rw [List.size_toArray, mgL_len]
  rw [e] at this
  exact this
theorem getD_byte {l : List Nat} (h : ∀ v ∈ l, v < 256) (j : Nat) : l.getD j 0 < 256 := by
  by_cases hj : j < l.length
  · have := h l[j] (List.getElem_mem hj)
    simpa [List.getD, hj] using this
  · simp [List.getD, hj]
theorem row_setN {W : World} {kb : Nat} {m : Mg} {va : Option Addr} {vc : Nat} (h : W.rowIs kb 42 22 (mgCell m va vc)) (c : Nat) (v : Int) (h10 : c ≠ 10) (h13 : c ≠ 13) (h14 : c ≠ 14) : (W.setCell ⟨kb, c, none⟩ (mgNum c v)).rowIs kb 42 22 (mgCell (m.setN c v) va vc) :=
  (h.set c _).congr (fun i _ => (mgCell_setN m va vc c v h10 h13 h14 i).symm)
theorem row_setS {W : World} {kb : Nat} {m : Mg} {va : Option Addr} {vc : Nat} (h : W.rowIs kb 42 22 (mgCell m va vc)) (c : Nat) (l : List Nat) (hc : c = 13 ∨ c = 14) : (W.setCell ⟨kb, c, none⟩ (.string (strL l))).rowIs kb 42 22 (mgCell (m.setS c l) va vc) :=
  (h.set c _).congr (fun i _ => (mgCell_setS m va vc c l hc i).symm)
theorem row_setV {W : World} {kb : Nat} {m : Mg} {va : Option Addr} {vc : Nat} (h : W.rowIs kb 42 22 (mgCell m va vc)) (l : List Nat) (ta : Option Addr) (k : Nat) : (W.setCell ⟨kb, 10, none⟩ (.slice ta l.length k)).rowIs kb 42 22 (mgCell (m.setS 10 l) ta k) :=
  (h.set 10 _).congr (fun i _ => (mgCell_setV m va ta vc k l i).symm)
theorem range_getD (l : List Nat) : (List.range l.length).map (fun j => l.getD j 0) = l := by
  apply List.ext_getElem?
  intro j
  by_cases h : j < l.length
  · simp [h]
  · simp [h]
theorem cell_later {w w' : World} {b i : Nat} {v : Value} (hs : w.Since w.heap.size w') (h : w.cell? ⟨b, i, none⟩ = some v) : w'.cell? ⟨b, i, none⟩ = some v := by
  rw [World.cell?_of_block (a := ⟨b, i, none⟩) (hs.block _ (World.block_lt_of_cell? _ _ h))]; exact h
theorem wpList_load_rowG {P : Program} {ops : Array Oper} {rest : List Oper} {o : Oper} {a : Act} {w : World} {Q : Exit → Act → World → Prop} (hw : Region.wanted o (yielded ops a.tmps) = true) (ty : TypeId) (x : Operand) (ho : o.op = .load ty x)
    (g : Nat) (hx : a.eval x = .pointer (some ⟨g, 0, none⟩)) (t : TypeId) (cs : Array Value) (fr : Nat × Nat) (d : TypeDesc) (hg : w.heap[g]? = some (.cells cs t fr))
    (hu : P.underlying ty = some d) (hd : (match d with | .struct _ | .array _ _ => true | _ => false) = true) (hi : (P.info? ty).map (·.size) = some cs.size)
    (h : wpList P ops Q rest (a.put o.dst (.agg cs)) w) : wpList P ops Q (o :: rest) a w :=
  wpList_step fun _ hK => by
    rw [if_pos hw]
    exact wp_load_row ty x ho g hx t cs fr d hg hu hd hi (hK _ _ h)
/-- A message is laid into new memory. -/
theorem mg_put (w : World) (m : Mg) (va : Option Addr) (vc : Nat) : ∃ (W : World) (MA : Array Value), Hid (mgV m va vc = .agg MA) ∧ Hid ((w.alloc (.cells #[.int .i64 0, .int .i64 0, .int .i64 0, .int .i64 0, .int .u64 0, .int .u64 0, .int .u64 0, .int .u64 0, .int .i64 0, .int .u64 0, .slice none 0 0, .int .i64 0, .int .u64 0, .string ⟨#[]⟩, .string ⟨#[]⟩, .int .u64 0, .int .u64 0, .int .u64 0, .int .i64 0, .int .i64 0, .int .i64 0, .int .i64 0] 42)).there w.heap.size 0 MA.size) ∧ Hid ((w.alloc (.cells #[.int .i64 0, .int .i64 0, .int .i64 0, .int .i64 0, .int .u64 0, .int .u64 0, .int .u64 0, .int .u64 0, .int .i64 0, .int .u64 0, .slice none 0 0, .int .i64 0, .int .u64 0, .string ⟨#[]⟩, .string ⟨#[]⟩, .int .u64 0, .int .u64 0, .int .u64 0, .int .i64 0, .int .i64 0, .int .i64 0, .int .i64 0] 42)).setCells w.heap.size 0 MA.toList = W) ∧ Hid ((Try.prog.info? 42).map (·.size) = some MA.size) ∧ Hid (MA.all (·.oneCell') = true) ∧ Hid (∀ W', W.Since W.heap.size W' → W'.heap[w.heap.size]? = some (.cells MA 42 (0, 0))) ∧ Hid (w.Since w.heap.size W) := by
  have r6 : (w.alloc mgZ).rowIs w.heap.size 42 22 (mgCell mg0 none 0) := mgZ_row w
  obtain ⟨W, HW, r7, h7, z7, b7, o7, t7, p7⟩ := mg_stored r6 m va vc
  have s6 : w.Since w.heap.size (w.alloc mgZ) := (World.Since.refl _ _).alloc (Nat.le_refl _) _
  have hms : (mgL m va vc).toArray.size = 22 := by rw [List.size_toArray, mgL_len]
  refine ⟨W, (mgL m va vc).toArray, rfl, ?_, HW, infoMgA _ _ _, mg_all _ _ _, fun W' hW => ?_, o7.trans s6.os, t7.trans s6.tape, p7.trans s6.output, by rw [z7]; exact s6.size, fun k hk => (b7 k (by omega)).trans (s6.block k hk)⟩
  · show World.there _ _ _ _
    rw [hms]
    exact row_there r6
  · rw [hW.block w.heap.size (by rw [z7]; exact r6.lt)]
    exact h7
end Go.Proofs.Ytfmndfgdchhaeaa

/- Package replica: a copy in memory, its small calls. -/
namespace Go.Proofs.Ytfmndfgdchhaeaa
open Go.RowKit
set_option maxRecDepth 100000
set_option maxRecDepth 100000

/-- A copy: what is promised, the tag, the value, the wait. -/
structure Rp where
  p : Nat
  te : Nat
  ts : Nat
  v : List Nat
  wt : Int
def rpCell (r : Rp) (i : Nat) : Value := if i = 0 then .int .u64 (r.p : Nat) else if i = 1 then .int .u64 (r.te : Nat) else if i = 2 then .int .u64 (r.ts : Nat) else if i = 3 then .string (strL r.v) else .int .i64 r.wt
structure Rp.ok (r : Rp) : Prop where
  p : r.p < 18446744073709551616
  te : r.te < 18446744073709551616
  ts : r.ts < 18446744073709551616
  len : r.v.length ≤ 140737488351232
  byte : ∀ x ∈ r.v, x < 256
  w0 : 0 ≤ r.wt
  w1 : r.wt ≤ 9223372036854775807
structure RpIs (w : World) (rb : Nat) (r : Rp) : Prop where
  row : w.rowIs rb 60 5 (rpCell r)
  ok : r.ok
section
variable {w w' : World} {rb : Nat} {r : Rp}
theorem RpIs.c0 (h : RpIs w rb r) : w.cell? ⟨rb, 0, none⟩ = some (.int .u64 (r.p : Nat)) := h.row.cell (i := 0) (by decide)
theorem RpIs.c1 (h : RpIs w rb r) : w.cell? ⟨rb, 1, none⟩ = some (.int .u64 (r.te : Nat)) := h.row.cell (i := 1) (by decide)
theorem RpIs.c2 (h : RpIs w rb r) : w.cell? ⟨rb, 2, none⟩ = some (.int .u64 (r.ts : Nat)) := h.row.cell (i := 2) (by decide)
theorem RpIs.c3 (h : RpIs w rb r) : w.cell? ⟨rb, 3, none⟩ = some (.string (strL r.v)) := h.row.cell (i := 3) (by decide)
theorem RpIs.c4 (h : RpIs w rb r) : w.cell? ⟨rb, 4, none⟩ = some (.int .i64 r.wt) := h.row.cell (i := 4) (by decide)
theorem RpIs.on (h : RpIs w rb r) (e : w'.heap[rb]? = w.heap[rb]?) : RpIs w' rb r := ⟨h.row.of_block e, h.ok⟩
theorem RpIs.lt (h : RpIs w rb r) : rb < w.heap.size := h.row.lt
theorem RpIs.since (h : RpIs w rb r) (hs : w.Since w.heap.size w') : RpIs w' rb r := h.on (hs.block _ h.lt)
theorem RpIs.but {b : Nat} (h : RpIs w rb r) (hb : But b w w') (hne : rb ≠ b) : RpIs w' rb r := h.on (hb.block _ h.lt hne)
theorem RpIs.setW (h : RpIs w rb r) (x : Int) (h0 : 0 ≤ x) (h1 : x ≤ 9223372036854775807) : RpIs (w.setCell ⟨rb, 4, none⟩ (.int .i64 x)) rb { r with wt := x } :=
  ⟨(h.row.set 4 _).congr (fun i hi => by
    have hi' : i < 5 := hi
    match i, hi' with
    | 0, _ => rfl
    | 1, _ => rfl
    | 2, _ => rfl
    | 3, _ => rfl
    | 4, _ => rfl), ⟨h.ok.p, h.ok.te, h.ok.ts, h.ok.len, h.ok.byte, h0, h1⟩⟩
theorem RpIs.setP (h : RpIs w rb r) (x : Nat) (h0 : x < 18446744073709551616) : RpIs (w.setCell ⟨rb, 0, none⟩ (.int .u64 (x : Nat))) rb { r with p := x } :=
  ⟨(h.row.set 0 _).congr (fun i hi => by
    have hi' : i < 5 := hi
    match i, hi' with
    | 0, _ => rfl
    | 1, _ => rfl
    | 2, _ => rfl
    | 3, _ => rfl
    | 4, _ => rfl), ⟨h0, h.ok.te, h.ok.ts, h.ok.len, h.ok.byte, h.ok.w0, h.ok.w1⟩⟩
theorem RpIs.setT (h : RpIs w rb r) (x y : Nat) (l : List Nat) (h0 : x < 18446744073709551616) (h1 : y < 18446744073709551616) (h2 : l.length ≤ 140737488351232) (h3 : ∀ q ∈ l, q < 256) : RpIs (((w.setCell ⟨rb, 1, none⟩ (.int .u64 (x : Nat))).setCell ⟨rb, 2, none⟩ (.int .u64 (y : Nat))).setCell ⟨rb, 3, none⟩ (.string (strL l))) rb { r with te := x, ts := y, v := l } :=
  ⟨(((h.row.set 1 _).set 2 _).set 3 _).congr (fun i hi => by
    have hi' : i < 5 := hi
    match i, hi' with
    | 0, _ => rfl
    | 1, _ => rfl
    | 2, _ => rfl
    | 3, _ => rfl
    | 4, _ => rfl), ⟨h.ok.p, h0, h1, h2, h3, h.ok.w0, h.ok.w1⟩⟩
end
/-- The wait that a span makes. -/
def wtM (s : Int) : Int := max 0 s
theorem keepOut_any {rb : Nat} {r : Rp} {w : World} (h : RpIs w rb r) (s : Int) (hs : s ≤ 9223372036854775807) :
    Calls Try.prog 21 #[.pointer (some ⟨rb, 0, none⟩), .int .i64 s] w fun e w' => e = .returned (.tuple #[]) ∧ RpIs w' rb { r with wt := wtM s } ∧ But rb w w' := by
  have c4 := h.c4
  have f4 := h.row.frozen 4
  have hE : Hid (∀ x, x = wtM s → RpIs (w.setCell ⟨rb, 4, none⟩ (.int .i64 x)) rb { r with wt := wtM s } ∧ But rb w (w.setCell ⟨rb, 4, none⟩ (.int .i64 x))) := fun x hx => by
    subst hx
    exact ⟨h.setW _ (by unfold wtM; omega) (by unfold wtM; omega), (But.of_since (World.Since.refl _ _)).setCell 4 _⟩
  clear h
  by_cases h0 : 0 < s
  · go_enter Try.func21, Try.ntmps21
    go_wp2_with fail
    go_end0
    exact ⟨rfl, hE.out _ (by unfold wtM; omega)⟩
  · go_enter Try.func21, Try.ntmps21
    go_wp2_with fail
    go_end0
    exact ⟨rfl, hE.out _ (by unfold wtM; omega)⟩
theorem promise_any {rb : Nat} {r : Rp} {w : World} (h : RpIs w rb r) (E : Nat) (hE : E < 18446744073709551616) :
    Calls Try.prog 27 #[.pointer (some ⟨rb, 0, none⟩), .int .u64 (E : Nat)] w fun e w' => e = .returned (.bool (decide (r.p ≠ E))) ∧ RpIs w' rb { r with p := E } ∧ But rb w w' := by
  have c0 := h.c0
  have f0 := h.row.frozen 0
  have hE2 : Hid (RpIs (w.setCell ⟨rb, 0, none⟩ (.int .u64 (E : Nat))) rb { r with p := E } ∧ But rb w (w.setCell ⟨rb, 0, none⟩ (.int .u64 (E : Nat)))) := ⟨h.setP E hE, (But.of_since (World.Since.refl _ _)).setCell 0 _⟩
  by_cases hp : r.p = E
  · have hq : ((r.p : Int) != (E : Int)) = false := by simp [hp]
    rw [decide_eq_false (fun e => e hp)]
    clear h hp
    generalize r.p = P at *
    go_enter Try.func27, Try.ntmps27
    go_wp2_with fail
    go_ret
    exact ⟨rfl, hE2.out⟩
  · have hq : ((r.p : Int) != (E : Int)) = true := bne_iff_ne.2 (by omega)
    rw [decide_eq_true hp]
    clear h hp
    generalize r.p = P at *
    go_enter Try.func27, Try.ntmps27
    go_wp2_with fail
    go_ret
    exact ⟨rfl, hE2.out⟩
theorem wait_any {rb : Nat} {r : Rp} {w : World} (h : RpIs w rb r) : Calls Try.prog 20 #[.pointer (some ⟨rb, 0, none⟩)] w fun e w' => e = .returned (.int .i64 r.wt) ∧ w' = w := by
  have c4 := h.c4
  clear h
  go_enter Try.func20, Try.ntmps20
  go_wp2_with fail
  go_ret
  exact ⟨rfl, rfl⟩
theorem tick_any {rb : Nat} {r : Rp} {w : World} (h : RpIs w rb r) :
    Calls Try.prog 6 #[.pointer (some ⟨rb, 0, none⟩)] w fun e w' => e = .returned (.tuple #[]) ∧ RpIs w' rb { r with wt := wtM (r.wt - 1) } ∧ But rb w w' := by
  have c4 := h.c4
  have f4 := h.row.frozen 4
  have h0 := h.ok.w0
  have h1 := h.ok.w1
  have hE : Hid (∀ x, x = wtM (r.wt - 1) → RpIs (w.setCell ⟨rb, 4, none⟩ (.int .i64 x)) rb { r with wt := wtM (r.wt - 1) } ∧ But rb w (w.setCell ⟨rb, 4, none⟩ (.int .i64 x))) := fun x hx => by
    subst hx
    exact ⟨h.setW _ (by unfold wtM; omega) (by unfold wtM; omega), (But.of_since (World.Since.refl _ _)).setCell 4 _⟩
  have hw : IntKind.i64.wrap (r.wt - 1) = r.wt - 1 := by rw [IntKind.wrap_i64]; omega
  clear h
  generalize r.wt = T at *
  by_cases h2 : 0 < T - 1
  · go_enter Try.func6, Try.ntmps6
    go_wp2_with fail
    go_end0
    exact ⟨rfl, hE.out _ (by unfold wtM; omega)⟩
  · go_enter Try.func6, Try.ntmps6
    go_wp2_with fail
    go_end0
    exact ⟨rfl, hE.out _ (by unfold wtM; omega)⟩
end Go.Proofs.Ytfmndfgdchhaeaa

/- Package replica: Load, Own, Stored. -/
namespace Go.Proofs.Ytfmndfgdchhaeaa
open Go.RowKit
set_option maxRecDepth 100000
set_option maxRecDepth 100000

theorem rp_row (w : World) (p te ts : Nat) (l : List Nat) : (w.alloc (.cells #[.int .u64 (p : Nat), .int .u64 (te : Nat), .int .u64 (ts : Nat), .string (strL l), .int .i64 0] 60)).rowIs w.heap.size 60 5 (rpCell ⟨p, te, ts, l, 0⟩) :=
  World.rowIs_alloc w _ _ _ (fun i hi => by
    have hi' : i < 5 := hi
    match i, hi' with
    | 0, _ => rfl
    | 1, _ => rfl
    | 2, _ => rfl
    | 3, _ => rfl
    | 4, _ => rfl)
set_option maxHeartbeats 2000000 in
/-- Load. -/
theorem load_any (p te ts : Nat) (va : Option Addr) (n c : Nat) (x : Nat → Nat) (span : Int) (w : World) (hp : p < 18446744073709551616) (hte : te < 18446744073709551616) (hts : ts < 18446744073709551616) (hb : Byt w va n x) (hx : ∀ j, x j < 256) (hnil : va = none → n = 0) (hn : n ≤ 140737488351232) (hs : span ≤ 9223372036854775807) :
    Calls Try.prog 14 #[.agg #[.int .u64 (p : Nat), .int .u64 (te : Nat), .int .u64 (ts : Nat), .slice va n c], .int .i64 span] w fun e w' => ∃ rb, e = .returned (.pointer (some ⟨rb, 0, none⟩)) ∧ w.heap.size ≤ rb ∧ RpIs w' rb ⟨p, te, ts, (List.range n).map x, wtM span⟩ ∧ w.Since w.heap.size w' := by
  obtain ⟨W1, HW1⟩ : ∃ W, Hid (w.alloc (.cells #[.int .u64 (p : Nat), .int .u64 (te : Nat), .int .u64 (ts : Nat), .slice va n c] 44) = W) := ⟨_, rfl⟩
  have s1 : w.Since w.heap.size W1 := by rw [← HW1.out]; exact (World.Since.refl _ _).alloc (Nat.le_refl _) _
  have z1 : W1.heap.size = w.heap.size + 1 := by rw [← HW1.out]; simp
  have hr1 : W1.rowIs w.heap.size 44 4 (fun i => if i = 0 then .int .u64 (p : Nat) else if i = 1 then .int .u64 (te : Nat) else if i = 2 then .int .u64 (ts : Nat) else .slice va n c) := by
    rw [← HW1.out]
    exact World.rowIs_alloc w _ _ _ (fun i hi => by
      have hi' : i < 4 := hi
      match i, hi' with
      | 0, _ => rfl
      | 1, _ => rfl
      | 2, _ => rfl
      | 3, _ => rfl)
  have c0 : W1.cell? ⟨w.heap.size, 0, none⟩ = some (.int .u64 (p : Nat)) := hr1.cell (i := 0) (by decide)
  have c1 : W1.cell? ⟨w.heap.size, 1, none⟩ = some (.int .u64 (te : Nat)) := hr1.cell (i := 1) (by decide)
  have c2 : W1.cell? ⟨w.heap.size, 2, none⟩ = some (.int .u64 (ts : Nat)) := hr1.cell (i := 2) (by decide)
  have c3 : W1.cell? ⟨w.heap.size, 3, none⟩ = some (.slice va n c) := hr1.cell (i := 3) (by decide)
  have hcv := str_byt va n c x W1 (hb.since s1) hnil
  rw [strOf_strL] at hcv
  obtain ⟨W2, HW2⟩ : ∃ W, Hid (W1.alloc (.cells #[.int .u64 (p : Nat), .int .u64 (te : Nat), .int .u64 (ts : Nat), .string (strL ((List.range n).map x)), .int .i64 0] 60) = W) := ⟨_, rfl⟩
  have s2 : W1.Since W1.heap.size W2 := by rw [← HW2.out]; exact (World.Since.refl _ _).alloc (Nat.le_refl _) _
  have hR2 : RpIs W2 W1.heap.size ⟨p, te, ts, (List.range n).map x, 0⟩ := ⟨by rw [← HW2.out]; exact rp_row W1 p te ts _, ⟨hp, hte, hts, by simpa using hn, fun q hq => by
    obtain ⟨j, _, rfl⟩ := List.mem_map.1 hq
    exact hx j, Int.le_refl 0, by show (0 : Int) ≤ _; decide⟩⟩
  have sw2 : w.Since w.heap.size W2 := s1.trans (since_mono s2 s1.size)
  have HK : Hid (Calls Try.prog 21 #[.pointer (some ⟨W1.heap.size, 0, none⟩), .int .i64 span] W2 fun e w' => e = .returned (.tuple #[]) ∧ Hid (w.heap.size ≤ W1.heap.size ∧ RpIs w' W1.heap.size ⟨p, te, ts, (List.range n).map x, wtM span⟩ ∧ w.Since w.heap.size w')) := (keepOut_any hR2 span hs).mono fun e w' ⟨he, h1, h2⟩ => ⟨he, s1.size, h1, h2.since sw2 s1.size sw2.size⟩
  rw [z1] at HK
  generalize strL ((List.range n).map x) = SS at *
  clear hb hx hr1 hR2 sw2 s1 s2
  go_enter Try.func14, Try.ntmps14
  go_upto_region 1 with fail
  rw [HW1.out]
  go_upto_region 2 with fail
  try rw [z1]
  rw [HW2.out]
  try rw [z1]
  go_wp2_with fail
  refine HK.out.mono ?_
  rintro e w3 ⟨rfl, HE⟩
  go_wp2_with fail
  go_ret
  exact ⟨_, rfl, HE.out⟩
end Go.Proofs.Ytfmndfgdchhaeaa

/- Package replica: Stored. -/
namespace Go.Proofs.Ytfmndfgdchhaeaa
open Go.RowKit
set_option maxRecDepth 100000
set_option maxRecDepth 100000

/-- Cells of a whole row, stored. -/
theorem cells_stored {W : World} {qb t n : Nat} {f : Nat → Value} (h : W.rowIs qb t n f) (vs : List Value) (hl : vs.length = n) : ∃ W1, Hid (W.setCells qb 0 vs = W1) ∧ W1.heap[qb]? = some (.cells vs.toArray t (0, 0)) ∧ W1.heap.size = W.heap.size ∧ (∀ k, k ≠ qb → W1.heap[k]? = W.heap[k]?) ∧ W1.os = W.os ∧ W1.tape = W.tape ∧ W1.output = W.output := by
  have hr := rowIs_setCells vs 0 W f h
  have hr2 : (W.setCells qb 0 vs).rowIs qb t n (fun j => vs.getD j undef) := hr.congr (fun j hj => by
    rw [if_pos ⟨Nat.zero_le _, by omega⟩, Nat.sub_zero])
  have hk : ∀ (vs : List Value) (o : Nat) (W : World), (∀ k, k ≠ qb → (W.setCells qb o vs).heap[k]? = W.heap[k]?) ∧ (W.setCells qb o vs).os = W.os ∧ (W.setCells qb o vs).tape = W.tape ∧ (W.setCells qb o vs).output = W.output := by
    intro vs
    induction vs with
    | nil => intro o W; exact ⟨fun _ _ => rfl, rfl, rfl, rfl⟩
    | cons v r ih =>
      intro o W
      obtain ⟨i1, i2, i3, i4⟩ := ih (o + 1) (W.setCell ⟨qb, o, none⟩ v)
      exact ⟨fun k hk => (i1 k hk).trans (Below.heap_setCell _ _ _ _ hk), i2, i3, i4⟩
  obtain ⟨h1, h2, h3, h4⟩ := hk vs 0 W
  refine ⟨_, rfl, ?_, size_setCells _ _ _ _, h1, h2, h3, h4⟩
  rw [row_heap hr2]
  have e : (List.range n).map (fun j => vs.getD j undef) = vs := by
    refine List.ext_getElem (by simp [hl]) (fun j j1 j2 => ?_)
    simp [List.getD, j2]
  rw [e]
theorem infoSt : (Try.prog.info? 44).map (·.size) = some 4 := by kernel_rfl
/-- What Stored answers. -/
def stV (r : Rp) (g c : Nat) : Value := .agg #[.int .u64 (r.p : Nat), .int .u64 (r.te : Nat), .int .u64 (r.ts : Nat), .slice (some ⟨g, 0, none⟩) r.v.length c]
set_option maxHeartbeats 4000000 in
theorem stored_any {rb : Nat} {r : Rp} {w : World} (h : RpIs w rb r) :
    Calls Try.prog 18 #[.pointer (some ⟨rb, 0, none⟩)] w fun e w' => ∃ g c, e = .returned (stV r g c) ∧ w.heap.size ≤ g ∧ r.v.length ≤ c ∧ Byt w' (some ⟨g, 0, none⟩) r.v.length (fun j => r.v.getD j 0) ∧ w.Since w.heap.size w' := by
  obtain ⟨W0, HW0⟩ : ∃ W, Hid (w.alloc (.cells #[.int .u64 0, .int .u64 0, .int .u64 0, .slice none 0 0] 44) = W) := ⟨_, rfl⟩
  have s0 : w.Since w.heap.size W0 := by rw [← HW0.out]; exact (World.Since.refl _ _).alloc (Nat.le_refl _) _
  have z0 : W0.heap.size = w.heap.size + 1 := by rw [← HW0.out]; simp
  have hr0 : W0.rowIs w.heap.size 44 4 (fun i => if i = 3 then .slice none 0 0 else .int .u64 0) := by
    rw [← HW0.out]
    exact World.rowIs_alloc w _ _ _ (fun i hi => by
      have hi' : i < 4 := hi
      match i, hi' with
      | 0, _ => rfl
      | 1, _ => rfl
      | 2, _ => rfl
      | 3, _ => rfl)
  have hd : W0.Since W0.heap.size W0.drew := (World.Since.refl _ _).drew
  have h0 : RpIs W0.drew rb r := (h.since s0).since hd
  have hcv := Lib.run_convert_string_bytes (P := Try.prog) W0.drew 9 29 5 (strL r.v) Try.underlying9 Try.underlying29 Try.underlying5
  have hF := flb_new W0.drew (strL r.v)
  have hs2 := since_bytes W0.drew (strL r.v)
  have hzd : W0.drew.heap.size = W0.heap.size := rfl
  rw [hzd] at hcv hF hs2
  generalize grownCap W0.drew (strL r.v).size 0 5 = C at *
  generalize Lib.bytesWorld W0.drew 5 (strL r.v) = W2 at *
  have hs02 : W0.Since W0.heap.size W2 := hd.trans hs2
  have hr2 := row_since hr0 hs02
  have hR2 : RpIs W2 rb r := (h.since s0).since hs02
  have hlen : (strL r.v).size = r.v.length := strL_size r.v
  have hbx : ∀ j, bx (strL r.v) j = r.v.getD j 0 := fun j => bx_strL h.ok.byte j
  have hne : rb ≠ w.heap.size := fun e => by have := h.lt; omega
  have hc := h.ok
  obtain ⟨P, TE, TS, V, WT⟩ := r
  rw [hlen] at hcv
  have hR2 : RpIs W2 rb ⟨P, TE, TS, V, WT⟩ := hR2
  have hcv : (convert 9 29 (.string (strL V))).run Try.prog W0.drew = .ok (.slice (some ⟨W0.heap.size, 0, none⟩) V.length C) W2 := hcv
  obtain ⟨W3, HW3, hh3, z3, b3, o3, t3, p3⟩ := cells_stored hr2 [.int .u64 (P : Nat), .int .u64 (TE : Nat), .int .u64 (TS : Nat), .slice (some ⟨W0.heap.size, 0, none⟩) V.length C] rfl
  have hF3 : FlB W3 W0.heap.size C (strL V) := hF.on (b3 _ (by omega))
  have hby : Byt W3 (some ⟨W0.heap.size, 0, none⟩) V.length (fun j => V.getD j 0) := by
    have := hF3.byt
    rw [show (strL V).size = V.length from hlen] at this
    exact fun j hj => by
      obtain ⟨b, o, e, hc⟩ := this j hj
      refine ⟨b, o, e, ?_⟩
      rw [hc, hbx j]
  have sw2 : w.Since w.heap.size W2 := s0.trans (since_mono hs02 s0.size)
  have sw3 : w.Since w.heap.size W3 := ⟨o3.trans sw2.os, t3.trans sw2.tape, p3.trans sw2.output, by rw [z3]; exact sw2.size, fun k hk => (b3 k (by omega)).trans (sw2.block k hk)⟩
  have HE : Hid (w.heap.size ≤ W0.heap.size ∧ V.length ≤ C ∧ Byt W3 (some ⟨W0.heap.size, 0, none⟩) V.length (fun j => V.getD j 0) ∧ w.Since w.heap.size W3) := ⟨s0.size, by have := hF.le; rw [show (strL V).size = V.length from hlen] at this; exact this, hby, sw3⟩
  have HT : Hid (W2.there w.heap.size 0 4) := row_there hr2
  have HH3 := hide hh3
  have HCV := hide hcv
  have HR0 := hide h0
  have HR2 := hide hR2
  have HR3 : Hid (RpIs W3 rb ⟨P, TE, TS, V, WT⟩) := hR2.on (b3 _ hne)
  clear s0 z0 hr0 hd h0 hcv hF hs2 hzd hs02 hr2 hR2 hlen hbx hc hh3 z3 b3 o3 t3 p3 hF3 hby sw2 sw3 h
  go_enter Try.func18, Try.ntmps18
  go_upto_region 1 with fail
  rw [HW0.out]
  refine wp_region_held_drew (S := fun W => RpIs W rb ⟨P, TE, TS, V, WT⟩) (by kernel_rfl) HR0.out fun _ => ?_
  refine wpAnyH_take (i := 0) (v := .pointer (some ⟨rb, 0, none⟩)) rfl (by kernel_rfl) (by kernel_rfl) (by kernel_rfl) (fun _ _ _ h => h) (.inl ⟨rfl, fun W hW => by kernel_rfl⟩) HR0.out ?_
  simp only [List.getElem_toArray, List.getElem_cons_zero, Act.put, List.setIfInBounds_toArray, List.set_cons_zero, List.set_cons_succ]
  refine wpAnyH_take (i := 1) (v := .pointer (some ⟨rb, 0, none⟩)) rfl (by kernel_rfl) (by kernel_rfl) (by kernel_rfl) (fun _ _ _ h => h) (.inl ⟨rfl, fun W hW => by first | kernel_rfl | go_simp⟩) HR0.out ?_
  simp only [List.getElem_toArray, List.getElem_cons_zero, List.getElem_cons_succ, Act.put, List.setIfInBounds_toArray, List.set_cons_zero, List.set_cons_succ]
  refine wpAnyH_take (i := 2) (v := .pointer (some ⟨rb, 0, none⟩)) rfl (by kernel_rfl) (by kernel_rfl) (by kernel_rfl) (fun _ _ _ h => h) (.inl ⟨rfl, fun W hW => by kernel_rfl⟩) HR0.out ?_
  simp only [List.getElem_toArray, List.getElem_cons_zero, List.getElem_cons_succ, Act.put, List.setIfInBounds_toArray, List.set_cons_zero, List.set_cons_succ]
  refine wpAnyH_take (i := 3) (v := .int .u64 (P : Nat)) rfl (by kernel_rfl) (by kernel_rfl) (by kernel_rfl) (fun _ _ _ h => h) (.inl ⟨rfl, fun W hW => by have c := hW.c0; go_simp⟩) HR0.out ?_
  simp only [List.getElem_toArray, List.getElem_cons_zero, List.getElem_cons_succ, Act.put, List.setIfInBounds_toArray, List.set_cons_zero, List.set_cons_succ]
  refine wpAnyH_take (i := 4) (v := .pointer (some ⟨rb, 0, none⟩)) rfl (by kernel_rfl) (by kernel_rfl) (by kernel_rfl) (fun _ _ _ h => h) (.inl ⟨rfl, fun W hW => by kernel_rfl⟩) HR0.out ?_
  simp only [List.getElem_toArray, List.getElem_cons_zero, List.getElem_cons_succ, Act.put, List.setIfInBounds_toArray, List.set_cons_zero, List.set_cons_succ]
  refine wpAnyH_take (i := 5) (v := .pointer (some ⟨rb, 0, none⟩)) rfl (by kernel_rfl) (by kernel_rfl) (by kernel_rfl) (fun _ _ _ h => h) (.inl ⟨rfl, fun W hW => by first | kernel_rfl | go_simp⟩) HR0.out ?_
  simp only [List.getElem_toArray, List.getElem_cons_zero, List.getElem_cons_succ, Act.put, List.setIfInBounds_toArray, List.set_cons_zero, List.set_cons_succ]
  refine wpAnyH_take (i := 6) (v := .pointer (some ⟨rb, 1, none⟩)) rfl (by kernel_rfl) (by kernel_rfl) (by kernel_rfl) (fun _ _ _ h => h) (.inl ⟨rfl, fun W hW => by kernel_rfl⟩) HR0.out ?_
  simp only [List.getElem_toArray, List.getElem_cons_zero, List.getElem_cons_succ, Act.put, List.setIfInBounds_toArray, List.set_cons_zero, List.set_cons_succ]
  refine wpAnyH_take (i := 7) (v := .agg #[.int .u64 (TE : Nat), .int .u64 (TS : Nat)]) rfl (by kernel_rfl) (by kernel_rfl) (by kernel_rfl) (fun _ _ _ h => h) (.inl ⟨rfl, fun W hW => by have c := hW.c1; have c2 := hW.c2; go_simp⟩) HR0.out ?_
  simp only [List.getElem_toArray, List.getElem_cons_zero, List.getElem_cons_succ, Act.put, List.setIfInBounds_toArray, List.set_cons_zero, List.set_cons_succ]
  refine wpAnyH_take (i := 8) (v := .pointer (some ⟨rb, 0, none⟩)) rfl (by kernel_rfl) (by kernel_rfl) (by kernel_rfl) (fun _ _ _ h => h) (.inl ⟨rfl, fun W hW => by kernel_rfl⟩) HR0.out ?_
  simp only [List.getElem_toArray, List.getElem_cons_zero, List.getElem_cons_succ, Act.put, List.setIfInBounds_toArray, List.set_cons_zero, List.set_cons_succ]
  refine wpAnyH_take (i := 9) (v := .pointer (some ⟨rb, 0, none⟩)) rfl (by kernel_rfl) (by kernel_rfl) (by kernel_rfl) (fun _ _ _ h => h) (.inl ⟨rfl, fun W hW => by first | kernel_rfl | go_simp⟩) HR0.out ?_
  simp only [List.getElem_toArray, List.getElem_cons_zero, List.getElem_cons_succ, Act.put, List.setIfInBounds_toArray, List.set_cons_zero, List.set_cons_succ]
  refine wpAnyH_take (i := 10) (v := .pointer (some ⟨rb, 3, none⟩)) rfl (by kernel_rfl) (by kernel_rfl) (by kernel_rfl) (fun _ _ _ h => h) (.inl ⟨rfl, fun W hW => by kernel_rfl⟩) HR0.out ?_
  simp only [List.getElem_toArray, List.getElem_cons_zero, List.getElem_cons_succ, Act.put, List.setIfInBounds_toArray, List.set_cons_zero, List.set_cons_succ]
  refine wpAnyH_take (i := 11) (v := .string (strL V)) rfl (by kernel_rfl) (by kernel_rfl) (by kernel_rfl) (fun _ _ _ h => h) (.inl ⟨rfl, fun W hW => by have c := hW.c3; go_simp⟩) HR0.out ?_
  simp only [List.getElem_toArray, List.getElem_cons_zero, List.getElem_cons_succ, Act.put, List.setIfInBounds_toArray, List.set_cons_zero, List.set_cons_succ]
  refine wpAnyH_ready (rs := [12]) (by kernel_rfl) (by simp) ?_
  refine AllReadyH.cons rfl (fun K hK => ?_) AllReadyH.nil
  refine step_storeM rfl (op_runW (w' := W2) (.slice (some ⟨W0.heap.size, 0, none⟩) V.length C) ?_ ?_)
  · have r := HCV.out
    go_simp
  refine hK.out _ _ HR2.out fun _ => ?_
  clear hK
  simp only [List.getElem_toArray, List.getElem_cons_zero, List.getElem_cons_succ, Act.put, List.setIfInBounds_toArray, List.set_cons_zero, List.set_cons_succ]
  refine wpAnyH_take (i := 13) (v := .agg #[.int .u64 (P : Nat), .int .u64 (TE : Nat), .int .u64 (TS : Nat), .slice (some ⟨W0.heap.size, 0, none⟩) V.length C]) rfl (by kernel_rfl) (by kernel_rfl) (by kernel_rfl) (fun _ _ _ h => h) (.inl ⟨rfl, fun W hW => by kernel_rfl⟩) HR2.out ?_
  simp only [List.getElem_toArray, List.getElem_cons_zero, List.getElem_cons_succ, Act.put, List.setIfInBounds_toArray, List.set_cons_zero, List.set_cons_succ]
  refine wpAnyH_ready (rs := [14]) (by kernel_rfl) (by simp) ?_
  refine AllReadyH.cons rfl (fun K hK => ?_) AllReadyH.nil
  refine step_storeM rfl (wp_store_mid 44 (.tmp 2) (.tmp 16) rfl w.heap.size 0 _ rfl rfl HT.out infoSt (by simp [Value.oneCell']) ?_)
  rw [show (W2.setCells w.heap.size 0 _) = W3 from HW3.out]
  refine hK.out _ _ HR3.out fun _ => ?_
  simp only [List.getElem_toArray, List.getElem_cons_zero, List.getElem_cons_succ, Act.put]
  refine wpAnyH_done (by kernel_rfl) ?_ _
  go_wp2_with fail
  exact bodyPost_ret_by (results_cell_row rfl _ _ w.heap.size 44 _ (0, 0) _ rfl HH3.out Try.underlying44 rfl infoSt) rfl ⟨_, _, rfl, HE.out⟩
end Go.Proofs.Ytfmndfgdchhaeaa

/- Package replica: the answer's head. -/
namespace Go.Proofs.Ytfmndfgdchhaeaa
open Go.RowKit
set_option maxRecDepth 100000
set_option maxRecDepth 100000

/-- A message that goes back. -/
def ansG (m : Mg) (k : Int) : Mg := ⟨fun c => if c = 0 then k else if c = 1 then m.n 2 else if c = 2 then m.n 1 else if c = 3 then m.n 3 else 0, fun _ => []⟩
theorem ansG_v (m : Mg) (k : Int) : mgV (ansG m k) none 0 = .agg #[.int .i64 k, .int .i64 (m.n 2), .int .i64 (m.n 1), .int .i64 (m.n 3), .int .u64 0, .int .u64 0, .int .u64 0, .int .u64 0, .int .i64 0, .int .u64 0, .slice none 0 0, .int .i64 0, .int .u64 0, .string ⟨#[]⟩, .string ⟨#[]⟩, .int .u64 0, .int .u64 0, .int .u64 0, .int .i64 0, .int .i64 0, .int .i64 0, .int .i64 0] := rfl
set_option maxHeartbeats 4000000 in
theorem answer_any (m : Mg) (va : Option Addr) (vc : Nat) (k : Int) (w : World) :
    Calls Try.prog 28 #[mgV m va vc, .int .i64 k] w fun e w' => e = .returned (mgV (ansG m k) none 0) ∧ w.Since w.heap.size w' := by
  obtain ⟨MM, HMM⟩ : ∃ x, Hid ((mgL m va vc).toArray = x) := ⟨_, rfl⟩
  obtain ⟨W1, HW1⟩ : ∃ W, Hid (w.alloc (.cells MM 42) = W) := ⟨_, rfl⟩
  have s1 : w.Since w.heap.size W1 := by rw [← HW1.out]; exact (World.Since.refl _ _).alloc (Nat.le_refl _) _
  have z1 : W1.heap.size = w.heap.size + 1 := by rw [← HW1.out]; simp
  have r1 : W1.rowIs w.heap.size 42 22 (mgCell m va vc) := by rw [← HW1.out, ← HMM.out]; exact mg_row w m va vc
  obtain ⟨W2, HW2⟩ : ∃ W, Hid (W1.alloc mgZ = W) := ⟨_, rfl⟩
  have s2 : W1.Since W1.heap.size W2 := by rw [← HW2.out]; exact (World.Since.refl _ _).alloc (Nat.le_refl _) _
  have r2 : W2.rowIs (w.heap.size + 1) 42 22 (mgCell mg0 none 0) := by rw [← z1, ← HW2.out]; exact mgZ_row W1
  have r12 := row_since r1 s2
  have c1 : W2.cell? ⟨w.heap.size, 1, none⟩ = some (.int .i64 (m.n 1)) := r12.cell (i := 1) (by decide)
  have c2 : W2.cell? ⟨w.heap.size, 2, none⟩ = some (.int .i64 (m.n 2)) := r12.cell (i := 2) (by decide)
  have c3 : W2.cell? ⟨w.heap.size, 3, none⟩ = some (.int .i64 (m.n 3)) := r12.cell (i := 3) (by decide)
  obtain ⟨W3, HW3, r3, h3, z3, b3, o3, t3, p3⟩ := mg_stored r2 (ansG m k) none 0
  have sw2 : w.Since w.heap.size W2 := s1.trans (since_mono s2 s1.size)
  have HE : Hid (w.Since w.heap.size W3) := ⟨o3.trans sw2.os, t3.trans sw2.tape, p3.trans sw2.output, by rw [z3]; exact sw2.size, fun q hq => (b3 q (by omega)).trans (sw2.block q hq)⟩
  have HT : Hid (W2.there (w.heap.size + 1) 0 (mgL (ansG m k) none 0).toArray.size) := by
    have e : (mgL (ansG m k) none 0).toArray.size = 22 := by rw [List.size_toArray, mgL_len]
    show World.there _ _ _ _
    rw [e]
    exact row_there r2
  have HH3 := hide h3
  unfold mgZ at HW2
  clear s1 r1 s2 r2 r12 r3 h3 z3 b3 o3 t3 p3 sw2
  unfold mgV
  rw [HMM.out]
  go_enter Try.func28, Try.ntmps28
  go_upto_region 1 with fail
  rw [HW1.out]
  try rw [z1]
  rw [HW2.out]
  try rw [z1]
  refine wp_region_lit ?_
  refine wpList_plain rfl fun _ hK => op_run (.int .i64 k) (by kernel_rfl) (hK _ _ ?_)
  simp only [Act.put, List.setIfInBounds_toArray, List.set_cons_zero, List.set_cons_succ]
  refine wpList_plain rfl fun _ hK => op_run (.pointer (some ⟨w.heap.size, 0, none⟩)) (by kernel_rfl) (hK _ _ ?_)
  simp only [Act.put, List.setIfInBounds_toArray, List.set_cons_zero, List.set_cons_succ]
  refine wpList_plain rfl fun _ hK => op_run (.pointer (some ⟨w.heap.size, 2, none⟩)) (by kernel_rfl) (hK _ _ ?_)
  simp only [Act.put, List.setIfInBounds_toArray, List.set_cons_zero, List.set_cons_succ]
  refine wpList_plain rfl fun _ hK => op_run (.int .i64 (m.n 2)) (by go_simp) (hK _ _ ?_)
  simp only [Act.put, List.setIfInBounds_toArray, List.set_cons_zero, List.set_cons_succ]
  refine wpList_plain rfl fun _ hK => op_run (.pointer (some ⟨w.heap.size, 0, none⟩)) (by kernel_rfl) (hK _ _ ?_)
  simp only [Act.put, List.setIfInBounds_toArray, List.set_cons_zero, List.set_cons_succ]
  refine wpList_plain rfl fun _ hK => op_run (.pointer (some ⟨w.heap.size, 1, none⟩)) (by kernel_rfl) (hK _ _ ?_)
  simp only [Act.put, List.setIfInBounds_toArray, List.set_cons_zero, List.set_cons_succ]
  refine wpList_plain rfl fun _ hK => op_run (.int .i64 (m.n 1)) (by go_simp) (hK _ _ ?_)
  simp only [Act.put, List.setIfInBounds_toArray, List.set_cons_zero, List.set_cons_succ]
  refine wpList_plain rfl fun _ hK => op_run (.pointer (some ⟨w.heap.size, 0, none⟩)) (by kernel_rfl) (hK _ _ ?_)
  simp only [Act.put, List.setIfInBounds_toArray, List.set_cons_zero, List.set_cons_succ]
  refine wpList_plain rfl fun _ hK => op_run (.pointer (some ⟨w.heap.size, 3, none⟩)) (by kernel_rfl) (hK _ _ ?_)
  simp only [Act.put, List.setIfInBounds_toArray, List.set_cons_zero, List.set_cons_succ]
  refine wpList_plain rfl fun _ hK => op_run (.int .i64 (m.n 3)) (by go_simp) (hK _ _ ?_)
  simp only [Act.put, List.setIfInBounds_toArray, List.set_cons_zero, List.set_cons_succ]
  refine wpList_plain rfl fun _ hK => op_run (.agg #[.int .i64 k, .int .i64 (m.n 2), .int .i64 (m.n 1), .int .i64 (m.n 3)]) (by kernel_rfl) (hK _ _ ?_)
  simp only [Act.put, List.setIfInBounds_toArray, List.set_cons_zero, List.set_cons_succ]
  refine wpList_plain rfl fun _ hK => op_run (mgV (ansG m k) none 0) (by rw [ansG_v]; kernel_rfl) (hK _ _ ?_)
  simp only [Act.put, List.setIfInBounds_toArray, List.set_cons_zero, List.set_cons_succ]
  refine wpList_store_mid rfl 42 (.tmp 4) (.tmp 16) rfl (w.heap.size + 1) 0 (mgL (ansG m k) none 0).toArray rfl rfl HT.out (infoMgA _ _ _) (mg_all _ _ _) ?_
  rw [show (mgL (ansG m k) none 0).toArray.toList = mgL (ansG m k) none 0 from rfl, HW3.out]
  go_wp2_with fail
  exact bodyPost_ret_by (results_cell_row rfl _ _ (w.heap.size + 1) 42 _ (0, 0) _ rfl HH3.out Try.underlying42 rfl (infoMgA _ _ _)) rfl ⟨rfl, HE.out⟩
end Go.Proofs.Ytfmndfgdchhaeaa

/- Package replica: refuse. -/
namespace Go.Proofs.Ytfmndfgdchhaeaa
open Go.RowKit
set_option maxRecDepth 100000
set_option maxRecDepth 100000

/-- What Hear tells: the answer, whether there is one, whether it was taken, whether something has changed. -/
def hdL (m : Mg) (va : Option Addr) (vc : Nat) (b1 b2 b3 : Bool) : List Value := mgL m va vc ++ [.bool b1, .bool b2, .bool b3]
def hdV (m : Mg) (va : Option Addr) (vc : Nat) (b1 b2 b3 : Bool) : Value := .agg (hdL m va vc b1 b2 b3).toArray
def hdCell (m : Mg) (va : Option Addr) (vc : Nat) (b1 b2 b3 : Bool) (i : Nat) : Value := if i < 22 then mgCell m va vc i else if i = 22 then .bool b1 else if i = 23 then .bool b2 else .bool b3
theorem hdL_len (m : Mg) (va : Option Addr) (vc : Nat) (b1 b2 b3 : Bool) : (hdL m va vc b1 b2 b3).length = 25 := by
  unfold hdL
  rw [List.length_append, mgL_len]
  rfl
theorem infoHr : (Try.prog.info? 49).map (·.size) = some 25 := by kernel_rfl
theorem infoHrA (m : Mg) (va : Option Addr) (vc : Nat) (b1 b2 b3 : Bool) : (Try.prog.info? 49).map (·.size) = some (hdL m va vc b1 b2 b3).toArray.size := by rw [List.size_toArray, hdL_len]; exact infoHr
theorem hd_all (m : Mg) (va : Option Addr) (vc : Nat) (b1 b2 b3 : Bool) : (hdL m va vc b1 b2 b3).toArray.all (·.oneCell') = true := all_oneCell_toArray (fun v hv => by
  rcases List.mem_append.1 hv with h | h
  · exact mgL_one m va vc v h
  · simp only [List.mem_cons, List.not_mem_nil, or_false] at h
    rcases h with rfl | rfl | rfl <;> rfl)
def hdZ : Obj := .cells #[.int .i64 0, .int .i64 0, .int .i64 0, .int .i64 0, .int .u64 0, .int .u64 0, .int .u64 0, .int .u64 0, .int .i64 0, .int .u64 0, .slice none 0 0, .int .i64 0, .int .u64 0, .string ⟨#[]⟩, .string ⟨#[]⟩, .int .u64 0, .int .u64 0, .int .u64 0, .int .i64 0, .int .i64 0, .int .i64 0, .int .i64 0, .bool false, .bool false, .bool false] 49
theorem hdZ_row (w : World) : (w.alloc hdZ).rowIs w.heap.size 49 25 (hdCell mg0 none 0 false false false) :=
  World.rowIs_alloc w _ _ _ (fun i hi => by
    have hi' : i < 25 := hi
    match i, hi' with
    | 0, _ => rfl
    | 1, _ => rfl
    | 2, _ => rfl
    | 3, _ => rfl
    | 4, _ => rfl
    | 5, _ => rfl
    | 6, _ => rfl
    | 7, _ => rfl
    | 8, _ => rfl
    | 9, _ => rfl
    | 10, _ => rfl
    | 11, _ => rfl
    | 12, _ => rfl
    | 13, _ => rfl
    | 14, _ => rfl
    | 15, _ => rfl
    | 16, _ => rfl
    | 17, _ => rfl
    | 18, _ => rfl
    | 19, _ => rfl
    | 20, _ => rfl
    | 21, _ => rfl
    | 22, _ => rfl
    | 23, _ => rfl
    | 24, _ => rfl
    | n + 25, h => exact absurd h (by omega))
theorem mg_cells {w : World} {kb : Nat} {m : Mg} {va : Option Addr} {vc : Nat} {MA : Array Value} (h : w.heap[kb]? = some (.cells MA 42 (0, 0))) (hv : mgV m va vc = .agg MA) : w.rowIs kb 42 22 (mgCell m va vc) := by
  have e : (mgL m va vc).toArray = MA := Value.agg.inj hv
  refine ⟨MA, h, by rw [← e, List.size_toArray, mgL_len], fun i hi => ?_⟩
  rw [← e, List.getElem?_toArray]
  unfold mgL
  rw [List.getElem?_map, List.getElem?_range hi]
  rfl
/-- What refuse answers. -/
def refG (m : Mg) (E P : Nat) : Mg := ((ansG m 3).setN 4 (E : Nat)).setN 9 (P : Nat)
theorem refG_v (m : Mg) (E P : Nat) : hdV (refG m E P) none 0 true false false = .agg #[.int .i64 3, .int .i64 (m.n 2), .int .i64 (m.n 1), .int .i64 (m.n 3), .int .u64 (E : Nat), .int .u64 0, .int .u64 0, .int .u64 0, .int .i64 0, .int .u64 (P : Nat), .slice none 0 0, .int .i64 0, .int .u64 0, .string ⟨#[]⟩, .string ⟨#[]⟩, .int .u64 0, .int .u64 0, .int .u64 0, .int .i64 0, .int .i64 0, .int .i64 0, .int .i64 0, .bool true, .bool false, .bool false] := rfl
set_option maxHeartbeats 4000000 in
theorem refuse_any {rb : Nat} {r : Rp} {w : World} (h : RpIs w rb r) (m : Mg) (va : Option Addr) (vc : Nat) (E : Nat) :
    Calls Try.prog 26 #[.pointer (some ⟨rb, 0, none⟩), mgV m va vc, .int .u64 (E : Nat)] w fun e w' => e = .returned (hdV (refG m E r.p) none 0 true false false) ∧ w.Since w.heap.size w' := by
  obtain ⟨MM, HMM⟩ : ∃ x, Hid ((mgL m va vc).toArray = x) := ⟨_, rfl⟩
  have HINM : Hid ((Try.prog.info? 42).map (·.size) = some MM.size) := by rw [← HMM.out]; exact infoMgA _ _ _
  obtain ⟨W1, HW1⟩ : ∃ W, Hid (w.alloc (.cells MM 42) = W) := ⟨_, rfl⟩
  have s1 : w.Since w.heap.size W1 := by rw [← HW1.out]; exact (World.Since.refl _ _).alloc (Nat.le_refl _) _
  have z1 : W1.heap.size = w.heap.size + 1 := by rw [← HW1.out]; simp
  have r1 : W1.rowIs w.heap.size 42 22 (mgCell m va vc) := by rw [← HW1.out, ← HMM.out]; exact mg_row w m va vc
  obtain ⟨W2, HW2⟩ : ∃ W, Hid (W1.alloc hdZ = W) := ⟨_, rfl⟩
  have s2 : W1.Since W1.heap.size W2 := by rw [← HW2.out]; exact (World.Since.refl _ _).alloc (Nat.le_refl _) _
  have r2 : W2.rowIs (w.heap.size + 1) 49 25 (hdCell mg0 none 0 false false false) := by rw [← z1, ← HW2.out]; exact hdZ_row W1
  have HH2 : Hid (W2.heap[w.heap.size]? = some (.cells MM 42 (0, 0))) := by
    rw [← HMM.out]
    exact row_heap (row_since r1 s2)
  have sw2 : w.Since w.heap.size W2 := s1.trans (since_mono s2 s1.size)
  have HAN : Hid (Calls Try.prog 28 #[.agg MM, .int .i64 3] W2 fun e w' => e = .returned (mgV (ansG m 3) none 0) ∧ W2.Since W2.heap.size w') := by
    have q := answer_any m va vc 3 W2
    unfold mgV at q
    rw [HMM.out] at q
    exact q
  have hR2 := h.since sw2
  have HR2 := hide hR2
  have HS2 := hide sw2
  have HRW := hide r2
  have z2 : W2.heap.size = w.heap.size + 1 + 1 := by rw [← HW2.out, ← z1]; simp
  have Hz2 := hide z2
  unfold hdZ at HW2
  have hrp := h.lt
  have HRP := hide hrp
  clear s1 r1 s2 r2 sw2 h hR2 z2 hrp
  unfold mgV
  rw [HMM.out]
  go_enter Try.func26, Try.ntmps26
  go_upto_region 1 with fail
  rw [HW1.out]
  try rw [z1]
  rw [HW2.out]
  try rw [z1]
  clear HW1 HW2 z1 HMM
  go_wp2_with (refine wpList_load_row rfl 42 _ rfl w.heap.size rfl _ _ (0, 0) _ HH2.out Try.underlying42 rfl HINM.out ?_)
  refine HAN.out.mono ?_
  rintro e w3 ⟨rfl, hs3⟩
  obtain ⟨W4, MA, HMV, HT4, HW4, HIN, HON, HH4, HS4⟩ := mg_put w3 (ansG m 3) none 0
  rw [HMV.out]
  go_upto_region 2 with (refine wpList_store_mid rfl 42 _ _ rfl w3.heap.size 0 _ rfl rfl HT4.out HIN.out HON.out ?_; rw [HW4.out])
  obtain ⟨P, TE, TS, V, WT⟩ := r
  have s24 : W2.Since W2.heap.size W4 := hs3.trans (since_mono HS4.out hs3.size)
  have hz3 := hs3.size
  have hz2 := Hz2.out
  have r4 : W4.rowIs w3.heap.size 42 22 (mgCell (ansG m 3) none 0) := mg_cells (HH4.out W4 (World.Since.refl _ _)) HMV.out
  have r5 := row_setN r4 4 (E : Nat) (by decide) (by decide) (by decide)
  have r6 := row_setN r5 9 (P : Nat) (by decide) (by decide) (by decide)
  obtain ⟨W6, HW6⟩ : ∃ W, Hid (((W4.setCell ⟨w3.heap.size, 4, none⟩ (.int .u64 (E : Nat))).setCell ⟨w3.heap.size, 9, none⟩ (.int .u64 (P : Nat))).drew = W) := ⟨_, rfl⟩
  have r6d : W6.rowIs w3.heap.size 42 22 (mgCell (refG m E P) none 0) := by rw [← HW6.out]; exact r6.of_block rfl
  have s26 : W2.Since W2.heap.size W6 := by
    rw [← HW6.out]
    exact (((But.of_since (r := w3.heap.size) (World.Since.refl _ _)).setCell 4 _).setCell 9 _).drew.since s24 hz3 s24.size
  have c0 : W4.cell? ⟨rb, 0, none⟩ = some (.int .u64 (P : Nat)) := (HR2.out.since s24).c0
  have d4' : W4.cell? ⟨w3.heap.size, 4, none⟩ = some (.int .u64 0) := r4.cell (i := 4) (by decide)
  have d9' : W4.cell? ⟨w3.heap.size, 9, none⟩ = some (.int .u64 0) := r4.cell (i := 9) (by decide)
  have f4' : W4.frozen? ⟨w3.heap.size, 4, none⟩ = false := r4.frozen 4
  have f9' : W4.frozen? ⟨w3.heap.size, 9, none⟩ = false := r4.frozen 9
  have HH6 := hide (row_heap r6d)
  have HH6' : Hid (W6.heap[w3.heap.size]? = some (.cells (mgL (refG m E P) none 0).toArray 42 (0, 0))) := HH6
  have rr6 := row_since HRW.out s26
  obtain ⟨W7, HW7, hh7, z7, b7, o7, t7, p7⟩ := cells_stored rr6 (hdL (refG m E P) none 0 true false false) (hdL_len _ _ _ _ _ _)
  have sw6 : w.Since w.heap.size W6 := HS2.out.trans (since_mono s26 HS2.out.size)
  have HE : Hid (w.Since w.heap.size W7) := ⟨o7.trans sw6.os, t7.trans sw6.tape, p7.trans sw6.output, by rw [z7]; exact sw6.size, fun k hk => (b7 k (by omega)).trans (sw6.block k hk)⟩
  have HT6 : Hid (W6.there (w.heap.size + 1) 0 (hdL (refG m E P) none 0 true false false).toArray.size) := by
    have e : (hdL (refG m E P) none 0 true false false).toArray.size = 25 := by rw [List.size_toArray, hdL_len]
    show World.there _ _ _ _
    rw [e]
    exact row_there rr6
  have HH7 := hide hh7
  clear r4 r5 r6 r6d s24 s26 rr6 hh7 z7 b7 o7 t7 p7 sw6 HH4 HS4 HT4 HON HIN HMV hs3 HH6 HW4 HR2 HS2 HRW hz3 hz2 Hz2 HRP
  go_region
  all_goals
    rw [HW6.out]
    go_upto_region 3 with fail
    refine wp_region_lit ?_
    refine wpList_load_row rfl 42 (.tmp 7) rfl w3.heap.size rfl _ (mgL (refG m E P) none 0).toArray (0, 0) _ HH6'.out Try.underlying42 rfl (infoMgA _ _ _) ?_
    simp only [Act.put, List.setIfInBounds_toArray, List.set_cons_zero, List.set_cons_succ]
    refine wpList_plain rfl fun _ hK => op_run (hdV (refG m E P) none 0 true false false) (by rw [refG_v]; kernel_rfl) (hK _ _ ?_)
    refine wpList_store_mid rfl 49 (.tmp 6) (.tmp 18) rfl (w.heap.size + 1) 0 (hdL (refG m E P) none 0 true false false).toArray rfl rfl HT6.out (infoHrA _ _ _ _ _ _) (hd_all _ _ _ _ _ _) ?_
    rw [show (hdL (refG m E P) none 0 true false false).toArray.toList = hdL (refG m E P) none 0 true false false from rfl, HW7.out]
    go_wp2_with fail
    exact bodyPost_ret_by (results_cell_row rfl _ _ (w.heap.size + 1) 49 _ (0, 0) _ rfl HH7.out Try.underlying49 rfl (infoHrA _ _ _ _ _ _)) rfl ⟨rfl, HE.out⟩
end Go.Proofs.Ytfmndfgdchhaeaa
