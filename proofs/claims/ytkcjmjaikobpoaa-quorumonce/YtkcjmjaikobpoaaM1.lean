/- Own texts, joined: Kit, Lend, MgB, Hand, QU1, QU2, QU3, QU4. -/
import Derived.Test.YtkcjmjaikobpoaaRows
import Derived.WalkKit
import Derived.Laws.BitsAllLaws
import Derived.Deep.LoopGhost
import Derived.Deep.OwnRows
import Derived.Deep.Cut
import Derived.Deep.Light
import Derived.Deep.CutRange
import Derived.CellFam
import Derived.BigGuard
import Derived.Lib.SlBytesConst
import Derived.BigQuiet
import Derived.BigRegion
import Derived.Deep.RegionWith
import Derived.Deep.QuietTactic
import Derived.Laws.IdiomCopy
import Derived.Deep.AppendLies
import Derived.Laws.AppendOwnNone
import Derived.OwnWalk
import Derived.Laws.BytesArg
import Derived.Lib.ConvBytes
import Derived.Deep.MidRow
import Derived.Lib.Bytes
import Derived.Deep.RegionLaw
import Derived.Deep.RegionHeld3
import Derived.Laws.ResultCell
import Derived.Laws.NewBlocks
import Derived.Laws.Rows
import Derived.Below
import Derived.Maps.OwnSet
import Derived.Maps.Keyed
import Derived.Carry

/- Small laws on rows of bytes that the walks of this seat share; the walk of tallyref0.Copy. -/
namespace Go.Proofs.Ytkcjmjaikobpoaa
open Go.RowKit
set_option maxRecDepth 100000

theorem hide {p : Prop} (h : p) : Hid p := h
theorem unhide {p : Prop} (h : Hid p) : p := h
theorem since_mono {B B' : Nat} {w w' : World} (h : w.Since B w') (hB : B' ≤ B) : w.Since B' w' := ⟨h.os, h.tape, h.output, h.size, fun k hk => h.block k (by omega)⟩
theorem Try.info5 : (Try.prog.info? 5).map (fun i => (i.zero, i.size, i.bytes)) = some (some (.int .u8 0), 1, 1) := by kernel_rfl
theorem Try.size5 : (Try.prog.info? 5).map (·.size) = some 1 := by kernel_rfl

/-- A slice's cells hold these bytes. -/
def Byt (w : World) (a : Option Addr) (len : Nat) (x : Nat → Nat) : Prop := ∀ j, j < len → ∃ b off, a = some ⟨b, off, none⟩ ∧ w.cell? ⟨b, off + j, none⟩ = some (.int .u8 (x j : Nat))

theorem Byt.since {w w' : World} {a : Option Addr} {len : Nat} {x : Nat → Nat} (h : Byt w a len x) (hs : w.Since w.heap.size w') : Byt w' a len x := fun j hj => by
  obtain ⟨b, off, e, hc⟩ := h j hj
  exact ⟨b, off, e, by rw [hs.cell (a := ⟨b, off + j, none⟩) (World.block_lt_of_cell? _ _ hc)]; exact hc⟩
theorem Byt.of_row {w : World} {b t n : Nat} {x : Nat → Nat} (h : w.rowIs b t n (fun j => .int .u8 (x j : Nat))) : Byt w (some ⟨b, 0, none⟩) n x := fun j hj =>
  ⟨b, 0, rfl, by have := h.cell hj; simpa using this⟩
theorem Byt.drewN {w : World} {a : Option Addr} {len : Nat} {x : Nat → Nat} (h : Byt w a len x) (n : Nat) : Byt (w.drewN n) a len x := fun j hj => h j hj
theorem Byt.le {w : World} {a : Option Addr} {len m : Nat} {x : Nat → Nat} (h : Byt w a len x) (hm : m ≤ len) : Byt w a m x := fun j hj => h j (by omega)

theorem getD_range_map (f : Nat → Nat) (n j : Nat) (h : j < n) : ((List.range n).map f).getD j 0 = f j := by
  simp [List.getD, h]
theorem lt_range_map (f : Nat → Nat) (n j : Nat) (h : ∀ i, f i < 256) : ((List.range n).map f).getD j 0 < 256 := by
  by_cases hj : j < n
  · rw [getD_range_map f n j hj]; exact h j
  · simp [List.getD, hj]
theorem since_setCells {B b : Nat} {w : World} (hb : B ≤ b) : ∀ (vs : List Value) (o : Nat) (w' : World), w.Since B w' → w.Since B (w'.setCells b o vs)
  | [], _, _, h => h
  | v :: r, o, _, h => since_setCells hb r (o + 1) _ (h.setCell (a := ⟨b, o, none⟩) hb v)
theorem size_setCells (b : Nat) : ∀ (vs : List Value) (o : Nat) (w : World), (w.setCells b o vs).heap.size = w.heap.size
  | [], _, _ => rfl
  | v :: r, o, w => by rw [World.setCells, size_setCells b r (o + 1)]; simp [World.setCell]
theorem rowIs_setCells {b t n : Nat} : ∀ (vs : List Value) (o : Nat) (w : World) (f : Nat → Value), w.rowIs b t n f → (w.setCells b o vs).rowIs b t n (fun j => if o ≤ j ∧ j < o + vs.length then vs.getD (j - o) undef else f j)
  | [], o, w, f, h => h.congr (fun i _ => by simp; omega)
  | v :: r, o, w, f, h => by
    refine (rowIs_setCells r (o + 1) _ _ (h.set o v)).congr (fun i _ => ?_)
    by_cases e : i = o
    · subst e
      rw [if_neg (by omega), if_pos rfl, if_pos (by simp)]; simp
    · by_cases hin : o + 1 ≤ i ∧ i < o + 1 + r.length
      · rw [if_pos hin, if_pos (by simp; omega)]
        rw [show i - o = (i - (o + 1)) + 1 by omega]; simp
      · rw [if_neg hin, if_neg e, if_neg (by simp; omega)]

/-- tallyref0.Copy: the same bytes in new memory. -/
theorem copy_any (a : Option Addr) (len cap : Nat) (x : Nat → Nat) (w : World) (hmax : len ≤ 281474976710656) (hc : Byt w a len x) :
    Calls Try.prog 59 #[.slice a len cap] w fun e w' => e = .returned (.slice (some ⟨w.heap.size, 0, none⟩) len len) ∧ w.Since w.heap.size w' ∧ w'.heap.size = w.heap.size + 1 ∧ w'.rowIs w.heap.size 5 len (fun j => .int .u8 (x j : Nat)) := by
  have hmk := run_make_row' (P := Try.prog) 43 5 (.int .u8 0) 1 Try.underlying43 Try.info5 rfl .i64 .i64 len (by omega) (by omega)
  have hs0 : w.Since w.heap.size (w.alloc (.cells (madeCells #[.int .u8 0] len) 5)) := (World.Since.refl _ _).alloc (Nat.le_refl _) _
  have hr0 := World.rowIs_made w (.int .u8 0) len 5
  have hz0 : (w.alloc (.cells (madeCells #[.int .u8 0] len) 5)).heap.size = w.heap.size + 1 := by simp
  generalize hW : w.alloc (.cells (madeCells #[.int .u8 0] len) 5) = W at *
  rcases Nat.eq_zero_or_pos len with rfl | hp
  · have hcp := run_copy_none (P := Try.prog) W 43 43 3 5 (some ⟨w.heap.size, 0, none⟩) a 0 0 0 cap Try.underlying43 Try.size5 (by simp)
    have hmk0 : (Instr.makeSlice 43 (.int .i64 0) (.int .i64 0)).run Try.prog w = .ok (.slice (some ⟨w.heap.size, 0, none⟩) 0 0) W := by rw [← hW]; simpa using hmk w
    clear hmk hW
    go_enter Try.func59, Try.ntmps59
    go_wp2
    go_ret
    exact ⟨rfl, hs0, hz0, hr0.congr (fun j hj => by omega)⟩
  · obtain ⟨b, off, rfl, _⟩ := hc 0 hp
    have hc' : ∀ j, j < len → w.cell? ⟨b, off + j, none⟩ = some (.int .u8 (x j : Nat)) := fun j hj => by obtain ⟨b', off', e, hh⟩ := hc j hj; cases e; exact hh
    have hcp := run_copy_cells (P := Try.prog) W 43 43 3 5 w.heap.size 0 len len ⟨b, off, none⟩ len cap ((List.range len).map fun j => .int .u8 (x j : Nat)) Try.underlying43 Try.size5 (by simp)
      (fun j v hv => by
        have hj : j < len := by have := (List.getElem?_eq_some_iff.1 hv).1; simpa using this
        have : v = .int .u8 (x j : Nat) := by rw [List.getElem?_map, List.getElem?_range hj] at hv; simpa using hv.symm
        rw [this, show (⟨b, off, none⟩ : Addr).add j = ⟨b, off + j, none⟩ by simp [Addr.add], hs0.cell (a := ⟨b, off + j, none⟩) (World.block_lt_of_cell? _ _ (hc' j hj))]
        exact hc' j hj)
      (fun j hj => by rw [Nat.zero_add, hr0.cell (by simpa using hj)]; rfl) (fun j _ => by rw [Nat.zero_add]; exact hr0.frozen j) (fun v hv => by obtain ⟨j, _, rfl⟩ := List.mem_map.1 hv; rfl)
    have hend : w.Since w.heap.size (W.setCells w.heap.size 0 ((List.range len).map fun j => .int .u8 (x j : Nat))) ∧ (W.setCells w.heap.size 0 ((List.range len).map fun j => .int .u8 (x j : Nat))).heap.size = w.heap.size + 1 ∧
        (W.setCells w.heap.size 0 ((List.range len).map fun j => .int .u8 (x j : Nat))).rowIs w.heap.size 5 len (fun j => .int .u8 (x j : Nat)) :=
      ⟨since_setCells (Nat.le_refl _) _ _ _ hs0, by rw [size_setCells]; exact hz0, (rowIs_setCells _ 0 _ _ hr0).congr (fun j hj => by
        rw [if_pos (by simp; exact hj)]; simp [List.getD, hj])⟩
    have hmk1 : (Instr.makeSlice 43 (.int .i64 len) (.int .i64 len)).run Try.prog w = .ok (.slice (some ⟨w.heap.size, 0, none⟩) len len) W := by rw [← hW]; exact hmk w
    clear hmk hW
    generalize W.setCells w.heap.size 0 ((List.range len).map fun j => .int .u8 (x j : Nat)) = W2 at *
    go_enter Try.func59, Try.ntmps59
    go_wp2
    go_ret
    exact ⟨rfl, hend⟩
end Go.Proofs.Ytkcjmjaikobpoaa

/- The walks of tallylaw1's Lend and Intact: bytes lent with marks behind them. -/
namespace Go.Proofs.Ytkcjmjaikobpoaa
open Go.RowKit
set_option maxRecDepth 100000
set_option maxRecDepth 100000

/-- Bytes as cells. -/
def cellsOf (n : Nat) (x : Nat → Nat) : List Value := (List.range n).map fun j => .int .u8 (x j : Nat)
theorem length_cellsOf (n : Nat) (x : Nat → Nat) : (cellsOf n x).length = n := by simp [cellsOf]
theorem get_cellsOf {n j : Nat} {x : Nat → Nat} (h : j < n) : (cellsOf n x)[j]? = some (.int .u8 (x j : Nat)) := by simp [cellsOf, h]
def cat (x : Nat → Nat) (n : Nat) (y : Nat → Nat) : Nat → Nat := fun j => if j < n then x j else y (j - n)
theorem cat_ge {x : Nat → Nat} {n : Nat} {y : Nat → Nat} {j : Nat} (h : n ≤ j) : cat x n y j = y (j - n) := if_neg (by omega)
theorem cellsOf_cat (n m : Nat) (x y : Nat → Nat) : cellsOf n x ++ cellsOf m y = cellsOf (n + m) (cat x n y) := by
  apply List.ext_getElem?
  intro j
  rcases Nat.lt_or_ge j n with h | h
  · rw [List.getElem?_append_left (by rw [length_cellsOf]; exact h), get_cellsOf h, get_cellsOf (by omega)]; simp [cat, h]
  · rw [List.getElem?_append_right (by rw [length_cellsOf]; exact h), length_cellsOf]
    rcases Nat.lt_or_ge (j - n) m with g | g
    · rw [get_cellsOf g, get_cellsOf (by omega)]; simp [cat, Nat.not_lt.2 h]
    · rw [List.getElem?_eq_none (by rw [length_cellsOf]; exact g), List.getElem?_eq_none (by rw [length_cellsOf]; omega)]
theorem one_cellsOf (n : Nat) (x : Nat → Nat) : ∀ u ∈ cellsOf n x, u.oneCell' = true := fun u hu => by
  obtain ⟨j, _, rfl⟩ := List.mem_map.1 hu; rfl

/-- A slice of bytes of the call's own. -/
def Own (w : World) (B : Nat) (v : Value) (n : Nat) (x : Nat → Nat) : Prop := w.ownsRow B 5 1 v n (cellsOf n x)
theorem own_nil (w : World) (B : Nat) (x : Nat → Nat) : Own w B (.slice none 0 0) 0 x := ⟨rfl, Or.inl ⟨rfl, rfl⟩⟩
/-- append OF ANY BYTES ONTO SUCH A SLICE. -/
theorem app_own (w : World) (B : Nat) (v : Value) (n : Nat) (x : Nat → Nat) (hown : Own w B v n x) (a : Option Addr) (m c : Nat) (y : Nat → Nat) (hb : Byt w a m y) (ha : a = none → m = 0 ∧ c = 0) (hmax : n + m ≤ 140737488355328) (hB : B ≤ w.heap.size) :
    ∃ v' w', (Builtin.append_ #[43, 43] 43 #[v, .slice a m c]).run Try.prog w = .ok v' w' ∧ Own w' B v' (n + m) (cat x n y) ∧ w.grownBy w' v.ownBlock := by
  obtain ⟨i0, hi, hz0, hz1, hz2⟩ := info_parts Try.info5
  cases a with
  | none =>
    obtain ⟨rfl, rfl⟩ := ha rfl
    refine ⟨v, w, run_append_owned_none w B 43 43 5 i0 1 Try.underlying43 hi v n _ hown, ?_, ⟨rfl, rfl, rfl, Nat.le_refl _, fun _ _ _ => rfl⟩⟩
    have e : cellsOf (n + 0) (cat x n y) = cellsOf n x := by rw [← cellsOf_cat]; simp [cellsOf]
    show w.ownsRow B 5 1 v (n + 0) (cellsOf (n + 0) (cat x n y))
    rw [e]; exact hown
  | some ad =>
    obtain ⟨v', w', hr, h1, h2, _⟩ := run_append_own (P := Try.prog) w B 43 43 5 i0 (.int .u8 0) 1 1 Try.underlying43 hi hz0 hz1 hz2 rfl (by decide) v n _ hown ad m c (cellsOf m y) (by rw [length_cellsOf, Nat.mul_one])
      (fun j u hu => by
        have hj : j < m := by have := (List.getElem?_eq_some_iff.1 hu).1; rwa [length_cellsOf] at this
        rw [get_cellsOf hj] at hu
        obtain ⟨b, off, e, hc⟩ := hb j hj
        obtain rfl : ad = ⟨b, off, none⟩ := by simpa using e
        rw [show (⟨b, off, none⟩ : Addr).add j = ⟨b, off + j, none⟩ by simp [Addr.add], hc]; exact hu)
      (one_cellsOf m y) (by unfold maxLen; omega) (by omega) hB
    exact ⟨v', w', hr, by rw [cellsOf_cat] at h1; exact h1, h2⟩
theorem grown_since {B : Nat} {w0 w w' : World} {row : Option Nat} (h : w0.Since B w) (hg : w.grownBy w' row) (hB : B ≤ w.heap.size) (hr : ∀ k, row = some k → B ≤ k) : w0.Since B w' := h.grown hg hB hr
theorem own_block {w : World} {B : Nat} {v : Value} {n : Nat} {x : Nat → Nat} (h : Own w B v n x) : ∀ k, v.ownBlock = some k → B ≤ k := fun k hk => by
  rcases h.2 with ⟨rfl, _⟩ | ⟨g, cap, cur, rfl, hb, _⟩
  · simp [Value.ownBlock] at hk
  · obtain rfl : g = k := by simpa [Value.ownBlock] using hk
    exact hb
theorem own_row {w : World} {B : Nat} {v : Value} {n : Nat} {x : Nat → Nat} (h : Own w B v n x) (hn : 0 < n) : ∃ g cap f, v = .slice (some ⟨g, 0, none⟩) n cap ∧ B ≤ g ∧ n ≤ cap ∧ w.rowIs g 5 cap f ∧ ∀ j, j < n → f j = .int .u8 (x j : Nat) := by
  rcases h.2 with ⟨rfl, h0⟩ | ⟨g, cap, cur, rfl, hb, hh, hnc, hm, hsz, htk⟩
  · omega
  · refine ⟨g, cap, fun j => cur[j]?.getD undef, rfl, hb, hnc, ⟨cur, hh, by omega, fun i hi => by show cur[i]? = some (cur[i]?.getD undef); rw [Array.getElem?_eq_getElem (by omega)]; rfl⟩, fun j hj => ?_⟩
    have h2 := congrArg (fun l : List Value => l[j]?) htk
    simp only [Nat.mul_one] at h2
    rw [List.getElem?_take_of_lt hj, get_cellsOf hj, Array.getElem?_toList] at h2
    show cur[j]?.getD undef = _
    rw [h2]; rfl

/-- append, by its run: at the operation. -/
theorem wpList_append_eq {P : Program} {w w' : World} {ops : Array Oper} {rest : List Oper} {o : Oper} {a : Act} {Q : Exit → Act → World → Prop} (hgd : o.guard = none) (s x : Operand) (t : TypeId)
    (ho : o.op = .call { callee := .builtin .append, args := #[s, x], argTypes := #[t, t] }) (v u v' : Value) (hs : a.eval s = v) (hx : a.eval x = u)
    (hrun : (Builtin.append_ #[t, t] o.type #[v, u]).run P w = .ok v' w') (h : wpList P ops Q rest (a.put o.dst v') w') : wpList P ops Q (o :: rest) a w := by
  refine wpList_plain hgd fun K hK => ?_
  unfold Oper.wp
  simp [execOp, ho, resolve, invoke, builtin, hs, hx, hrun, Result.andThen]
  exact hK _ _ h

/-- What is lent: the bytes, three marks behind them. -/
structure Lent (w : World) (g len cap : Nat) (x : Nat → Nat) (f : Nat → Value) : Prop where
  row : w.rowIs g 5 cap f
  room : len + 3 ≤ cap
  cap : cap ≤ 9223372036854775807
  byte : ∀ j, j < len → f j = .int .u8 (x j : Nat)
  k0 : f len = .int .u8 165
  k1 : f (len + 1) = .int .u8 90
  k2 : f (len + 2) = .int .u8 165

/-- Bytes as a string. -/
def strOf (n : Nat) (x : Nat → Nat) : ByteArray := strOfNums ((List.range n).map fun j => (x j : Int))
theorem str_byt (a : Option Addr) (len cap : Nat) (x : Nat → Nat) (w : World) (hb : Byt w a len x) (ha : a = none → len = 0) : (convert 43 9 (.slice a len cap)).run Try.prog w = .ok (.string (strOf len x)) w := by
  rcases Nat.eq_zero_or_pos len with rfl | hp
  · cases a with
    | none =>
      rw [run_convert_bytes_nil (P := Try.prog) w 43 5 Try.underlying43 Try.underlying5 0 cap 9 Try.underlying9]; rfl
    | some ad =>
      have hl : (loadCells ad 0).run Try.prog w = .ok (([] : List Int).map (Value.int .u8)).toArray w := by simpa using run_loadCells_list (P := Try.prog) w ad [] (by simp)
      rw [run_convert_bytes_string (P := Try.prog) w 43 9 5 _ 0 cap Try.underlying43 Try.underlying5 Try.underlying9, run_bytesToString w ad 0 cap [] hl]; rfl
  · obtain ⟨b, off, rfl, _⟩ := hb 0 hp
    exact run_convert_bytes_arg (P := Try.prog) w 43 5 Try.underlying43 Try.underlying5 b off len cap _ (by simp) (fun i hi => by
      obtain ⟨b', off', e, hc⟩ := hb i hi
      cases e
      rw [hc]; simp [List.getD, hi]) 9 Try.underlying9

theorem Lent.byt {w : World} {g len cap : Nat} {x : Nat → Nat} {f : Nat → Value} (h : Lent w g len cap x f) : Byt w (some ⟨g, 0, none⟩) len x := fun j hj =>
  ⟨g, 0, rfl, by rw [Nat.zero_add, h.row.cell (by have := h.room; omega), h.byte j hj]⟩
theorem Lent.since {w w' : World} {g len cap : Nat} {x : Nat → Nat} {f : Nat → Value} (h : Lent w g len cap x f) (hs : w.Since w.heap.size w') : Lent w' g len cap x f :=
  ⟨h.row.of_block (hs.block g h.row.lt), h.room, h.cap, h.byte, h.k0, h.k1, h.k2⟩
theorem Lent.drewN {w : World} {g len cap : Nat} {x : Nat → Nat} {f : Nat → Value} (h : Lent w g len cap x f) (n : Nat) : Lent (w.drewN n) g len cap x f := ⟨h.row, h.room, h.cap, h.byte, h.k0, h.k1, h.k2⟩

end Go.Proofs.Ytkcjmjaikobpoaa

/- Messages in memory, apart from how they are written. -/
namespace Go.Proofs.Ytkcjmjaikobpoaa
open Go.RowKit
set_option maxRecDepth 100000
set_option maxRecDepth 100000

/-- A message: its numbers and its texts, by the cell in which they lie. -/
structure Mg where
  n : Nat → Int
  s : Nat → List Nat
def mg0 : Mg := ⟨fun _ => 0, fun _ => []⟩
def Mg.setN (m : Mg) (c : Nat) (v : Int) : Mg := ⟨fun i => if i = c then v else m.n i, m.s⟩
def Mg.setS (m : Mg) (c : Nat) (l : List Nat) : Mg := ⟨m.n, fun i => if i = c then l else m.s i⟩
theorem Mg.ext' {a b : Mg} (h1 : ∀ c, a.n c = b.n c) (h2 : ∀ c, a.s c = b.s c) : a = b := by
  obtain ⟨n1, s1⟩ := a
  obtain ⟨n2, s2⟩ := b
  have e1 : n1 = n2 := funext h1
  have e2 : s1 = s2 := funext h2
  rw [e1, e2]
def strL (l : List Nat) : ByteArray := strOfNums (l.map fun v : Nat => (v : Int))
def isU (i : Nat) : Bool := i == 4 || i == 5 || i == 6 || i == 7 || i == 9 || i == 12 || i == 15 || i == 16 || i == 17
/-- The cells of a message; va, vc: where its Value lies, and its room. -/
def mgCell (m : Mg) (va : Option Addr) (vc : Nat) (i : Nat) : Value :=
  if i = 10 then .slice va (m.s 10).length vc else if i = 13 ∨ i = 14 then .string (strL (m.s i)) else if isU i = true then .int .u64 (m.n i) else .int .i64 (m.n i)
theorem mgCell_u {m : Mg} {va : Option Addr} {vc i : Nat} (h : isU i = true) : mgCell m va vc i = .int .u64 (m.n i) := by
  have h10 : i ≠ 10 := fun e => by rw [e] at h; exact absurd h (by decide)
  have h13 : ¬ (i = 13 ∨ i = 14) := fun e => by rcases e with e | e <;> (rw [e] at h; exact absurd h (by decide))
  unfold mgCell
  rw [if_neg h10, if_neg h13, if_pos h]
theorem mgCell_i {m : Mg} {va : Option Addr} {vc i : Nat} (h : isU i = false) (h10 : i ≠ 10) (h13 : i ≠ 13) (h14 : i ≠ 14) : mgCell m va vc i = .int .i64 (m.n i) := by
  unfold mgCell
  rw [if_neg h10, if_neg (by omega), if_neg (by rw [h]; decide)]
def mgNum (c : Nat) (v : Int) : Value := if isU c = true then .int .u64 v else .int .i64 v
theorem mgCell_setN (m : Mg) (va : Option Addr) (vc c : Nat) (v : Int) (h10 : c ≠ 10) (h13 : c ≠ 13) (h14 : c ≠ 14) (i : Nat) : mgCell (m.setN c v) va vc i = if i = c then mgNum c v else mgCell m va vc i := by
  by_cases e : i = c
  · subst e
    rw [if_pos rfl]
    unfold mgCell mgNum
    rw [if_neg h10, if_neg (by omega)]
    simp [Mg.setN]
  · rw [if_neg e]
    unfold mgCell
    simp [Mg.setN, e]
theorem mgCell_setS (m : Mg) (va : Option Addr) (vc c : Nat) (l : List Nat) (h : c = 13 ∨ c = 14) (i : Nat) : mgCell (m.setS c l) va vc i = if i = c then .string (strL l) else mgCell m va vc i := by
  by_cases e : i = c
  · subst e
    rw [if_pos rfl]
    unfold mgCell
    rw [if_neg (by omega), if_pos h]
    simp [Mg.setS]
  · rw [if_neg e]
    unfold mgCell
    have : (10 : Nat) ≠ c := by omega
    simp [Mg.setS, e, this]
theorem mgCell_setV (m : Mg) (va ta : Option Addr) (vc k : Nat) (l : List Nat) (i : Nat) : mgCell (m.setS 10 l) ta k i = if i = 10 then .slice ta l.length k else mgCell m va vc i := by
  by_cases e : i = 10
  · subst e
    rw [if_pos rfl]
    unfold mgCell
    simp [Mg.setS]
  · rw [if_neg e]
    unfold mgCell
    simp [Mg.setS, e]
/-- The bytes of a string. -/
def bx (s : ByteArray) (j : Nat) : Nat := (s.data.toList.getD j 0).toNat
theorem bx_lt (s : ByteArray) (j : Nat) : bx s j < 256 := (s.data.toList.getD j 0).toNat_lt
/-- Block g is what []byte(s) made: the bytes, then zeros, c in all. -/
structure FlB (w : World) (g c : Nat) (s : ByteArray) : Prop where
  blk : ∃ cs, w.heap[g]? = some (.cells cs 5 (c, c + 1)) ∧ cs.size = c ∧ (∀ j, j < s.size → cs[j]? = some (.int .u8 (bx s j : Nat))) ∧ ∀ j, j < c → ∃ q : Nat, cs[j]? = some (.int .u8 (q : Nat))
  le : s.size ≤ c
theorem FlB.on {w w' : World} {g c : Nat} {s : ByteArray} (h : FlB w g c s) (e : w'.heap[g]? = w.heap[g]?) : FlB w' g c s := by
  obtain ⟨cs, h1, h2⟩ := h.blk
  exact ⟨⟨cs, e.trans h1, h2⟩, h.le⟩
theorem FlB.lt {w : World} {g c : Nat} {s : ByteArray} (h : FlB w g c s) : g < w.heap.size := by
  obtain ⟨cs, h1, h2⟩ := h.blk
  exact (Array.getElem?_eq_some_iff.1 h1).1
theorem FlB.cell {w : World} {g c : Nat} {s : ByteArray} (h : FlB w g c s) (j : Nat) (hj : j < s.size) : w.cell? ⟨g, j, none⟩ = some (.int .u8 (bx s j : Nat)) := by
  obtain ⟨cs, h1, h2, h3, _⟩ := h.blk
  simp [World.cell?, h1, h3 j hj]
theorem FlB.byt {w : World} {g c : Nat} {s : ByteArray} (h : FlB w g c s) : Byt w (some ⟨g, 0, none⟩) s.size (bx s) := fun j hj => ⟨g, 0, rfl, by rw [Nat.zero_add]; exact h.cell j hj⟩
theorem flb_new (w : World) (s : ByteArray) : FlB (Lib.bytesWorld w 5 s) w.heap.size (grownCap w s.size 0 5) s := by
  have hc := grownCap_ge w s.size 0 5
  have hds : s.data.size = s.size := rfl
  have hsz : (Lib.bytesCells w 5 s).size = grownCap w s.size 0 5 := by
    unfold Lib.bytesCells
    rw [Array.size_append, Array.size_map, Array.size_replicate]
    omega
  refine ⟨⟨Lib.bytesCells w 5 s, ?_, hsz, fun j hj => ?_, fun j hj => ?_⟩, hc⟩
  · rw [Lib.bytesWorld_at_new, hsz]
  · unfold Lib.bytesCells bx
    rw [Array.getElem?_append_left (by rw [Array.size_map]; omega), Array.getElem?_map, Array.getElem?_eq_getElem (by omega)]
    simp only [List.getD, Array.getElem?_toList, Option.map_some]
    rw [Array.getElem?_eq_getElem (by omega)]
    rfl
  · unfold Lib.bytesCells
    by_cases h : j < s.data.size
    · rw [Array.getElem?_append_left (by rw [Array.size_map]; omega), Array.getElem?_map, Array.getElem?_eq_getElem h]
      exact ⟨s.data[j].toNat, rfl⟩
    · rw [Array.getElem?_append_right (by rw [Array.size_map]; omega), Array.getElem?_replicate, Array.size_map, if_pos (by omega)]
      exact ⟨0, rfl⟩
theorem since_bytes (w : World) (s : ByteArray) : w.Since w.heap.size (Lib.bytesWorld w 5 s) :=
  ⟨rfl, rfl, rfl, by rw [Lib.bytesWorld_size]; omega, fun k hk => Lib.bytesWorld_at_old w _ s k hk⟩
theorem strL_size (l : List Nat) : (strL l).size = l.length := by unfold strL; rw [strOfNums_size]; simp
theorem bx_strL {l : List Nat} (h : ∀ v ∈ l, v < 256) (j : Nat) : bx (strL l) j = l.getD j 0 := by
  unfold bx strL
  rw [strOfNums_data]
  by_cases hj : j < l.length
  · have hv := h l[j] (List.getElem_mem hj)
    have e : (l.map fun v : Nat => (v : Int)).map (fun n => UInt8.ofNat n.toNat) = l.map fun v => UInt8.ofNat v := by
      rw [List.map_map]
      exact List.map_congr_left fun v _ => by simp
    rw [e]
    simp only [List.getD, List.getElem?_map, List.getElem?_eq_getElem hj, Option.map_some, Option.getD_some]
    rw [UInt8.toNat_ofNat']
    omega
  · simp [List.getD, hj]
theorem strOf_strL (n : Nat) (x : Nat → Nat) : strOf n x = strL ((List.range n).map x) := by
  unfold strOf strL
  rw [List.map_map]
  rfl
theorem strL_inj {a b : List Nat} (ha : ∀ v ∈ a, v < 256) (hb : ∀ v ∈ b, v < 256) (h : strL a = strL b) : a = b := by
  have hl : a.length = b.length := by rw [← strL_size a, ← strL_size b, h]
  refine List.ext_getElem hl (fun j h1 h2 => ?_)
  have := congrArg (fun s => bx s j) h
  simp only [bx_strL ha, bx_strL hb] at this
  simpa [List.getD, h1, h2] using this
/-- The bytes of a string as a list. -/
def listS (s : ByteArray) : List Nat := s.data.toList.map (·.toNat)
theorem listS_len (s : ByteArray) : (listS s).length = s.size := by unfold listS; rw [List.length_map, Array.length_toList]; rfl
theorem listS_byte (s : ByteArray) : ∀ v ∈ listS s, v < 256 := fun v hv => by
  obtain ⟨u, _, rfl⟩ := List.mem_map.1 hv
  exact u.toNat_lt
theorem strL_listS (s : ByteArray) : strL (listS s) = s := by
  unfold strL listS strOfNums
  rw [List.map_map, List.map_map]
  have : (((fun n : Int => UInt8.ofNat n.toNat) ∘ fun v : Nat => (v : Int)) ∘ fun x : UInt8 => x.toNat) = id := by
    funext u
    simp
  rw [this]
  simp
/-- Nothing that was there has turned but block r. -/
structure But (r : Nat) (w w' : World) : Prop where
  os : w'.os = w.os
  tape : w'.tape = w.tape
  output : w'.output = w.output
  size : w.heap.size ≤ w'.heap.size
  block : ∀ k, k < w.heap.size → k ≠ r → w'.heap[k]? = w.heap[k]?
theorem But.of_since {r : Nat} {w w' : World} (h : w.Since w.heap.size w') : But r w w' := ⟨h.os, h.tape, h.output, h.size, fun k hk _ => h.block k hk⟩
theorem But.trans {r : Nat} {a b c : World} (h : But r a b) (k : But r b c) : But r a c :=
  ⟨k.os.trans h.os, k.tape.trans h.tape, k.output.trans h.output, Nat.le_trans h.size k.size, fun i hi hr => (k.block i (Nat.lt_of_lt_of_le hi h.size) hr).trans (h.block i hi hr)⟩
theorem But.setCell {r : Nat} {w w' : World} (h : But r w w') (i : Nat) (v : Value) : But r w (w'.setCell ⟨r, i, none⟩ v) :=
  ⟨h.os, h.tape, h.output, by have := h.size; simpa [World.setCell] using this, fun k hk hr => by rw [Below.heap_setCell _ _ _ _ hr]; exact h.block k hk hr⟩
theorem But.drew {r : Nat} {w w' : World} (h : But r w w') : But r w w'.drew := ⟨h.os, h.tape, h.output, h.size, h.block⟩
theorem But.since {r B : Nat} {w0 w w' : World} (h0 : w0.Since B w) (hB : B ≤ r) (hB2 : B ≤ w.heap.size) (h : But r w w') : w0.Since B w' :=
  ⟨h.os.trans h0.os, h.tape.trans h0.tape, h.output.trans h0.output, Nat.le_trans h0.size h.size, fun k hk => (h.block k (by omega) (by omega)).trans (h0.block k hk)⟩
theorem But.row {r b t n : Nat} {w w' : World} {f : Nat → Value} (h : But r w w') (hr : w.rowIs b t n f) (hb : b ≠ r) : w'.rowIs b t n f := hr.of_block (h.block b hr.lt hb)
theorem But.setNew {r : Nat} {w w' : World} (h : But r w w') {a : Addr} (ha : w.heap.size ≤ a.block) (v : Value) : But r w (w'.setCell a v) :=
  ⟨h.os, h.tape, h.output, by have := h.size; simpa [World.setCell] using this, fun k hk hr => by rw [Below.heap_setCell _ _ _ _ (by omega)]; exact h.block k hk hr⟩
theorem But.range {r : Nat} {w w' : World} (h : But r w w') {b : Nat} {cs : List Value} (hb : b ≠ r) (hl : b < w.heap.size) (hr : w.rangeAt b 0 cs) : w'.rangeAt b 0 cs := fun j v hv => by
  rw [World.cell?_of_block (a := ⟨b, 0 + j, none⟩) (h.block b hl hb)]
  exact hr j v hv
theorem But.sin {r : Nat} {w w1 w2 : World} (h : But r w w1) (k : w1.Since w1.heap.size w2) : But r w w2 := h.trans (But.of_since k)
theorem row_since {w w' : World} {b t n : Nat} {f : Nat → Value} (h : w.rowIs b t n f) (hs : w.Since w.heap.size w') : w'.rowIs b t n f := h.of_block (hs.block b h.lt)
def mgL (m : Mg) (va : Option Addr) (vc : Nat) : List Value := (List.range 22).map (mgCell m va vc)
def mgV (m : Mg) (va : Option Addr) (vc : Nat) : Value := .agg (mgL m va vc).toArray
theorem mgL_len (m : Mg) (va : Option Addr) (vc : Nat) : (mgL m va vc).length = 22 := by simp [mgL]
theorem infoMg : (Try.prog.info? 52).map (·.size) = some 22 := by kernel_rfl
theorem infoMg' (m : Mg) (va : Option Addr) (vc : Nat) : (Try.prog.info? 52).map (·.size) = some (mgL m va vc).length := by rw [mgL_len]; exact infoMg
theorem mgCell_one (m : Mg) (va : Option Addr) (vc i : Nat) : (mgCell m va vc i).oneCell' = true := by
  unfold mgCell
  split
  · rfl
  · split
    · rfl
    · split <;> rfl
theorem mgL_one (m : Mg) (va : Option Addr) (vc : Nat) : ∀ v ∈ mgL m va vc, v.oneCell' = true := fun v hv => by
  obtain ⟨i, _, rfl⟩ := List.mem_map.1 hv
  exact mgCell_one m va vc i
theorem mgL_range {w : World} {mb : Nat} {m : Mg} {va : Option Addr} {vc : Nat} (h : w.rowIs mb 52 22 (mgCell m va vc)) : w.rangeAt mb 0 (mgL m va vc) := fun j v hv => by
  have hj : j < 22 := by have := (List.getElem?_eq_some_iff.1 hv).1; rwa [mgL_len] at this
  have : v = mgCell m va vc j := by
    unfold mgL at hv
    rw [List.getElem?_map, List.getElem?_range hj] at hv
    exact (Option.some.inj hv).symm
  rw [this, Nat.zero_add]
  exact h.cell hj
theorem row_there {w : World} {b t k : Nat} {f : Nat → Value} (h : w.rowIs b t k f) : w.there b 0 k := fun j hj => ⟨by rw [Nat.zero_add, h.cell hj]; rfl, by rw [Nat.zero_add]; exact h.frozen j⟩
/-- A message of nothing. -/
def mgZ : Obj := .cells #[.int .i64 0, .int .i64 0, .int .i64 0, .int .i64 0, .int .u64 0, .int .u64 0, .int .u64 0, .int .u64 0, .int .i64 0, .int .u64 0, .slice none 0 0, .int .i64 0, .int .u64 0, .string ⟨#[]⟩, .string ⟨#[]⟩, .int .u64 0, .int .u64 0, .int .u64 0, .int .i64 0, .int .i64 0, .int .i64 0, .int .i64 0] 52
theorem mgZ_row (w : World) : (w.alloc mgZ).rowIs w.heap.size 52 22 (mgCell mg0 none 0) :=
  World.rowIs_alloc w _ _ _ (fun i hi => by
    have hi' : i < 22 := hi
    have : ∀ j : Fin 22, (#[Value.int .i64 0, .int .i64 0, .int .i64 0, .int .i64 0, .int .u64 0, .int .u64 0, .int .u64 0, .int .u64 0, .int .i64 0, .int .u64 0, .slice none 0 0, .int .i64 0, .int .u64 0, .string ⟨#[]⟩, .string ⟨#[]⟩, .int .u64 0, .int .u64 0, .int .u64 0, .int .i64 0, .int .i64 0, .int .i64 0, .int .i64 0] : Array Value)[j.val]? = some (mgCell mg0 none 0 j.val) := by
      intro j
      match j with
      | ⟨0, _⟩ => rfl
      | ⟨1, _⟩ => rfl
      | ⟨2, _⟩ => rfl
      | ⟨3, _⟩ => rfl
      | ⟨4, _⟩ => rfl
      | ⟨5, _⟩ => rfl
      | ⟨6, _⟩ => rfl
      | ⟨7, _⟩ => rfl
      | ⟨8, _⟩ => rfl
      | ⟨9, _⟩ => rfl
      | ⟨10, _⟩ => rfl
      | ⟨11, _⟩ => rfl
      | ⟨12, _⟩ => rfl
      | ⟨13, _⟩ => rfl
      | ⟨14, _⟩ => rfl
      | ⟨15, _⟩ => rfl
      | ⟨16, _⟩ => rfl
      | ⟨17, _⟩ => rfl
      | ⟨18, _⟩ => rfl
      | ⟨19, _⟩ => rfl
      | ⟨20, _⟩ => rfl
      | ⟨21, _⟩ => rfl
      | ⟨n + 22, h⟩ => exact absurd h (by omega)
    exact this ⟨i, hi'⟩)
theorem op_run {P : Program} {o : Oper} {a : Act} {w : World} {K : Act → World → Prop} {Q : Exit → Act → World → Prop} (v : Value) (hrun : (execOp a.eval o).run P w = .ok (.value v) w) (h : K (a.put o.dst v) w) : Oper.wp P o a w K Q := by
  unfold Oper.wp
  rw [hrun]
  exact h
theorem op_runW {P : Program} {o : Oper} {a : Act} {w w' : World} {K : Act → World → Prop} {Q : Exit → Act → World → Prop} (v : Value) (hrun : (execOp a.eval o).run P w = .ok (.value v) w') (h : K (a.put o.dst v) w') : Oper.wp P o a w K Q := by
  unfold Oper.wp
  rw [hrun]
  exact h
theorem mgV_zero : mgV mg0 none 0 = .agg #[.int .i64 0, .int .i64 0, .int .i64 0, .int .i64 0, .int .u64 0, .int .u64 0, .int .u64 0, .int .u64 0, .int .i64 0, .int .u64 0, .slice none 0 0, .int .i64 0, .int .u64 0, .string ⟨#[]⟩, .string ⟨#[]⟩, .int .u64 0, .int .u64 0, .int .u64 0, .int .i64 0, .int .i64 0, .int .i64 0, .int .i64 0] := rfl
theorem mg_all (m : Mg) (va : Option Addr) (vc : Nat) : (mgL m va vc).toArray.all (·.oneCell') = true := all_oneCell_toArray (mgL_one m va vc)
theorem infoMgA (m : Mg) (va : Option Addr) (vc : Nat) : (Try.prog.info? 52).map (·.size) = some (mgL m va vc).toArray.size := by rw [List.size_toArray]; exact infoMg' m va vc
theorem row_heap {w : World} {b : Nat} {t : TypeId} {n : Nat} {f : Nat → Value} (h : w.rowIs b t n f) : w.heap[b]? = some (.cells ((List.range n).map f).toArray t (0, 0)) := by
  obtain ⟨c, h1, h2, h3⟩ := h
  have : c = ((List.range n).map f).toArray := by
    refine Array.ext (by simp [h2]) (fun i i1 i2 => ?_)
    have := h3 i (by omega)
    rw [Array.getElem?_eq_getElem i1] at this
    rw [Option.some.inj this]
    simp
  rw [h1, this]
/-- A message stored whole. -/
theorem mg_stored {W : World} {qb : Nat} {f : Nat → Value} (h : W.rowIs qb 52 22 f) (m : Mg) (va : Option Addr) (vc : Nat) : ∃ W1, Hid (W.setCells qb 0 (mgL m va vc) = W1) ∧ W1.rowIs qb 52 22 (mgCell m va vc) ∧ W1.heap[qb]? = some (.cells (mgL m va vc).toArray 52 (0, 0)) ∧ W1.heap.size = W.heap.size ∧ (∀ k, k ≠ qb → W1.heap[k]? = W.heap[k]?) ∧ W1.os = W.os ∧ W1.tape = W.tape ∧ W1.output = W.output := by
  have hr := rowIs_setCells (mgL m va vc) 0 W f h
  have hr2 : (W.setCells qb 0 (mgL m va vc)).rowIs qb 52 22 (mgCell m va vc) := hr.congr (fun j hj => by
    rw [if_pos ⟨Nat.zero_le _, by rw [mgL_len]; omega⟩, Nat.sub_zero]
    simp [mgL, List.getD, hj])
  have hk : ∀ (vs : List Value) (o : Nat) (W : World), (∀ k, k ≠ qb → (W.setCells qb o vs).heap[k]? = W.heap[k]?) ∧ (W.setCells qb o vs).os = W.os ∧ (W.setCells qb o vs).tape = W.tape ∧ (W.setCells qb o vs).output = W.output := by
    intro vs
    induction vs with
    | nil => intro o W; exact ⟨fun _ _ => rfl, rfl, rfl, rfl⟩
    | cons v r ih =>
      intro o W
      obtain ⟨i1, i2, i3, i4⟩ := ih (o + 1) (W.setCell ⟨qb, o, none⟩ v)
      exact ⟨fun k hk => (i1 k hk).trans (Below.heap_setCell _ _ _ _ hk), i2, i3, i4⟩
  obtain ⟨h1, h2, h3, h4⟩ := hk (mgL m va vc) 0 W
  exact ⟨_, rfl, hr2, row_heap hr2, size_setCells _ _ _ _, h1, h2, h3, h4⟩
theorem step_callW {P : Program} {ops : Array Oper} {o : Oper} {a : Act} {w : World} {K : Act → World → Prop} {Q : Exit → Act → World → Prop} {E : Prop} (hw : Region.wanted o (yielded ops a.tmps) = true) (f : FuncId) (args : Array Value) (hrun : (execOp a.eval o).run P w = .ok (.enter f args) w) {Post : Ending → World → Prop} (hc : Calls P f args w Post)
    (h : ∀ e w', Post e w' → ∃ v, e = .returned v ∧ K (a.put o.dst v) w') : if Region.wanted o (yielded ops a.tmps) = true then Oper.wp P o a w K Q else E := by
  rw [if_pos hw]
  unfold Oper.wp
  rw [hrun, Oper.upon_enter]
  refine hc.mono fun e w'' hh => ?_
  obtain ⟨v, rfl, hk⟩ := h e w'' hh
  exact hk
theorem step_storeM {P : Program} {ops : Array Oper} {o : Oper} {a : Act} {w : World} {K : Act → World → Prop} {Q : Exit → Act → World → Prop} {E : Prop} (hw : Region.wanted o (yielded ops a.tmps) = true) (h : Oper.wp P o a w K Q) : if Region.wanted o (yielded ops a.tmps) = true then Oper.wp P o a w K Q else E := by
  rw [if_pos hw]
  exact h
/-- A message that is handed in: its Value lies in memory. -/
structure MgA (w : World) (m : Mg) (va : Option Addr) (vc : Nat) : Prop where
  val : Byt w va (m.s 10).length (fun j => (m.s 10).getD j 0)
  nil : va = none → (m.s 10).length = 0 ∧ vc = 0
  lt : ∀ q, va = some q → 0 < (m.s 10).length → q.block < w.heap.size
  len : ∀ c, (m.s c).length ≤ 140737488351232
  byte : ∀ c, ∀ v ∈ m.s c, v < 256
theorem MgA.since {w w' : World} {m : Mg} {va : Option Addr} {vc : Nat} (h : MgA w m va vc) (hs : w.Since w.heap.size w') : MgA w' m va vc :=
  ⟨h.val.since hs, h.nil, fun q e h0 => Nat.lt_of_lt_of_le (h.lt q e h0) hs.size, h.len, h.byte⟩
theorem mg_row (w : World) (m : Mg) (va : Option Addr) (vc : Nat) : (w.alloc (.cells (mgL m va vc).toArray 52)).rowIs w.heap.size 52 22 (mgCell m va vc) := by
  have := World.rowIs_alloc w (mgL m va vc).toArray 52 (mgCell m va vc) (fun i hi => by
    have hi : i < 22 := by rw [List.size_toArray, mgL_len] at hi; exact hi
    rw [List.getElem?_toArray]
    unfold mgL
    rw [List.getElem?_map, List.getElem?_range hi]
    rfl)
  have e : (mgL m va vc).toArray.size = 22 := by rw [List.size_toArray, mgL_len]
  rw [e] at this
  exact this
theorem getD_byte {l : List Nat} (h : ∀ v ∈ l, v < 256) (j : Nat) : l.getD j 0 < 256 := by
  by_cases hj : j < l.length
  · have := h l[j] (List.getElem_mem hj)
    simpa [List.getD, hj] using this
  · simp [List.getD, hj]
theorem row_setN {W : World} {kb : Nat} {m : Mg} {va : Option Addr} {vc : Nat} (h : W.rowIs kb 52 22 (mgCell m va vc)) (c : Nat) (v : Int) (h10 : c ≠ 10) (h13 : c ≠ 13) (h14 : c ≠ 14) : (W.setCell ⟨kb, c, none⟩ (mgNum c v)).rowIs kb 52 22 (mgCell (m.setN c v) va vc) :=
  (h.set c _).congr (fun i _ => (mgCell_setN m va vc c v h10 h13 h14 i).symm)
theorem row_setS {W : World} {kb : Nat} {m : Mg} {va : Option Addr} {vc : Nat} (h : W.rowIs kb 52 22 (mgCell m va vc)) (c : Nat) (l : List Nat) (hc : c = 13 ∨ c = 14) : (W.setCell ⟨kb, c, none⟩ (.string (strL l))).rowIs kb 52 22 (mgCell (m.setS c l) va vc) :=
  (h.set c _).congr (fun i _ => (mgCell_setS m va vc c l hc i).symm)
theorem row_setV {W : World} {kb : Nat} {m : Mg} {va : Option Addr} {vc : Nat} (h : W.rowIs kb 52 22 (mgCell m va vc)) (l : List Nat) (ta : Option Addr) (k : Nat) : (W.setCell ⟨kb, 10, none⟩ (.slice ta l.length k)).rowIs kb 52 22 (mgCell (m.setS 10 l) ta k) :=
  (h.set 10 _).congr (fun i _ => (mgCell_setV m va ta vc k l i).symm)
theorem range_getD (l : List Nat) : (List.range l.length).map (fun j => l.getD j 0) = l := by
  apply List.ext_getElem?
  intro j
  by_cases h : j < l.length
  · simp [h]
  · simp [h]
theorem cell_later {w w' : World} {b i : Nat} {v : Value} (hs : w.Since w.heap.size w') (h : w.cell? ⟨b, i, none⟩ = some v) : w'.cell? ⟨b, i, none⟩ = some v := by
  rw [World.cell?_of_block (a := ⟨b, i, none⟩) (hs.block _ (World.block_lt_of_cell? _ _ h))]; exact h
theorem wpList_load_rowG {P : Program} {ops : Array Oper} {rest : List Oper} {o : Oper} {a : Act} {w : World} {Q : Exit → Act → World → Prop} (hw : Region.wanted o (yielded ops a.tmps) = true) (ty : TypeId) (x : Operand) (ho : o.op = .load ty x)
    (g : Nat) (hx : a.eval x = .pointer (some ⟨g, 0, none⟩)) (t : TypeId) (cs : Array Value) (fr : Nat × Nat) (d : TypeDesc) (hg : w.heap[g]? = some (.cells cs t fr))
    (hu : P.underlying ty = some d) (hd : (match d with | .struct _ | .array _ _ => true | _ => false) = true) (hi : (P.info? ty).map (·.size) = some cs.size)
    (h : wpList P ops Q rest (a.put o.dst (.agg cs)) w) : wpList P ops Q (o :: rest) a w :=
  wpList_step fun _ hK => by
    rw [if_pos hw]
    exact wp_load_row ty x ho g hx t cs fr d hg hu hd hi (hK _ _ h)
/-- A message is laid into new memory. -/
theorem mg_put (w : World) (m : Mg) (va : Option Addr) (vc : Nat) : ∃ (W : World) (MA : Array Value), Hid (mgV m va vc = .agg MA) ∧ Hid ((w.alloc (.cells #[.int .i64 0, .int .i64 0, .int .i64 0, .int .i64 0, .int .u64 0, .int .u64 0, .int .u64 0, .int .u64 0, .int .i64 0, .int .u64 0, .slice none 0 0, .int .i64 0, .int .u64 0, .string ⟨#[]⟩, .string ⟨#[]⟩, .int .u64 0, .int .u64 0, .int .u64 0, .int .i64 0, .int .i64 0, .int .i64 0, .int .i64 0] 52)).there w.heap.size 0 MA.size) ∧ Hid ((w.alloc (.cells #[.int .i64 0, .int .i64 0, .int .i64 0, .int .i64 0, .int .u64 0, .int .u64 0, .int .u64 0, .int .u64 0, .int .i64 0, .int .u64 0, .slice none 0 0, .int .i64 0, .int .u64 0, .string ⟨#[]⟩, .string ⟨#[]⟩, .int .u64 0, .int .u64 0, .int .u64 0, .int .i64 0, .int .i64 0, .int .i64 0, .int .i64 0] 52)).setCells w.heap.size 0 MA.toList = W) ∧ Hid ((Try.prog.info? 52).map (·.size) = some MA.size) ∧ Hid (MA.all (·.oneCell') = true) ∧ Hid (∀ W', W.Since W.heap.size W' → W'.heap[w.heap.size]? = some (.cells MA 52 (0, 0))) ∧ Hid (w.Since w.heap.size W) := by
  have r6 : (w.alloc mgZ).rowIs w.heap.size 52 22 (mgCell mg0 none 0) := mgZ_row w
  obtain ⟨W, HW, r7, h7, z7, b7, o7, t7, p7⟩ := mg_stored r6 m va vc
  have s6 : w.Since w.heap.size (w.alloc mgZ) := (World.Since.refl _ _).alloc (Nat.le_refl _) _
  have hms : (mgL m va vc).toArray.size = 22 := by rw [List.size_toArray, mgL_len]
  refine ⟨W, (mgL m va vc).toArray, rfl, ?_, HW, infoMgA _ _ _, mg_all _ _ _, fun W' hW => ?_, o7.trans s6.os, t7.trans s6.tape, p7.trans s6.output, by rw [z7]; exact s6.size, fun k hk => (b7 k (by omega)).trans (s6.block k hk)⟩
  · show World.there _ _ _ _
    rw [hms]
    exact row_there r6
  · rw [hW.block w.heap.size (by rw [z7]; exact r6.lt)]
    exact h7
end Go.Proofs.Ytkcjmjaikobpoaa

/- Steps by hand: a cell is stored to, a call, an operation under a guard that is met, a conversion that makes a new world. -/
namespace Go.Proofs.Ytkcjmjaikobpoaa
open Go.RowKit
set_option maxRecDepth 100000
set_option maxRecDepth 100000

theorem setCells_two (W : World) (b o : Nat) (x y : Value) : W.setCells b o [x, y] = (W.setCell ⟨b, o, none⟩ x).setCell ⟨b, o + 1, none⟩ y := rfl
theorem infoTg : (Try.prog.info? 42).map (·.size) = some 2 := by kernel_rfl
theorem run_storeVar_cell {P : Program} (w : World) (b o : Nat) (ty : TypeId) (v old : Value) (hc : w.cell? ⟨b, o, none⟩ = some old) (hf : w.frozen? ⟨b, o, none⟩ = false) (hi : (P.info? ty).map (·.size) = some 1) (h1 : v.oneCell' = true) :
    (storeVar ty ⟨b, o, none⟩ v).run P w = .ok () (w.setCell ⟨b, o, none⟩ v) := by
  have := run_storeCells_cells (P := P) b o [v] 0 w (fun j hj => by
    have : j = 0 := by simpa using hj
    subst this
    simp [hc]) (fun j hj => by
    have : j = 0 := by simpa using hj
    subst this
    simpa using hf) (fun x hx => by simp at hx; subst hx; exact h1)
  have hcs : v.cells = #[v] := by cases v <;> first | rfl | cases h1
  cases hq : P.info? ty with
  | none => simp [hq] at hi
  | some i =>
    have hs : i.size = 1 := by simpa [hq] using hi
    simp only [Nat.add_zero] at this
    simp [storeVar, sizeOf, typeInfo, hq, hcs, hs, this]
    rfl
theorem wp_store_cell {P : Program} {op : Oper} {a : Act} {w : World} {K : Act → World → Prop} {Q : Exit → Act → World → Prop} (ty : TypeId) (x y : Operand) (ho : op.op = .store ty x y) (b o : Nat) (v old : Value) (hx : a.eval x = .pointer (some ⟨b, o, none⟩)) (hy : a.eval y = v)
    (hc : w.cell? ⟨b, o, none⟩ = some old) (hf : w.frozen? ⟨b, o, none⟩ = false) (hi : (P.info? ty).map (·.size) = some 1) (h1 : v.oneCell' = true) (h : K (a.put op.dst undef) (w.setCell ⟨b, o, none⟩ v)) : op.wp P a w K Q := by
  unfold Oper.wp execOp
  simp only [ho, hx, hy, Instr.storeAt, Instr.sureAddr, Sem.run_bind, Sem.run_pure, Result.andThen_ok, run_storeVar_cell w b o ty v old hc hf hi h1]
  exact h
theorem op_call {P : Program} {o : Oper} {a : Act} {w : World} {K : Act → World → Prop} {Q : Exit → Act → World → Prop} (f : FuncId) (args : Array Value) (hrun : (execOp a.eval o).run P w = .ok (.enter f args) w) {Post : Ending → World → Prop} (hc : Calls P f args w Post)
    (h : ∀ e w', Post e w' → ∃ v, e = .returned v ∧ K (a.put o.dst v) w') : Oper.wp P o a w K Q := by
  unfold Oper.wp
  rw [hrun, Oper.upon_enter]
  refine hc.mono fun e w'' hh => ?_
  obtain ⟨v, rfl, hk⟩ := h e w'' hh
  exact hk
theorem wpList_want {P : Program} {ops : Array Oper} {rest : List Oper} {o : Oper} {a : Act} {w : World} {Q : Exit → Act → World → Prop} (hw : Region.wanted o (yielded ops a.tmps) = true)
    (h : ∀ K : Act → World → Prop, (∀ a' w', wpList P ops Q rest a' w' → K a' w') → Oper.wp P o a w K Q) : wpList P ops Q (o :: rest) a w :=
  wpList_step fun _ hK => by
    rw [if_pos hw]
    exact h _ hK
theorem op_convert {P : Program} {o : Oper} {a : Act} {w w' : World} {K : Act → World → Prop} {Q : Exit → Act → World → Prop} (t t' : TypeId) (x : Operand) (ho : o.op = .convert t t' x) (v v' : Value) (hx : a.eval x = v) (hr : (convert t t' v).run P w = .ok v' w') (h : K (a.put o.dst v') w') : Oper.wp P o a w K Q := by
  unfold Oper.wp
  simp [execOp, ho, hx, hr, Result.andThen]
  exact h
end Go.Proofs.Ytkcjmjaikobpoaa

/- Package quorum: a quorum's own row in memory; what tells how it stands. -/
namespace Go.Proofs.Ytkcjmjaikobpoaa
open Go.RowKit
set_option maxRecDepth 100000
set_option maxRecDepth 100000

/-- A tag and its value. -/
structure Tv where
  te : Nat
  ts : Nat
  v : List Nat
/-- A quorum, as far as it lies in its own row (the copies' list and the three crowds by where they lie). -/
structure Qm where
  node : Int
  shard : Int
  ca : Option Addr
  cn : Nat
  cc : Nat
  seen : Nat
  ph : Int
  ep : Nat
  next : Tv
  chosen : Tv
  begun : Nat
  done : Nat
  m1 : Value
  m2 : Value
  m3 : Value
def qmCell (q : Qm) (i : Nat) : Value :=
  if i = 0 then .int .i64 q.node else if i = 1 then .int .i64 q.shard else if i = 2 then .slice q.ca q.cn q.cc else if i = 3 then .int .u64 (q.seen : Nat) else if i = 4 then .int .i64 q.ph else if i = 5 then .int .u64 (q.ep : Nat) else if i = 6 then .int .u64 (q.next.te : Nat) else if i = 7 then .int .u64 (q.next.ts : Nat) else if i = 8 then .string (strL q.next.v) else if i = 9 then .int .u64 (q.chosen.te : Nat) else if i = 10 then .int .u64 (q.chosen.ts : Nat) else if i = 11 then .string (strL q.chosen.v) else if i = 12 then .int .u64 (q.begun : Nat) else if i = 13 then .int .u64 (q.done : Nat) else if i = 14 then q.m1 else if i = 15 then q.m2 else q.m3
def QmRow (w : World) (b : Nat) (q : Qm) : Prop := w.rowIs b 80 17 (qmCell q)
/-- Whether it holds. -/
def hldM (q : Qm) : Bool := decide (q.ph = 3 ∨ (q.ph = 2 ∧ 1 < q.next.ts))
section
variable {w : World} {b : Nat} {q : Qm}
theorem phase_any (h : QmRow w b q) : Calls Try.prog 22 #[.pointer (some ⟨b, 0, none⟩)] w fun e w' => e = .returned (.int .i64 q.ph) ∧ w = w' := by
  have c : w.cell? ⟨b, 4, none⟩ = some (.int .i64 q.ph) := h.cell (i := 4) (by decide)
  clear h
  generalize q.ph = x at *
  go_enter Try.func22, Try.ntmps22
  go_wp2
  go_ret
  exact ⟨rfl, rfl⟩
theorem majority_any (h : QmRow w b q) (n : Nat) (hn : n ≤ 1000000000) : Calls Try.prog 25 #[.pointer (some ⟨b, 0, none⟩), .int .i64 (n : Nat)] w fun e w' => e = .returned (.bool (decide (q.cn < 2 * n))) ∧ w = w' := by
  have c : w.cell? ⟨b, 2, none⟩ = some (.slice q.ca q.cn q.cc) := h.cell (i := 2) (by decide)
  clear h
  generalize q.ca = a at *
  generalize q.cn = m at *
  generalize q.cc = d at *
  obtain ⟨k, hk, hk2⟩ : ∃ k : Nat, 2 * (n : Int) = (k : Int) ∧ k = 2 * n := ⟨2 * n, by omega, rfl⟩
  have wk : IntKind.i64.wrap (k : Int) = (k : Int) := by rw [IntKind.wrap_i64]; omega
  rw [← hk2]
  clear hk2
  go_enter Try.func25, Try.ntmps25
  go_wp2
  go_ret
  exact ⟨by simp, rfl⟩
theorem holds_any (h : QmRow w b q) : Calls Try.prog 32 #[.pointer (some ⟨b, 0, none⟩)] w fun e w' => e = .returned (.bool (hldM q)) ∧ w = w' := by
  have c4 : w.cell? ⟨b, 4, none⟩ = some (.int .i64 q.ph) := h.cell (i := 4) (by decide)
  have c7 : w.cell? ⟨b, 7, none⟩ = some (.int .u64 (q.next.ts : Nat)) := h.cell (i := 7) (by decide)
  clear h
  unfold hldM
  generalize q.ph = x at *
  generalize q.next.ts = t at *
  by_cases h3 : x = 3
  · have e3 : (x == 3) = true := by simp [h3]
    rw [show decide (x = 3 ∨ (x = 2 ∧ 1 < t)) = true by simp [h3]]
    clear h3
    go_enter Try.func32, Try.ntmps32
    go_wp2
    go_ret
    exact ⟨rfl, rfl⟩
  · have e3 : (x == 3) = false := by simp [h3]
    by_cases h2 : x = 2
    · have e2 : (x == 2) = true := by simp [h2]
      by_cases h1 : 1 < t
      · have z : (t : Int) > 1 := by omega
        rw [show decide (x = 3 ∨ (x = 2 ∧ 1 < t)) = true by simp [h2, h1]]
        clear h1 h2 h3
        go_enter Try.func32, Try.ntmps32
        go_wp2
        go_ret
        exact ⟨rfl, rfl⟩
      · have z : ¬ ((t : Int) > 1) := by omega
        rw [show decide (x = 3 ∨ (x = 2 ∧ 1 < t)) = false by simp [h3, h1]]
        clear h1 h2 h3
        go_enter Try.func32, Try.ntmps32
        go_wp2
        go_ret
        exact ⟨rfl, rfl⟩
    · have e2 : (x == 2) = false := by simp [h2]
      rw [show decide (x = 3 ∨ (x = 2 ∧ 1 < t)) = false by simp [h3, h2]]
      clear h2 h3
      go_enter Try.func32, Try.ntmps32
      go_wp2
      go_ret
      exact ⟨rfl, rfl⟩
end
end Go.Proofs.Ytkcjmjaikobpoaa

/- Package quorum: crowds (sets of ints): added to, cleared. -/
namespace Go.Proofs.Ytkcjmjaikobpoaa
open Go.RowKit Go.Maps Go.ChangeMaps Go.MapKept Go.WideShapes
set_option maxRecDepth 100000
set_option maxRecDepth 100000

theorem intK : Keyed Try.prog 3 := int_keyed Try.underlying3
/-- A crowd in memory: a map whose keys are the list's. -/
structure Cr (w : World) (b : Nat) (C : List Int) : Prop where
  own : ∃ D : DataW Nat, w.ownsMap Try.prog 3 unitElem b C.length D ∧ (∀ k, has D (.int .i64 k) = decide (k ∈ C)) ∧ Maps.size D = C.length
def addC (C : List Int) (k : Int) : List Int := if k ∈ C then C else C ++ [k]
theorem own_tight {w : World} {b n : Nat} {D : DataW Nat} (h : w.ownsMap Try.prog 3 unitElem b n D) : w.ownsMap Try.prog 3 unitElem b (Maps.size D) D := by
  obtain ⟨es, clock, hb, F, hs, rfl⟩ := h
  exact ⟨es, clock, hb, F, by rw [Maps.size_eq, length_read]; exact Nat.le_refl _, rfl⟩
theorem Cr.lt {w : World} {b : Nat} {C : List Int} (h : Cr w b C) : b < w.heap.size := by
  obtain ⟨D, h1, _⟩ := h.own
  exact h1.lt
theorem Cr.on {w w' : World} {b : Nat} {C : List Int} (h : Cr w b C) (e : w'.heap[b]? = w.heap[b]?) : Cr w' b C := by
  obtain ⟨D, ⟨es, clock, hb, F, hs, hD⟩, h2, h3⟩ := h.own
  exact ⟨D, ⟨es, clock, e.trans hb, F, hs, hD⟩, h2, h3⟩
theorem cr_made (w : World) : Cr (w.alloc (.map #[] 0)) w.heap.size [] := ⟨.map [], World.ownsMap_made w _ _ _, fun _ => rfl, rfl⟩
theorem key_i {k : Int} (h0 : -9223372036854775808 ≤ k) (h1 : k ≤ 9223372036854775807) : keyOf Try.prog 3 (.int .i64 k) = some (.int .i64 k) := keyOf_int_mk Try.underlying3 (WalkArith.wf_i64 (by omega))
theorem lit_ne {a b : Int} (h : a ≠ b) : (Lit.int .i64 a) ≠ .int .i64 b := by intro e; injection e with _ e; exact h e
/-- What a store leaves. -/
theorem cr_put {w' : World} {b n : Nat} {C : List Int} {D : DataW Nat} (k : Int) (hD : (∀ k, has D (.int .i64 k) = decide (k ∈ C)) ∧ Maps.size D = C.length) (hT : Tidy D) (h' : w'.ownsMap Try.prog 3 unitElem b n (D.put (.int .i64 k) (.agg []))) : Cr w' b (addC C k) := by
  have hs : Maps.size (D.put (.int .i64 k) (.agg [])) = (addC C k).length := by
    rw [size_put hT, hD.1 k, hD.2]
    unfold addC
    by_cases e : k ∈ C
    · simp [e]
    · simp [e]
  refine ⟨_, by rw [← hs]; exact own_tight h', fun j => ?_, hs⟩
  by_cases e : j = k
  · subst e
    rw [has_put_same hT.isMap (show WideAt.IsKeyLit (.int .i64 j) from trivial)]
    unfold addC
    by_cases e : j ∈ C
    · simp [e]
    · simp [e]
  · rw [has_put_other (lit_ne e), hD.1 j]
    unfold addC
    by_cases e2 : k ∈ C
    · simp [e2]
    · simp [e2, e]
theorem run_clear {w : World} {b : Nat} {C : List Int} (h : Cr w b C) : ∃ W, Hid ((Builtin.clear_ #[76] 0 #[.map (some b)]).run Try.prog w = .ok (.tuple #[]) W) ∧ Cr W b [] ∧ w.grownBy W (some b) := by
  obtain ⟨D, ⟨es, clock, hb, F, hs, hD⟩, h2, h3⟩ := h.own
  have hlt := h.lt
  refine ⟨setBlock w b (.map #[] clock), ?_, ?_, ?_⟩
  · show (Builtin.clear_ _ _ _).run _ _ = _
    simp [Builtin.clear_, run_underlying Try.underlying76, Sem.run_bind, MapKept.run_getObj_map hb, MapKept.run_setObj_map _ hb, Result.andThen, setBlock]
  · refine ⟨.map [], ⟨#[], clock, heap_setBlock_same hb _, ⟨by simp, stamped_empty clock, by simp⟩, Nat.le_refl _, rfl⟩, fun _ => rfl, rfl⟩
  · exact ⟨rfl, rfl, rfl, by simp [setBlock], fun i _ hi => heap_setBlock_other hb _ (fun e => hi (by rw [e]))⟩
set_option maxHeartbeats 1000000 in
theorem add_any {w : World} {b : Nat} {C : List Int} (h : Cr w b C) (k : Int) (h0 : -9223372036854775808 ≤ k) (h1 : k ≤ 9223372036854775807) (hl : C.length ≤ 1000000) :
    Calls Try.prog 24 #[.map (some b), .int .i64 k] w fun e w' => e = .returned (.bool (!decide (k ∈ C))) ∧ Cr w' b (addC C k) ∧ w.grownBy w' (some b) := by
  obtain ⟨D, hown, hD⟩ := h.own
  have hT : Tidy D := hown.tidy intK
  have hP := hide (fun (w' : World) (n : Nat) => cr_put (w' := w') (b := b) (n := n) (C := C) (D := D) k hD hT)
  have hkey := key_i h0 h1
  have hhas := hD.1 k
  have hlen : C.length < maxLen := by show C.length < 9223372036854775807; omega
  have hgr : Hid (∀ w1, (w.alloc (.cells #[] 116)).grownBy w1 (some b) → w.grownBy w1 (some b)) := fun w1 g => (World.grownBy_alloc w _ (some b)).trans g
  have hown2 := hown.alloc (.cells #[] 116)
  generalize decide (k ∈ C) = z at *
  clear hD hT h
  go_enter Try.func24, Try.ntmps24
  go_wp2_with (first
    | (at_lookup; refine wpList_lookup_own_unit _ rfl _ _ 76 rfl 3 116 intK Try.underlying76 (Try.zeroValue116 _) b C.length D rfl hown _ _ rfl hkey ?_; rw [hhas])
    | (at_mapUpdate; refine wpList_mapUpdate_own _ rfl _ _ _ 76 rfl 3 116 intK Try.underlying76 unitElem b C.length D rfl hown2 hlen _ _ _ rfl rfl hkey (.agg []) [] unitElem_mk ?_; intro w1 hown1 hg1))
  go_ret
  exact ⟨rfl, hP.out _ _ hown1, hgr.out _ hg1⟩
end Go.Proofs.Ytkcjmjaikobpoaa

/- Package quorum: a quorum in memory as plain data; Stop. -/
namespace Go.Proofs.Ytkcjmjaikobpoaa
open Go.RowKit Go.Maps
set_option maxRecDepth 100000
set_option maxRecDepth 100000

structure Qd where
  node : Int
  shard : Int
  L : List Int
  seen : Nat
  ph : Int
  ep : Nat
  next : Tv
  chosen : Tv
  begun : Nat
  done : Nat
  c1 : List Int
  c2 : List Int
  c3 : List Int
/-- Where it lies. -/
structure Qp where
  b : Nat
  cb : Nat
  cc : Nat
  m1 : Nat
  m2 : Nat
  m3 : Nat
def tv0 : Tv := ⟨0, 0, []⟩
structure Tv.ok (t : Tv) : Prop where
  te : t.te < 18446744073709551616
  ts : t.ts < 18446744073709551616
  len : t.v.length ≤ 140737488351232
  byte : ∀ x ∈ t.v, x < 256
theorem tv0_ok : tv0.ok := ⟨by decide, by decide, by decide, fun x hx => absurd hx List.not_mem_nil⟩
def I64 (x : Int) : Prop := -9223372036854775808 ≤ x ∧ x ≤ 9223372036854775807
structure Sub (L C : List Int) : Prop where
  mem : ∀ x ∈ C, x ∈ L
  nd : C.Nodup
theorem Sub.nil (L : List Int) : Sub L [] := ⟨fun _ h => absurd h List.not_mem_nil, List.nodup_nil⟩
theorem nodup_len : ∀ (C L : List Int), C.Nodup → (∀ x ∈ C, x ∈ L) → C.length ≤ L.length
  | [], _, _, _ => Nat.zero_le _
  | x :: r, L, hn, hm => by
    have hx := hm x (by simp)
    have hn' := List.nodup_cons.1 hn
    have q := nodup_len r (L.erase x) hn'.2 (fun y hy => (List.mem_erase_of_ne (fun (e : y = x) => hn'.1 (e ▸ hy))).2 (hm y (by simp [hy])))
    have e := List.length_erase_of_mem hx
    have : 0 < L.length := List.length_pos_of_mem hx
    simp only [List.length_cons]
    omega
theorem Sub.len {L C : List Int} (h : Sub L C) : C.length ≤ L.length := nodup_len C L h.nd h.mem
theorem Sub.add {L C : List Int} (h : Sub L C) {k : Int} (hk : k ∈ L) : Sub L (addC C k) := by
  unfold addC
  by_cases e : k ∈ C
  · rw [if_pos e]; exact h
  · rw [if_neg e]
    refine ⟨fun x hx => ?_, ?_⟩
    · rcases List.mem_append.1 hx with q | q
      · exact h.mem x q
      · obtain rfl : x = k := by simpa using q
        exact hk
    · rw [List.nodup_append]
      refine ⟨h.nd, by simp, fun a ha b hb e2 => ?_⟩
      obtain rfl : b = k := by simpa using hb
      exact e (e2 ▸ ha)
structure Qd.ok (d : Qd) : Prop where
  node : d.node ∈ d.L
  shard : I64 d.shard
  L : ∀ x ∈ d.L, I64 x
  l1 : 1 ≤ d.L.length
  l7 : d.L.length ≤ 1000
  seen : d.seen < 18446744073709551616
  ph : 0 ≤ d.ph ∧ d.ph ≤ 3
  ep : d.ep < 18446744073709551616
  next : d.next.ok
  chosen : d.chosen.ok
  begun : d.begun < 18446744073709551616
  done : d.done < 18446744073709551616
  c1 : Sub d.L d.c1
  c2 : Sub d.L d.c2
  c3 : Sub d.L d.c3
def Qd.q (d : Qd) (p : Qp) : Qm := ⟨d.node, d.shard, some ⟨p.cb, 0, none⟩, d.L.length, p.cc, d.seen, d.ph, d.ep, d.next, d.chosen, d.begun, d.done, .map (some p.m1), .map (some p.m2), .map (some p.m3)⟩
structure QIs (w : World) (p : Qp) (d : Qd) : Prop where
  row : QmRow w p.b (d.q p)
  cop : ∃ f, w.rowIs p.cb 3 p.cc f ∧ d.L.length ≤ p.cc ∧ ∀ j, j < d.L.length → f j = .int .i64 (d.L.getD j 0)
  k1 : Cr w p.m1 d.c1
  k2 : Cr w p.m2 d.c2
  k3 : Cr w p.m3 d.c3
  ap : p.m1 ≠ p.m2 ∧ p.m1 ≠ p.m3 ∧ p.m2 ≠ p.m3
  ok : d.ok
/-- Nothing that was there has turned but the quorum's own. -/
structure Bq (p : Qp) (w w' : World) : Prop where
  os : w'.os = w.os
  tape : w'.tape = w.tape
  output : w'.output = w.output
  size : w.heap.size ≤ w'.heap.size
  block : ∀ k, k < w.heap.size → k ≠ p.b → k ≠ p.m1 → k ≠ p.m2 → k ≠ p.m3 → w'.heap[k]? = w.heap[k]?
theorem cr_row {w : World} {b b' t n : Nat} {C : List Int} {f : Nat → Value} (h : Cr w b C) (h' : w.rowIs b' t n f) : b' ≠ b := by
  rintro rfl
  obtain ⟨D, ⟨es, clock, hb, _⟩, _⟩ := h.own
  obtain ⟨c, h1, _⟩ := h'
  rw [hb] at h1
  simp at h1
theorem row_row {w : World} {b b' t t' n n' : Nat} {f f' : Nat → Value} (h : w.rowIs b t n f) (h' : w.rowIs b' t' n' f') (ht : t ≠ t') : b ≠ b' := by
  rintro rfl
  obtain ⟨c, h1, _⟩ := h
  obtain ⟨c', h2, _⟩ := h'
  rw [h1] at h2
  simp only [Option.some.injEq, Obj.cells.injEq] at h2
  exact ht h2.2.1
section
variable {w w' w'' : World} {p : Qp} {d d' : Qd}
theorem Bq.refl (p : Qp) (w : World) : Bq p w w := ⟨rfl, rfl, rfl, Nat.le_refl _, fun _ _ _ _ _ _ => rfl⟩
theorem Bq.trans (h : Bq p w w') (k : Bq p w' w'') : Bq p w w'' :=
  ⟨k.os.trans h.os, k.tape.trans h.tape, k.output.trans h.output, Nat.le_trans h.size k.size, fun i hi a b c e => (k.block i (Nat.lt_of_lt_of_le hi h.size) a b c e).trans (h.block i hi a b c e)⟩
theorem Bq.of_since (h : w.Since w.heap.size w') : Bq p w w' := ⟨h.os, h.tape, h.output, h.size, fun k hk _ _ _ _ => h.block k hk⟩
theorem Bq.sin (h : Bq p w w') (k : w'.Since w'.heap.size w'') : Bq p w w'' := h.trans (Bq.of_since k)
theorem Bq.drew (h : Bq p w w') : Bq p w w'.drew := ⟨h.os, h.tape, h.output, h.size, h.block⟩
theorem Bq.setCell (h : Bq p w w') (i : Nat) (v : Value) : Bq p w (w'.setCell ⟨p.b, i, none⟩ v) :=
  ⟨h.os, h.tape, h.output, by have := h.size; simpa [World.setCell] using this, fun k hk a b c e => by rw [Below.heap_setCell _ _ _ _ a]; exact h.block k hk a b c e⟩
theorem Bq.setCells : ∀ (vs : List Value) (o : Nat) {w' : World}, Bq p w w' → Bq p w (w'.setCells p.b o vs)
  | [], _, _, h => h
  | v :: vs, o, _, h => Bq.setCells vs (o + 1) (h.setCell o v)
theorem Bq.grown {m : Nat} (h : Bq p w w') (hm : m = p.m1 ∨ m = p.m2 ∨ m = p.m3) (g : w'.grownBy w'' (some m)) : Bq p w w'' :=
  ⟨g.os.trans h.os, g.tape.trans h.tape, g.output.trans h.output, Nat.le_trans h.size g.size, fun k hk a b c e => (g.block k (Nat.lt_of_lt_of_le hk h.size) (fun q => by have := Option.some.inj q; omega)).trans (h.block k hk a b c e)⟩
theorem Bq.row {b t n : Nat} {f : Nat → Value} (h : Bq p w w') (hr : w.rowIs b t n f) (h0 : b ≠ p.b) (h1 : b ≠ p.m1) (h2 : b ≠ p.m2) (h3 : b ≠ p.m3) : w'.rowIs b t n f := hr.of_block (h.block b hr.lt h0 h1 h2 h3)
theorem QIs.on (h : QIs w p d) (hb : w'.heap[p.b]? = w.heap[p.b]?) (hc : w'.heap[p.cb]? = w.heap[p.cb]?) (h1 : w'.heap[p.m1]? = w.heap[p.m1]?) (h2 : w'.heap[p.m2]? = w.heap[p.m2]?) (h3 : w'.heap[p.m3]? = w.heap[p.m3]?) : QIs w' p d := by
  obtain ⟨f, f1, f2, f3⟩ := h.cop
  exact ⟨World.rowIs.of_block h.row hb, ⟨f, f1.of_block hc, f2, f3⟩, h.k1.on h1, h.k2.on h2, h.k3.on h3, h.ap, h.ok⟩
theorem QIs.lts (h : QIs w p d) : p.b < w.heap.size ∧ p.cb < w.heap.size ∧ p.m1 < w.heap.size ∧ p.m2 < w.heap.size ∧ p.m3 < w.heap.size := by
  obtain ⟨f, f1, f2, f3⟩ := h.cop
  exact ⟨World.rowIs.lt h.row, f1.lt, h.k1.lt, h.k2.lt, h.k3.lt⟩
theorem QIs.since (h : QIs w p d) (hs : w.Since w.heap.size w') : QIs w' p d := by
  obtain ⟨l1, l2, l3, l4, l5⟩ := h.lts
  exact h.on (hs.block _ l1) (hs.block _ l2) (hs.block _ l3) (hs.block _ l4) (hs.block _ l5)
theorem QIs.ne (h : QIs w p d) : p.b ≠ p.cb ∧ p.b ≠ p.m1 ∧ p.b ≠ p.m2 ∧ p.b ≠ p.m3 ∧ p.cb ≠ p.m1 ∧ p.cb ≠ p.m2 ∧ p.cb ≠ p.m3 := by
  obtain ⟨f, f1, f2, f3⟩ := h.cop
  have hr : w.rowIs p.b _ 17 _ := h.row
  exact ⟨row_row hr f1 (by decide), cr_row h.k1 hr, cr_row h.k2 hr, cr_row h.k3 hr, cr_row h.k1 f1, cr_row h.k2 f1, cr_row h.k3 f1⟩
/-- The row has turned. -/
theorem QIs.turn (h : QIs w p d) (hb : Bq p w w') (hm1 : w'.heap[p.m1]? = w.heap[p.m1]?) (hm2 : w'.heap[p.m2]? = w.heap[p.m2]?) (hm3 : w'.heap[p.m3]? = w.heap[p.m3]?) (hr : QmRow w' p.b (d'.q p)) (hL : d'.L = d.L) (e1 : d'.c1 = d.c1) (e2 : d'.c2 = d.c2) (e3 : d'.c3 = d.c3) (hok : d'.ok) : QIs w' p d' := by
  obtain ⟨f, f1, f2, f3⟩ := h.cop
  obtain ⟨n0, n1, n2, n3, n4, n5, n6⟩ := h.ne
  exact ⟨hr, ⟨f, hb.row f1 (fun e => n0 e.symm) n4 n5 n6, by rw [hL]; exact f2, by rw [hL]; exact f3⟩, by rw [e1]; exact h.k1.on hm1, by rw [e2]; exact h.k2.on hm2, by rw [e3]; exact h.k3.on hm3, h.ap, hok⟩
/-- One cell of the row is stored to. -/
theorem QIs.set (h : QIs w p d) (i : Nat) (v : Value) (hc : ∀ j, j < 17 → (if j = i then v else qmCell (d.q p) j) = qmCell (d'.q p) j) (hL : d'.L = d.L) (e1 : d'.c1 = d.c1) (e2 : d'.c2 = d.c2) (e3 : d'.c3 = d.c3) (hok : d'.ok) :
    QIs (w.setCell ⟨p.b, i, none⟩ v) p d' ∧ Bq p w (w.setCell ⟨p.b, i, none⟩ v) := by
  obtain ⟨n0, n1, n2, n3, _⟩ := h.ne
  have hb : Bq p w (w.setCell ⟨p.b, i, none⟩ v) := (Bq.refl p w).setCell i v
  exact ⟨h.turn hb (Below.heap_setCell _ _ _ _ n1.symm) (Below.heap_setCell _ _ _ _ n2.symm) (Below.heap_setCell _ _ _ _ n3.symm) ((World.rowIs.set h.row i v).congr hc) hL e1 e2 e3 hok, hb⟩
/-- Some cells of it. -/
theorem QIs.sets (h : QIs w p d) (i : Nat) (vs : List Value) (hc : ∀ j, j < 17 → (if i ≤ j ∧ j < i + vs.length then vs.getD (j - i) undef else qmCell (d.q p) j) = qmCell (d'.q p) j) (hL : d'.L = d.L) (e1 : d'.c1 = d.c1) (e2 : d'.c2 = d.c2) (e3 : d'.c3 = d.c3) (hok : d'.ok) :
    QIs (w.setCells p.b i vs) p d' ∧ Bq p w (w.setCells p.b i vs) := by
  obtain ⟨n0, n1, n2, n3, _⟩ := h.ne
  have hb : Bq p w (w.setCells p.b i vs) := (Bq.refl p w).setCells vs i
  have hk : ∀ (vs : List Value) (o : Nat) (W : World) (k : Nat), k ≠ p.b → (W.setCells p.b o vs).heap[k]? = W.heap[k]? := by
    intro vs
    induction vs with
    | nil => intro o W k _; rfl
    | cons v r ih => intro o W k hk; exact (ih (o + 1) (W.setCell ⟨p.b, o, none⟩ v) k hk).trans (Below.heap_setCell _ _ _ _ hk)
  exact ⟨h.turn hb (hk _ _ _ _ n1.symm) (hk _ _ _ _ n2.symm) (hk _ _ _ _ n3.symm) ((rowIs_setCells vs i w _ h.row).congr hc) hL e1 e2 e3 hok, hb⟩
theorem QIs.cell (h : QIs w p d) (i : Nat) (hi : i < 17) : w.cell? ⟨p.b, i, none⟩ = some (qmCell (d.q p) i) := World.rowIs.cell h.row hi
theorem QIs.fz (h : QIs w p d) (i : Nat) : w.frozen? ⟨p.b, i, none⟩ = false := World.rowIs.frozen h.row i
/-- A crowd has turned. -/
theorem QIs.crowd (h : QIs w p d) {m : Nat} (hm : m = p.m1 ∨ m = p.m2 ∨ m = p.m3) (g : w.grownBy w' (some m)) (k1 : Cr w' p.m1 d'.c1) (k2 : Cr w' p.m2 d'.c2) (k3 : Cr w' p.m3 d'.c3) (hq : d'.q p = d.q p) (hL : d'.L = d.L) (hok : d'.ok) : QIs w' p d' ∧ Bq p w w' := by
  obtain ⟨f, f1, f2, f3⟩ := h.cop
  obtain ⟨n0, n1, n2, n3, n4, n5, n6⟩ := h.ne
  have hb := (Bq.refl p w).grown hm g
  obtain ⟨l1, l2, _⟩ := h.lts
  refine ⟨⟨?_, ⟨f, f1.of_block (g.block _ l2 (fun e => by have := Option.some.inj e; omega)), by rw [hL]; exact f2, by rw [hL]; exact f3⟩, k1, k2, k3, h.ap, hok⟩, hb⟩
  rw [hq]
  exact World.rowIs.of_block h.row (g.block _ l1 (fun e => by have := Option.some.inj e; omega))
end
end Go.Proofs.Ytkcjmjaikobpoaa

/- Package quorum: what is stored to a quorum's row, cell by cell; its crowds. -/
namespace Go.Proofs.Ytkcjmjaikobpoaa
open Go.RowKit Go.Maps
set_option maxRecDepth 100000
set_option maxRecDepth 100000

/-- A tag with its value as cells. -/
def tvA (t : Tv) : Array Value := #[.int .u64 (t.te : Nat), .int .u64 (t.ts : Nat), .string (strL t.v)]
theorem infoTv : (Try.prog.info? 78).map (·.size) = some 3 := by kernel_rfl
theorem allTv (t : Tv) : (tvA t).all (·.oneCell') = true := all_oneCell_toArray (cs := [.int .u64 (t.te : Nat), .int .u64 (t.ts : Nat), .string (strL t.v)]) (fun v hv => by
  simp only [List.mem_cons, List.not_mem_nil, or_false] at hv
  rcases hv with rfl | rfl | rfl <;> rfl)
theorem wpList_clear_eq {P : Program} {w w' : World} {ops : Array Oper} {rest : List Oper} {o : Oper} {a : Act} {Q : Exit → Act → World → Prop} (hgd : o.guard = none) (s : Operand) (t : TypeId)
    (ho : o.op = .call { callee := .builtin .clear, args := #[s], argTypes := #[t] }) (v : Value) (hs : a.eval s = v)
    (hrun : (Builtin.clear_ #[t] o.type #[v]).run P w = .ok (.tuple #[]) w') (h : wpList P ops Q rest (a.put o.dst (.tuple #[])) w') : wpList P ops Q (o :: rest) a w := by
  refine wpList_plain hgd fun K hK => ?_
  unfold Oper.wp
  simp [execOp, ho, resolve, invoke, builtin, hs, hrun, Result.andThen]
  exact hK _ _ h
section
variable {w w' : World} {p : Qp} {d : Qd}
theorem QIs.there (h : QIs w p d) (i k : Nat) (hk : i + k ≤ 17) : w.there p.b i k := fun j hj => ⟨by rw [h.cell (i + j) (by omega)]; rfl, h.fz _⟩
theorem QIs.setSeen (h : QIs w p d) (x : Nat) (hx : x < 18446744073709551616) : QIs (w.setCell ⟨p.b, 3, none⟩ (.int .u64 (x : Nat))) p { d with seen := x } ∧ Bq p w (w.setCell ⟨p.b, 3, none⟩ (.int .u64 (x : Nat))) :=
  h.set (d' := { d with seen := x }) 3 (.int .u64 (x : Nat)) (fun j hj => by
    match j, hj with
    | 0, _ => exact rfl
    | 1, _ => exact rfl
    | 2, _ => exact rfl
    | 3, _ => exact rfl
    | 4, _ => exact rfl
    | 5, _ => exact rfl
    | 6, _ => exact rfl
    | 7, _ => exact rfl
    | 8, _ => exact rfl
    | 9, _ => exact rfl
    | 10, _ => exact rfl
    | 11, _ => exact rfl
    | 12, _ => exact rfl
    | 13, _ => exact rfl
    | 14, _ => exact rfl
    | 15, _ => exact rfl
    | 16, _ => exact rfl
    | n + 17, hh => exact absurd hh (by omega)) rfl rfl rfl rfl ⟨h.ok.node, h.ok.shard, h.ok.L, h.ok.l1, h.ok.l7, hx, h.ok.ph, h.ok.ep, h.ok.next, h.ok.chosen, h.ok.begun, h.ok.done, h.ok.c1, h.ok.c2, h.ok.c3⟩
theorem QIs.setPh (h : QIs w p d) (x : Int) (hx : 0 ≤ x ∧ x ≤ 3) : QIs (w.setCell ⟨p.b, 4, none⟩ (.int .i64 x)) p { d with ph := x } ∧ Bq p w (w.setCell ⟨p.b, 4, none⟩ (.int .i64 x)) :=
  h.set (d' := { d with ph := x }) 4 (.int .i64 x) (fun j hj => by
    match j, hj with
    | 0, _ => exact rfl
    | 1, _ => exact rfl
    | 2, _ => exact rfl
    | 3, _ => exact rfl
    | 4, _ => exact rfl
    | 5, _ => exact rfl
    | 6, _ => exact rfl
    | 7, _ => exact rfl
    | 8, _ => exact rfl
    | 9, _ => exact rfl
    | 10, _ => exact rfl
    | 11, _ => exact rfl
    | 12, _ => exact rfl
    | 13, _ => exact rfl
    | 14, _ => exact rfl
    | 15, _ => exact rfl
    | 16, _ => exact rfl
    | n + 17, hh => exact absurd hh (by omega)) rfl rfl rfl rfl ⟨h.ok.node, h.ok.shard, h.ok.L, h.ok.l1, h.ok.l7, h.ok.seen, hx, h.ok.ep, h.ok.next, h.ok.chosen, h.ok.begun, h.ok.done, h.ok.c1, h.ok.c2, h.ok.c3⟩
theorem QIs.setEp (h : QIs w p d) (x : Nat) (hx : x < 18446744073709551616) : QIs (w.setCell ⟨p.b, 5, none⟩ (.int .u64 (x : Nat))) p { d with ep := x } ∧ Bq p w (w.setCell ⟨p.b, 5, none⟩ (.int .u64 (x : Nat))) :=
  h.set (d' := { d with ep := x }) 5 (.int .u64 (x : Nat)) (fun j hj => by
    match j, hj with
    | 0, _ => exact rfl
    | 1, _ => exact rfl
    | 2, _ => exact rfl
    | 3, _ => exact rfl
    | 4, _ => exact rfl
    | 5, _ => exact rfl
    | 6, _ => exact rfl
    | 7, _ => exact rfl
    | 8, _ => exact rfl
    | 9, _ => exact rfl
    | 10, _ => exact rfl
    | 11, _ => exact rfl
    | 12, _ => exact rfl
    | 13, _ => exact rfl
    | 14, _ => exact rfl
    | 15, _ => exact rfl
    | 16, _ => exact rfl
    | n + 17, hh => exact absurd hh (by omega)) rfl rfl rfl rfl ⟨h.ok.node, h.ok.shard, h.ok.L, h.ok.l1, h.ok.l7, h.ok.seen, h.ok.ph, hx, h.ok.next, h.ok.chosen, h.ok.begun, h.ok.done, h.ok.c1, h.ok.c2, h.ok.c3⟩
theorem QIs.setBegun (h : QIs w p d) (x : Nat) (hx : x < 18446744073709551616) : QIs (w.setCell ⟨p.b, 12, none⟩ (.int .u64 (x : Nat))) p { d with begun := x } ∧ Bq p w (w.setCell ⟨p.b, 12, none⟩ (.int .u64 (x : Nat))) :=
  h.set (d' := { d with begun := x }) 12 (.int .u64 (x : Nat)) (fun j hj => by
    match j, hj with
    | 0, _ => exact rfl
    | 1, _ => exact rfl
    | 2, _ => exact rfl
    | 3, _ => exact rfl
    | 4, _ => exact rfl
    | 5, _ => exact rfl
    | 6, _ => exact rfl
    | 7, _ => exact rfl
    | 8, _ => exact rfl
    | 9, _ => exact rfl
    | 10, _ => exact rfl
    | 11, _ => exact rfl
    | 12, _ => exact rfl
    | 13, _ => exact rfl
    | 14, _ => exact rfl
    | 15, _ => exact rfl
    | 16, _ => exact rfl
    | n + 17, hh => exact absurd hh (by omega)) rfl rfl rfl rfl ⟨h.ok.node, h.ok.shard, h.ok.L, h.ok.l1, h.ok.l7, h.ok.seen, h.ok.ph, h.ok.ep, h.ok.next, h.ok.chosen, hx, h.ok.done, h.ok.c1, h.ok.c2, h.ok.c3⟩
theorem QIs.setDone (h : QIs w p d) (x : Nat) (hx : x < 18446744073709551616) : QIs (w.setCell ⟨p.b, 13, none⟩ (.int .u64 (x : Nat))) p { d with done := x } ∧ Bq p w (w.setCell ⟨p.b, 13, none⟩ (.int .u64 (x : Nat))) :=
  h.set (d' := { d with done := x }) 13 (.int .u64 (x : Nat)) (fun j hj => by
    match j, hj with
    | 0, _ => exact rfl
    | 1, _ => exact rfl
    | 2, _ => exact rfl
    | 3, _ => exact rfl
    | 4, _ => exact rfl
    | 5, _ => exact rfl
    | 6, _ => exact rfl
    | 7, _ => exact rfl
    | 8, _ => exact rfl
    | 9, _ => exact rfl
    | 10, _ => exact rfl
    | 11, _ => exact rfl
    | 12, _ => exact rfl
    | 13, _ => exact rfl
    | 14, _ => exact rfl
    | 15, _ => exact rfl
    | 16, _ => exact rfl
    | n + 17, hh => exact absurd hh (by omega)) rfl rfl rfl rfl ⟨h.ok.node, h.ok.shard, h.ok.L, h.ok.l1, h.ok.l7, h.ok.seen, h.ok.ph, h.ok.ep, h.ok.next, h.ok.chosen, h.ok.begun, hx, h.ok.c1, h.ok.c2, h.ok.c3⟩
theorem QIs.setNext (h : QIs w p d) (t : Tv) (ht : t.ok) : QIs (w.setCells p.b 6 (tvA t).toList) p { d with next := t } ∧ Bq p w (w.setCells p.b 6 (tvA t).toList) :=
  h.sets (d' := { d with next := t }) 6 (tvA t).toList (fun j hj => by
    match j, hj with
    | 0, _ => exact rfl
    | 1, _ => exact rfl
    | 2, _ => exact rfl
    | 3, _ => exact rfl
    | 4, _ => exact rfl
    | 5, _ => exact rfl
    | 6, _ => exact rfl
    | 7, _ => exact rfl
    | 8, _ => exact rfl
    | 9, _ => exact rfl
    | 10, _ => exact rfl
    | 11, _ => exact rfl
    | 12, _ => exact rfl
    | 13, _ => exact rfl
    | 14, _ => exact rfl
    | 15, _ => exact rfl
    | 16, _ => exact rfl
    | n + 17, hh => exact absurd hh (by omega)) rfl rfl rfl rfl ⟨h.ok.node, h.ok.shard, h.ok.L, h.ok.l1, h.ok.l7, h.ok.seen, h.ok.ph, h.ok.ep, ht, h.ok.chosen, h.ok.begun, h.ok.done, h.ok.c1, h.ok.c2, h.ok.c3⟩
theorem QIs.setChosen (h : QIs w p d) (t : Tv) (ht : t.ok) : QIs (w.setCells p.b 9 (tvA t).toList) p { d with chosen := t } ∧ Bq p w (w.setCells p.b 9 (tvA t).toList) :=
  h.sets (d' := { d with chosen := t }) 9 (tvA t).toList (fun j hj => by
    match j, hj with
    | 0, _ => exact rfl
    | 1, _ => exact rfl
    | 2, _ => exact rfl
    | 3, _ => exact rfl
    | 4, _ => exact rfl
    | 5, _ => exact rfl
    | 6, _ => exact rfl
    | 7, _ => exact rfl
    | 8, _ => exact rfl
    | 9, _ => exact rfl
    | 10, _ => exact rfl
    | 11, _ => exact rfl
    | 12, _ => exact rfl
    | 13, _ => exact rfl
    | 14, _ => exact rfl
    | 15, _ => exact rfl
    | 16, _ => exact rfl
    | n + 17, hh => exact absurd hh (by omega)) rfl rfl rfl rfl ⟨h.ok.node, h.ok.shard, h.ok.L, h.ok.l1, h.ok.l7, h.ok.seen, h.ok.ph, h.ok.ep, h.ok.next, ht, h.ok.begun, h.ok.done, h.ok.c1, h.ok.c2, h.ok.c3⟩
theorem QIs.crowd1 (h : QIs w p d) {C : List Int} (hC : Cr w' p.m1 C) (g : w.grownBy w' (some p.m1)) (hs : Sub d.L C) : QIs w' p { d with c1 := C } ∧ Bq p w w' :=
  h.crowd (d' := { d with c1 := C }) (m := p.m1) (.inl rfl) g hC (h.k2.on (g.block _ h.k2.lt (fun e => h.ap.1.symm (Option.some.inj e)))) (h.k3.on (g.block _ h.k3.lt (fun e => h.ap.2.1.symm (Option.some.inj e)))) rfl rfl ⟨h.ok.node, h.ok.shard, h.ok.L, h.ok.l1, h.ok.l7, h.ok.seen, h.ok.ph, h.ok.ep, h.ok.next, h.ok.chosen, h.ok.begun, h.ok.done, hs, h.ok.c2, h.ok.c3⟩
theorem QIs.clear1 (h : QIs w p d) (ty : TypeId) : ∃ W, Hid ((Builtin.clear_ #[76] ty #[.map (some p.m1)]).run Try.prog w = .ok (.tuple #[]) W) ∧ QIs W p { d with c1 := [] } ∧ Bq p w W := by
  obtain ⟨W, h1, h2, h3⟩ := run_clear h.k1
  exact ⟨W, h1, h.crowd1 h2 h3 (Sub.nil _)⟩
theorem QIs.add1 (h : QIs w p d) (n : Int) (hn : n ∈ d.L) : Calls Try.prog 24 #[.map (some p.m1), .int .i64 n] w fun e w' => e = .returned (.bool (!decide (n ∈ d.c1))) ∧ QIs w' p { d with c1 := addC d.c1 n } ∧ Bq p w w' := by
  have hb := h.ok.L n hn
  refine (add_any h.k1 n hb.1 hb.2 (Nat.le_trans h.ok.c1.len (Nat.le_trans h.ok.l7 (by decide)))).mono fun e w' ⟨he, h1, h2⟩ => ⟨he, ?_⟩
  exact h.crowd1 h1 h2 (h.ok.c1.add hn)
theorem QIs.len1 (h : QIs w p d) (ty : TypeId) : (Builtin.len_ #[76] ty #[.map (some p.m1)]).run Try.prog w = .ok (.int .i64 (d.c1.length : Nat)) w := by
  obtain ⟨D, h1, _, h3⟩ := h.k1.own
  have := h1.len (ty := ty) Try.underlying76
  rw [h3] at this
  exact this
theorem QIs.crowd2 (h : QIs w p d) {C : List Int} (hC : Cr w' p.m2 C) (g : w.grownBy w' (some p.m2)) (hs : Sub d.L C) : QIs w' p { d with c2 := C } ∧ Bq p w w' :=
  h.crowd (d' := { d with c2 := C }) (m := p.m2) (.inr (.inl rfl)) g (h.k1.on (g.block _ h.k1.lt (fun e => h.ap.1 (Option.some.inj e)))) hC (h.k3.on (g.block _ h.k3.lt (fun e => h.ap.2.2.symm (Option.some.inj e)))) rfl rfl ⟨h.ok.node, h.ok.shard, h.ok.L, h.ok.l1, h.ok.l7, h.ok.seen, h.ok.ph, h.ok.ep, h.ok.next, h.ok.chosen, h.ok.begun, h.ok.done, h.ok.c1, hs, h.ok.c3⟩
theorem QIs.clear2 (h : QIs w p d) (ty : TypeId) : ∃ W, Hid ((Builtin.clear_ #[76] ty #[.map (some p.m2)]).run Try.prog w = .ok (.tuple #[]) W) ∧ QIs W p { d with c2 := [] } ∧ Bq p w W := by
  obtain ⟨W, h1, h2, h3⟩ := run_clear h.k2
  exact ⟨W, h1, h.crowd2 h2 h3 (Sub.nil _)⟩
theorem QIs.add2 (h : QIs w p d) (n : Int) (hn : n ∈ d.L) : Calls Try.prog 24 #[.map (some p.m2), .int .i64 n] w fun e w' => e = .returned (.bool (!decide (n ∈ d.c2))) ∧ QIs w' p { d with c2 := addC d.c2 n } ∧ Bq p w w' := by
  have hb := h.ok.L n hn
  refine (add_any h.k2 n hb.1 hb.2 (Nat.le_trans h.ok.c2.len (Nat.le_trans h.ok.l7 (by decide)))).mono fun e w' ⟨he, h1, h2⟩ => ⟨he, ?_⟩
  exact h.crowd2 h1 h2 (h.ok.c2.add hn)
theorem QIs.len2 (h : QIs w p d) (ty : TypeId) : (Builtin.len_ #[76] ty #[.map (some p.m2)]).run Try.prog w = .ok (.int .i64 (d.c2.length : Nat)) w := by
  obtain ⟨D, h1, _, h3⟩ := h.k2.own
  have := h1.len (ty := ty) Try.underlying76
  rw [h3] at this
  exact this
theorem QIs.crowd3 (h : QIs w p d) {C : List Int} (hC : Cr w' p.m3 C) (g : w.grownBy w' (some p.m3)) (hs : Sub d.L C) : QIs w' p { d with c3 := C } ∧ Bq p w w' :=
  h.crowd (d' := { d with c3 := C }) (m := p.m3) (.inr (.inr rfl)) g (h.k1.on (g.block _ h.k1.lt (fun e => h.ap.2.1 (Option.some.inj e)))) (h.k2.on (g.block _ h.k2.lt (fun e => h.ap.2.2 (Option.some.inj e)))) hC rfl rfl ⟨h.ok.node, h.ok.shard, h.ok.L, h.ok.l1, h.ok.l7, h.ok.seen, h.ok.ph, h.ok.ep, h.ok.next, h.ok.chosen, h.ok.begun, h.ok.done, h.ok.c1, h.ok.c2, hs⟩
theorem QIs.clear3 (h : QIs w p d) (ty : TypeId) : ∃ W, Hid ((Builtin.clear_ #[76] ty #[.map (some p.m3)]).run Try.prog w = .ok (.tuple #[]) W) ∧ QIs W p { d with c3 := [] } ∧ Bq p w W := by
  obtain ⟨W, h1, h2, h3⟩ := run_clear h.k3
  exact ⟨W, h1, h.crowd3 h2 h3 (Sub.nil _)⟩
theorem QIs.add3 (h : QIs w p d) (n : Int) (hn : n ∈ d.L) : Calls Try.prog 24 #[.map (some p.m3), .int .i64 n] w fun e w' => e = .returned (.bool (!decide (n ∈ d.c3))) ∧ QIs w' p { d with c3 := addC d.c3 n } ∧ Bq p w w' := by
  have hb := h.ok.L n hn
  refine (add_any h.k3 n hb.1 hb.2 (Nat.le_trans h.ok.c3.len (Nat.le_trans h.ok.l7 (by decide)))).mono fun e w' ⟨he, h1, h2⟩ => ⟨he, ?_⟩
  exact h.crowd3 h1 h2 (h.ok.c3.add hn)
theorem QIs.len3 (h : QIs w p d) (ty : TypeId) : (Builtin.len_ #[76] ty #[.map (some p.m3)]).run Try.prog w = .ok (.int .i64 (d.c3.length : Nat)) w := by
  obtain ⟨D, h1, _, h3⟩ := h.k3.own
  have := h1.len (ty := ty) Try.underlying76
  rw [h3] at this
  exact this
end
end Go.Proofs.Ytkcjmjaikobpoaa
