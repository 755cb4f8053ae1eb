/- Own texts, joined: Kit, Lend, D1, DIter, D2, D3, E1, E2. -/
import Derived.Test.YtbnlgohaaadgeaaRows
import Derived.WalkKit
import Derived.Laws.BitsAllLaws
import Derived.Deep.LoopGhost
import Derived.Deep.OwnRows
import Derived.Deep.Cut
import Derived.Deep.Light
import Derived.Deep.CutRange
import Derived.CellFam
import Derived.BigGuard
import Derived.Lib.SlBytesConst
import Derived.BigQuiet
import Derived.BigRegion
import Derived.Deep.RegionWith
import Derived.Deep.QuietTactic
import Derived.Laws.IdiomCopy
import Derived.Deep.AppendLies
import Derived.Laws.AppendOwnNone
import Derived.OwnWalk
import Derived.Laws.BytesArg
import Derived.Shelf.SlIter.Nil
import Derived.Shelf.SortM.Plain
import Derived.Shelf.SortM.SortNone
import Derived.Shelf.SlMaps.Clone
import Derived.Test.YtbnlgohaaadgeaaProg
import Derived.Maps.OwnSet
import Derived.Below
import Derived.Laws.OwnMore
import Derived.Maps.AppendAt

/- Small laws on rows of bytes that the walks of this seat share; the walk of tallyref0.Copy. -/
namespace Go.Proofs.Ytbnlgohaaadgeaa
open Go.RowKit
set_option maxRecDepth 100000

theorem hide {p : Prop} (h : p) : Hid p := h
theorem unhide {p : Prop} (h : Hid p) : p := h
theorem since_mono {B B' : Nat} {w w' : World} (h : w.Since B w') (hB : B' ≤ B) : w.Since B' w' := ⟨h.os, h.tape, h.output, h.size, fun k hk => h.block k (by omega)⟩
theorem Try.info5 : (Try.prog.info? 5).map (fun i => (i.zero, i.size, i.bytes)) = some (some (.int .u8 0), 1, 1) := by kernel_rfl
theorem Try.size5 : (Try.prog.info? 5).map (·.size) = some 1 := by kernel_rfl

/-- A slice's cells hold these bytes. -/
def Byt (w : World) (a : Option Addr) (len : Nat) (x : Nat → Nat) : Prop := ∀ j, j < len → ∃ b off, a = some ⟨b, off, none⟩ ∧ w.cell? ⟨b, off + j, none⟩ = some (.int .u8 (x j : Nat))

theorem Byt.since {w w' : World} {a : Option Addr} {len : Nat} {x : Nat → Nat} (h : Byt w a len x) (hs : w.Since w.heap.size w') : Byt w' a len x := fun j hj => by
  obtain ⟨b, off, e, hc⟩ := h j hj
  exact ⟨b, off, e, by rw [hs.cell (a := ⟨b, off + j, none⟩) (World.block_lt_of_cell? _ _ hc)]; exact hc⟩
theorem Byt.of_row {w : World} {b t n : Nat} {x : Nat → Nat} (h : w.rowIs b t n (fun j => .int .u8 (x j : Nat))) : Byt w (some ⟨b, 0, none⟩) n x := fun j hj =>
  ⟨b, 0, rfl, by have := h.cell hj; simpa using this⟩
theorem Byt.drewN {w : World} {a : Option Addr} {len : Nat} {x : Nat → Nat} (h : Byt w a len x) (n : Nat) : Byt (w.drewN n) a len x := fun j hj => h j hj
theorem Byt.le {w : World} {a : Option Addr} {len m : Nat} {x : Nat → Nat} (h : Byt w a len x) (hm : m ≤ len) : Byt w a m x := fun j hj => h j (by omega)

theorem getD_range_map (f : Nat → Nat) (n j : Nat) (h : j < n) : ((List.range n).map f).getD j 0 = f j := by
  simp [List.getD, h]
theorem lt_range_map (f : Nat → Nat) (n j : Nat) (h : ∀ i, f i < 256) : ((List.range n).map f).getD j 0 < 256 := by
  by_cases hj : j < n
  · rw [getD_range_map f n j hj]; exact h j
  · simp [List.getD, hj]
theorem since_setCells {B b : Nat} {w : World} (hb : B ≤ b) : ∀ (vs : List Value) (o : Nat) (w' : World), w.Since B w' → w.Since B (w'.setCells b o vs)
  | [], _, _, h => h
  | v :: r, o, _, h => since_setCells hb r (o + 1) _ (h.setCell (a := ⟨b, o, none⟩) hb v)
theorem size_setCells (b : Nat) : ∀ (vs : List Value) (o : Nat) (w : World), (w.setCells b o vs).heap.size = w.heap.size
  | [], _, _ => rfl
  | v :: r, o, w => by rw [World.setCells, size_setCells b r (o + 1)]; simp [World.setCell]
theorem rowIs_setCells {b t n : Nat} : ∀ (vs : List Value) (o : Nat) (w : World) (f : Nat → Value), w.rowIs b t n f → (w.setCells b o vs).rowIs b t n (fun j => if o ≤ j ∧ j < o + vs.length then vs.getD (j - o) undef else f j)
  | [], o, w, f, h => h.congr (fun i _ => by simp; omega)
  | v :: r, o, w, f, h => by
    refine (rowIs_setCells r (o + 1) _ _ (h.set o v)).congr (fun i _ => ?_)
    by_cases e : i = o
    · subst e
      rw [if_neg (by omega), if_pos rfl, if_pos (by simp)]; simp
    · by_cases hin : o + 1 ≤ i ∧ i < o + 1 + r.length
      · rw [if_pos hin, if_pos (by simp; omega)]
        rw [show i - o = (i - (o + 1)) + 1 by omega]; simp
      · rw [if_neg hin, if_neg e, if_neg (by simp; omega)]

/-- tallyref0.Copy: the same bytes in new memory. -/
theorem copy_any (a : Option Addr) (len cap : Nat) (x : Nat → Nat) (w : World) (hmax : len ≤ 281474976710656) (hc : Byt w a len x) :
    Calls Try.prog 22 #[.slice a len cap] w fun e w' => e = .returned (.slice (some ⟨w.heap.size, 0, none⟩) len len) ∧ w.Since w.heap.size w' ∧ w'.heap.size = w.heap.size + 1 ∧ w'.rowIs w.heap.size 5 len (fun j => .int .u8 (x j : Nat)) := by
  have hmk := run_make_row' (P := Try.prog) 29 5 (.int .u8 0) 1 Try.underlying29 Try.info5 rfl .i64 .i64 len (by omega) (by omega)
  have hs0 : w.Since w.heap.size (w.alloc (.cells (madeCells #[.int .u8 0] len) 5)) := (World.Since.refl _ _).alloc (Nat.le_refl _) _
  have hr0 := World.rowIs_made w (.int .u8 0) len 5
  have hz0 : (w.alloc (.cells (madeCells #[.int .u8 0] len) 5)).heap.size = w.heap.size + 1 := by simp
  generalize hW : w.alloc (.cells (madeCells #[.int .u8 0] len) 5) = W at *
  rcases Nat.eq_zero_or_pos len with rfl | hp
  · have hcp := run_copy_none (P := Try.prog) W 29 29 3 5 (some ⟨w.heap.size, 0, none⟩) a 0 0 0 cap Try.underlying29 Try.size5 (by simp)
    have hmk0 : (Instr.makeSlice 29 (.int .i64 0) (.int .i64 0)).run Try.prog w = .ok (.slice (some ⟨w.heap.size, 0, none⟩) 0 0) W := by rw [← hW]; simpa using hmk w
    clear hmk hW
    go_enter Try.func22, Try.ntmps22
    go_wp2
    go_ret
    exact ⟨rfl, hs0, hz0, hr0.congr (fun j hj => by omega)⟩
  · obtain ⟨b, off, rfl, _⟩ := hc 0 hp
    have hc' : ∀ j, j < len → w.cell? ⟨b, off + j, none⟩ = some (.int .u8 (x j : Nat)) := fun j hj => by obtain ⟨b', off', e, hh⟩ := hc j hj; cases e; exact hh
    have hcp := run_copy_cells (P := Try.prog) W 29 29 3 5 w.heap.size 0 len len ⟨b, off, none⟩ len cap ((List.range len).map fun j => .int .u8 (x j : Nat)) Try.underlying29 Try.size5 (by simp)
      (fun j v hv => by
        have hj : j < len := by have := (List.getElem?_eq_some_iff.1 hv).1; simpa using this
        have : v = .int .u8 (x j : Nat) := by rw [List.getElem?_map, List.getElem?_range hj] at hv; simpa using hv.symm
        rw [this, show (⟨b, off, none⟩ : Addr).add j = ⟨b, off + j, none⟩ by simp [Addr.add], hs0.cell (a := ⟨b, off + j, none⟩) (World.block_lt_of_cell? _ _ (hc' j hj))]
        exact hc' j hj)
      (fun j hj => by rw [Nat.zero_add, hr0.cell (by simpa using hj)]; rfl) (fun j _ => by rw [Nat.zero_add]; exact hr0.frozen j) (fun v hv => by obtain ⟨j, _, rfl⟩ := List.mem_map.1 hv; rfl)
    have hend : w.Since w.heap.size (W.setCells w.heap.size 0 ((List.range len).map fun j => .int .u8 (x j : Nat))) ∧ (W.setCells w.heap.size 0 ((List.range len).map fun j => .int .u8 (x j : Nat))).heap.size = w.heap.size + 1 ∧
        (W.setCells w.heap.size 0 ((List.range len).map fun j => .int .u8 (x j : Nat))).rowIs w.heap.size 5 len (fun j => .int .u8 (x j : Nat)) :=
      ⟨since_setCells (Nat.le_refl _) _ _ _ hs0, by rw [size_setCells]; exact hz0, (rowIs_setCells _ 0 _ _ hr0).congr (fun j hj => by
        rw [if_pos (by simp; exact hj)]; simp [List.getD, hj])⟩
    have hmk1 : (Instr.makeSlice 29 (.int .i64 len) (.int .i64 len)).run Try.prog w = .ok (.slice (some ⟨w.heap.size, 0, none⟩) len len) W := by rw [← hW]; exact hmk w
    clear hmk hW
    generalize W.setCells w.heap.size 0 ((List.range len).map fun j => .int .u8 (x j : Nat)) = W2 at *
    go_enter Try.func22, Try.ntmps22
    go_wp2
    go_ret
    exact ⟨rfl, hend⟩
end Go.Proofs.Ytbnlgohaaadgeaa

/- The walks of tallylaw1's Lend and Intact: bytes lent with marks behind them. -/
namespace Go.Proofs.Ytbnlgohaaadgeaa
open Go.RowKit
set_option maxRecDepth 100000

/-- Bytes as cells. -/
def cellsOf (n : Nat) (x : Nat → Nat) : List Value := (List.range n).map fun j => .int .u8 (x j : Nat)
theorem length_cellsOf (n : Nat) (x : Nat → Nat) : (cellsOf n x).length = n := by simp [cellsOf]
theorem get_cellsOf {n j : Nat} {x : Nat → Nat} (h : j < n) : (cellsOf n x)[j]? = some (.int .u8 (x j : Nat)) := by simp [cellsOf, h]
def cat (x : Nat → Nat) (n : Nat) (y : Nat → Nat) : Nat → Nat := fun j => if j < n then x j else y (j - n)
theorem cat_ge {x : Nat → Nat} {n : Nat} {y : Nat → Nat} {j : Nat} (h : n ≤ j) : cat x n y j = y (j - n) := if_neg (by omega)
theorem cellsOf_cat (n m : Nat) (x y : Nat → Nat) : cellsOf n x ++ cellsOf m y = cellsOf (n + m) (cat x n y) := by
  apply List.ext_getElem?
  intro j
  rcases Nat.lt_or_ge j n with h | h
  · rw [List.getElem?_append_left (by rw [length_cellsOf]; exact h), get_cellsOf h, get_cellsOf (by omega)]; simp [cat, h]
  · rw [List.getElem?_append_right (by rw [length_cellsOf]; exact h), length_cellsOf]
    rcases Nat.lt_or_ge (j - n) m with g | g
    · rw [get_cellsOf g, get_cellsOf (by omega)]; simp [cat, Nat.not_lt.2 h]
    · rw [List.getElem?_eq_none (by rw [length_cellsOf]; exact g), List.getElem?_eq_none (by rw [length_cellsOf]; omega)]
theorem one_cellsOf (n : Nat) (x : Nat → Nat) : ∀ u ∈ cellsOf n x, u.oneCell' = true := fun u hu => by
  obtain ⟨j, _, rfl⟩ := List.mem_map.1 hu; rfl

/-- A slice of bytes of the call's own. -/
def Own (w : World) (B : Nat) (v : Value) (n : Nat) (x : Nat → Nat) : Prop := w.ownsRow B 5 1 v n (cellsOf n x)
theorem own_nil (w : World) (B : Nat) (x : Nat → Nat) : Own w B (.slice none 0 0) 0 x := ⟨rfl, Or.inl ⟨rfl, rfl⟩⟩
/-- append OF ANY BYTES ONTO SUCH A SLICE. -/
theorem app_own (w : World) (B : Nat) (v : Value) (n : Nat) (x : Nat → Nat) (hown : Own w B v n x) (a : Option Addr) (m c : Nat) (y : Nat → Nat) (hb : Byt w a m y) (ha : a = none → m = 0 ∧ c = 0) (hmax : n + m ≤ 140737488355328) (hB : B ≤ w.heap.size) :
    ∃ v' w', (Builtin.append_ #[29, 29] 29 #[v, .slice a m c]).run Try.prog w = .ok v' w' ∧ Own w' B v' (n + m) (cat x n y) ∧ w.grownBy w' v.ownBlock := by
  obtain ⟨i0, hi, hz0, hz1, hz2⟩ := info_parts Try.info5
  cases a with
  | none =>
    obtain ⟨rfl, rfl⟩ := ha rfl
    refine ⟨v, w, run_append_owned_none w B 29 29 5 i0 1 Try.underlying29 hi v n _ hown, ?_, ⟨rfl, rfl, rfl, Nat.le_refl _, fun _ _ _ => rfl⟩⟩
    have e : cellsOf (n + 0) (cat x n y) = cellsOf n x := by rw [← cellsOf_cat]; simp [cellsOf]
    show w.ownsRow B 5 1 v (n + 0) (cellsOf (n + 0) (cat x n y))
    rw [e]; exact hown
  | some ad =>
    obtain ⟨v', w', hr, h1, h2, _⟩ := run_append_own (P := Try.prog) w B 29 29 5 i0 (.int .u8 0) 1 1 Try.underlying29 hi hz0 hz1 hz2 rfl (by decide) v n _ hown ad m c (cellsOf m y) (by rw [length_cellsOf, Nat.mul_one])
      (fun j u hu => by
        have hj : j < m := by have := (List.getElem?_eq_some_iff.1 hu).1; rwa [length_cellsOf] at this
        rw [get_cellsOf hj] at hu
        obtain ⟨b, off, e, hc⟩ := hb j hj
        obtain rfl : ad = ⟨b, off, none⟩ := by simpa using e
        rw [show (⟨b, off, none⟩ : Addr).add j = ⟨b, off + j, none⟩ by simp [Addr.add], hc]; exact hu)
      (one_cellsOf m y) (by unfold maxLen; omega) (by omega) hB
    exact ⟨v', w', hr, by rw [cellsOf_cat] at h1; exact h1, h2⟩
theorem grown_since {B : Nat} {w0 w w' : World} {row : Option Nat} (h : w0.Since B w) (hg : w.grownBy w' row) (hB : B ≤ w.heap.size) (hr : ∀ k, row = some k → B ≤ k) : w0.Since B w' := h.grown hg hB hr
theorem own_block {w : World} {B : Nat} {v : Value} {n : Nat} {x : Nat → Nat} (h : Own w B v n x) : ∀ k, v.ownBlock = some k → B ≤ k := fun k hk => by
  rcases h.2 with ⟨rfl, _⟩ | ⟨g, cap, cur, rfl, hb, _⟩
  · simp [Value.ownBlock] at hk
  · obtain rfl : g = k := by simpa [Value.ownBlock] using hk
    exact hb
theorem own_row {w : World} {B : Nat} {v : Value} {n : Nat} {x : Nat → Nat} (h : Own w B v n x) (hn : 0 < n) : ∃ g cap f, v = .slice (some ⟨g, 0, none⟩) n cap ∧ B ≤ g ∧ n ≤ cap ∧ w.rowIs g 5 cap f ∧ ∀ j, j < n → f j = .int .u8 (x j : Nat) := by
  rcases h.2 with ⟨rfl, h0⟩ | ⟨g, cap, cur, rfl, hb, hh, hnc, hm, hsz, htk⟩
  · omega
  · refine ⟨g, cap, fun j => cur[j]?.getD undef, rfl, hb, hnc, ⟨cur, hh, by omega, fun i hi => by show cur[i]? = some (cur[i]?.getD undef); rw [Array.getElem?_eq_getElem (by omega)]; rfl⟩, fun j hj => ?_⟩
    have h2 := congrArg (fun l : List Value => l[j]?) htk
    simp only [Nat.mul_one] at h2
    rw [List.getElem?_take_of_lt hj, get_cellsOf hj, Array.getElem?_toList] at h2
    show cur[j]?.getD undef = _
    rw [h2]; rfl

/-- append, by its run: at the operation. -/
theorem wpList_append_eq {P : Program} {w w' : World} {ops : Array Oper} {rest : List Oper} {o : Oper} {a : Act} {Q : Exit → Act → World → Prop} (hgd : o.guard = none) (s x : Operand) (t : TypeId)
    (ho : o.op = .call { callee := .builtin .append, args := #[s, x], argTypes := #[t, t] }) (v u v' : Value) (hs : a.eval s = v) (hx : a.eval x = u)
    (hrun : (Builtin.append_ #[t, t] o.type #[v, u]).run P w = .ok v' w') (h : wpList P ops Q rest (a.put o.dst v') w') : wpList P ops Q (o :: rest) a w := by
  refine wpList_plain hgd fun K hK => ?_
  unfold Oper.wp
  simp [execOp, ho, resolve, invoke, builtin, hs, hx, hrun, Result.andThen]
  exact hK _ _ h

/-- What is lent: the bytes, three marks behind them. -/
structure Lent (w : World) (g len cap : Nat) (x : Nat → Nat) (f : Nat → Value) : Prop where
  row : w.rowIs g 5 cap f
  room : len + 3 ≤ cap
  cap : cap ≤ 9223372036854775807
  byte : ∀ j, j < len → f j = .int .u8 (x j : Nat)
  k0 : f len = .int .u8 165
  k1 : f (len + 1) = .int .u8 90
  k2 : f (len + 2) = .int .u8 165

/-- Bytes as a string. -/
def strOf (n : Nat) (x : Nat → Nat) : ByteArray := strOfNums ((List.range n).map fun j => (x j : Int))
theorem str_byt (a : Option Addr) (len cap : Nat) (x : Nat → Nat) (w : World) (hb : Byt w a len x) (ha : a = none → len = 0) : (convert 29 9 (.slice a len cap)).run Try.prog w = .ok (.string (strOf len x)) w := by
  rcases Nat.eq_zero_or_pos len with rfl | hp
  · cases a with
    | none =>
      rw [run_convert_bytes_nil (P := Try.prog) w 29 5 Try.underlying29 Try.underlying5 0 cap 9 Try.underlying9]; rfl
    | some ad =>
      have hl : (loadCells ad 0).run Try.prog w = .ok (([] : List Int).map (Value.int .u8)).toArray w := by simpa using run_loadCells_list (P := Try.prog) w ad [] (by simp)
      rw [run_convert_bytes_string (P := Try.prog) w 29 9 5 _ 0 cap Try.underlying29 Try.underlying5 Try.underlying9, run_bytesToString w ad 0 cap [] hl]; rfl
  · obtain ⟨b, off, rfl, _⟩ := hb 0 hp
    exact run_convert_bytes_arg (P := Try.prog) w 29 5 Try.underlying29 Try.underlying5 b off len cap _ (by simp) (fun i hi => by
      obtain ⟨b', off', e, hc⟩ := hb i hi
      cases e
      rw [hc]; simp [List.getD, hi]) 9 Try.underlying9

theorem Lent.byt {w : World} {g len cap : Nat} {x : Nat → Nat} {f : Nat → Value} (h : Lent w g len cap x f) : Byt w (some ⟨g, 0, none⟩) len x := fun j hj =>
  ⟨g, 0, rfl, by rw [Nat.zero_add, h.row.cell (by have := h.room; omega), h.byte j hj]⟩
theorem Lent.since {w w' : World} {g len cap : Nat} {x : Nat → Nat} {f : Nat → Value} (h : Lent w g len cap x f) (hs : w.Since w.heap.size w') : Lent w' g len cap x f :=
  ⟨h.row.of_block (hs.block g h.row.lt), h.room, h.cap, h.byte, h.k0, h.k1, h.k2⟩
theorem Lent.drewN {w : World} {g len cap : Nat} {x : Nat → Nat} {f : Nat → Value} (h : Lent w g len cap x f) (n : Nat) : Lent (w.drewN n) g len cap x f := ⟨h.row, h.room, h.cap, h.byte, h.k0, h.k1, h.k2⟩

end Go.Proofs.Ytbnlgohaaadgeaa

/- Package disk: file names; tallyref4.IsName; tallyref0.Cmp and Eq of the same bytes. -/
namespace Go.Proofs.Ytbnlgohaaadgeaa
open Go.RowKit
set_option maxRecDepth 100000
set_option maxRecDepth 100000

/-- May the byte stand in a file name? -/
def okB (c : Nat) : Bool := (decide (97 ≤ c) && decide (c ≤ 122)) || (decide (48 ≤ c) && decide (c ≤ 57)) || decide (c = 46) || decide (c = 45) || decide (c = 95)
/-- Is it a file name? -/
def okN (s : ByteArray) : Bool := decide (1 ≤ s.size) && decide (s.size ≤ 64) && s.data.toList.all (fun b => okB b.toNat)

theorem okB_cases (c : Nat) : (okB c = true ∧ ((97 ≤ c ∧ c ≤ 122) ∨ ((c < 97 ∨ 122 < c) ∧ 48 ≤ c ∧ c ≤ 57) ∨ c = 46 ∨ c = 45 ∨ c = 95)) ∨ (okB c = false ∧ (c < 97 ∨ 122 < c) ∧ (c < 48 ∨ 57 < c) ∧ c ≠ 46 ∧ c ≠ 45 ∧ c ≠ 95) := by
  unfold okB
  by_cases h : (97 ≤ c ∧ c ≤ 122) ∨ ((c < 97 ∨ 122 < c) ∧ 48 ≤ c ∧ c ≤ 57) ∨ c = 46 ∨ c = 45 ∨ c = 95
  · refine .inl ⟨?_, h⟩
    simp only [Bool.or_eq_true, Bool.and_eq_true, decide_eq_true_eq]
    omega
  · refine .inr ⟨?_, by omega, by omega, by omega, by omega, by omega⟩
    simp only [Bool.or_eq_false_iff, Bool.and_eq_false_iff, decide_eq_false_iff_not]
    omega

theorem fileByte_any (c : Nat) (w : World) : Calls Try.prog 71 #[.int .u8 c] w fun e w' => e = .returned (.bool (okB c)) ∧ w' = w := by
  rcases okB_cases c with ⟨e, h⟩ | ⟨e, h1, h2, h3, h4, h5⟩
  · rw [e]
    rcases h with h | ⟨h0, h⟩ | h | h | h
    · have z1 : (97 : Int) ≤ (c : Int) := by omega
      have z2 : (c : Int) ≤ 122 := by omega
      go_enter Try.func71, Try.ntmps71
      go_wp2
      go_ret
      exact ⟨rfl, rfl⟩
    · have z1 : ¬ (97 : Int) ≤ (c : Int) := by omega
      have z3 : (48 : Int) ≤ (c : Int) := by omega
      have z4 : (c : Int) ≤ 57 := by omega
      go_enter Try.func71, Try.ntmps71
      go_wp2
      go_ret
      exact ⟨rfl, rfl⟩
    all_goals
      subst h
      go_enter Try.func71, Try.ntmps71
      go_wp2
      go_ret
      exact ⟨rfl, rfl⟩
  · rw [e]
    have y1 : (¬ (97 : Int) ≤ (c : Int)) ∨ ((97 : Int) ≤ (c : Int) ∧ ¬ (c : Int) ≤ 122) := by omega
    have y2 : (¬ (48 : Int) ≤ (c : Int)) ∨ ((48 : Int) ≤ (c : Int) ∧ ¬ (c : Int) ≤ 57) := by omega
    have y3 : ((c : Int) == 46) = false := beq_eq_false_iff_ne.2 (by omega)
    have y4 : ((c : Int) == 45) = false := beq_eq_false_iff_ne.2 (by omega)
    have y5 : ((c : Int) == 95) = false := beq_eq_false_iff_ne.2 (by omega)
    clear h1 h2 h3 h4 h5
    rcases y1 with y1 | ⟨y1, y1'⟩
    all_goals
      rcases y2 with y2 | ⟨y2, y2'⟩
      all_goals
        go_enter Try.func71, Try.ntmps71
        go_wp2
        go_ret
        exact ⟨rfl, rfl⟩

theorem all_take_succ (s : ByteArray) (i : Nat) (h : i < s.size) (f : UInt8 → Bool) : (s.data.toList.take (i + 1)).all f = ((s.data.toList.take i).all f && f (s[i]'h)) := by
  have hl : i < s.data.toList.length := h
  rw [List.take_add_one, List.all_append, List.getElem?_eq_getElem hl]
  have e : s.data.toList[i]'hl = s[i]'h := by cases s; rfl
  simp [e]
theorem all_false (s : ByteArray) (i : Nat) (h : i < s.size) (f : UInt8 → Bool) (hf : f (s[i]'h) = false) : s.data.toList.all f = false := by
  have hl : i < s.data.toList.length := h
  have e : s.data.toList[i]'hl = s[i]'h := by cases s; rfl
  rw [List.all_eq_false]
  exact ⟨_, List.getElem_mem hl, by rw [e, hf]; simp⟩

set_option maxHeartbeats 1600000 in
theorem fileName_any (s : ByteArray) (w : World) : Calls Try.prog 60 #[.string s] w fun e w' => e = .returned (.bool (okN s)) ∧ w' = w := by
  by_cases h1 : 1 ≤ s.size
  · by_cases h2 : s.size ≤ 64
    · have z1 : ¬ (s.size : Int) < 1 := by omega
      have z2 : ¬ (64 : Int) < (s.size : Int) := by omega
      have hN : okN s = s.data.toList.all (fun b => okB b.toNat) := by unfold okN; simp [h1, h2]
      rw [hN]
      clear hN
      go_enter Try.func60, Try.ntmps60
      go_wp2_with fail
      go_loopg [14] s.size (fun q s14 wx => ∃ (i : Nat), i ≤ s.size ∧ q = s.size - i ∧ s14 = .int .i64 i ∧ (s.data.toList.take i).all (fun b => okB b.toNat) = true ∧ w = wx)
      case atStart => exact ⟨0, Nat.zero_le _, rfl, rfl, rfl, rfl⟩
      case round =>
        obtain ⟨i, hi, rfl, rfl, hall, rfl⟩ := hrel
        by_cases hlt : i < s.size
        · have hz : (i : Int) < (s.size : Int) := by omega
          have hz0 : (0 : Int) ≤ (i : Int) := by omega
          have hb := fun W => fileByte_any (s[i]'hlt).toNat W
          have HS : Hid (∀ f : UInt8 → Bool, (s.data.toList.take (i + 1)).all f = ((s.data.toList.take i).all f && f (s[i]'hlt))) := fun f => all_take_succ s i hlt f
          have HF : Hid (∀ f : UInt8 → Bool, f (s[i]'hlt) = false → s.data.toList.all f = false) := fun f => all_false s i hlt f
          cases hc : okB (s[i]'hlt).toNat with
          | true =>
            rw [hc] at hb
            go_wp2_with (go_at_call 71; refine (hb _).mono ?_; rintro e w1 ⟨rfl, rfl⟩)
            go_roundg (s.size - (i + 1))
            case measure => go_light; omega
            case rel => go_light; exact ⟨i + 1, by omega, rfl, by simp, by rw [HS.out, hall, hc]; rfl, rfl⟩
          | false =>
            rw [hc] at hb
            go_wp2_with (go_at_call 71; refine (hb _).mono ?_; rintro e w1 ⟨rfl, rfl⟩)
            go_ret
            exact ⟨by rw [HF.out _ hc]; rfl, rfl⟩
        · obtain rfl : i = s.size := by omega
          have e : s.data.toList.take s.size = s.data.toList := List.take_of_length_le (Nat.le_refl _)
          rw [e] at hall
          go_wp2_with fail
          go_ret
          exact ⟨by rw [hall]; rfl, rfl⟩
    · have hN : okN s = false := by unfold okN; simp [h2]
      rw [hN]
      have z1 : ¬ (s.size : Int) < 1 := by omega
      have z2 : (64 : Int) < (s.size : Int) := by omega
      go_enter Try.func60, Try.ntmps60
      go_wp2_with fail
      go_ret
      exact ⟨rfl, rfl⟩
  · have hN : okN s = false := by unfold okN; simp [h1]
    rw [hN]
    have z1 : (s.size : Int) < 1 := by omega
    go_enter Try.func60, Try.ntmps60
    go_wp2_with fail
    go_ret
    exact ⟨rfl, rfl⟩

end Go.Proofs.Ytbnlgohaaadgeaa

/- The library's contracts that package disk's calls lean on (slices.Sorted over maps.Keys, maps.Clone), laid at this program's numbers. -/
namespace Go.Proofs.Ytbnlgohaaadgeaa
open Go.RowKit Go.Maps Go.Sort Go.Shelf
set_option maxRecDepth 100000

def keysL_ren : Go.Shelf.Ren := ⟨fun | 7 => 64 | 10 => 75 | n => n, fun | 23 => 74 | 26 => 9 | 3 => 85 | 28 => 112 | 0 => 0 | 27 => 111 | 33 => 106 | 4 => 4 | n => n, fun | n => n⟩
theorem keysL : Go.Proofs.SlLaysZ.n7 Try.prog keysL_ren := {
  mixed := by kernel_rfl
  f7 := ⟨Try.f64.name, by decide, Try.func64.trans (congrArg some (by kernel_rfl))⟩
  f10 := ⟨Try.f75.name, by decide, Try.func75.trans (congrArg some (by kernel_rfl))⟩
  t0 := Try.underlying0
  a0 := Try.isAgg0
  z0 := Try.sizeOf0
  v0 := Try.zeroValue0
  t4 := Try.underlying4
  a4 := Try.isAgg4
  z4 := Try.sizeOf4
  v4 := Try.zeroValue4
  t23 := Try.underlying74
  a23 := Try.isAgg74
  z23 := Try.sizeOf74
  v23 := Try.zeroValue74
  t26 := Try.underlying9
  a26 := Try.isAgg9
  z26 := Try.sizeOf9
  v26 := Try.zeroValue9
  t27 := Try.underlying111
  a27 := Try.isAgg111
  z27 := Try.sizeOf111
  v27 := Try.zeroValue111
  t28 := Try.underlying112
  a28 := Try.isAgg112
  z28 := Try.sizeOf112
  v28 := Try.zeroValue112
  t33 := Try.underlying106
  a33 := Try.isAgg106
  z33 := Try.sizeOf106
  v33 := Try.zeroValue106 }
def sortedL_ren : Go.Shelf.Ren := ⟨fun | 6 => 63 | 8 => 73 | 9 => 74 | 11 => 77 | 13 => 79 | 12 => 78 | 23 => 89 | 24 => 90 | 14 => 80 | 15 => 81 | 16 => 82 | 17 => 83 | 18 => 84 | 19 => 85 | 20 => 86 | 21 => 87 | 22 => 88 | 25 => 91 | 26 => 92 | 27 => 93 | 28 => 94 | 29 => 95 | 30 => 96 | 31 => 97 | n => n, fun | 26 => 9 | 28 => 112 | 24 => 62 | 0 => 0 | 3 => 3 | 37 => 127 | 48 => 138 | 50 => 140 | 4 => 4 | 40 => 130 | 39 => 129 | 45 => 135 | 5 => 5 | 9 => 9 | 51 => 141 | 55 => 145 | 57 => 147 | 58 => 148 | 33 => 106 | n => n, fun | n => n⟩
theorem sortedL : Go.Proofs.SlLaysZ.n6 Try.prog sortedL_ren := {
  mixed := by kernel_rfl
  f6 := ⟨Try.f63.name, by decide, Try.func63.trans (congrArg some (by kernel_rfl))⟩
  f8 := ⟨Try.f73.name, by decide, Try.func73.trans (congrArg some (by kernel_rfl))⟩
  f11 := ⟨Try.f77.name, by decide, Try.func77.trans (congrArg some (by kernel_rfl))⟩
  t0 := Try.underlying0
  a0 := Try.isAgg0
  z0 := Try.sizeOf0
  v0 := Try.zeroValue0
  t24 := Try.underlying62
  a24 := Try.isAgg62
  z24 := Try.sizeOf62
  v24 := Try.zeroValue62
  t26 := Try.underlying9
  a26 := Try.isAgg9
  z26 := Try.sizeOf9
  v26 := Try.zeroValue9
  t28 := Try.underlying112
  a28 := Try.isAgg112
  z28 := Try.sizeOf112
  v28 := Try.zeroValue112
  i26 := by kernel_rfl }
def sortL_ren : Go.Shelf.Ren := ⟨fun | 6 => 74 | 8 => 79 | 9 => 78 | 19 => 89 | 20 => 90 | 21 => 80 | 22 => 81 | 23 => 82 | 24 => 83 | 25 => 84 | 26 => 85 | 27 => 86 | 28 => 87 | 29 => 88 | 36 => 91 | 31 => 92 | 32 => 93 | 37 => 94 | 38 => 95 | 39 => 96 | 41 => 97 | n => n, fun | 27 => 62 | 29 => 9 | 3 => 3 | 32 => 127 | 26 => 62 | 0 => 0 | 44 => 138 | 46 => 140 | 4 => 4 | 36 => 130 | 35 => 129 | 41 => 135 | 5 => 5 | 9 => 9 | 53 => 141 | 57 => 145 | 63 => 147 | 64 => 148 | n => n, fun | n => n⟩
theorem sortL : Go.Proofs.SlLaysM.n6 Try.prog sortL_ren := {
  mixed := by kernel_rfl
  f6 := ⟨Try.f74.name, by decide, Try.func74.trans (congrArg some (by kernel_rfl))⟩
  f8 := Try.func79.trans (congrArg some (by kernel_rfl))
  f9 := ⟨Try.f78.name, by decide, Try.func78.trans (congrArg some (by kernel_rfl))⟩
  f19 := Try.func89.trans (congrArg some (by kernel_rfl))
  f20 := Try.func90.trans (congrArg some (by kernel_rfl))
  f21 := ⟨Try.f80.name, by decide, Try.func80.trans (congrArg some (by kernel_rfl))⟩
  f22 := ⟨Try.f81.name, by decide, Try.func81.trans (congrArg some (by kernel_rfl))⟩
  f23 := ⟨Try.f82.name, by decide, Try.func82.trans (congrArg some (by kernel_rfl))⟩
  f24 := ⟨Try.f83.name, by decide, Try.func83.trans (congrArg some (by kernel_rfl))⟩
  f25 := ⟨Try.f84.name, by decide, Try.func84.trans (congrArg some (by kernel_rfl))⟩
  f26 := ⟨Try.f85.name, by decide, Try.func85.trans (congrArg some (by kernel_rfl))⟩
  f27 := ⟨Try.f86.name, by decide, Try.func86.trans (congrArg some (by kernel_rfl))⟩
  f28 := ⟨Try.f87.name, by decide, Try.func87.trans (congrArg some (by kernel_rfl))⟩
  f29 := ⟨Try.f88.name, by decide, Try.func88.trans (congrArg some (by kernel_rfl))⟩
  f31 := Try.func92.trans (congrArg some (by kernel_rfl))
  f32 := Try.func93.trans (congrArg some (by kernel_rfl))
  f36 := ⟨Try.f91.name, by decide, Try.func91.trans (congrArg some (by kernel_rfl))⟩
  f37 := ⟨Try.f94.name, by decide, Try.func94.trans (congrArg some (by kernel_rfl))⟩
  f38 := ⟨Try.f95.name, by decide, Try.func95.trans (congrArg some (by kernel_rfl))⟩
  f39 := ⟨Try.f96.name, by decide, Try.func96.trans (congrArg some (by kernel_rfl))⟩
  f41 := ⟨Try.f97.name, by decide, Try.func97.trans (congrArg some (by kernel_rfl))⟩
  t0 := Try.underlying0
  a0 := Try.isAgg0
  z0 := Try.sizeOf0
  v0 := Try.zeroValue0
  t3 := Try.underlying3
  a3 := Try.isAgg3
  z3 := Try.sizeOf3
  v3 := Try.zeroValue3
  t4 := Try.underlying4
  a4 := Try.isAgg4
  z4 := Try.sizeOf4
  v4 := Try.zeroValue4
  t5 := Try.underlying5
  a5 := Try.isAgg5
  z5 := Try.sizeOf5
  v5 := Try.zeroValue5
  t9 := Try.underlying9
  a9 := Try.isAgg9
  z9 := Try.sizeOf9
  v9 := Try.zeroValue9
  t26 := Try.underlying62
  a26 := Try.isAgg62
  z26 := Try.sizeOf62
  v26 := Try.zeroValue62
  t27 := Try.underlying62
  a27 := Try.isAgg62
  z27 := Try.sizeOf62
  v27 := Try.zeroValue62
  t29 := Try.underlying9
  a29 := Try.isAgg9
  z29 := Try.sizeOf9
  v29 := Try.zeroValue9
  t32 := Try.underlying127
  a32 := Try.isAgg127
  z32 := Try.sizeOf127
  v32 := Try.zeroValue127
  t35 := Try.underlying129
  a35 := Try.isAgg129
  z35 := Try.sizeOf129
  v35 := Try.zeroValue129
  t36 := Try.underlying130
  a36 := Try.isAgg130
  z36 := Try.sizeOf130
  v36 := Try.zeroValue130
  t41 := Try.underlying135
  a41 := Try.isAgg135
  z41 := Try.sizeOf135
  v41 := Try.zeroValue135
  t44 := Try.underlying138
  a44 := Try.isAgg138
  z44 := Try.sizeOf138
  v44 := Try.zeroValue138
  t46 := Try.underlying140
  a46 := Try.isAgg140
  z46 := Try.sizeOf140
  v46 := Try.zeroValue140
  t53 := Try.underlying141
  a53 := Try.isAgg141
  z53 := Try.sizeOf141
  v53 := Try.zeroValue141
  t57 := Try.underlying145
  a57 := Try.isAgg145
  z57 := Try.sizeOf145
  v57 := Try.zeroValue145
  t63 := Try.underlying147
  a63 := Try.isAgg147
  z63 := Try.sizeOf147
  v63 := Try.zeroValue147
  t64 := Try.underlying148
  a64 := Try.isAgg148
  z64 := Try.sizeOf148
  v64 := Try.zeroValue148 }
def cloneL_ren : Go.Shelf.Ren := ⟨fun | 5 => 61 | 7 => 72 | n => n, fun | 23 => 74 | 25 => 9 | 3 => 85 | 4 => 4 | 20 => 20 | n => n, fun | n => n⟩
theorem cloneL : Go.Proofs.SlLaysW.n5 Try.prog cloneL_ren := {
  mixed := by kernel_rfl
  f5 := ⟨Try.f61.name, by decide, Try.func61.trans (congrArg some (by kernel_rfl))⟩
  f7 := Try.func72.trans (congrArg some (by kernel_rfl))
  t4 := Try.underlying4
  a4 := Try.isAgg4
  z4 := Try.sizeOf4
  v4 := Try.zeroValue4
  t20 := Try.underlying20
  a20 := Try.isAgg20
  z20 := Try.sizeOf20
  v20 := Try.zeroValue20
  t23 := Try.underlying74
  a23 := Try.isAgg74
  z23 := Try.sizeOf74
  v23 := Try.zeroValue74 }

/-- slices.Sort's two contracts at this dump, at the fence that asks nothing. -/
theorem sortsL (m : Nat) : AnyZ.SortsIn Try.prog sortedL_ren Fence.wide m :=
  ⟨fun blk off cap ss W hH hblk hsz => callsIn_wide.2 (AnyM.slices_Sort_string sortL blk off cap ss W hH hblk hsz),
   fun p cap W => callsIn_wide.2 (AnyM.slices_Sort_string_none sortL p cap W)⟩

theorem keys_at (mb : Option Nat) (W : World) : CallsIn Fence.wide 5 Try.prog 64 #[.map mb] W fun e w' => e = .returned (.func (.func 75) #[] #[.pointer (some ⟨W.heap.size, 0, none⟩)]) ∧ w' = W.alloc (.cells #[.map mb] 74) :=
  AnyZ.keys_in keysL Fence.wide 5 trivial rfl mb W

set_option maxHeartbeats 1000000 in
theorem sorted_at {H : Type} (b nn : Nat) (D0 : DataW H) (R : Value → Option (DataW H × List MemPlace)) (w : World) (hown : w.ownsMap Try.prog 9 R b nn D0) (hmax : Maps.size D0 ≤ maxLen) (hbytes : Maps.size D0 * 16 ≤ 140737488355328) :
    CallsIn Fence.wide 5 Try.prog 63 #[.func (.func 75) #[] #[.pointer (some ⟨w.heap.size, 0, none⟩)]] (w.alloc (.cells #[.map (some b)] 74)) fun e w' => ∃ (v : Value) (ss : List (List UInt8)), e = .returned v ∧ ss.Perm (strKeys D0) ∧
      w'.ownsRow (w.alloc (.cells #[.map (some b)] 74)).heap.size 9 1 v ss.length ((ss.mergeSort (fun x y => decide (x ≤ y))).map encStr) ∧ (v = .slice none 0 0 ↔ ss = []) ∧ Below (w.alloc (.cells #[.map (some b)] 74)).heap.size (w.alloc (.cells #[.map (some b)] 74)) w' := by
  have hbl := hown.lt
  have hseq : SeqGives Fence.wide 2 Try.prog 75 #[.pointer (some ⟨w.heap.size, 0, none⟩)] encStr (fun ss => ss.Perm (strKeys D0)) (Maps.size D0) (w.alloc (.cells #[.map (some b)] 74)) :=
    AnyZ.keys_gives (ρ := keysL_ren) { keysL with } Fence.wide _ trivial rfl (by omega) w.heap.size b nn D0 _ (by simp) (by simp) (by
      obtain ⟨es, clock, hb, Ft, hs, hD⟩ := hown
      exact ⟨es, clock, (Below.heap_alloc _ _ b hbl).trans hb, Ft, hs, hD⟩)
  exact AnyZ.sorted_in sortedL Fence.wide 5 trivial trivial trivial trivial rfl (by omega) (sortsL _) (enters_of Try.func74 (by kernel_rfl) rfl) 75 #[.pointer (some ⟨w.heap.size, 0, none⟩)] trivial (enters_of Try.func75 (by kernel_rfl) rfl) _ _ hmax hbytes _ hseq

set_option maxHeartbeats 1000000 in
/-- disk.sorted: a map's keys, sorted, in new memory. -/
theorem sorted_any {H : Type} (b nn : Nat) (D0 : DataW H) (R : Value → Option (DataW H × List MemPlace)) (w : World) (hown : w.ownsMap Try.prog 9 R b nn D0) (hmax : Maps.size D0 ≤ 1000000) :
    Calls Try.prog 40 #[.map (some b)] w fun e w' => ∃ (v : Value) (ss : List (List UInt8)), e = .returned v ∧ ss.Perm (strKeys D0) ∧
      w'.ownsRow w.heap.size 9 1 v ss.length ((ss.mergeSort (fun x y => decide (x ≤ y))).map encStr) ∧ (v = .slice none 0 0 ↔ ss = []) ∧ Below w.heap.size w w' := by
  have hml : maxLen = 9223372036854775807 := rfl
  refine (callsIn_wide (n := 6)).1 ?_
  have hfK : Fence.wide.fn 64 := trivial
  have hfS : Fence.wide.fn 63 := trivial
  refine callsIn_of_wp Try.func40 rfl trivial ?_ rfl
  simp only [Try.ntmps40, List.size_toArray, List.length_cons, List.length_nil, Nat.reduceAdd, Nat.reduceSub, Array.replicate_succ, Array.replicate_zero, List.push_toArray, List.append_toArray, List.nil_append, List.cons_append]
  gi_wp2_with (first
    | (gi_at_call 64; refine (keys_at _ _).mono ?_; rintro e w' ⟨rfl, rfl⟩)
    | (gi_at_call 63; refine (sorted_at b nn D0 R w hown (by omega) (by omega)).mono ?_; rintro e w' ⟨v, ss, rfl, hS, hrow, hnil, hb⟩))
  go_ret
  exact ⟨v, ss, rfl, hS, ownsRow_base_a hrow (by simp), hnil, ((Below.refl _ w).alloc (Nat.le_refl _) _).trans (hb.mono (by simp))⟩
end Go.Proofs.Ytbnlgohaaadgeaa

/- Package disk: rows of bytes that are copied; files without changes; the names' maps. -/
namespace Go.Proofs.Ytbnlgohaaadgeaa
open Go.RowKit Go.Maps
set_option maxRecDepth 100000
set_option maxRecDepth 100000

theorem below_of_since {w w' : World} {B : Nat} (h : w.Since B w') : Below B w w' := ⟨h.os, h.tape, h.output, h.size, h.block⟩
theorem since_of_below {w w' : World} {B : Nat} (h : Below B w w') : w.Since B w' := ⟨h.os, h.tape, h.output, h.size, h.block⟩
theorem cel_on {W W' : World} {b i : Nat} {v : Value} (h : Below W.heap.size W W') (hc : W.cell? ⟨b, i, none⟩ = some v) : W'.cell? ⟨b, i, none⟩ = some v := by
  rw [World.cell?_of_block (a := ⟨b, i, none⟩) (h.block _ (World.block_lt_of_cell? _ _ hc))]; exact hc
theorem Byt.on {w w' : World} {a : Option Addr} {len : Nat} {x : Nat → Nat} (h : Byt w a len x) (hs : Below w.heap.size w w') : Byt w' a len x := h.since (since_of_below hs)

/-- disk.copied: the same bytes in new memory. -/
theorem copied_any (a : Option Addr) (len cap : Nat) (x : Nat → Nat) (w : World) (hmax : len ≤ 281474976710656) (hc : Byt w a len x) :
    Calls Try.prog 65 #[.slice a len cap] w fun e w' => e = .returned (.slice (some ⟨w.heap.size, 0, none⟩) len len) ∧ w.Since w.heap.size w' ∧ w'.heap.size = w.heap.size + 1 ∧ w'.rowIs w.heap.size 5 len (fun j => .int .u8 (x j : Nat)) := by
  have hmk := run_make_row' (P := Try.prog) 86 5 (.int .u8 0) 1 Try.underlying86 Try.info5 rfl .i64 .i64 len (by omega) (by omega)
  have hs0 : w.Since w.heap.size (w.alloc (.cells (madeCells #[.int .u8 0] len) 5)) := (World.Since.refl _ _).alloc (Nat.le_refl _) _
  have hr0 := World.rowIs_made w (.int .u8 0) len 5
  have hz0 : (w.alloc (.cells (madeCells #[.int .u8 0] len) 5)).heap.size = w.heap.size + 1 := by simp
  generalize hW : w.alloc (.cells (madeCells #[.int .u8 0] len) 5) = W at *
  rcases Nat.eq_zero_or_pos len with rfl | hp
  · have hcp := run_copy_none (P := Try.prog) W 86 29 3 5 (some ⟨w.heap.size, 0, none⟩) a 0 0 0 cap Try.underlying86 Try.size5 (by simp)
    have hmk0 : (Instr.makeSlice 86 (.int .i64 0) (.int .i64 0)).run Try.prog w = .ok (.slice (some ⟨w.heap.size, 0, none⟩) 0 0) W := by rw [← hW]; simpa using hmk w
    clear hmk hW
    go_enter Try.func65, Try.ntmps65
    go_wp2
    go_ret
    exact ⟨rfl, hs0, hz0, hr0.congr (fun j hj => by omega)⟩
  · obtain ⟨b, off, rfl, _⟩ := hc 0 hp
    have hc' : ∀ j, j < len → w.cell? ⟨b, off + j, none⟩ = some (.int .u8 (x j : Nat)) := fun j hj => by obtain ⟨b', off', e, hh⟩ := hc j hj; cases e; exact hh
    have hcp := run_copy_cells (P := Try.prog) W 86 29 3 5 w.heap.size 0 len len ⟨b, off, none⟩ len cap ((List.range len).map fun j => .int .u8 (x j : Nat)) Try.underlying86 Try.size5 (by simp)
      (fun j v hv => by
        have hj : j < len := by have := (List.getElem?_eq_some_iff.1 hv).1; simpa using this
        have : v = .int .u8 (x j : Nat) := by rw [List.getElem?_map, List.getElem?_range hj] at hv; simpa using hv.symm
        rw [this, show (⟨b, off, none⟩ : Addr).add j = ⟨b, off + j, none⟩ by simp [Addr.add], hs0.cell (a := ⟨b, off + j, none⟩) (World.block_lt_of_cell? _ _ (hc' j hj))]
        exact hc' j hj)
      (fun j hj => by rw [Nat.zero_add, hr0.cell (by simpa using hj)]; rfl) (fun j _ => by rw [Nat.zero_add]; exact hr0.frozen j) (fun v hv => by obtain ⟨j, _, rfl⟩ := List.mem_map.1 hv; rfl)
    have hend : w.Since w.heap.size (W.setCells w.heap.size 0 ((List.range len).map fun j => .int .u8 (x j : Nat))) ∧ (W.setCells w.heap.size 0 ((List.range len).map fun j => .int .u8 (x j : Nat))).heap.size = w.heap.size + 1 ∧
        (W.setCells w.heap.size 0 ((List.range len).map fun j => .int .u8 (x j : Nat))).rowIs w.heap.size 5 len (fun j => .int .u8 (x j : Nat)) :=
      ⟨since_setCells (Nat.le_refl _) _ _ _ hs0, by rw [size_setCells]; exact hz0, (rowIs_setCells _ 0 _ _ hr0).congr (fun j hj => by
        rw [if_pos (by simp; exact hj)]; simp [List.getD, hj])⟩
    have hmk1 : (Instr.makeSlice 86 (.int .i64 len) (.int .i64 len)).run Try.prog w = .ok (.slice (some ⟨w.heap.size, 0, none⟩) len len) W := by rw [← hW]; exact hmk w
    clear hmk hW
    generalize W.setCells w.heap.size 0 ((List.range len).map fun j => .int .u8 (x j : Nat)) = W2 at *
    go_enter Try.func65, Try.ntmps65
    go_wp2
    go_ret
    exact ⟨rfl, hend⟩

/-- A file without changes. -/
structure File0 (w : World) (fb n : Nat) (x : Nat → Nat) : Prop where
  row : ∃ ra rc, w.cell? ⟨fb, 0, none⟩ = some (.slice ra n rc) ∧ Byt w ra n x
  chs : w.cell? ⟨fb, 1, none⟩ = some (.slice none 0 0)
  size : w.cell? ⟨fb, 2, none⟩ = some (.int .i64 n)
theorem File0.on {w w' : World} {fb n : Nat} {x : Nat → Nat} (h : File0 w fb n x) (hb : Below w.heap.size w w') : File0 w' fb n x := by
  obtain ⟨ra, rc, h1, h2⟩ := h.row
  exact ⟨⟨ra, rc, cel_on hb h1, h2.on hb⟩, cel_on hb h.chs, cel_on hb h.size⟩
/-- A step that writes no block of cells. -/
theorem File0.map {w w' : World} {fb n m : Nat} {x : Nat → Nat} {es : Array MapEntry} {clock : Nat} (h : File0 w fb n x) (hm : w.heap[m]? = some (.map es clock)) (hg : w.grownBy w' (some m)) : File0 w' fb n x := by
  have cc : ∀ b i v, w.cell? ⟨b, i, none⟩ = some v → w'.cell? ⟨b, i, none⟩ = some v := fun b i v hc => by
    have hne : b ≠ m := by
      rintro rfl
      simp [World.cell?, hm] at hc
    rw [World.cell?_of_block (a := ⟨b, i, none⟩) (hg.block b (World.block_lt_of_cell? _ _ hc) (fun e => hne (Option.some.inj e)))]
    exact hc
  obtain ⟨ra, rc, h1, h2⟩ := h.row
  exact ⟨⟨ra, rc, cc _ _ _ h1, fun j hj => by obtain ⟨b, o, e, hc⟩ := h2 j hj; exact ⟨b, o, e, cc _ _ _ hc⟩⟩, cc _ _ _ h.chs, cc _ _ _ h.size⟩

theorem newFile_any (a : Option Addr) (len cap : Nat) (x : Nat → Nat) (w : World) (hmax : len ≤ 281474976710656) (hc : Byt w a len x) :
    Calls Try.prog 47 #[.slice a len cap] w fun e w' => ∃ fb, e = .returned (.pointer (some ⟨fb, 0, none⟩)) ∧ w.heap.size ≤ fb ∧ fb < w'.heap.size ∧ Below w.heap.size w w' ∧ File0 w' fb len x := by
  have hcp := copied_any a len cap x w hmax hc
  go_enter Try.func47, Try.ntmps47
  go_wp2_with fail
  refine hcp.mono ?_
  rintro e w1 ⟨rfl, hs, hz, hr⟩
  clear hcp hz
  have hb1 := below_of_since hs
  go_wp2_with fail
  go_ret
  refine ⟨w1.heap.size, rfl, hb1.size, by simp, hb1.alloc hb1.size _, ⟨some ⟨w.heap.size, 0, none⟩, len, World.cell?_alloc_at (w := w1) _ _ _ 0 rfl, (Byt.of_row hr).on ((Below.refl _ _).alloc (Nat.le_refl _) _)⟩, World.cell?_alloc_at (w := w1) _ _ _ 1 rfl, World.cell?_alloc_at (w := w1) _ _ _ 2 rfl⟩

theorem units0_any {fb n : Nat} {x : Nat → Nat} {w : World} (h : File0 w fb n x) :
    Calls Try.prog 42 #[.pointer (some ⟨fb, 0, none⟩)] w fun e w' => e = .returned (.int .i64 0) ∧ w' = w := by
  have c1 := h.chs
  clear h
  go_enter Try.func42, Try.ntmps42
  go_wp2_with fail
  go_loopg [3, 11] 0 (fun q s3 s11 wx => q = 0 ∧ s3 = .int .i64 0 ∧ s11 = .int .i64 0 ∧ w = wx)
  case atStart => exact ⟨rfl, rfl, rfl, rfl⟩
  case round =>
    obtain ⟨rfl, rfl, rfl, rfl⟩ := hrel
    go_wp2_with fail
    go_ret
    exact ⟨rfl, rfl⟩

theorem after0_any {fb n : Nat} {x : Nat → Nat} {w : World} (h : File0 w fb n x) (hn : n ≤ 281474976710656) (k : Int) :
    Calls Try.prog 41 #[.pointer (some ⟨fb, 0, none⟩), .int .i64 k] w fun e w' => ∃ g, e = .returned (.slice (some ⟨g, 0, none⟩) n n) ∧ w.heap.size ≤ g ∧ Below w.heap.size w w' ∧ w'.rowIs g 5 n (fun j => .int .u8 (x j : Nat)) := by
  obtain ⟨ra, rc, c0, hb0⟩ := h.row
  have c1 := h.chs
  have hcp := copied_any ra n rc x w hn hb0
  clear h
  go_enter Try.func41, Try.ntmps41
  go_wp2_with fail
  refine hcp.mono ?_
  rintro e w1 ⟨rfl, hs, hz, hr⟩
  clear hcp hz
  have hb1 := below_of_since hs
  have d1 := cel_on hb1 c1
  have hr2 := hr.alloc (.cells #[.slice (some ⟨w.heap.size, 0, none⟩) n n] 86)
  have hb2 := hb1.alloc hb1.size (.cells #[.slice (some ⟨w.heap.size, 0, none⟩) n n] 86)
  have l0 : (w1.alloc (.cells #[.slice (some ⟨w.heap.size, 0, none⟩) n n] 86)).cell? ⟨w1.heap.size, 0, none⟩ = some (.slice (some ⟨w.heap.size, 0, none⟩) n n) := World.cell?_alloc_at (w := w1) _ _ _ 0 rfl
  have e1 : (w1.alloc (.cells #[.slice (some ⟨w.heap.size, 0, none⟩) n n] 86)).cell? ⟨fb, 1, none⟩ = some (.slice none 0 0) := cel_on ((Below.refl _ _).alloc (Nat.le_refl _) _) d1
  clear c0 c1 d1 hr hb1 hb0 hs
  go_upto_region 2 with fail
  generalize w1.alloc (.cells #[.slice (some ⟨w.heap.size, 0, none⟩) n n] 86) = W2 at *
  go_wp2_with fail
  go_loopg [19] 0 (fun q s19 wx => q = 0 ∧ s19 = .int .i64 0 ∧ W2 = wx)
  case atStart => exact ⟨rfl, rfl, rfl⟩
  case round =>
    obtain ⟨rfl, rfl, rfl⟩ := hrel
    go_wp2_with fail
    go_ret
    exact ⟨w.heap.size, rfl, Nat.le_refl _, hb2, hr2⟩
end Go.Proofs.Ytbnlgohaaadgeaa

/- Package disk: the names' maps, and what a loaded disk is in memory. -/
namespace Go.Proofs.Ytbnlgohaaadgeaa
open Go.RowKit Go.Maps Go.Sort
set_option maxRecDepth 100000
set_option maxRecDepth 100000

/-- How a pointer to a file reads. -/
def Rf (v : Value) : Option (DataW Nat × List MemPlace) :=
  match v with
  | .pointer none => some (.nil, [])
  | .pointer (some ⟨b, 0, none⟩) => some (.held b, [])
  | _ => none
theorem Rf_inv {v : Value} {b : Nat} {ps : List MemPlace} (h : Rf v = some (.held b, ps)) : v = .pointer (some ⟨b, 0, none⟩) := by
  unfold Rf at h
  split at h
  · simp at h
  · rename_i b'
    simp only [Option.some.injEq, Prod.mk.injEq, DataW.held.injEq] at h
    rw [h.1]
  · cases h
theorem Rf_nil {v : Value} {ps : List MemPlace} (h : Rf v = some (.nil, ps)) : v = .pointer none := by
  unfold Rf at h
  split at h
  · rfl
  · simp at h
  · cases h

theorem strK : Keyed Try.prog 9 := string_keyed Try.underlying9
theorem key_str (s : ByteArray) (hs : s.size ≤ 1048576) : keyOf Try.prog 9 (.string s) = some (.string s.data.toList) := by
  have hm : maxLen = 9223372036854775807 := rfl
  exact Go.WideMaps.keyOf_string_mk Try.underlying9 (by omega)

theorem litS (s : List UInt8) : WideAt.IsKeyLit (.string s) := trivial

/-- The names, one after the other. -/
def nmD (nm : Nat → ByteArray) (fb : Nat → Nat) : Nat → DataW Nat
  | 0 => .map []
  | i + 1 => (nmD nm fb i).put (.string (nm i).data.toList) (.held (fb i))
theorem nmD_tidy (nm : Nat → ByteArray) (fb : Nat → Nat) : ∀ n, Tidy (nmD nm fb n)
  | 0 => tidy_empty
  | n + 1 => (nmD_tidy nm fb n).put (litS _) _
theorem nmD_has (nm : Nat → ByteArray) (fb : Nat → Nat) (s : List UInt8) : ∀ n, has (nmD nm fb n) (.string s) = true ↔ ∃ i, i < n ∧ (nm i).data.toList = s
  | 0 => by simp [nmD, has]
  | n + 1 => by
    show has ((nmD nm fb n).put _ _) _ = true ↔ _
    by_cases e : (nm n).data.toList = s
    · rw [← e, has_put_same (nmD_tidy nm fb n).isMap (litS _)]
      simp only [true_iff]
      exact ⟨n, by omega, rfl⟩
    · rw [has_put_other (by intro h; injection h with h; exact e h.symm), nmD_has nm fb s n]
      constructor
      · rintro ⟨i, hi, h⟩; exact ⟨i, by omega, h⟩
      · rintro ⟨i, hi, h⟩
        refine ⟨i, ?_, h⟩
        rcases Nat.lt_succ_iff_lt_or_eq.1 hi with h1 | h1
        · exact h1
        · rw [h1] at h; exact absurd h e
theorem nmD_at (nm : Nat → ByteArray) (fb : Nat → Nat) (z : DataW Nat) : ∀ n i, (∀ a b, a < n → b < n → (nm a).data.toList = (nm b).data.toList → a = b) → i < n → (nmD nm fb n).atKey (.string (nm i).data.toList) z = .held (fb i)
  | 0, i, _, h => absurd h (Nat.not_lt_zero _)
  | n + 1, i, hd, h => by
    show ((nmD nm fb n).put _ _).atKey _ z = _
    by_cases e : i = n
    · subst e
      exact atKey_put_same (nmD_tidy nm fb i).isMap (litS _) _ _
    · rw [atKey_put_other (by intro h2; injection h2 with h2; exact e (hd i n h (by omega) h2))]
      exact nmD_at nm fb z n i (fun a b ha hb => hd a b (by omega) (by omega)) (by omega)
theorem nmD_size (nm : Nat → ByteArray) (fb : Nat → Nat) : ∀ n, (∀ a b, a < n → b < n → (nm a).data.toList = (nm b).data.toList → a = b) → size (nmD nm fb n) = n
  | 0, _ => rfl
  | n + 1, hd => by
    show size ((nmD nm fb n).put _ _) = _
    rw [size_put (nmD_tidy nm fb n), nmD_size nm fb n (fun a b ha hb => hd a b (by omega) (by omega)), if_neg]
    intro h
    obtain ⟨i, hi, e⟩ := (nmD_has nm fb _ n).1 h
    have := hd i n (by omega) (by omega) e
    omega

/-- The cells of a disk that was just loaded. -/
def dkCell (room : Int) (sb nb : Nat) (i : Nat) : Value := if i = 0 then .int .i64 room else if i = 1 then .map (some sb) else if i = 2 then .map (some nb) else if i = 3 then .slice none 0 0 else if i = 4 then .bool false else .int .i64 0

theorem cells_ne {w : World} {b m i : Nat} {v : Value} {es : Array MapEntry} {clock : Nat} (hc : w.cell? ⟨b, i, none⟩ = some v) (hm : w.heap[m]? = some (.map es clock)) : b ≠ m := by
  rintro rfl
  simp [World.cell?, hm] at hc

set_option maxHeartbeats 1600000 in
theorem lay_any {w : World} {db sb nb n : Nat} {D : DataW Nat} (c1 : w.cell? ⟨db, 1, none⟩ = some (.map (some sb))) (c2 : w.cell? ⟨db, 2, none⟩ = some (.map (some nb))) (h1 : w.ownsMap Try.prog 9 Rf sb n D) (h2 : w.ownsMap Try.prog 9 Rf nb n D) (hne : sb ≠ nb) (hn : n ≤ 1000000) (s : ByteArray) (hs : s.size ≤ 1048576) (f : Nat) :
    Calls Try.prog 46 #[.pointer (some ⟨db, 1, none⟩), .string s, .pointer (some ⟨f, 0, none⟩)] w fun e w' => e = .returned (.tuple #[]) ∧ w'.ownsMap Try.prog 9 Rf sb (n + 1) (D.put (.string s.data.toList) (.held f)) ∧ w'.ownsMap Try.prog 9 Rf nb (n + 1) (D.put (.string s.data.toList) (.held f)) ∧ ∃ w1, w.grownBy w1 (some sb) ∧ w1.grownBy w' (some nb) ∧ ∃ es clock, w1.heap[nb]? = some (.map es clock) := by
  have hml : maxLen = 9223372036854775807 := rfl
  have hk := key_str s hs
  have hv : Rf (.pointer (some ⟨f, 0, none⟩)) = some (.held f, []) := rfl
  have hd : db ≠ sb := by
    obtain ⟨es, clock, hb, _⟩ := h1
    exact cells_ne c1 hb
  have HN : Hid (db ≠ sb ∧ sb ≠ nb) := ⟨hd, hne⟩
  clear hd hne
  go_enter Try.func46, Try.ntmps46
  go_wp2_with (first
    | (at_mapUpdate; refine wpList_mapUpdate_own _ rfl _ _ _ 74 rfl 9 85 strK Try.underlying74 Rf sb n D rfl h1 (by omega) _ _ _ rfl rfl hk _ [] hv ?_
       intro w1 hown1 hg1
       have h2' := h2.kept hg1 (fun e => HN.out.2 (Option.some.inj e).symm)
       have d2 : w1.cell? ⟨db, 2, none⟩ = some (.map (some nb)) := by
         rw [World.cell?_of_block (a := ⟨db, 2, none⟩) (hg1.block db (World.block_lt_of_cell? _ _ c2) (fun e => HN.out.1 (Option.some.inj e)))]; exact c2
       clear h1 h2 c1 c2
       go_frame)
    | (at_mapUpdate; refine wpList_mapUpdate_own _ rfl _ _ _ 74 rfl 9 85 strK Try.underlying74 Rf nb n D rfl h2' (by omega) _ _ _ rfl rfl hk _ [] hv ?_
       intro w2 hown2 hg2
       go_frame)
    | go_in)
  go_end0
  refine ⟨rfl, hown1.kept hg2 (fun e => HN.out.2 (Option.some.inj e)), hown2, w1, hg1, hg2, ?_⟩
  obtain ⟨es, clock, hb, _⟩ := h2'
  exact ⟨es, clock, hb⟩

theorem results_cell_one {fn : Func} {p : Tmp} {ty : TypeId} (h : fn.results = #[.cell p ty]) (tmps : Array Value) (P : Program) (w : World) :
    (results fn tmps).run P w = ((asAddr (tmps.getD p undef)).run P w).andThen fun a w₁ => (loadVar ty a).run P w₁ := by
  simp only [results, h]
  simp [Sem.run_bind, Result.andThen]

set_option maxHeartbeats 1600000 in
theorem newNames_any (w : World) : Calls Try.prog 45 #[] w fun e w' => ∃ sb nb, e = .returned (.agg #[.map (some sb), .map (some nb), .slice none 0 0]) ∧ w'.ownsMap Try.prog 9 Rf sb 0 (.map []) ∧ w'.ownsMap Try.prog 9 Rf nb 0 (.map []) ∧ sb ≠ nb ∧ w.heap.size ≤ sb ∧ w.heap.size ≤ nb ∧ Below w.heap.size w w' := by
  have hmk := fun W => run_makeMap (P := Try.prog) 74 W
  obtain ⟨W1, hW1⟩ : ∃ W1, w.alloc (.cells #[.map none, .map none, .slice none 0 0] 77) = W1 := ⟨_, rfl⟩
  have r1 : W1.rowIs w.heap.size 77 3 (fun i => if i = 2 then .slice none 0 0 else .map none) := by
    rw [← hW1]
    exact World.rowIs_alloc w #[.map none, .map none, .slice none 0 0] _ _ (fun i hi => by
      match i, hi with
      | 0, _ => rfl
      | 1, _ => rfl
      | 2, _ => rfl)
  have z1 : W1.heap.size = w.heap.size + 1 := by rw [← hW1]; simp
  have b1 : Below w.heap.size w W1 := by rw [← hW1]; exact (Below.refl _ _).alloc (Nat.le_refl _) _
  have m1 := World.ownsMap_made W1 Try.prog 9 Rf
  have m2 := World.ownsMap_made (W1.alloc (.map #[] 0)) Try.prog 9 Rf
  have m1' := m1.alloc (.map #[] 0)
  have r3 := (r1.alloc (.map #[] 0)).alloc (.map #[] 0)
  have z2 : (W1.alloc (.map #[] 0)).heap.size = W1.heap.size + 1 := by simp
  have b3 : Below w.heap.size w ((W1.alloc (.map #[] 0)).alloc (.map #[] 0)) := (b1.alloc b1.size _).alloc (by omega) _
  have z2' : (W1.alloc (.map #[] 0)).heap.size = w.heap.size + 1 + 1 := by omega
  rw [z2'] at m2
  rw [z1] at m1'
  have r4 := r3.set 0 (.map (some (w.heap.size + 1)))
  have r5 := r4.set 1 (.map (some (w.heap.size + 1 + 1)))
  have r6 := r5.set 2 (.slice none 0 0)
  have k3 : ((W1.alloc (.map #[] 0)).alloc (.map #[] 0)).heap.size = w.heap.size + 1 + 1 + 1 := by simp [z1]
  obtain ⟨W3, hW3⟩ : ∃ W3, (W1.alloc (.map #[] 0)).alloc (.map #[] 0) = W3 := ⟨_, rfl⟩
  rw [hW3] at m2 m1' r3 r4 r5 r6 b3
  have c0 := r3.cell (i := 0) (by decide)
  have c1 := r4.cell (i := 1) (by decide)
  have c2 := r5.cell (i := 2) (by decide)
  have f0 := r3.frozen 0
  have f1 := r4.frozen 1
  have f2 := r5.frozen 2
  simp only [if_true, if_false, Nat.reduceEqDiff, Nat.succ_ne_zero] at c0 c1 c2
  have set3 : ∀ (b : Nat), b ≠ w.heap.size → (((W3.setCell ⟨w.heap.size, 0, none⟩ (.map (some (w.heap.size + 1)))).setCell ⟨w.heap.size, 1, none⟩ (.map (some (w.heap.size + 1 + 1)))).setCell ⟨w.heap.size, 2, none⟩ (.slice none 0 0)).heap[b]? = W3.heap[b]? := fun b hb =>
    (Below.heap_setCell _ _ _ _ hb).trans ((Below.heap_setCell _ _ _ _ hb).trans (Below.heap_setCell _ _ _ _ hb))
  have fin1 : (((W3.setCell ⟨w.heap.size, 0, none⟩ (.map (some (w.heap.size + 1)))).setCell ⟨w.heap.size, 1, none⟩ (.map (some (w.heap.size + 1 + 1)))).setCell ⟨w.heap.size, 2, none⟩ (.slice none 0 0)).ownsMap Try.prog 9 Rf (w.heap.size + 1) 0 (.map []) := by
    obtain ⟨es, clock, hb, F, hs, hD⟩ := m1'
    exact ⟨es, clock, (set3 _ (by omega)).trans hb, F, hs, hD⟩
  have fin2 : (((W3.setCell ⟨w.heap.size, 0, none⟩ (.map (some (w.heap.size + 1)))).setCell ⟨w.heap.size, 1, none⟩ (.map (some (w.heap.size + 1 + 1)))).setCell ⟨w.heap.size, 2, none⟩ (.slice none 0 0)).ownsMap Try.prog 9 Rf (w.heap.size + 1 + 1) 0 (.map []) := by
    obtain ⟨es, clock, hb, F, hs, hD⟩ := m2
    exact ⟨es, clock, (set3 _ (by omega)).trans hb, F, hs, hD⟩
  have finb : Below w.heap.size w (((W3.setCell ⟨w.heap.size, 0, none⟩ (.map (some (w.heap.size + 1)))).setCell ⟨w.heap.size, 1, none⟩ (.map (some (w.heap.size + 1 + 1)))).setCell ⟨w.heap.size, 2, none⟩ (.slice none 0 0)) :=
    ((b3.setCell (Nat.le_refl _) _).setCell (Nat.le_refl _) _).setCell (Nat.le_refl _) _
  have H6 : Hid _ := r6
  have G1 : Hid _ := fin1
  have G2 : Hid _ := fin2
  have G3 : Hid _ := finb
  clear r1 r3 r4 r5 r6 m1 m1' m2 b1 b3 set3 fin1 fin2 finb z2 z2' k3
  go_enter Try.func45, Try.ntmps45
  go_wp2_with fail
  refine bodyPost_ret_by (v := .agg #[.map (some (w.heap.size + 1)), .map (some (w.heap.size + 1 + 1)), .slice none 0 0]) ?_ rfl ⟨_, _, rfl, G1.out, G2.out, by omega, by omega, by omega, G3.out⟩
  obtain ⟨cs, hcs, hsz, hat⟩ := H6.out
  have ecs : cs = #[.map (some (w.heap.size + 1)), .map (some (w.heap.size + 1 + 1)), .slice none 0 0] := by
    apply Array.ext_getElem?
    intro i
    match i with
    | 0 => rw [hat 0 (by decide)]; rfl
    | 1 => rw [hat 1 (by decide)]; rfl
    | 2 => rw [hat 2 (by decide)]; rfl
    | i + 3 => rw [Array.getElem?_eq_none (by omega)]; rfl
  rw [ecs] at hcs
  exact results_cell_row rfl _ _ w.heap.size _ _ _ _ rfl hcs Try.underlying77 rfl (by kernel_rfl)
end Go.Proofs.Ytbnlgohaaadgeaa

/- Package disk: rows of bytes as lists; extend, shorten; a change's isCut, units, onto. -/
namespace Go.Proofs.Ytbnlgohaaadgeaa
open Go.RowKit
set_option maxRecDepth 100000
set_option maxRecDepth 100000

/-- Bytes that may be read. -/
def BL (w : World) (a : Option Addr) (l : List Nat) : Prop := Byt w a l.length (fun j => l.getD j 0)
/-- A row of bytes of one's own. -/
def OwnL (w : World) (B : Nat) (v : Value) (l : List Nat) : Prop := Own w B v l.length (fun j => l.getD j 0)
theorem own_congr {w : World} {B : Nat} {v : Value} {n : Nat} {x y : Nat → Nat} (h : Own w B v n x) (e : ∀ j, j < n → x j = y j) : Own w B v n y := by
  have : cellsOf n x = cellsOf n y := List.map_congr_left (fun j hj => by rw [e j (List.mem_range.1 hj)])
  unfold Own at h ⊢
  rwa [← this]
theorem OwnL.bl {w : World} {B : Nat} {v : Value} {l : List Nat} (h : OwnL w B v l) : ∃ a c, v = .slice a l.length c ∧ l.length ≤ c ∧ BL w a l ∧ (a = none → l.length = 0 ∧ c = 0) := by
  rcases h.2 with ⟨rfl, h0⟩ | ⟨g, cap, cur, rfl, _, _, hc, _⟩
  · have e : l = [] := List.eq_nil_of_length_eq_zero h0
    subst e
    exact ⟨none, 0, rfl, Nat.le_refl _, fun j hj => absurd hj (Nat.not_lt_zero _), fun _ => ⟨rfl, rfl⟩⟩
  · refine ⟨_, cap, rfl, hc, fun j hj => ⟨g, 0, rfl, ?_⟩, fun e => by cases e⟩
    rw [Nat.zero_add, World.ownsRow.cellAt h j (by omega), get_cellsOf hj]
theorem OwnL.on {w w' : World} {B : Nat} {v : Value} {l : List Nat} (h : OwnL w B v l) (hb : ∀ k, v.ownBlock = some k → w'.heap[k]? = w.heap[k]?) : OwnL w' B v l := by
  refine ⟨h.1, ?_⟩
  rcases h.2 with h0 | ⟨g, cap, cur, ev, hk, hq, hr⟩
  · exact .inl h0
  · exact .inr ⟨g, cap, cur, ev, hk, (hb g (by rw [ev]; rfl)).trans hq, hr⟩
theorem OwnL.lt {w : World} {B : Nat} {v : Value} {l : List Nat} (h : OwnL w B v l) : ∀ k, v.ownBlock = some k → B ≤ k ∧ k < w.heap.size := fun k e => World.ownsRow.lt h k e
theorem OwnL.apart {w : World} {B b n : Nat} {t : TypeId} {v : Value} {l : List Nat} {f : Nat → Value} (h : OwnL w B v l) (hr : w.rowIs b t n f) (ht : t ≠ 5) : v.ownBlock ≠ some b := fun e => by
  rcases h.2 with ⟨rfl, _⟩ | ⟨g, cap, cur, rfl, _, hq, _⟩
  · simp [Value.ownBlock] at e
  · obtain rfl : g = b := by simpa [Value.ownBlock] using e
    obtain ⟨c, hc, _⟩ := hr
    rw [hq] at hc
    simp only [Option.some.injEq, Obj.cells.injEq] at hc
    exact ht hc.2.1.symm
/-- The first k of them. -/
theorem OwnL.take {w : World} {B : Nat} {a : Option Addr} {n c : Nat} {l : List Nat} (h : OwnL w B (.slice a n c) l) {k : Nat} (hk : k ≤ n) : OwnL w B (.slice a k c) (l.take k) := by
  have hn : n = l.length := by
    obtain ⟨a', c', e, _⟩ := h.bl
    injection e
  have hl : (l.take k).length = k := by rw [List.length_take]; omega
  unfold OwnL Own
  rw [hl]
  rcases h.2 with ⟨e, h0⟩ | ⟨g, cap, cur, e, hb, hq, hc, hcm, hcs, htake⟩
  · cases e
    obtain rfl : k = 0 := by omega
    exact ⟨rfl, .inl ⟨rfl, rfl⟩⟩
  · cases e
    refine ⟨by rw [length_cellsOf]; omega, .inr ⟨g, c, cur, rfl, hb, hq, by omega, hcm, hcs, ?_⟩⟩
    have e1 : cellsOf k (fun j => (l.take k).getD j 0) = (cellsOf l.length (fun j => l.getD j 0)).take k := by
      apply List.ext_getElem?
      intro j
      rw [List.getElem?_take]
      by_cases hj : j < k
      · rw [if_pos hj, get_cellsOf hj, get_cellsOf (by omega)]
        simp [List.getD, hj]
      · rw [if_neg hj, List.getElem?_eq_none (by rw [length_cellsOf]; omega)]
    rw [e1, ← htake, List.take_take]
    congr 1
    omega

theorem app_at (w : World) (B : Nat) (v : Value) (n : Nat) (x : Nat → Nat) (hown : Own w B v n x) (a : Option Addr) (m c : Nat) (y : Nat → Nat) (hb : Byt w a m y) (ha : a = none → m = 0 ∧ c = 0) (hmax : n + m ≤ 140737488355328) (hB : B ≤ w.heap.size) :
    ∃ v' w', (Builtin.append_ #[29, 29] 29 #[v, .slice a m c]).run Try.prog w = .ok v' w' ∧ Own w' B v' (n + m) (cat x n y) ∧ w.grownBy w' v.ownBlock ∧ (v'.ownBlock = v.ownBlock ∨ v'.ownBlock = some w.heap.size) := by
  obtain ⟨i0, hi, hz0, hz1, hz2⟩ := info_parts Try.info5
  cases a with
  | none =>
    obtain ⟨rfl, rfl⟩ := ha rfl
    refine ⟨v, w, run_append_owned_none w B 29 29 5 i0 1 Try.underlying29 hi v n _ hown, ?_, ⟨rfl, rfl, rfl, Nat.le_refl _, fun _ _ _ => rfl⟩, Or.inl rfl⟩
    have e : cellsOf (n + 0) (cat x n y) = cellsOf n x := by rw [← cellsOf_cat]; simp [cellsOf]
    show w.ownsRow B 5 1 v (n + 0) (cellsOf (n + 0) (cat x n y))
    rw [e]; exact hown
  | some ad =>
    obtain ⟨v', w', hr, h1, h2, _, h5⟩ := run_append_own_at (P := Try.prog) w B 29 29 5 i0 (.int .u8 0) 1 1 Try.underlying29 hi hz0 hz1 hz2 rfl (by decide) v n _ hown ad m c (cellsOf m y) (by rw [length_cellsOf, Nat.mul_one])
      (fun j u hu => by
        have hj : j < m := by have := (List.getElem?_eq_some_iff.1 hu).1; rwa [length_cellsOf] at this
        rw [get_cellsOf hj] at hu
        obtain ⟨b, off, e, hc⟩ := hb j hj
        obtain rfl : ad = ⟨b, off, none⟩ := by simpa using e
        rw [show (⟨b, off, none⟩ : Addr).add j = ⟨b, off + j, none⟩ by simp [Addr.add], hc]; exact hu)
      (one_cellsOf m y) (by unfold maxLen; omega) (by omega) hB
    exact ⟨v', w', hr, by rw [cellsOf_cat] at h1; exact h1, h2, h5⟩

theorem app_types (v x : Value) (ty : TypeId) (w : World) : (Builtin.append_ #[86, 29] ty #[v, x]).run Try.prog w = (Builtin.append_ #[29, 29] 29 #[v, x]).run Try.prog w := by
  have key : ∀ G : TypeDesc → Sem Value, (underlying 86 >>= G).run Try.prog w = (underlying 29 >>= G).run Try.prog w := fun G => by
    rw [Sem.run_bind, Sem.run_bind, run_underlying Try.underlying86, run_underlying Try.underlying29]
  exact key _
theorem app_list (w : World) (B : Nat) (v : Value) (l : List Nat) (hown : OwnL w B v l) (a : Option Addr) (c : Nat) (l2 : List Nat) (hb : BL w a l2) (ha : a = none → l2.length = 0 ∧ c = 0) (hmax : l.length + l2.length ≤ 140737488355328) (hB : B ≤ w.heap.size) (ty : TypeId) :
    ∃ v' w', (Builtin.append_ #[86, 29] ty #[v, .slice a l2.length c]).run Try.prog w = .ok v' w' ∧ OwnL w' B v' (l ++ l2) ∧ w.grownBy w' v.ownBlock ∧ (v'.ownBlock = v.ownBlock ∨ v'.ownBlock = some w.heap.size) := by
  obtain ⟨v', w', hr, ho, hg, hl⟩ := app_at w B v l.length _ hown a l2.length c _ hb ha hmax hB
  refine ⟨v', w', by rw [app_types]; exact hr, ?_, hg, hl⟩
  unfold OwnL
  rw [List.length_append]
  refine own_congr ho (fun j hj => ?_)
  unfold cat
  by_cases e : j < l.length
  · rw [if_pos e]; simp [List.getD, List.getElem?_append_left e]
  · rw [if_neg e]; simp [List.getD, List.getElem?_append_right (Nat.le_of_not_lt e)]

theorem wpList_apps2 {P : Program} {w w' : World} {ops : Array Oper} {rest : List Oper} {o : Oper} {a : Act} {Q : Exit → Act → World → Prop} (hgd : o.guard = none) (s x : Operand) (t t' : TypeId)
    (ho : o.op = .call { callee := .builtin .append, args := #[s, x], argTypes := #[t, t'] }) (v u v' : Value) (hs : a.eval s = v) (hx : a.eval x = u)
    (hrun : (Builtin.append_ #[t, t'] o.type #[v, u]).run P w = .ok v' w') (h : wpList P ops Q rest (a.put o.dst v') w') : wpList P ops Q (o :: rest) a w := by
  refine wpList_plain hgd fun K hK => ?_
  unfold Oper.wp
  simp [execOp, ho, resolve, invoke, builtin, hs, hx, hrun, Result.andThen]
  exact hK _ _ h

/-- row.extend, through a pointer to the row. -/
theorem extend_any {w : World} {B pb po n : Nat} {t : TypeId} {F : Nat → Value} {v : Value} {l : List Nat} (hr : w.rowIs pb t n F) (hpo : po < n) (ht : t ≠ 5) (hv : F po = v) (hown : OwnL w B v l) (a : Option Addr) (c : Nat) (l2 : List Nat) (hb : BL w a l2) (ha : a = none → l2.length = 0 ∧ c = 0) (hmax : l.length + l2.length ≤ 140737488355328) (hB : B ≤ w.heap.size) :
    Calls Try.prog 70 #[.pointer (some ⟨pb, po, none⟩), .slice a l2.length c] w fun e w' => e = .returned (.tuple #[]) ∧ ∃ v' w1, w' = w1.setCell ⟨pb, po, none⟩ v' ∧ w.grownBy w1 v.ownBlock ∧ OwnL w1 B v' (l ++ l2) ∧ w1.rowIs pb t n F ∧ (v'.ownBlock = v.ownBlock ∨ v'.ownBlock = some w.heap.size) := by
  obtain ⟨v', w1, hrun, ho, hg, hl⟩ := app_list w B v l hown a c l2 hb ha hmax hB 86
  have hne := hown.apart hr ht
  have c0 := hr.cell hpo
  rw [hv] at c0
  have hr1 : w1.rowIs pb t n F := hr.of_block (hg.block pb hr.lt (fun e => hne e.symm))
  have c1 := hr1.cell hpo
  rw [hv] at c1
  have f1 := hr1.frozen po
  obtain ⟨a', c', ev, _, _, _⟩ := ho.bl
  rw [List.length_append] at ev
  subst ev
  have H : Hid _ := hrun
  have HO : Hid (OwnL w1 B (.slice a' (l.length + l2.length) c') (l ++ l2)) := ho
  have HG : Hid _ := hg
  have HR : Hid _ := hr1
  have HLI : Hid _ := hl
  clear hrun ho hg hr hr1 hb hown hl
  go_enter Try.func70, Try.ntmps70
  go_wp2_with (at_builtin; refine wpList_apps2 rfl _ _ 86 29 rfl _ _ _ (by rfl) (by rfl) H.out ?_)
  go_end0
  exact ⟨rfl, _, w1, rfl, HG.out, HO.out, HR.out, HLI.out⟩

/-- row.shorten. -/
theorem shorten_any {w : World} {pb po n : Nat} {t : TypeId} {F : Nat → Value} {a : Option Addr} {m c : Nat} (hr : w.rowIs pb t n F) (hpo : po < n) (hv : F po = .slice a m c) (k : Nat) (hk : k ≤ m) (hc : m ≤ c) :
    Calls Try.prog 76 #[.pointer (some ⟨pb, po, none⟩), .int .i64 k] w fun e w' => e = .returned (.tuple #[]) ∧ w' = w.setCell ⟨pb, po, none⟩ (.slice a k c) := by
  have c0 := hr.cell hpo
  rw [hv] at c0
  have f0 := hr.frozen po
  have hkc : (k : Int) ≤ (c : Int) := by omega
  clear hr
  go_enter Try.func76, Try.ntmps76
  go_wp2_with fail
  all_goals
    go_end0
    exact ⟨rfl, rfl⟩

theorem isCut_any (a : Option Addr) (n c : Nat) (tt : Int) (w : World) : Calls Try.prog 69 #[.agg #[.slice a n c, .int .i64 tt]] w fun e w' => e = .returned (.bool (decide (n = 0))) ∧ Below w.heap.size w w' := by
  by_cases h : n = 0
  · subst h
    go_enter Try.func69, Try.ntmps69
    go_wp2
    go_ret
    exact ⟨rfl, (Below.refl _ _).alloc (Nat.le_refl _) _⟩
  · have hz : ((n : Int) == 0) = false := beq_eq_false_iff_ne.2 (by omega)
    rw [decide_eq_false h]
    go_enter Try.func69, Try.ntmps69
    go_wp2
    go_ret
    exact ⟨rfl, (Below.refl _ _).alloc (Nat.le_refl _) _⟩

/-- What was done to a file: bytes put behind it (none: a cut), the length that a cut leaves. -/
structure Chg where
  b : List Nat
  t : Nat
def Chg.un (c : Chg) : Nat := if c.b.length = 0 then 1 else c.b.length
def Chg.onto (c : Chg) (r : List Nat) (n : Nat) : List Nat := if n = 0 then r else if c.b.length = 0 then r.take c.t else r ++ c.b.take n

theorem chUnits_any (a : Option Addr) (n c : Nat) (tt : Int) (w : World) : Calls Try.prog 66 #[.agg #[.slice a n c, .int .i64 tt]] w fun e w' => e = .returned (.int .i64 ((if n = 0 then 1 else n : Nat) : Int)) ∧ Below w.heap.size w w' := by
  have hc := fun W => isCut_any a n c tt W
  have b1 : Below w.heap.size w (w.alloc (.cells #[.slice a n c, .int .i64 tt] 116)) := (Below.refl _ _).alloc (Nat.le_refl _) _
  have k0 : (w.alloc (.cells #[.slice a n c, .int .i64 tt] 116)).cell? ⟨w.heap.size, 0, none⟩ = some (.slice a n c) := World.cell?_alloc_at (w := w) _ _ _ 0 rfl
  by_cases h : n = 0
  · subst h
    go_enter Try.func66, Try.ntmps66
    go_wp2_with fail
    refine (hc _).mono ?_
    rintro e w1 ⟨rfl, hb⟩
    go_wp2_with fail
    go_ret
    exact ⟨rfl, b1.trans (hb.mono b1.size)⟩
  · rw [decide_eq_false h] at hc
    rw [if_neg h]
    go_enter Try.func66, Try.ntmps66
    go_wp2_with fail
    refine (hc _).mono ?_
    rintro e w1 ⟨rfl, hb⟩
    have k1 := cel_on hb k0
    go_wp2_with fail
    go_ret
    exact ⟨rfl, b1.trans (hb.mono b1.size)⟩

/-- From w to w' only the row v and the cell that holds it have been written. -/
structure Onto (w w' : World) (B pb po n : Nat) (t : TypeId) (F : Nat → Value) (v v' : Value) (l : List Nat) : Prop where
  os : w'.os = w.os
  tape : w'.tape = w.tape
  output : w'.output = w.output
  size : w.heap.size ≤ w'.heap.size
  block : ∀ k, k < w.heap.size → k ≠ pb → v.ownBlock ≠ some k → w'.heap[k]? = w.heap[k]?
  row : w'.rowIs pb t n (fun i => if i = po then v' else F i)
  own : OwnL w' B v' l
  lies : ∀ k, v'.ownBlock = some k → v.ownBlock = some k ∨ w.heap.size ≤ k
end Go.Proofs.Ytbnlgohaaadgeaa

/- Package disk: a change carried out onto a row. -/
namespace Go.Proofs.Ytbnlgohaaadgeaa
open Go.RowKit
set_option maxRecDepth 100000
set_option maxRecDepth 100000

theorem own_any (a : Option Addr) (n m c : Nat) : (Value.slice a n c).ownBlock = (Value.slice a m c).ownBlock := by cases a <;> rfl
theorem Onto.refl {w : World} {B pb po n : Nat} {t : TypeId} {F : Nat → Value} {v : Value} {l : List Nat} (hr : w.rowIs pb t n F) (hv : F po = v) (hown : OwnL w B v l) : Onto w w B pb po n t F v v l := by
  refine ⟨rfl, rfl, rfl, Nat.le_refl _, fun _ _ _ _ => rfl, hr.congr (fun i _ => ?_), hown, fun k e => .inl e⟩
  by_cases e : i = po
  · subst e; rw [if_pos rfl]; exact hv
  · rw [if_neg e]
/-- A step ahead that leaves every old block. -/
theorem Onto.after {w0 w w' : World} {B pb po n : Nat} {t : TypeId} {F : Nat → Value} {v v' : Value} {l : List Nat} (hb : Below w0.heap.size w0 w) (h : Onto w w' B pb po n t F v v' l) : Onto w0 w' B pb po n t F v v' l :=
  ⟨h.os.trans hb.os, h.tape.trans hb.tape, h.output.trans hb.output, Nat.le_trans hb.size h.size, fun k hk h1 h2 => (h.block k (Nat.lt_of_lt_of_le hk hb.size) h1 h2).trans (hb.block k hk), h.row, h.own, fun k e => by
    rcases h.lies k e with q | q
    · exact .inl q
    · exact .inr (Nat.le_trans hb.size q)⟩

set_option maxHeartbeats 1600000 in
/-- change.onto: the first k units of it, onto the row that a pointer leads to. -/
theorem onto_any {w : World} {B pb po n : Nat} {t : TypeId} {F : Nat → Value} {v : Value} {l : List Nat} (hr : w.rowIs pb t n F) (hpo : po < n) (ht : t ≠ 5) (hv : F po = v) (hown : OwnL w B v l) (c : Chg) (ba : Option Addr) (bc : Nat) (hb : BL w ba c.b) (hba : ba = none → c.b.length = 0 ∧ bc = 0) (hbc : c.b.length ≤ bc)
    (k : Nat) (hk : k ≤ c.un) (hct : k ≠ 0 → c.b.length = 0 → c.t ≤ l.length) (hmax : l.length + c.b.length ≤ 140737488355328) (hB : B ≤ w.heap.size) :
    Calls Try.prog 67 #[.agg #[.slice ba c.b.length bc, .int .i64 (c.t : Nat)], .pointer (some ⟨pb, po, none⟩), .int .i64 k] w fun e w' => e = .returned (.tuple #[]) ∧ ∃ v', Onto w w' B pb po n t F v v' (c.onto l k) := by
  have b1 : Below w.heap.size w (w.alloc (.cells #[.slice ba c.b.length bc, .int .i64 (c.t : Nat)] 116)) := (Below.refl _ _).alloc (Nat.le_refl _) _
  have k0 : (w.alloc (.cells #[.slice ba c.b.length bc, .int .i64 (c.t : Nat)] 116)).cell? ⟨w.heap.size, 0, none⟩ = some (.slice ba c.b.length bc) := World.cell?_alloc_at (w := w) _ _ _ 0 rfl
  have k1 : (w.alloc (.cells #[.slice ba c.b.length bc, .int .i64 (c.t : Nat)] 116)).cell? ⟨w.heap.size, 1, none⟩ = some (.int .i64 (c.t : Nat)) := World.cell?_alloc_at (w := w) _ _ _ 1 rfl
  have hvl : ∀ q, v.ownBlock = some q → q < w.heap.size := fun q e => (hown.lt q e).2
  by_cases h0 : k = 0
  · subst h0
    have e0 : c.onto l 0 = l := rfl
    rw [e0]
    have hr1 := hr.of_block (b1.block _ hr.lt)
    have ho1 := hown.on (fun q e => b1.block q (hvl q e))
    have HF : Hid (Onto w (w.alloc (.cells #[.slice ba c.b.length bc, .int .i64 (c.t : Nat)] 116)) B pb po n t F v v l) := Onto.after b1 (Onto.refl hr1 hv ho1)
    clear hr hown hr1 ho1 hb
    go_enter Try.func67, Try.ntmps67
    go_wp2_with fail
    go_end0
    exact ⟨rfl, v, HF.out⟩
  · have hk0 : ((k : Int) == 0) = false := beq_eq_false_iff_ne.2 (by omega)
    have hic : ∀ W, _ := fun W => isCut_any ba c.b.length bc (c.t : Nat) W
    by_cases hc : c.b.length = 0
    · have hcl := hct h0 hc
      rw [decide_eq_true hc] at hic
      have e0 : c.onto l k = l.take c.t := by unfold Chg.onto; rw [if_neg h0, if_pos hc]
      rw [e0]
      have HST : Hid (∀ W, Below w.heap.size w W → ∃ a m cc, v = .slice a m cc ∧ Calls Try.prog 76 #[.pointer (some ⟨pb, po, none⟩), .int .i64 (c.t : Nat)] W fun e w' => e = .returned (.tuple #[]) ∧ w' = W.setCell ⟨pb, po, none⟩ (.slice a c.t cc)) := fun W hbW => by
        obtain ⟨a, cc, ev, hlc, _, _⟩ := hown.bl
        exact ⟨a, l.length, cc, ev, shorten_any (hr.of_block (hbW.block _ hr.lt)) hpo (hv.trans ev) c.t hcl hlc⟩
      have HFI : Hid (∀ W a m cc, Below w.heap.size w W → v = .slice a m cc → Onto w (W.setCell ⟨pb, po, none⟩ (.slice a c.t cc)) B pb po n t F v (.slice a c.t cc) (l.take c.t)) := fun W a m cc hbW ev => by
        have hrW := hr.of_block (hbW.block _ hr.lt)
        have hoW := hown.on (w' := W) (fun q e => hbW.block q (hvl q e))
        have hml : m = l.length := by
          obtain ⟨a', c', e', _⟩ := hown.bl
          rw [ev] at e'
          injection e'
        have hne := hoW.apart hrW ht
        rw [ev] at hoW hne
        refine ⟨hbW.os, hbW.tape, hbW.output, by simpa [World.setCell] using hbW.size, fun q hq h1 _ => (Below.heap_setCell _ _ _ _ h1).trans (hbW.block q hq), hrW.set po _, (hoW.take (by omega)).on (fun q e => Below.heap_setCell _ _ _ _ (fun e2 => ?_)), fun q e => .inl ?_⟩
        · have e2 : q = pb := e2
          subst e2
          exact hne ((own_any a m c.t cc).trans e)
        · rw [ev]
          exact (own_any a m c.t cc).trans e
      clear hr hown hb hv hct hc hba hcl hk hmax hbc
      go_enter Try.func67, Try.ntmps67
      go_wp2_with fail
      refine (hic _).mono ?_
      rintro e w2 ⟨rfl, hb2⟩
      have hbw2 := b1.trans (hb2.mono b1.size)
      have m1 := cel_on hb2 k1
      obtain ⟨a, m, cc, ev, hsh⟩ := HST.out w2 hbw2
      clear HST k0 k1
      go_wp2_with fail
      refine hsh.mono ?_
      rintro e w3 ⟨rfl, rfl⟩
      have hfin := HFI.out w2 a m cc hbw2 ev
      clear HFI hsh
      go_wp2_with fail
      go_end0
      exact ⟨rfl, _, hfin⟩
    · rw [decide_eq_false hc] at hic
      have hkl : k ≤ c.b.length := by unfold Chg.un at hk; rw [if_neg hc] at hk; exact hk
      have e0 : c.onto l k = l ++ c.b.take k := by unfold Chg.onto; rw [if_neg h0, if_neg hc]
      rw [e0]
      have hlk : (c.b.take k).length = k := by rw [List.length_take]; omega
      have HEX : Hid (∀ W, Below w.heap.size w W → Calls Try.prog 70 #[.pointer (some ⟨pb, po, none⟩), .slice ba k bc] W fun e w' => e = .returned (.tuple #[]) ∧ ∃ v', Onto w w' B pb po n t F v v' (l ++ c.b.take k)) := fun W hbW => by
        have hrW := hr.of_block (hbW.block _ hr.lt)
        have hoW := hown.on (w' := W) (fun q e => hbW.block q (hvl q e))
        have hbl : BL W ba (c.b.take k) := fun j hj => by
          obtain ⟨b', o', e', hc'⟩ := (hb.on hbW) j (by omega)
          refine ⟨b', o', e', ?_⟩
          rw [hc']
          have : (c.b.take k).getD j 0 = c.b.getD j 0 := by simp [List.getD, show j < k by omega]
          show some (Value.int .u8 ((c.b.getD j 0 : Nat) : Int)) = some (Value.int .u8 (((c.b.take k).getD j 0 : Nat) : Int))
          rw [this]
        have hx := extend_any hrW hpo ht hv hoW ba bc (c.b.take k) hbl (fun e => by have := hba e; omega) (by omega) (Nat.le_trans hB hbW.size)
        rw [hlk] at hx
        refine hx.mono fun e w' ⟨he, v', w1, hw, hg, ho, hr1, hl⟩ => ⟨he, v', ?_⟩
        have hne' : v'.ownBlock ≠ some pb := ho.apart hr1 ht
        subst hw
        refine ⟨hg.os.trans hbW.os, hg.tape.trans hbW.tape, hg.output.trans hbW.output, by have h1 := hg.size; have h2 := hbW.size; simp only [World.setCell]; simp; omega, fun q hq h1 h2 => (Below.heap_setCell _ _ _ _ h1).trans ((hg.block q (Nat.lt_of_lt_of_le hq hbW.size) (fun e => h2 e.symm)).trans (hbW.block q hq)), hr1.set po v', ho.on (fun q e => Below.heap_setCell _ _ _ _ (fun e2 => hne' (by have e2 : q = pb := e2; rw [← e2]; exact e))), fun q e => ?_⟩
        rcases hl with h1 | h1
        · exact .inl (h1 ▸ e)
        · rw [h1] at e
          exact .inr (by have := hbW.size; have := Option.some.inj e; omega)
      have hkz : (k : Int) ≤ (bc : Int) := by omega
      clear hr hown hb hv hct
      go_enter Try.func67, Try.ntmps67
      go_wp2_with fail
      refine (hic _).mono ?_
      rintro e w2 ⟨rfl, hb2⟩
      have hbw2 := b1.trans (hb2.mono b1.size)
      have m0 := cel_on hb2 k0
      have hex := HEX.out w2 hbw2
      clear HEX k0 k1
      go_wp2_with fail
      refine hex.mono ?_
      rintro e w3 ⟨rfl, v', hfin⟩
      go_wp2_with fail
      go_end0
      exact ⟨rfl, v', hfin⟩
end Go.Proofs.Ytbnlgohaaadgeaa
