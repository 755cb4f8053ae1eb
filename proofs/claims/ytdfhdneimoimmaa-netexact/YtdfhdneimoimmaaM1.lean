/- Own texts, joined: Kit, Lend, N0, N1, N2, N3, N4, N5. -/
import Derived.Test.YtdfhdneimoimmaaRows
import Derived.WalkKit
import Derived.Laws.BitsAllLaws
import Derived.Deep.LoopGhost
import Derived.Deep.OwnRows
import Derived.Deep.Cut
import Derived.Deep.Light
import Derived.Deep.CutRange
import Derived.CellFam
import Derived.BigGuard
import Derived.Lib.SlBytesConst
import Derived.BigQuiet
import Derived.BigRegion
import Derived.Deep.RegionWith
import Derived.Deep.QuietTactic
import Derived.Laws.IdiomCopy
import Derived.Deep.AppendLies
import Derived.Laws.AppendOwnNone
import Derived.OwnWalk
import Derived.Laws.BytesArg
import Derived.Deep.RegionLaw
import Derived.Deep.RegionHeld3
import Derived.Maps.AppendAt
import Derived.Laws.OwnMore
import Derived.Lib.ConvBytes
import Derived.Laws.IdiomStrings
import Derived.Laws.ResultCell
import Derived.Laws.NewBlocks
import Derived.Laws.Rows
import Derived.Below

/- Small laws on rows of bytes that the walks of this seat share; the walk of tallyref0.Copy. -/
namespace Go.Proofs.Ytdfhdneimoimmaa
open Go.RowKit
set_option maxRecDepth 100000

theorem hide {p : Prop} (h : p) : Hid p := h
theorem unhide {p : Prop} (h : Hid p) : p := h
theorem since_mono {B B' : Nat} {w w' : World} (h : w.Since B w') (hB : B' ≤ B) : w.Since B' w' := ⟨h.os, h.tape, h.output, h.size, fun k hk => h.block k (by omega)⟩
theorem Try.info5 : (Try.prog.info? 5).map (fun i => (i.zero, i.size, i.bytes)) = some (some (.int .u8 0), 1, 1) := by kernel_rfl
theorem Try.size5 : (Try.prog.info? 5).map (·.size) = some 1 := by kernel_rfl

/-- A slice's cells hold these bytes. -/
def Byt (w : World) (a : Option Addr) (len : Nat) (x : Nat → Nat) : Prop := ∀ j, j < len → ∃ b off, a = some ⟨b, off, none⟩ ∧ w.cell? ⟨b, off + j, none⟩ = some (.int .u8 (x j : Nat))

theorem Byt.since {w w' : World} {a : Option Addr} {len : Nat} {x : Nat → Nat} (h : Byt w a len x) (hs : w.Since w.heap.size w') : Byt w' a len x := fun j hj => by
  obtain ⟨b, off, e, hc⟩ := h j hj
  exact ⟨b, off, e, by rw [hs.cell (a := ⟨b, off + j, none⟩) (World.block_lt_of_cell? _ _ hc)]; exact hc⟩
theorem Byt.of_row {w : World} {b t n : Nat} {x : Nat → Nat} (h : w.rowIs b t n (fun j => .int .u8 (x j : Nat))) : Byt w (some ⟨b, 0, none⟩) n x := fun j hj =>
  ⟨b, 0, rfl, by have := h.cell hj; simpa using this⟩
theorem Byt.drewN {w : World} {a : Option Addr} {len : Nat} {x : Nat → Nat} (h : Byt w a len x) (n : Nat) : Byt (w.drewN n) a len x := fun j hj => h j hj
theorem Byt.le {w : World} {a : Option Addr} {len m : Nat} {x : Nat → Nat} (h : Byt w a len x) (hm : m ≤ len) : Byt w a m x := fun j hj => h j (by omega)

theorem getD_range_map (f : Nat → Nat) (n j : Nat) (h : j < n) : ((List.range n).map f).getD j 0 = f j := by
  simp [List.getD, h]
theorem lt_range_map (f : Nat → Nat) (n j : Nat) (h : ∀ i, f i < 256) : ((List.range n).map f).getD j 0 < 256 := by
  by_cases hj : j < n
  · rw [getD_range_map f n j hj]; exact h j
  · simp [List.getD, hj]
theorem since_setCells {B b : Nat} {w : World} (hb : B ≤ b) : ∀ (vs : List Value) (o : Nat) (w' : World), w.Since B w' → w.Since B (w'.setCells b o vs)
  | [], _, _, h => h
  | v :: r, o, _, h => since_setCells hb r (o + 1) _ (h.setCell (a := ⟨b, o, none⟩) hb v)
theorem size_setCells (b : Nat) : ∀ (vs : List Value) (o : Nat) (w : World), (w.setCells b o vs).heap.size = w.heap.size
  | [], _, _ => rfl
  | v :: r, o, w => by rw [World.setCells, size_setCells b r (o + 1)]; simp [World.setCell]
theorem rowIs_setCells {b t n : Nat} : ∀ (vs : List Value) (o : Nat) (w : World) (f : Nat → Value), w.rowIs b t n f → (w.setCells b o vs).rowIs b t n (fun j => if o ≤ j ∧ j < o + vs.length then vs.getD (j - o) undef else f j)
  | [], o, w, f, h => h.congr (fun i _ => by simp; omega)
  | v :: r, o, w, f, h => by
    refine (rowIs_setCells r (o + 1) _ _ (h.set o v)).congr (fun i _ => ?_)
    by_cases e : i = o
    · subst e
      rw [if_neg (by omega), if_pos rfl, if_pos (by simp)]; simp
    · by_cases hin : o + 1 ≤ i ∧ i < o + 1 + r.length
      · rw [if_pos hin, if_pos (by simp; omega)]
        rw [show i - o = (i - (o + 1)) + 1 by omega]; simp
      · rw [if_neg hin, if_neg e, if_neg (by simp; omega)]

/-- tallyref0.Copy: the same bytes in new memory. -/
theorem copy_any (a : Option Addr) (len cap : Nat) (x : Nat → Nat) (w : World) (hmax : len ≤ 281474976710656) (hc : Byt w a len x) :
    Calls Try.prog 51 #[.slice a len cap] w fun e w' => e = .returned (.slice (some ⟨w.heap.size, 0, none⟩) len len) ∧ w.Since w.heap.size w' ∧ w'.heap.size = w.heap.size + 1 ∧ w'.rowIs w.heap.size 5 len (fun j => .int .u8 (x j : Nat)) := by
  have hmk := run_make_row' (P := Try.prog) 37 5 (.int .u8 0) 1 Try.underlying37 Try.info5 rfl .i64 .i64 len (by omega) (by omega)
  have hs0 : w.Since w.heap.size (w.alloc (.cells (madeCells #[.int .u8 0] len) 5)) := (World.Since.refl _ _).alloc (Nat.le_refl _) _
  have hr0 := World.rowIs_made w (.int .u8 0) len 5
  have hz0 : (w.alloc (.cells (madeCells #[.int .u8 0] len) 5)).heap.size = w.heap.size + 1 := by simp
  generalize hW : w.alloc (.cells (madeCells #[.int .u8 0] len) 5) = W at *
  rcases Nat.eq_zero_or_pos len with rfl | hp
  · have hcp := run_copy_none (P := Try.prog) W 37 37 3 5 (some ⟨w.heap.size, 0, none⟩) a 0 0 0 cap Try.underlying37 Try.size5 (by simp)
    have hmk0 : (Instr.makeSlice 37 (.int .i64 0) (.int .i64 0)).run Try.prog w = .ok (.slice (some ⟨w.heap.size, 0, none⟩) 0 0) W := by rw [← hW]; simpa using hmk w
    clear hmk hW
    go_enter Try.func51, Try.ntmps51
    go_wp2
    go_ret
    exact ⟨rfl, hs0, hz0, hr0.congr (fun j hj => by omega)⟩
  · obtain ⟨b, off, rfl, _⟩ := hc 0 hp
    have hc' : ∀ j, j < len → w.cell? ⟨b, off + j, none⟩ = some (.int .u8 (x j : Nat)) := fun j hj => by obtain ⟨b', off', e, hh⟩ := hc j hj; cases e; exact hh
    have hcp := run_copy_cells (P := Try.prog) W 37 37 3 5 w.heap.size 0 len len ⟨b, off, none⟩ len cap ((List.range len).map fun j => .int .u8 (x j : Nat)) Try.underlying37 Try.size5 (by simp)
      (fun j v hv => by
        have hj : j < len := by have := (List.getElem?_eq_some_iff.1 hv).1; simpa using this
        have : v = .int .u8 (x j : Nat) := by rw [List.getElem?_map, List.getElem?_range hj] at hv; simpa using hv.symm
        rw [this, show (⟨b, off, none⟩ : Addr).add j = ⟨b, off + j, none⟩ by simp [Addr.add], hs0.cell (a := ⟨b, off + j, none⟩) (World.block_lt_of_cell? _ _ (hc' j hj))]
        exact hc' j hj)
      (fun j hj => by rw [Nat.zero_add, hr0.cell (by simpa using hj)]; rfl) (fun j _ => by rw [Nat.zero_add]; exact hr0.frozen j) (fun v hv => by obtain ⟨j, _, rfl⟩ := List.mem_map.1 hv; rfl)
    have hend : w.Since w.heap.size (W.setCells w.heap.size 0 ((List.range len).map fun j => .int .u8 (x j : Nat))) ∧ (W.setCells w.heap.size 0 ((List.range len).map fun j => .int .u8 (x j : Nat))).heap.size = w.heap.size + 1 ∧
        (W.setCells w.heap.size 0 ((List.range len).map fun j => .int .u8 (x j : Nat))).rowIs w.heap.size 5 len (fun j => .int .u8 (x j : Nat)) :=
      ⟨since_setCells (Nat.le_refl _) _ _ _ hs0, by rw [size_setCells]; exact hz0, (rowIs_setCells _ 0 _ _ hr0).congr (fun j hj => by
        rw [if_pos (by simp; exact hj)]; simp [List.getD, hj])⟩
    have hmk1 : (Instr.makeSlice 37 (.int .i64 len) (.int .i64 len)).run Try.prog w = .ok (.slice (some ⟨w.heap.size, 0, none⟩) len len) W := by rw [← hW]; exact hmk w
    clear hmk hW
    generalize W.setCells w.heap.size 0 ((List.range len).map fun j => .int .u8 (x j : Nat)) = W2 at *
    go_enter Try.func51, Try.ntmps51
    go_wp2
    go_ret
    exact ⟨rfl, hend⟩
end Go.Proofs.Ytdfhdneimoimmaa

/- The walks of tallylaw1's Lend and Intact: bytes lent with marks behind them. -/
namespace Go.Proofs.Ytdfhdneimoimmaa
open Go.RowKit
set_option maxRecDepth 100000

/-- Bytes as cells. -/
def cellsOf (n : Nat) (x : Nat → Nat) : List Value := (List.range n).map fun j => .int .u8 (x j : Nat)
theorem length_cellsOf (n : Nat) (x : Nat → Nat) : (cellsOf n x).length = n := by simp [cellsOf]
theorem get_cellsOf {n j : Nat} {x : Nat → Nat} (h : j < n) : (cellsOf n x)[j]? = some (.int .u8 (x j : Nat)) := by simp [cellsOf, h]
def cat (x : Nat → Nat) (n : Nat) (y : Nat → Nat) : Nat → Nat := fun j => if j < n then x j else y (j - n)
theorem cat_ge {x : Nat → Nat} {n : Nat} {y : Nat → Nat} {j : Nat} (h : n ≤ j) : cat x n y j = y (j - n) := if_neg (by omega)
theorem cellsOf_cat (n m : Nat) (x y : Nat → Nat) : cellsOf n x ++ cellsOf m y = cellsOf (n + m) (cat x n y) := by
  apply List.ext_getElem?
  intro j
  rcases Nat.lt_or_ge j n with h | h
  · rw [List.getElem?_append_left (by rw [length_cellsOf]; exact h), get_cellsOf h, get_cellsOf (by omega)]; simp [cat, h]
  · rw [List.getElem?_append_right (by rw [length_cellsOf]; exact h), length_cellsOf]
    rcases Nat.lt_or_ge (j - n) m with g | g
    · rw [get_cellsOf g, get_cellsOf (by omega)]; simp [cat, Nat.not_lt.2 h]
    · rw [List.getElem?_eq_none (by rw [length_cellsOf]; exact g), List.getElem?_eq_none (by rw [length_cellsOf]; omega)]
theorem one_cellsOf (n : Nat) (x : Nat → Nat) : ∀ u ∈ cellsOf n x, u.oneCell' = true := fun u hu => by
  obtain ⟨j, _, rfl⟩ := List.mem_map.1 hu; rfl

/-- A slice of bytes of the call's own. -/
def Own (w : World) (B : Nat) (v : Value) (n : Nat) (x : Nat → Nat) : Prop := w.ownsRow B 5 1 v n (cellsOf n x)
theorem own_nil (w : World) (B : Nat) (x : Nat → Nat) : Own w B (.slice none 0 0) 0 x := ⟨rfl, Or.inl ⟨rfl, rfl⟩⟩
/-- append OF ANY BYTES ONTO SUCH A SLICE. -/
theorem app_own (w : World) (B : Nat) (v : Value) (n : Nat) (x : Nat → Nat) (hown : Own w B v n x) (a : Option Addr) (m c : Nat) (y : Nat → Nat) (hb : Byt w a m y) (ha : a = none → m = 0 ∧ c = 0) (hmax : n + m ≤ 140737488355328) (hB : B ≤ w.heap.size) :
    ∃ v' w', (Builtin.append_ #[37, 37] 37 #[v, .slice a m c]).run Try.prog w = .ok v' w' ∧ Own w' B v' (n + m) (cat x n y) ∧ w.grownBy w' v.ownBlock := by
  obtain ⟨i0, hi, hz0, hz1, hz2⟩ := info_parts Try.info5
  cases a with
  | none =>
    obtain ⟨rfl, rfl⟩ := ha rfl
    refine ⟨v, w, run_append_owned_none w B 37 37 5 i0 1 Try.underlying37 hi v n _ hown, ?_, ⟨rfl, rfl, rfl, Nat.le_refl _, fun _ _ _ => rfl⟩⟩
    have e : cellsOf (n + 0) (cat x n y) = cellsOf n x := by rw [← cellsOf_cat]; simp [cellsOf]
    show w.ownsRow B 5 1 v (n + 0) (cellsOf (n + 0) (cat x n y))
    rw [e]; exact hown
  | some ad =>
    obtain ⟨v', w', hr, h1, h2, _⟩ := run_append_own (P := Try.prog) w B 37 37 5 i0 (.int .u8 0) 1 1 Try.underlying37 hi hz0 hz1 hz2 rfl (by decide) v n _ hown ad m c (cellsOf m y) (by rw [length_cellsOf, Nat.mul_one])
      (fun j u hu => by
        have hj : j < m := by have := (List.getElem?_eq_some_iff.1 hu).1; rwa [length_cellsOf] at this
        rw [get_cellsOf hj] at hu
        obtain ⟨b, off, e, hc⟩ := hb j hj
        obtain rfl : ad = ⟨b, off, none⟩ := by simpa using e
        rw [show (⟨b, off, none⟩ : Addr).add j = ⟨b, off + j, none⟩ by simp [Addr.add], hc]; exact hu)
      (one_cellsOf m y) (by unfold maxLen; omega) (by omega) hB
    exact ⟨v', w', hr, by rw [cellsOf_cat] at h1; exact h1, h2⟩
theorem grown_since {B : Nat} {w0 w w' : World} {row : Option Nat} (h : w0.Since B w) (hg : w.grownBy w' row) (hB : B ≤ w.heap.size) (hr : ∀ k, row = some k → B ≤ k) : w0.Since B w' := h.grown hg hB hr
theorem own_block {w : World} {B : Nat} {v : Value} {n : Nat} {x : Nat → Nat} (h : Own w B v n x) : ∀ k, v.ownBlock = some k → B ≤ k := fun k hk => by
  rcases h.2 with ⟨rfl, _⟩ | ⟨g, cap, cur, rfl, hb, _⟩
  · simp [Value.ownBlock] at hk
  · obtain rfl : g = k := by simpa [Value.ownBlock] using hk
    exact hb
theorem own_row {w : World} {B : Nat} {v : Value} {n : Nat} {x : Nat → Nat} (h : Own w B v n x) (hn : 0 < n) : ∃ g cap f, v = .slice (some ⟨g, 0, none⟩) n cap ∧ B ≤ g ∧ n ≤ cap ∧ w.rowIs g 5 cap f ∧ ∀ j, j < n → f j = .int .u8 (x j : Nat) := by
  rcases h.2 with ⟨rfl, h0⟩ | ⟨g, cap, cur, rfl, hb, hh, hnc, hm, hsz, htk⟩
  · omega
  · refine ⟨g, cap, fun j => cur[j]?.getD undef, rfl, hb, hnc, ⟨cur, hh, by omega, fun i hi => by show cur[i]? = some (cur[i]?.getD undef); rw [Array.getElem?_eq_getElem (by omega)]; rfl⟩, fun j hj => ?_⟩
    have h2 := congrArg (fun l : List Value => l[j]?) htk
    simp only [Nat.mul_one] at h2
    rw [List.getElem?_take_of_lt hj, get_cellsOf hj, Array.getElem?_toList] at h2
    show cur[j]?.getD undef = _
    rw [h2]; rfl

/-- append, by its run: at the operation. -/
theorem wpList_append_eq {P : Program} {w w' : World} {ops : Array Oper} {rest : List Oper} {o : Oper} {a : Act} {Q : Exit → Act → World → Prop} (hgd : o.guard = none) (s x : Operand) (t : TypeId)
    (ho : o.op = .call { callee := .builtin .append, args := #[s, x], argTypes := #[t, t] }) (v u v' : Value) (hs : a.eval s = v) (hx : a.eval x = u)
    (hrun : (Builtin.append_ #[t, t] o.type #[v, u]).run P w = .ok v' w') (h : wpList P ops Q rest (a.put o.dst v') w') : wpList P ops Q (o :: rest) a w := by
  refine wpList_plain hgd fun K hK => ?_
  unfold Oper.wp
  simp [execOp, ho, resolve, invoke, builtin, hs, hx, hrun, Result.andThen]
  exact hK _ _ h

/-- What is lent: the bytes, three marks behind them. -/
structure Lent (w : World) (g len cap : Nat) (x : Nat → Nat) (f : Nat → Value) : Prop where
  row : w.rowIs g 5 cap f
  room : len + 3 ≤ cap
  cap : cap ≤ 9223372036854775807
  byte : ∀ j, j < len → f j = .int .u8 (x j : Nat)
  k0 : f len = .int .u8 165
  k1 : f (len + 1) = .int .u8 90
  k2 : f (len + 2) = .int .u8 165

set_option maxHeartbeats 800000 in
theorem lend_any (a : Option Addr) (len cap : Nat) (x : Nat → Nat) (w : World) (hmax : len ≤ 140737488351232) (hb : Byt w a len x) (ha : a = none → len = 0 ∧ cap = 0) :
    Calls Try.prog 40 #[.slice a len cap] w fun e w' => ∃ g cap' f, e = .returned (.slice (some ⟨g, 0, none⟩) len cap') ∧ w.heap.size ≤ g ∧ w.Since w.heap.size w' ∧ Lent w' g len cap' x f := by
  obtain ⟨v1, w1, hr1, ho1, hg1⟩ := app_own w w.heap.size (.slice none 0 0) 0 x (own_nil _ _ _) a len cap x hb ha (by omega) (Nat.le_refl _)
  have hs1 := grown_since (World.Since.refl w.heap.size w) hg1 (Nat.le_refl _) (fun k hk => by simp [Value.ownBlock] at hk)
  have hz1 := hs1.size
  have hown1 : Own (w1.alloc (.cells #[.int .u8 165, .int .u8 90, .int .u8 165] 5)) w.heap.size v1 (0 + len) (cat x 0 x) := ho1.alloc _
  have hb1 : Byt (w1.alloc (.cells #[.int .u8 165, .int .u8 90, .int .u8 165] 5)) (some ⟨w1.heap.size, 0, none⟩) 3 (fun j => if j = 1 then 90 else 165) := fun j hj => ⟨w1.heap.size, 0, rfl, by
    match j, hj with
    | 0, _ => simp
    | 1, _ => simp
    | 2, _ => simp⟩
  obtain ⟨v2, w2, hr2, ho2, hg2⟩ := app_own _ w.heap.size v1 (0 + len) _ hown1 (some ⟨w1.heap.size, 0, none⟩) 3 3 _ hb1 (fun h => by cases h) (by omega) (by simp; omega)
  have hs2 := grown_since (hs1.alloc hz1 (.cells #[.int .u8 165, .int .u8 90, .int .u8 165] 5)) hg2 (by simp; omega) (own_block hown1)
  obtain ⟨g, cap2, f, rfl, hg, hc2, hrow, hf⟩ := own_row ho2 (by omega)
  have hcap2 : cap2 ≤ 9223372036854775807 := by
    rcases ho2.2 with ⟨h, _⟩ | ⟨g', cap', cur, h, _, _, _, hm, _⟩
    · cases h
    · cases h; exact hm
  have hL : Lent w2 g len cap2 x f := ⟨hrow, by omega, hcap2, fun j hj => by rw [hf j (by omega)]; simp [cat, hj],
    by rw [hf len (by omega), cat_ge (by omega), show len - (0 + len) = 0 by omega]; rfl, by rw [hf (len + 1) (by omega), cat_ge (by omega), show len + 1 - (0 + len) = 1 by omega]; rfl, by rw [hf (len + 2) (by omega), cat_ge (by omega), show len + 2 - (0 + len) = 2 by omega]; rfl⟩
  rw [show 0 + len + 3 = len + 3 by omega] at hr2
  clear ho1 ho2 hg1 hg2 hown1 hb1 hrow hf
  have H1 := hide hr1
  have H2 := hide hr2
  clear hr1 hr2
  have hcz : (len : Int) ≤ (cap2 : Int) := by have := hL.room; omega
  go_enter Try.func40, Try.ntmps40
  go_wp2_with (first
    | (at_builtin; refine wpList_append_eq rfl _ _ 37 rfl _ _ _ (by rfl) (by rfl) (unhide H1) ?_)
    | (at_builtin; refine wpList_append_eq rfl _ _ 37 rfl _ _ _ (by rfl) (by rfl) (unhide H2) ?_))
  go_ret
  exact ⟨g, cap2, f, rfl, hg, hs2, hL⟩
/-- Bytes as a string. -/
def strOf (n : Nat) (x : Nat → Nat) : ByteArray := strOfNums ((List.range n).map fun j => (x j : Int))
theorem str_byt (a : Option Addr) (len cap : Nat) (x : Nat → Nat) (w : World) (hb : Byt w a len x) (ha : a = none → len = 0) : (convert 37 9 (.slice a len cap)).run Try.prog w = .ok (.string (strOf len x)) w := by
  rcases Nat.eq_zero_or_pos len with rfl | hp
  · cases a with
    | none =>
      rw [run_convert_bytes_nil (P := Try.prog) w 37 5 Try.underlying37 Try.underlying5 0 cap 9 Try.underlying9]; rfl
    | some ad =>
      have hl : (loadCells ad 0).run Try.prog w = .ok (([] : List Int).map (Value.int .u8)).toArray w := by simpa using run_loadCells_list (P := Try.prog) w ad [] (by simp)
      rw [run_convert_bytes_string (P := Try.prog) w 37 9 5 _ 0 cap Try.underlying37 Try.underlying5 Try.underlying9, run_bytesToString w ad 0 cap [] hl]; rfl
  · obtain ⟨b, off, rfl, _⟩ := hb 0 hp
    exact run_convert_bytes_arg (P := Try.prog) w 37 5 Try.underlying37 Try.underlying5 b off len cap _ (by simp) (fun i hi => by
      obtain ⟨b', off', e, hc⟩ := hb i hi
      cases e
      rw [hc]; simp [List.getD, hi]) 9 Try.underlying9

theorem Lent.byt {w : World} {g len cap : Nat} {x : Nat → Nat} {f : Nat → Value} (h : Lent w g len cap x f) : Byt w (some ⟨g, 0, none⟩) len x := fun j hj =>
  ⟨g, 0, rfl, by rw [Nat.zero_add, h.row.cell (by have := h.room; omega), h.byte j hj]⟩
theorem Lent.since {w w' : World} {g len cap : Nat} {x : Nat → Nat} {f : Nat → Value} (h : Lent w g len cap x f) (hs : w.Since w.heap.size w') : Lent w' g len cap x f :=
  ⟨h.row.of_block (hs.block g h.row.lt), h.room, h.cap, h.byte, h.k0, h.k1, h.k2⟩
theorem Lent.drewN {w : World} {g len cap : Nat} {x : Nat → Nat} {f : Nat → Value} (h : Lent w g len cap x f) (n : Nat) : Lent (w.drewN n) g len cap x f := ⟨h.row, h.room, h.cap, h.byte, h.k0, h.k1, h.k2⟩

set_option maxHeartbeats 800000 in
theorem intact_any (g len cap : Nat) (x : Nat → Nat) (f : Nat → Value) (a : Option Addr) (capb : Nat) (w : World) (h : Lent w g len cap x f) (hb : Byt w a len x) (ha : a = none → len = 0) (hmax : len ≤ 140737488351232) :
    Calls Try.prog 41 #[.slice (some ⟨g, 0, none⟩) len cap, .slice a len capb] w fun e w' => e = .returned (.bool true) ∧ w' = w := by
  have s1 := str_byt (some ⟨g, 0, none⟩) len cap x w h.byt (fun e => by cases e)
  have s2 := str_byt a len capb x w hb ha
  have hroom := h.room
  have hcap := h.cap
  have c0 : w.cell? ⟨g, len, none⟩ = some (.int .u8 165) := by rw [h.row.cell (by omega), h.k0]
  have c1 : w.cell? ⟨g, len + 1, none⟩ = some (.int .u8 90) := by rw [h.row.cell (by omega), h.k1]
  have c2 : w.cell? ⟨g, len + 2, none⟩ = some (.int .u8 165) := by rw [h.row.cell (by omega), h.k2]
  have hcz : (len : Int) + 3 ≤ (cap : Int) := by omega
  generalize strOf len x = S at *
  clear h hb ha
  go_enter Try.func41, Try.ntmps41
  go_wp2
  go_ret
  exact ⟨rfl, rfl⟩
end Go.Proofs.Ytdfhdneimoimmaa

/- What a step leaves; rows of one's own; append in a region that draws. Package net: a message, a net in memory. -/
namespace Go.Proofs.Ytdfhdneimoimmaa
open Go.RowKit
set_option maxRecDepth 100000
set_option maxRecDepth 100000

structure Mv (F F' : Nat → Prop) (w w' : World) : Prop where
  os : w'.os = w.os
  tape : w'.tape = w.tape
  output : w'.output = w.output
  size : w.heap.size ≤ w'.heap.size
  block : ∀ k, k < w.heap.size → ¬ F k → w'.heap[k]? = w.heap[k]?
  foot : ∀ k, F' k → F k ∨ w.heap.size ≤ k
theorem Mv.trans {F F' F'' : Nat → Prop} {a b c : World} (h : Mv F F' a b) (k : Mv F' F'' b c) : Mv F F'' a c :=
  ⟨k.os.trans h.os, k.tape.trans h.tape, k.output.trans h.output, Nat.le_trans h.size k.size, fun q hq hn => (k.block q (Nat.lt_of_lt_of_le hq h.size) (fun hf => by
    rcases h.foot q hf with e | e
    · exact hn e
    · omega)).trans (h.block q hq hn), fun q hf => by
    rcases k.foot q hf with e | e
    · exact h.foot q e
    · exact Or.inr (Nat.le_trans h.size e)⟩
theorem Mv.refl (F : Nat → Prop) (w : World) : Mv F F w w := ⟨rfl, rfl, rfl, Nat.le_refl _, fun _ _ _ => rfl, fun _ h => Or.inl h⟩
theorem Mv.of_below {F : Nat → Prop} {w w' : World} (h : Below w.heap.size w w') : Mv F F w w' := ⟨h.os, h.tape, h.output, h.size, fun k hk _ => h.block k hk, fun _ hf => Or.inl hf⟩
theorem Mv.below {F F' : Nat → Prop} {w0 w w' : World} {B : Nat} (h0 : Below B w0 w) (hB : B ≤ w.heap.size) (hF : ∀ k, F k → B ≤ k) (h : Mv F F' w w') : Below B w0 w' :=
  h0.trans ⟨h.os, h.tape, h.output, h.size, fun k hk => h.block k (Nat.lt_of_lt_of_le hk hB) (fun hf => by have := hF k hf; omega)⟩
theorem rows_keep {w w' : World} {K n s : Nat} {e : TypeId} {v : Value} {xs : List Value} (h : w.ownsRow K e s v n xs) (hb : ∀ k, v.ownBlock = some k → w'.heap[k]? = w.heap[k]?) : w'.ownsRow K e s v n xs := by
  refine ⟨h.1, ?_⟩
  rcases h.2 with h0 | ⟨g, cap, cur, ev, hk, hq, hr⟩
  · exact .inl h0
  · exact .inr ⟨g, cap, cur, ev, hk, (hb g (by rw [ev]; rfl)).trans hq, hr⟩
theorem rows_lt {w : World} {K n s : Nat} {e : TypeId} {v : Value} {xs : List Value} (h : w.ownsRow K e s v n xs) : ∀ k, v.ownBlock = some k → K ≤ k ∧ k < w.heap.size := fun k hk => by
  rcases h.2 with ⟨rfl, _⟩ | ⟨g, cap, cur, rfl, hb, hq, _⟩
  · simp [Value.ownBlock] at hk
  · have : g = k := by simpa [Value.ownBlock] using hk
    subst this
    exact ⟨hb, (Array.getElem?_eq_some_iff.1 hq).1⟩
theorem rows_apart {w : World} {K n s b t' m : Nat} {e : TypeId} {v : Value} {xs : List Value} {f : Nat → Value} (h : w.ownsRow K e s v n xs) (hr : w.rowIs b t' m f) (ht : t' ≠ e) : v.ownBlock ≠ some b := fun e' => by
  rcases h.2 with ⟨rfl, _⟩ | ⟨g, cap, cur, rfl, _, hq, _⟩
  · simp [Value.ownBlock] at e'
  · obtain rfl : g = b := by simpa [Value.ownBlock] using e'
    obtain ⟨c, hc, _⟩ := hr
    rw [hq] at hc
    simp only [Option.some.injEq, Obj.cells.injEq] at hc
    exact ht hc.2.1.symm
theorem rows_apart2 {w : World} {K K' n n' s s' : Nat} {e e' : TypeId} {v v' : Value} {xs xs' : List Value} (h : w.ownsRow K e s v n xs) (h' : w.ownsRow K' e' s' v' n' xs') (hne : e ≠ e') : ∀ b, v.ownBlock = some b → v'.ownBlock ≠ some b := by
  intro b hb hb'
  rcases h.2 with ⟨rfl, _⟩ | ⟨g, cap, cur, rfl, _, hq, _⟩
  · simp [Value.ownBlock] at hb
  · rcases h'.2 with ⟨rfl, _⟩ | ⟨g', cap', cur', rfl, _, hq', _⟩
    · simp [Value.ownBlock] at hb'
    · obtain rfl : g = b := by simpa [Value.ownBlock] using hb
      obtain rfl : g' = g := by simpa [Value.ownBlock] using hb'
      rw [hq] at hq'
      simp only [Option.some.injEq, Obj.cells.injEq] at hq'
      exact hne hq'.2.1
/-- append in a region that draws, by its run. -/
theorem step_apps2 {P : Program} {w w' : World} {ops : Array Oper} {o : Oper} {a : Act} {K : Act → World → Prop} {Q : Exit → Act → World → Prop} {E : Prop} (hgd : o.guard = none) (s x : Operand) (t : TypeId)
    (ho : o.op = .call { callee := .builtin .append, args := #[s, x], argTypes := #[t, t] }) (v u v' : Value) (hs : a.eval s = v) (hx : a.eval x = u)
    (hrun : (Builtin.append_ #[t, t] o.type #[v, u]).run P w = .ok v' w') (h : K (a.put o.dst v') w') : if Region.wanted o (yielded ops a.tmps) = true then Oper.wp P o a w K Q else E := by
  have hw : Region.wanted o (yielded ops a.tmps) = true := by simp [Region.wanted, hgd]
  rw [if_pos hw]
  unfold Oper.wp
  simp [execOp, ho, resolve, invoke, builtin, hs, hx, hrun, Result.andThen]
  exact h

/-- A message: to whom, its bytes. -/
structure Ms where
  dst : Int
  s : ByteArray
def Ms.cells (m : Ms) : List Value := [.int .i64 m.dst, .string m.s]
def msCells : List Ms → List Value
  | [] => []
  | m :: ms => m.cells ++ msCells ms
theorem msCells_app : ∀ (l m : List Ms), msCells (l ++ m) = msCells l ++ msCells m
  | [], m => rfl
  | d :: l, m => by simp only [List.cons_append, msCells, msCells_app l m, List.append_assoc]
theorem msCells_len : ∀ ms : List Ms, (msCells ms).length = ms.length * 2
  | [] => rfl
  | d :: ms => by simp only [msCells, List.length_append, msCells_len ms, List.length_cons]; show 2 + _ = _; omega
theorem msCells_at : ∀ (ms : List Ms) (i : Nat) (m : Ms), ms[i]? = some m → (msCells ms)[i * 2]? = some (.int .i64 m.dst) ∧ (msCells ms)[i * 2 + 1]? = some (.string m.s)
  | [], i, m, h => by simp at h
  | d :: ms, 0, m, h => by
    have : d = m := by simpa using h
    subst this
    exact ⟨rfl, rfl⟩
  | d :: ms, i + 1, m, h => by
    have := msCells_at ms i m (by simpa using h)
    rw [show (i + 1) * 2 = i * 2 + 2 by omega]
    exact this
theorem msCells_one (ms : List Ms) : ∀ u ∈ msCells ms, u.oneCell' = true := fun u hu => by
  induction ms with
  | nil => cases hu
  | cons m ms ih =>
    simp only [msCells, Ms.cells, List.cons_append, List.mem_cons, List.nil_append] at hu
    rcases hu with e | e | e
    · rw [e]; rfl
    · rw [e]; rfl
    · exact ih e
theorem msCells_drop : ∀ (ms : List Ms) (k : Nat), msCells (ms.drop k) = (msCells ms).drop (k * 2)
  | ms, 0 => by simp
  | [], k + 1 => by simp [msCells]
  | m :: ms, k + 1 => by
    rw [List.drop_succ_cons, msCells_drop ms k, show (k + 1) * 2 = k * 2 + 2 by omega]
    rfl
theorem msCells_take : ∀ (ms : List Ms) (k : Nat), msCells (ms.take k) = (msCells ms).take (k * 2)
  | ms, 0 => by simp [msCells]
  | [], k + 1 => by simp [msCells]
  | m :: ms, k + 1 => by
    rw [List.take_succ_cons, show (k + 1) * 2 = k * 2 + 2 by omega]
    show m.cells ++ msCells (ms.take k) = _
    rw [msCells_take ms k]
    rfl

/-- The cells of a Net: its room, its messages, how many were lost. -/
def netCell (room : Nat) (mv : Value) (lost : Nat) (i : Nat) : Value := if i = 0 then .int .i64 (room : Nat) else if i = 1 then mv else .int .u64 (lost : Nat)
structure NetIs (w : World) (B nb : Nat) (mv : Value) (room : Nat) (ms : List Ms) (lost : Nat) : Prop where
  row : w.rowIs nb 44 3 (netCell room mv lost)
  own : w.ownsRow B 63 2 mv ms.length (msCells ms)
  lb : B ≤ nb
  le : ms.length ≤ room
  rm : room ≤ 8192
/-- What of memory is the Net's. -/
def NFt (nb : Nat) (mv : Value) (k : Nat) : Prop := k = nb ∨ mv.ownBlock = some k
section
variable {w w' : World} {B nb : Nat} {mv : Value} {room lost : Nat} {ms : List Ms}
theorem NetIs.later (h : NetIs w B nb mv room ms lost) (hb : ∀ k, NFt nb mv k → w'.heap[k]? = w.heap[k]?) : NetIs w' B nb mv room ms lost :=
  ⟨h.row.of_block (hb _ (.inl rfl)), rows_keep h.own (fun k e => hb k (.inr e)), h.lb, h.le, h.rm⟩
theorem NetIs.ge (h : NetIs w B nb mv room ms lost) : ∀ k, NFt nb mv k → B ≤ k ∧ k < w.heap.size := fun k hf => by
  rcases hf with e | e
  · rw [e]; exact ⟨h.lb, h.row.lt⟩
  · exact rows_lt h.own k e
theorem NetIs.on (h : NetIs w B nb mv room ms lost) (hb : Below w.heap.size w w') : NetIs w' B nb mv room ms lost :=
  h.later (fun k hf => hb.block k (h.ge k hf).2)
theorem NetIs.nm (h : NetIs w B nb mv room ms lost) : mv.ownBlock ≠ some nb := rows_apart h.own h.row (by decide)
theorem NetIs.c0 (h : NetIs w B nb mv room ms lost) : w.cell? ⟨nb, 0, none⟩ = some (.int .i64 (room : Nat)) := h.row.cell (i := 0) (by decide)
theorem NetIs.c1 (h : NetIs w B nb mv room ms lost) : w.cell? ⟨nb, 1, none⟩ = some mv := h.row.cell (i := 1) (by decide)
theorem NetIs.c2 (h : NetIs w B nb mv room ms lost) : w.cell? ⟨nb, 2, none⟩ = some (.int .u64 (lost : Nat)) := h.row.cell (i := 2) (by decide)
theorem NetIs.sl (h : NetIs w B nb mv room ms lost) : ∃ a c, mv = .slice a ms.length c ∧ ms.length ≤ c ∧ c ≤ 9223372036854775807 := by
  rcases h.own.2 with ⟨e, h0⟩ | ⟨g, cap, cur, e, _, _, hc, hm, _⟩
  · exact ⟨none, 0, by rw [e, h0], by omega, by omega⟩
  · exact ⟨_, cap, e, hc, hm⟩
/-- A message, as it lies in the row. -/
theorem NetIs.msg (h : NetIs w B nb mv room ms lost) {i : Nat} {m : Ms} (hm : ms[i]? = some m) :
    ∃ g c, mv = .slice (some ⟨g, 0, none⟩) ms.length c ∧ ms.length ≤ c ∧ w.cell? ⟨g, i * 2, none⟩ = some (.int .i64 m.dst) ∧ w.cell? ⟨g, i * 2 + 1, none⟩ = some (.string m.s) := by
  have hi := (List.getElem?_eq_some_iff.1 hm).1
  have q := msCells_at ms i m hm
  have ho := h.own
  rcases h.own.2 with ⟨e, h0⟩ | ⟨g, cc, cur, e, _, _, hcc, _⟩
  · omega
  · subst e
    exact ⟨g, cc, rfl, hcc, by rw [World.ownsRow.cellAt ho (i * 2) (by omega)]; exact q.1, by rw [World.ownsRow.cellAt ho (i * 2 + 1) (by omega)]; exact q.2⟩
theorem has_any (h : NetIs w B nb mv room ms lost) (i : Int) :
    Calls Try.prog 25 #[.pointer (some ⟨nb, 0, none⟩), .int .i64 i] w fun e w' => e = .returned (.bool (decide (0 ≤ i ∧ i < ms.length))) ∧ w' = w := by
  obtain ⟨a, c, e, hc, hm⟩ := h.sl
  have c1 := h.c1
  have hl := h.le
  have hr := h.rm
  generalize ms.length = n at *
  subst e
  clear h
  by_cases h0 : 0 ≤ i
  · by_cases h1 : i < n
    · have eb : decide (0 ≤ i ∧ i < n) = true := by simp [h0, h1]
      rw [eb]
      clear eb
      go_enter Try.func25, Try.ntmps25
      go_wp2
      go_ret
      exact ⟨rfl, rfl⟩
    · have eb : decide (0 ≤ i ∧ i < n) = false := by simp [h1]
      rw [eb]
      clear eb
      go_enter Try.func25, Try.ntmps25
      go_wp2
      go_ret
      exact ⟨rfl, rfl⟩
  · have eb : decide (0 ≤ i ∧ i < n) = false := by simp [h0]
    rw [eb]
    clear eb
    go_enter Try.func25, Try.ntmps25
    go_wp2
    go_ret
    exact ⟨rfl, rfl⟩
theorem full_any (h : NetIs w B nb mv room ms lost) :
    Calls Try.prog 22 #[.pointer (some ⟨nb, 0, none⟩)] w fun e w' => e = .returned (.bool (decide (room ≤ ms.length))) ∧ ∃ q, w' = w.drewN q := by
  obtain ⟨a, c, e, hc, hm⟩ := h.sl
  have c1 := h.c1
  have c0 := h.c0
  have hl := h.le
  have hr := h.rm
  generalize ms.length = n at *
  subst e
  clear h
  by_cases h0 : room ≤ n
  · have eb : decide (room ≤ n) = true := by simp [h0]
    rw [eb]
    have hz : (room : Int) ≤ (n : Int) := by omega
    clear eb
    go_enter Try.func22, Try.ntmps22
    go_wp2_with fail
    go_quiet (fail)
    go_wp2_with fail
    go_ret
    exact ⟨rfl, _, rfl⟩
  · have eb : decide (room ≤ n) = false := by simp [h0]
    rw [eb]
    have hz : ¬ (room : Int) ≤ (n : Int) := by omega
    clear eb
    go_enter Try.func22, Try.ntmps22
    go_wp2_with fail
    go_quiet (fail)
    go_wp2_with fail
    go_ret
    exact ⟨rfl, _, rfl⟩
theorem len_any (h : NetIs w B nb mv room ms lost) :
    Calls Try.prog 16 #[.pointer (some ⟨nb, 0, none⟩)] w fun e w' => e = .returned (.int .i64 (ms.length : Nat)) ∧ w' = w := by
  obtain ⟨a, c, e, hc, hm⟩ := h.sl
  have c1 := h.c1
  generalize ms.length = n at *
  subst e
  clear h
  go_enter Try.func16, Try.ntmps16
  go_wp2
  go_ret
  exact ⟨rfl, rfl⟩
theorem lost_any (h : NetIs w B nb mv room ms lost) :
    Calls Try.prog 17 #[.pointer (some ⟨nb, 0, none⟩)] w fun e w' => e = .returned (.int .u64 (lost : Nat)) ∧ w' = w := by
  have c2 := h.c2
  clear h
  go_enter Try.func17, Try.ntmps17
  go_wp2
  go_ret
  exact ⟨rfl, rfl⟩
/-- lose: one more is lost. -/
theorem lose_any (h : NetIs w B nb mv room ms lost) (hl : lost ≤ 1000000) :
    Calls Try.prog 23 #[.pointer (some ⟨nb, 0, none⟩)] w fun e w' => e = .returned (.tuple #[]) ∧ NetIs w' B nb mv room ms (lost + 1) ∧ Mv (NFt nb mv) (NFt nb mv) w w' := by
  have c2 := h.c2
  have f2 : w.frozen? ⟨nb, 2, none⟩ = false := h.row.frozen 2
  obtain ⟨W, HW⟩ : ∃ W, Hid (w.setCell ⟨nb, 2, none⟩ (.int .u64 ((lost + 1 : Nat) : Int)) = W) := ⟨_, rfl⟩
  have hset : ∀ b, b ≠ nb → W.heap[b]? = w.heap[b]? := fun b hb => by rw [← HW.out]; exact Below.heap_setCell _ _ _ _ hb
  have hz : W.heap.size = w.heap.size := by rw [← HW.out]; simp [World.setCell]
  have K : NetIs W B nb mv room ms (lost + 1) ∧ Mv (NFt nb mv) (NFt nb mv) w W := by
    refine ⟨⟨?_, rows_keep h.own (fun k e => hset k (fun e2 => h.nm (e2 ▸ e))), h.lb, h.le, h.rm⟩, ⟨?_, ?_, ?_, by omega, fun k _ hn => hset k (fun e => hn (.inl e)), fun k hf => .inl hf⟩⟩
    · rw [← HW.out]
      refine (h.row.set 2 _).congr (fun i hi => ?_)
      match i, hi with
      | 0, _ => rfl
      | 1, _ => rfl
      | 2, _ => rfl
    · rw [← HW.out]; rfl
    · rw [← HW.out]; rfl
    · rw [← HW.out]; rfl
  have HK : Hid (NetIs W B nb mv room ms (lost + 1) ∧ Mv (NFt nb mv) (NFt nb mv) w W) := K
  obtain ⟨l1, hl1, hl2⟩ : ∃ l1 : Nat, (lost : Int) + 1 = (l1 : Int) ∧ l1 = lost + 1 := ⟨lost + 1, by omega, rfl⟩
  have hw : IntKind.u64.wrap (l1 : Int) = (l1 : Int) := by rw [IntKind.wrap_u64]; omega
  have hlt : (lost : Int) < 18446744073709551615 := by omega
  rw [← hl2] at HW
  clear K h hset hz hl2
  go_enter Try.func23, Try.ntmps23
  go_wp2
  rw [HW.out]
  go_end0
  exact ⟨rfl, HK.out⟩
end
end Go.Proofs.Ytdfhdneimoimmaa

/- Package net: New, add, Double, Send. -/
namespace Go.Proofs.Ytdfhdneimoimmaa
open Go.RowKit
set_option maxRecDepth 100000
set_option maxRecDepth 100000

theorem infoMS : (Try.prog.info? 63).map (fun i => (i.zero, i.size, i.bytes)) = some (some (.agg #[.int .i64 0, .string ⟨#[]⟩]), 2, 24) := by kernel_rfl
theorem app_ms {w : World} {K n : Nat} {v : Value} {xs : List Value} (h : w.ownsRow K 63 2 v n xs) (x y : Value) (hx : x.oneCell' = true) (hy : y.oneCell' = true) (hn : n ≤ 1099511627776) (hK : K ≤ w.heap.size) :
    ∃ v' w', (Builtin.append_ #[40, 40] 40 #[v, .slice (some ⟨w.heap.size, 0, none⟩) 1 1]).run Try.prog (w.alloc (.cells #[x, y] 63)) = .ok v' w' ∧ w'.ownsRow K 63 2 v' (n + 1) (xs ++ [x, y]) ∧ w.grownBy w' v.ownBlock ∧ (∀ k, v'.ownBlock = some k → v.ownBlock = some k ∨ w.heap.size ≤ k) := by
  obtain ⟨i0, hi, hh⟩ := Option.map_eq_some_iff.1 infoMS
  simp only [Prod.mk.injEq] at hh
  obtain ⟨hz0, hz1, hz2⟩ := hh
  have hnews : ∀ j u, [x, y][j]? = some u → (w.alloc (.cells #[x, y] 63)).cell? ((⟨w.heap.size, 0, none⟩ : Addr).add j) = some u := fun j u hj => by
    match j with
    | 0 => simp at hj; subst hj; simp [Addr.add]
    | 1 => simp at hj; subst hj; simp [Addr.add]
    | j + 2 => simp at hj
  have hml : maxLen = 9223372036854775807 := rfl
  obtain ⟨v', w', h1, h2, h3, _, h5⟩ := run_append_own_at (P := Try.prog) (w.alloc (.cells #[x, y] 63)) K 40 40 63 i0 _ 2 24 Try.underlying40 hi hz0 hz1 hz2 rfl (by decide) v n xs (h.alloc _) ⟨w.heap.size, 0, none⟩ 1 1 [x, y] rfl hnews (fun u hu => by
    simp only [List.mem_cons, List.not_mem_nil, or_false] at hu
    rcases hu with e | e
    · rw [e]; exact hx
    · rw [e]; exact hy) (by omega) (by omega) (by simp; omega)
  have hsz : (w.alloc (.cells #[x, y] 63)).heap.size = w.heap.size + 1 := by simp
  refine ⟨v', w', h1, h2, ⟨h3.os, h3.tape, h3.output, by have := h3.size; omega, fun b hb hne => (h3.block b (by omega) hne).trans (Below.heap_alloc _ _ _ hb)⟩, fun k e => ?_⟩
  rcases h5 with e5 | e5
  · exact .inl (e5 ▸ e)
  · rw [e5] at e
    exact .inr (by have := Option.some.inj e; omega)

section
variable {w w' : World} {B nb : Nat} {mv : Value} {room lost : Nat} {ms : List Ms}
set_option maxHeartbeats 1600000 in
theorem add_any (h : NetIs w B nb mv room ms lost) (hB : B ≤ w.heap.size) (hl : ms.length < room) (x : Int) (s : ByteArray) :
    Calls Try.prog 24 #[.pointer (some ⟨nb, 0, none⟩), .agg #[.int .i64 x, .string s]] w fun e w' => e = .returned (.tuple #[]) ∧ ∃ mv', NetIs w' B nb mv' room (ms ++ [⟨x, s⟩]) lost ∧ Mv (NFt nb mv) (NFt nb mv') w w' := by
  have hrm := h.rm
  obtain ⟨W0, HW0⟩ : ∃ W, Hid (w.alloc (.cells #[.int .i64 x, .string s] 63) = W) := ⟨_, rfl⟩
  have hb0 : Below w.heap.size w W0 := by rw [← HW0.out]; exact (Below.refl _ _).alloc (Nat.le_refl _) _
  have hz0 : W0.heap.size = w.heap.size + 1 := by rw [← HW0.out]; simp
  have b0 : W0.cell? ⟨w.heap.size, 0, none⟩ = some (.int .i64 x) := by rw [← HW0.out]; exact World.cell?_alloc_at (w := w) _ _ _ 0 rfl
  have b1 : W0.cell? ⟨w.heap.size, 1, none⟩ = some (.string s) := by rw [← HW0.out]; exact World.cell?_alloc_at (w := w) _ _ _ 1 rfl
  have h0 : NetIs W0.drew B nb mv room ms lost := h.later (fun k hf => hb0.block k (h.ge k hf).2)
  obtain ⟨mv', w3, hrun, ho3, hg3, hl3⟩ := app_ms h0.own (.int .i64 x) (.string s) rfl rfl (by omega) (by show B ≤ W0.heap.size; omega)
  obtain ⟨ca, cc, emv⟩ : ∃ ca cc, mv' = .slice ca (ms.length + 1) cc := by
    rcases ho3.2 with ⟨_, h0⟩ | ⟨g, cap, cur, e, _⟩
    · omega
    · exact ⟨_, cap, e⟩
  subst emv
  have hnb : nb < W0.drew.heap.size := h0.row.lt
  have hr3 : w3.rowIs nb 44 3 (netCell room mv lost) := h0.row.of_block (hg3.block nb hnb (fun e => h0.nm e.symm))
  have p3 : w3.cell? ⟨nb, 1, none⟩ = some mv := hr3.cell (i := 1) (by decide)
  have f3 : w3.frozen? ⟨nb, 1, none⟩ = false := hr3.frozen 1
  obtain ⟨W4, HW4⟩ : ∃ W, Hid (w3.setCell ⟨nb, 1, none⟩ (.slice ca (ms.length + 1) cc) = W) := ⟨_, rfl⟩
  have hset : ∀ b, b ≠ nb → W4.heap[b]? = w3.heap[b]? := fun b hb => by rw [← HW4.out]; exact Below.heap_setCell _ _ _ _ hb
  have hz4 : W4.heap.size = w3.heap.size := by rw [← HW4.out]; simp [World.setCell]
  have hmd' : (Value.slice ca (ms.length + 1) cc).ownBlock ≠ some nb := fun e => rows_apart ho3 hr3 (by decide) e
  have K : ∃ mv', NetIs W4 B nb mv' room (ms ++ [⟨x, s⟩]) lost ∧ Mv (NFt nb mv) (NFt nb mv') w W4 := by
    have hs3 : W0.heap.size ≤ w3.heap.size := hg3.size
    refine ⟨.slice ca (ms.length + 1) cc, ⟨?_, ?_, h.lb, by rw [List.length_append]; show ms.length + 1 ≤ room; omega, h.rm⟩, ?_, ?_, ?_, by omega, fun k hk hn => ?_, fun k hf => ?_⟩
    · rw [← HW4.out]
      refine (hr3.set 1 _).congr (fun i hi => ?_)
      match i, hi with
      | 0, _ => rfl
      | 1, _ => rfl
      | 2, _ => rfl
    · rw [msCells_app, List.length_append]
      exact rows_keep ho3 (fun q e => hset q (fun e2 => hmd' (e2 ▸ e)))
    · rw [← HW4.out]; show w3.os = _; rw [hg3.os]; exact hb0.os
    · rw [← HW4.out]; show w3.tape = _; rw [hg3.tape]; exact hb0.tape
    · rw [← HW4.out]; show w3.output = _; rw [hg3.output]; exact hb0.output
    · refine (hset k (fun e => hn (.inl e))).trans ((hg3.block k (by show k < W0.heap.size; omega) (fun e => hn (.inr e.symm))).trans (hb0.block k hk))
    · rcases hf with e | e
      · exact .inl (.inl e)
      · rcases hl3 k e with q | q
        · exact .inl (.inr q)
        · exact .inr (by have : W0.heap.size ≤ k := q; omega)
  have HK : Hid (∃ mv', NetIs W4 B nb mv' room (ms ++ [⟨x, s⟩]) lost ∧ Mv (NFt nb mv) (NFt nb mv') w W4) := K
  have HR : Hid _ := hrun
  have c1d : W0.drew.cell? ⟨nb, 1, none⟩ = some mv := h0.c1
  have b0d : W0.drew.cell? ⟨w.heap.size, 0, none⟩ = some (.int .i64 x) := b0
  have b1d : W0.drew.cell? ⟨w.heap.size, 1, none⟩ = some (.string s) := b1
  have c1n : W0.cell? ⟨nb, 1, none⟩ = some mv := c1d
  have c1a : ∀ o, (W0.alloc o).cell? ⟨nb, 1, none⟩ = some mv := fun o => by rw [World.cell?_alloc_some _ _ _ (by rw [c1n]; rfl)]; exact c1n
  clear hrun K h h0 ho3 hg3 hl3 hr3 hset hmd' hb0 hz0 hz4 hnb b0 b1 hl hrm hB
  go_enter Try.func24, Try.ntmps24
  go_upto_region 1 with fail
  rw [HW0.out]
  go_region_law (first
    | (refine step_apps2 (by rfl) _ _ 40 (by rfl) _ _ _ (by rfl) (by rfl) HR.out ?_))
  all_goals
    go_wp2_with fail
    rw [HW4.out]
    go_end0
    exact ⟨rfl, HK.out⟩

/-- A new net. -/
theorem new_any (n : Nat) (h1 : 1 ≤ n) (h2 : n ≤ 8192) (w : World) :
    Calls Try.prog 7 #[.int .i64 (n : Nat)] w fun e w' => e = .returned (.tuple #[.pointer (some ⟨w.heap.size, 0, none⟩), .int .i64 0]) ∧ NetIs w' w.heap.size w.heap.size (.slice none 0 0) n [] 0 ∧ Below w.heap.size w w' ∧ w'.heap.size = w.heap.size + 1 := by
  have H : Hid (NetIs (w.alloc (.cells #[.int .i64 (n : Nat), .slice none 0 0, .int .u64 0] 44)) w.heap.size w.heap.size (.slice none 0 0) n [] 0 ∧ Below w.heap.size w (w.alloc (.cells #[.int .i64 (n : Nat), .slice none 0 0, .int .u64 0] 44)) ∧ (w.alloc (.cells #[.int .i64 (n : Nat), .slice none 0 0, .int .u64 0] 44)).heap.size = w.heap.size + 1) := by
    refine ⟨⟨?_, ⟨rfl, .inl ⟨rfl, rfl⟩⟩, Nat.le_refl _, Nat.zero_le _, h2⟩, (Below.refl _ _).alloc (Nat.le_refl _) _, by simp⟩
    refine World.rowIs_alloc w _ _ _ (fun i hi => ?_)
    match i, hi with
    | 0, _ => rfl
    | 1, _ => rfl
    | 2, _ => rfl
  have hz1 : ¬ (n : Int) < 1 := by omega
  have hz2 : ¬ (n : Int) > 8192 := by omega
  go_enter Try.func7, Try.ntmps7
  go_wp2
  go_ret2
  exact ⟨rfl, H.out⟩
theorem new_not (n : Int) (h : n < 1 ∨ 8192 < n) (w : World) :
    Calls Try.prog 7 #[.int .i64 n] w fun e w' => e = .returned (.tuple #[.pointer none, .int .i64 60]) ∧ w' = w := by
  by_cases hz1 : n < 1
  · go_enter Try.func7, Try.ntmps7
    go_wp2
    go_ret2
    exact ⟨rfl, rfl⟩
  · have hz2 : n > 8192 := by omega
    go_enter Try.func7, Try.ntmps7
    go_wp2
    go_ret2
    exact ⟨rfl, rfl⟩
end
end Go.Proofs.Ytdfhdneimoimmaa

/- Package net: a message told in memory of its own; Look. -/
namespace Go.Proofs.Ytdfhdneimoimmaa
open Go.RowKit
set_option maxRecDepth 100000
set_option maxRecDepth 100000

/-- The bytes of a string. -/
def bx (s : ByteArray) (j : Nat) : Nat := (s.data.toList.getD j 0).toNat
theorem bx_lt (s : ByteArray) (j : Nat) : bx s j < 256 := (s.data.toList.getD j 0).toNat_lt
/-- Block g is what []byte(s) made: the bytes, then zeros, c in all. -/
structure FlB (w : World) (g c : Nat) (s : ByteArray) : Prop where
  blk : ∃ cs, w.heap[g]? = some (.cells cs 5 (c, c + 1)) ∧ cs.size = c ∧ (∀ j, j < s.size → cs[j]? = some (.int .u8 (bx s j : Nat))) ∧ ∀ j, j < c → ∃ q : Nat, cs[j]? = some (.int .u8 (q : Nat))
  le : s.size ≤ c
theorem FlB.on {w w' : World} {g c : Nat} {s : ByteArray} (h : FlB w g c s) (e : w'.heap[g]? = w.heap[g]?) : FlB w' g c s := by
  obtain ⟨cs, h1, h2⟩ := h.blk
  exact ⟨⟨cs, e.trans h1, h2⟩, h.le⟩
theorem FlB.lt {w : World} {g c : Nat} {s : ByteArray} (h : FlB w g c s) : g < w.heap.size := by
  obtain ⟨cs, h1, h2⟩ := h.blk
  exact (Array.getElem?_eq_some_iff.1 h1).1
theorem FlB.cell {w : World} {g c : Nat} {s : ByteArray} (h : FlB w g c s) (j : Nat) (hj : j < s.size) : w.cell? ⟨g, j, none⟩ = some (.int .u8 (bx s j : Nat)) := by
  obtain ⟨cs, h1, h2, h3, _⟩ := h.blk
  simp [World.cell?, h1, h3 j hj]
theorem FlB.byt {w : World} {g c : Nat} {s : ByteArray} (h : FlB w g c s) : Byt w (some ⟨g, 0, none⟩) s.size (bx s) := fun j hj => ⟨g, 0, rfl, by rw [Nat.zero_add]; exact h.cell j hj⟩
theorem flb_new (w : World) (s : ByteArray) : FlB (Lib.bytesWorld w 5 s) w.heap.size (grownCap w s.size 0 5) s := by
  have hc := grownCap_ge w s.size 0 5
  have hds : s.data.size = s.size := rfl
  have hsz : (Lib.bytesCells w 5 s).size = grownCap w s.size 0 5 := by
    unfold Lib.bytesCells
    rw [Array.size_append, Array.size_map, Array.size_replicate]
    omega
  refine ⟨⟨Lib.bytesCells w 5 s, ?_, hsz, fun j hj => ?_, fun j hj => ?_⟩, hc⟩
  · rw [Lib.bytesWorld_at_new, hsz]
  · unfold Lib.bytesCells bx
    rw [Array.getElem?_append_left (by rw [Array.size_map]; omega), Array.getElem?_map, Array.getElem?_eq_getElem (by omega)]
    simp only [List.getD, Array.getElem?_toList, Option.map_some]
    rw [Array.getElem?_eq_getElem (by omega)]
    rfl
  · unfold Lib.bytesCells
    by_cases h : j < s.data.size
    · rw [Array.getElem?_append_left (by rw [Array.size_map]; omega), Array.getElem?_map, Array.getElem?_eq_getElem h]
      exact ⟨s.data[j].toNat, rfl⟩
    · rw [Array.getElem?_append_right (by rw [Array.size_map]; omega), Array.getElem?_replicate, Array.size_map, if_pos (by omega)]
      exact ⟨0, rfl⟩
theorem below_bytes (w : World) (s : ByteArray) : Below w.heap.size w (Lib.bytesWorld w 5 s) :=
  ⟨rfl, rfl, rfl, by rw [Lib.bytesWorld_size]; omega, fun k hk => Lib.bytesWorld_at_old w _ s k hk⟩
theorem row2_heap {w : World} {b : Nat} {t : TypeId} {f : Nat → Value} (h : w.rowIs b t 2 f) : w.heap[b]? = some (.cells #[f 0, f 1] t (0, 0)) := by
  obtain ⟨c, h1, h2, h3⟩ := h
  have : c = #[f 0, f 1] := by
    rcases c with ⟨l⟩
    have h2 : l.length = 2 := h2
    match l, h2 with
    | [a, b], _ =>
      have e0 := h3 0 (by decide)
      have e1 := h3 1 (by decide)
      simp at e0 e1
      rw [e0, e1]
  rw [h1, this]
theorem infoFL : (Try.prog.info? 46).map (·.size) = some 2 := by kernel_rfl
/-- A Flight of nothing. -/
def flZ : Obj := .cells #[.int .i64 0, .slice none 0 0] 46
theorem flZ_row (w : World) : (w.alloc flZ).rowIs w.heap.size 46 2 (fun i => (#[Value.int .i64 0, .slice none 0 0])[i]!) :=
  World.rowIs_alloc w _ _ _ (fun i hi => by rw [getElem!_pos _ i hi, Array.getElem?_eq_getElem hi])

set_option maxHeartbeats 1600000 in
theorem flight_any (x : Int) (s : ByteArray) (w : World) :
    Calls Try.prog 38 #[.agg #[.int .i64 x, .string s]] w fun e w' => ∃ g c, e = .returned (.agg #[.int .i64 x, .slice (some ⟨g, 0, none⟩) s.size c]) ∧ FlB w' g c s ∧ w.heap.size ≤ g ∧ Below w.heap.size w w' := by
  obtain ⟨W1, HW1⟩ : ∃ W, Hid ((w.alloc (.cells #[.int .i64 x, .string s] 63)).alloc flZ = W) := ⟨_, rfl⟩
  have hz1 : W1.heap.size = w.heap.size + 2 := by rw [← HW1.out]; simp
  have e1 : (w.alloc (.cells #[.int .i64 x, .string s] 63)).heap.size = w.heap.size + 1 := by simp
  have hb1 : Below w.heap.size w W1 := by rw [← HW1.out]; exact ((Below.refl _ _).alloc (Nat.le_refl _) _).alloc (by simp) _
  have b0 : W1.cell? ⟨w.heap.size, 0, none⟩ = some (.int .i64 x) := by
    rw [← HW1.out, World.cell?_alloc_some _ _ _ (by rw [World.cell?_alloc_at (w := w) _ _ _ 0 rfl]; rfl)]; exact World.cell?_alloc_at (w := w) _ _ _ 0 rfl
  have b1 : W1.cell? ⟨w.heap.size, 1, none⟩ = some (.string s) := by
    rw [← HW1.out, World.cell?_alloc_some _ _ _ (by rw [World.cell?_alloc_at (w := w) _ _ _ 1 rfl]; rfl)]; exact World.cell?_alloc_at (w := w) _ _ _ 1 rfl
  have hr1 := flZ_row (w.alloc (.cells #[.int .i64 x, .string s] 63))
  rw [HW1.out, e1] at hr1
  have hcv := Lib.run_convert_string_bytes (P := Try.prog) W1 9 37 5 s Try.underlying9 Try.underlying37 Try.underlying5
  have hF := flb_new W1 s
  have hb2 := below_bytes W1 s
  rw [hz1] at hcv hF
  generalize grownCap W1 s.size 0 5 = C at *
  generalize Lib.bytesWorld W1 5 s = W2 at *
  have hr2 := hr1.of_block (hb2.block (w.heap.size + 1) (by omega))
  have q0 := hr2.cell (i := 0) (by decide)
  have q1 := hr2.cell (i := 1) (by decide)
  have z0 := hr2.frozen 0
  have z1 := hr2.frozen 1
  have q0' : (W2.cell? ⟨w.heap.size + 1, 0, none⟩) = some (.int .i64 0) := q0
  have q1' : (W2.cell? ⟨w.heap.size + 1, 1, none⟩) = some (.slice none 0 0) := q1
  obtain ⟨W3, HW3⟩ : ∃ W, Hid ((W2.setCell ⟨w.heap.size + 1, 0, none⟩ (.int .i64 x)).setCell ⟨w.heap.size + 1, 1, none⟩ (.slice (some ⟨w.heap.size + 2, 0, none⟩) s.size C) = W) := ⟨_, rfl⟩
  have hr3 := row2_heap ((hr2.set 0 (.int .i64 x)).set 1 (.slice (some ⟨w.heap.size + 2, 0, none⟩) s.size C))
  rw [HW3.out] at hr3
  have hr3 : W3.heap[w.heap.size + 1]? = some (.cells #[.int .i64 x, .slice (some ⟨w.heap.size + 2, 0, none⟩) s.size C] 46 (0, 0)) := hr3
  have hbk : ∀ k, k ≠ w.heap.size + 1 → W3.heap[k]? = W2.heap[k]? := fun k hk => by rw [← HW3.out]; exact (Below.heap_setCell _ _ _ _ hk).trans (Below.heap_setCell _ _ _ _ hk)
  have hb3 : Below w.heap.size w W3 := by
    have := hb1.trans (hb2.mono hb1.size)
    rw [← HW3.out]
    exact (this.setCell (by simp) _).setCell (by simp) _
  have HF : Hid (FlB W3 (w.heap.size + 2) C s ∧ w.heap.size ≤ w.heap.size + 2 ∧ Below w.heap.size w W3) := ⟨hF.on (hbk _ (by omega)), by omega, hb3⟩
  have HR3 : Hid (W3.heap[w.heap.size + 1]? = some (.cells #[.int .i64 x, .slice (some ⟨w.heap.size + 2, 0, none⟩) s.size C] 46 (0, 0))) := hr3
  clear hF hb2 hb1 hr1 hr2 hr3 hbk hb3 q0 q1
  unfold flZ at HW1
  go_enter Try.func38, Try.ntmps38
  go_upto_region 1 with fail
  rw [HW1.out]
  go_wp2
  rw [HW3.out]
  refine bodyPost_ret_by (results_cell_row rfl _ _ (w.heap.size + 1) 46 _ (0, 0) _ rfl HR3.out Try.underlying46 rfl infoFL) rfl ⟨_, _, rfl, HF.out⟩

section
variable {w w' : World} {B nb : Nat} {mv : Value} {room lost : Nat} {ms : List Ms}
set_option maxHeartbeats 1600000 in
theorem look_some (h : NetIs w B nb mv room ms lost) (i : Nat) (x : Int) (s : ByteArray) (hm : ms[i]? = some ⟨x, s⟩) :
    Calls Try.prog 27 #[.pointer (some ⟨nb, 0, none⟩), .int .i64 (i : Nat)] w fun e w' => ∃ g c, e = .returned (.tuple #[.agg #[.int .i64 x, .slice (some ⟨g, 0, none⟩) s.size c], .bool true]) ∧ FlB w' g c s ∧ w.heap.size ≤ g ∧ Below w.heap.size w w' := by
  have hi := (List.getElem?_eq_some_iff.1 hm).1
  have hrm := h.rm
  have hle := h.le
  obtain ⟨W0, HW0⟩ : ∃ W, Hid (w.alloc flZ = W) := ⟨_, rfl⟩
  have hz0 : W0.heap.size = w.heap.size + 1 := by rw [← HW0.out]; simp
  have hb0 : Below w.heap.size w W0 := by rw [← HW0.out]; exact (Below.refl _ _).alloc (Nat.le_refl _) _
  have hr0 := flZ_row w
  rw [HW0.out] at hr0
  have h0 : NetIs W0 B nb mv room ms lost := h.on hb0
  have hh := has_any h0 (i : Int)
  have et : decide ((0 : Int) ≤ (i : Int) ∧ (i : Int) < (ms.length : Int)) = true := by simp; omega
  rw [et] at hh
  obtain ⟨g, c, rfl, hc, p0, p1⟩ := h0.msg hm
  have c1 := h0.c1
  have hf := flight_any x s W0
  have hzi : (i : Int) < (ms.length : Int) := by omega
  generalize ms.length = n at *
  have HF : Hid (∀ w2, Below W0.heap.size W0 w2 → Below w.heap.size w w2 ∧ w2.rowIs w.heap.size 46 2 (fun i => (#[Value.int .i64 0, .slice none 0 0])[i]!)) := fun w2 hb => ⟨hb0.trans (hb.mono hb0.size), hr0.of_block (hb.block _ (by omega))⟩
  clear h h0 hb0 hr0 hm et hi hrm
  unfold flZ at HW0
  go_enter Try.func27, Try.ntmps27
  go_upto_region 1 with fail
  rw [HW0.out]
  go_wp2_with fail
  refine hh.mono ?_
  rintro e w1 ⟨rfl, e1⟩
  subst e1
  go_wp2_with fail
  refine hf.mono ?_
  rintro e w2 ⟨g2, c2, rfl, hfl, hg2, hb2⟩
  obtain ⟨hbw, hr2⟩ := HF.out w2 hb2
  have q0 : (w2.cell? ⟨w.heap.size, 0, none⟩) = some (.int .i64 0) := hr2.cell (i := 0) (by decide)
  have q1 : (w2.cell? ⟨w.heap.size, 1, none⟩) = some (.slice none 0 0) := hr2.cell (i := 1) (by decide)
  have z0 := hr2.frozen 0
  have z1 := hr2.frozen 1
  obtain ⟨W3, HW3⟩ : ∃ W, Hid ((w2.setCell ⟨w.heap.size, 0, none⟩ (.int .i64 x)).setCell ⟨w.heap.size, 1, none⟩ (.slice (some ⟨g2, 0, none⟩) s.size c2) = W) := ⟨_, rfl⟩
  have hr3 := (hr2.set 0 (.int .i64 x)).set 1 (.slice (some ⟨g2, 0, none⟩) s.size c2)
  rw [HW3.out] at hr3
  have r0 : W3.cell? ⟨w.heap.size, 0, none⟩ = some (.int .i64 x) := hr3.cell (i := 0) (by decide)
  have r1 : W3.cell? ⟨w.heap.size, 1, none⟩ = some (.slice (some ⟨g2, 0, none⟩) s.size c2) := hr3.cell (i := 1) (by decide)
  have hF3 : FlB W3 g2 c2 s := hfl.on (by rw [← HW3.out]; exact (Below.heap_setCell _ _ _ _ (by show g2 ≠ w.heap.size; omega)).trans (Below.heap_setCell _ _ _ _ (by show g2 ≠ w.heap.size; omega)))
  have hb3 : Below w.heap.size w W3 := by
    rw [← HW3.out]
    exact (hbw.setCell (by simp) _).setCell (by simp) _
  have HE : Hid (FlB W3 g2 c2 s ∧ w.heap.size ≤ g2 ∧ Below w.heap.size w W3) := ⟨hF3, by omega, hb3⟩
  clear hf hh hfl hb2 hbw hr2 hr3 hF3 hb3 HF
  go_wp2
  rw [HW3.out]
  refine bodyPost_ret_by (v := .tuple #[.agg #[.int .i64 x, .slice (some ⟨g2, 0, none⟩) s.size c2], .bool true]) ?_ rfl ⟨g2, c2, rfl, HE.out⟩
  rw [results_cell_tmp rfl]
  go_simp
set_option maxHeartbeats 1600000 in
theorem look_none (h : NetIs w B nb mv room ms lost) (i : Int) (hi : ¬ (0 ≤ i ∧ i < ms.length)) :
    Calls Try.prog 27 #[.pointer (some ⟨nb, 0, none⟩), .int .i64 i] w fun e w' => e = .returned (.tuple #[.agg #[.int .i64 0, .slice none 0 0], .bool false]) ∧ Below w.heap.size w w' := by
  obtain ⟨W0, HW0⟩ : ∃ W, Hid (w.alloc flZ = W) := ⟨_, rfl⟩
  have hb0 : Below w.heap.size w W0 := by rw [← HW0.out]; exact (Below.refl _ _).alloc (Nat.le_refl _) _
  have hr0 := flZ_row w
  rw [HW0.out] at hr0
  have h0 : NetIs W0 B nb mv room ms lost := h.on hb0
  have hh := has_any h0 i
  have et : decide ((0 : Int) ≤ (i : Int) ∧ (i : Int) < (ms.length : Int)) = false := by simp; omega
  rw [et] at hh
  have q0 : (W0.cell? ⟨w.heap.size, 0, none⟩) = some (.int .i64 0) := hr0.cell (i := 0) (by decide)
  have q1 : (W0.cell? ⟨w.heap.size, 1, none⟩) = some (.slice none 0 0) := hr0.cell (i := 1) (by decide)
  have z0 := hr0.frozen 0
  have z1 := hr0.frozen 1
  obtain ⟨W3, HW3⟩ : ∃ W, Hid ((W0.setCell ⟨w.heap.size, 0, none⟩ (.int .i64 0)).setCell ⟨w.heap.size, 1, none⟩ (.slice none 0 0) = W) := ⟨_, rfl⟩
  have hr3 := (hr0.set 0 (.int .i64 0)).set 1 (.slice none 0 0)
  rw [HW3.out] at hr3
  have r0 : W3.cell? ⟨w.heap.size, 0, none⟩ = some (.int .i64 0) := hr3.cell (i := 0) (by decide)
  have r1 : W3.cell? ⟨w.heap.size, 1, none⟩ = some (.slice none 0 0) := hr3.cell (i := 1) (by decide)
  have hb3 : Below w.heap.size w W3 := by
    rw [← HW3.out]
    exact (hb0.setCell (by simp) _).setCell (by simp) _
  have HE : Hid (Below w.heap.size w W3) := hb3
  clear h h0 hb0 hr0 et hi hr3 hb3
  unfold flZ at HW0
  go_enter Try.func27, Try.ntmps27
  go_upto_region 1 with fail
  rw [HW0.out]
  go_wp2_with fail
  refine hh.mono ?_
  rintro e w1 ⟨rfl, e1⟩
  subst e1
  go_wp2
  rw [HW3.out]
  refine bodyPost_ret_by (v := .tuple #[.agg #[.int .i64 0, .slice none 0 0], .bool false]) ?_ rfl ⟨rfl, HE.out⟩
  rw [results_cell_tmp rfl]
  go_simp
end
end Go.Proofs.Ytdfhdneimoimmaa

/- Package net: slices.Delete of one message; Drop. -/
namespace Go.Proofs.Ytdfhdneimoimmaa
open Go.RowKit
set_option maxRecDepth 100000
set_option maxRecDepth 100000

theorem setCells_frame (b : Nat) : ∀ (vs : List Value) (o : Nat) (w : World), (w.setCells b o vs).os = w.os ∧ (w.setCells b o vs).tape = w.tape ∧ (w.setCells b o vs).output = w.output ∧ ∀ k, k ≠ b → (w.setCells b o vs).heap[k]? = w.heap[k]?
  | [], _, _ => ⟨rfl, rfl, rfl, fun _ _ => rfl⟩
  | v :: r, o, w => by
    obtain ⟨h1, h2, h3, h4⟩ := setCells_frame b r (o + 1) (w.setCell ⟨b, o, none⟩ v)
    exact ⟨h1, h2, h3, fun k hk => (h4 k hk).trans (Below.heap_setCell _ _ _ _ hk)⟩
theorem zMS : ∀ w, (zeroValue 63).run Try.prog w = .ok (.agg #[.int .i64 0, .string ⟨#[]⟩]) w := fun w => by kernel_rfl
theorem getD_cell (c : Array Value) (n : Nat) (hc : c.size = n) : ∀ i, i < n → c[i]? = some (c[i]?.getD undef) := fun i hi => by
  rw [Array.getElem?_eq_getElem (by omega)]; rfl
/-- A row as a slice of one's own. -/
theorem own_of_row {w : World} {B g n cap size : Nat} {e : TypeId} {f : Nat → Value} {xs : List Value} (h : w.rowIs g e (cap * size) f) (hB : B ≤ g) (hn : n ≤ cap) (hm : cap ≤ maxLen) (hx : xs.length = n * size) (hf : ∀ j, j < n * size → xs[j]? = some (f j)) : w.ownsRow B e size (.slice (some ⟨g, 0, none⟩) n cap) n xs := by
  obtain ⟨c, h1, h2, h3⟩ := h
  have hle : n * size ≤ cap * size := Nat.mul_le_mul_right size hn
  refine ⟨hx, .inr ⟨g, cap, c, rfl, hB, h1, hn, hm, h2, ?_⟩⟩
  apply List.ext_getElem?
  intro j
  by_cases hj : j < n * size
  · rw [List.getElem?_take_of_lt hj, Array.getElem?_toList, h3 j (by omega), hf j hj]
  · rw [List.getElem?_eq_none (by rw [List.length_take]; omega), List.getElem?_eq_none (by omega)]
/-- clear of one message. -/
theorem clear_one {w : World} {g o n c : Nat} {f : Nat → Value} (h : w.rowIs g 63 n f) (ho : o + 2 ≤ n) :
    ∃ w1, (∀ ty, (Builtin.clear_ #[40] ty #[.slice (some ⟨g, o, none⟩) 1 c]).run Try.prog w = .ok (.tuple #[]) w1) ∧ w1.os = w.os ∧ w1.tape = w.tape ∧ w1.output = w.output ∧ w1.heap.size = w.heap.size ∧ (∀ k, k ≠ g → w1.heap[k]? = w.heap[k]?) ∧ ∃ f', w1.rowIs g 63 n f' ∧ ∀ j, j < o → f' j = f j := by
  obtain ⟨cur, h1, h2, h3⟩ := h
  obtain ⟨vs, hvs⟩ : ∃ vs, vs = (Builtin.zeroCells (Value.agg #[.int .i64 0, .string ⟨#[]⟩]).cells 1).toList := ⟨_, rfl⟩
  have hvs2 : vs = [.int .i64 0, .string ⟨#[]⟩] := by
    have hcl : (Value.agg #[.int .i64 0, .string ⟨#[]⟩]).cells = #[.int .i64 0, .string ⟨#[]⟩] := by rfl
    rw [hvs, hcl]
    simp [Builtin.zeroCells, List.range_succ]
  have hst := run_storeCells_at (P := Try.prog) g o 63 vs 0 cur w h1 (by rw [hvs2, h2]; exact ho) (fun v hv => by
    rw [hvs2] at hv
    simp only [List.mem_cons, List.not_mem_nil, or_false] at hv
    rcases hv with e | e
    · rw [e]; rfl
    · rw [e]; rfl)
  refine ⟨w.setRow g (cur.toList.take (o + 0) ++ vs ++ cur.toList.drop (o + 0 + vs.length)).toArray, fun ty => ?_, rfl, rfl, rfl, size_setRow _ _ _, fun k hk => setRow_other w g k _ hk, fun j => ((cur.toList.take (o + 0) ++ vs ++ cur.toList.drop (o + 0 + vs.length)).toArray)[j]?.getD undef, ⟨_, setRow_heap w g cur _ _ _ h1, ?_, getD_cell _ _ ?_⟩, fun j hj => ?_⟩
  · have hst' : (storeCells ⟨g, o, none⟩ (Builtin.zeroCells (Value.agg #[.int .i64 0, .string ⟨#[]⟩]).cells 1).toList 0).run Try.prog w = .ok () (w.setRow g (cur.toList.take (o + 0) ++ vs ++ cur.toList.drop (o + 0 + vs.length)).toArray) := by rw [← hvs]; exact hst
    clear hst hvs2 hvs
    generalize w.setRow g (cur.toList.take (o + 0) ++ vs ++ cur.toList.drop (o + 0 + vs.length)).toArray = W at *
    simp [Builtin.clear_, run_underlying Try.underlying40, hst']
  · rw [hvs2]; simp; omega
  · rw [hvs2]; simp; omega
  · have : (cur.toList.take (o + 0) ++ vs ++ cur.toList.drop (o + 0 + vs.length)).toArray[j]? = cur[j]? := by
      simp only [Nat.add_zero, List.append_assoc, List.getElem?_toArray]
      rw [List.getElem?_append_left (by rw [List.length_take]; simp; omega), List.getElem?_take_of_lt hj]
      simp
    show (_ : Option Value).getD undef = _
    rw [this, h3 j (by omega)]
    rfl

theorem erase_at (ms : List Ms) (i j : Nat) (hi : i < ms.length) : (msCells (ms.eraseIdx i))[j]? = if j < i * 2 then (msCells ms)[j]? else (msCells ms)[j + 2]? := by
  have e : ms.eraseIdx i = ms.take i ++ ms.drop (i + 1) := List.eraseIdx_eq_take_drop_succ ms i
  rw [e, msCells_app, msCells_take, msCells_drop]
  have hl : ((msCells ms).take (i * 2)).length = i * 2 := by rw [List.length_take, msCells_len]; omega
  by_cases hj : j < i * 2
  · rw [if_pos hj, List.getElem?_append_left (by omega), List.getElem?_take_of_lt hj]
  · rw [if_neg hj, List.getElem?_append_right (by omega), hl, List.getElem?_drop]
    congr 1
    omega

set_option maxHeartbeats 3200000 in
theorem del_any {w : World} {B : Nat} {mv : Value} {ms : List Ms} (h : w.ownsRow B 63 2 mv ms.length (msCells ms)) (hn : ms.length ≤ 8192) (i j : Nat) (hi : i < ms.length) (hj : i + 1 = j) :
    Calls Try.prog 26 #[mv, .int .i64 (i : Nat), .int .i64 (j : Nat)] w fun e w' => ∃ a c, e = .returned (.slice a (ms.length - 1) c) ∧ (Value.slice a (ms.length - 1) c).ownBlock = mv.ownBlock ∧ w'.ownsRow B 63 2 (.slice a (ms.length - 1) c) (ms.length - 1) (msCells (ms.eraseIdx i)) ∧ (∀ k, mv.ownBlock ≠ some k → w'.heap[k]? = w.heap[k]?) ∧ w'.heap.size = w.heap.size ∧ w'.os = w.os ∧ w'.tape = w.tape ∧ w'.output = w.output := by
  obtain ⟨i0, hi0, hz0, hz1, hz2⟩ := info_parts infoMS
  rcases h.2 with ⟨_, h0⟩ | ⟨g, cap, cur, e, hB, hq, hc, hm, hcs, ht⟩
  · omega
  subst e
  have hml : maxLen = 9223372036854775807 := rfl
  have hcell := World.ownsRow.cellAt h
  have hrow : w.drew.rowIs g 63 (cap * 2) (fun k => cur[k]?.getD undef) := ⟨cur, hq, hcs, getD_cell _ _ hcs⟩
  have hcur : ∀ k, k < ms.length * 2 → (msCells ms)[k]? = some (cur[k]?.getD undef) := fun k hk => by
    rw [← hcell k (by omega), ← hrow.cell (i := k) (by omega)]
    rfl
  -- the cells that are moved to the left
  obtain ⟨news, hnews⟩ : ∃ news, news = (msCells ms).drop (j * 2) := ⟨_, rfl⟩
  have hlen : news.length = (ms.length - j) * 2 := by rw [hnews, List.length_drop, msCells_len]; omega
  obtain ⟨A, hA, hsrc⟩ : ∃ A : Addr, (if cap = j then some (⟨g, 0, none⟩ : Addr) else some ⟨g, j * 2, none⟩) = some A ∧ Hid (∀ t u, news[t]? = some u → w.drew.cell? (A.add t) = some u) := by
    by_cases hcj : cap = j
    · refine ⟨⟨g, 0, none⟩, by simp [hcj], fun t u hu => ?_⟩
      have h0 : news.length = 0 := by rw [hlen]; omega
      rw [List.length_eq_zero_iff.1 h0] at hu
      simp at hu
    · refine ⟨⟨g, j * 2, none⟩, by simp [hcj], fun t u hu => ?_⟩
      have htl := (List.getElem?_eq_some_iff.1 hu).1
      rw [hnews, List.getElem?_drop] at hu
      rw [Addr.add_lit]
      show w.cell? _ = _
      rw [hcell (j * 2 + t) (by omega)]
      exact hu
  have s1 : Hid (news.length = (ms.length - j) * 2) := hlen
  have s2 : Hid (∀ u ∈ news, u.oneCell' = true) := fun u hu => msCells_one ms u (by rw [hnews] at hu; exact List.mem_of_mem_drop hu)
  have s3 : Hid (∀ t, t < news.length → (w.drew.cell? ⟨g, 0 + i * 2 + t, none⟩).isSome = true ∧ w.drew.frozen? ⟨g, 0 + i * 2 + t, none⟩ = false) := by
    intro t htt
    rw [hlen] at htt
    exact ⟨by rw [hrow.cell (i := 0 + i * 2 + t) (by omega)]; rfl, hrow.frozen _⟩
  obtain ⟨W1, hW1⟩ : ∃ W1, W1 = w.drew.setCells g (0 + i * 2) news := ⟨_, rfl⟩
  have hrow1 := rowIs_setCells news (0 + i * 2) _ _ hrow
  rw [← hW1] at hrow1
  have hs1 : ∀ k, k ≠ g → W1.heap[k]? = w.heap[k]? := fun k hk => by rw [hW1]; exact (setCells_frame g news _ w.drew).2.2.2 k hk
  have hz1' : W1.heap.size = w.heap.size := by rw [hW1, size_setCells]; rfl
  obtain ⟨W2, hcl, o1, o2, o3, hz2', hs2, f', hrow2, hf2⟩ := clear_one (c := cap - (ms.length - 1)) hrow1 (o := (ms.length - 1) * 2) (by omega)
  have hE : W2.ownsRow B 63 2 (.slice (some ⟨g, 0, none⟩) (ms.length - 1) cap) (ms.length - 1) (msCells (ms.eraseIdx i)) := by
    refine own_of_row hrow2 hB (by omega) hm (by rw [msCells_len, List.length_eraseIdx, if_pos hi]) (fun k hk => ?_)
    rw [hf2 k hk, erase_at ms i k hi]
    by_cases hk2 : k < i * 2
    · rw [if_pos hk2, if_neg (by omega)]
      exact hcur k (by omega)
    · rw [if_neg hk2, if_pos (by omega), hnews, List.getD, List.getElem?_drop, show j * 2 + (k - (0 + i * 2)) = k + 2 by omega, hcur (k + 2) (by omega)]
      rfl
  have hW : Hid (w.drew.setCells g (0 + i * 2) news = W1) := hW1.symm
  have HE : Hid ((Value.slice (some ⟨g, 0, none⟩) (ms.length - 1) cap).ownBlock = (Value.slice (some ⟨g, 0, none⟩) ms.length cap).ownBlock ∧ W2.ownsRow B 63 2 (.slice (some ⟨g, 0, none⟩) (ms.length - 1) cap) (ms.length - 1) (msCells (ms.eraseIdx i)) ∧ (∀ k, (Value.slice (some ⟨g, 0, none⟩) ms.length cap).ownBlock ≠ some k → W2.heap[k]? = w.heap[k]?) ∧ W2.heap.size = w.heap.size ∧ W2.os = w.os ∧ W2.tape = w.tape ∧ W2.output = w.output) := by
    refine ⟨rfl, hE, fun k hk => ?_, by omega, ?_, ?_, ?_⟩
    · have : k ≠ g := fun e => hk (by rw [e]; rfl)
      exact (hs2 k this).trans (hs1 k this)
    · rw [o1, hW1]; exact (setCells_frame g news _ w.drew).1
    · rw [o2, hW1]; exact (setCells_frame g news _ w.drew).2.1
    · rw [o3, hW1]; exact (setCells_frame g news _ w.drew).2.2.1
  have hic : i ≤ cap := by omega
  have hjc : j ≤ cap := by omega
  have hij : ((i : Int) == (j : Int)) = false := by simp; omega
  obtain ⟨n1, hn1⟩ : ∃ n1, n1 = ms.length - 1 := ⟨_, rfl⟩
  have e1 : i + (ms.length - j) = n1 := by omega
  have e2 : ms.length - n1 = 1 := by omega
  rw [← hn1] at HE hcl ⊢
  generalize ms.length = n at *
  have z1 : (i : Int) ≤ (j : Int) := by omega
  have z2 : (j : Int) ≤ (n : Int) := by omega
  have z3 : (n : Int) ≤ (cap : Int) := by omega
  have z4 : (n1 : Int) ≤ (n : Int) := by omega
  have hroom : i + (n - j) ≤ cap := by omega
  clear h hq ht hcs hrow hcur hcell hrow1 hs1 hs2 hz1' hz2' hf2 hrow2 hE hnews hlen hW1 o1 o2 o3 hB hm hml hn1
  go_enter Try.func26, Try.ntmps26
  go_wp2_with fail
  go_region_law (refine step_append_room rfl (.tmp 22) (.tmp 25) 40 rfl 63 i0 2 Try.underlying40 hi0 hz1 g 0 i cap (by simp [Act.eval, Act.put]) A (n - j) (cap - j) news (by simp [Act.eval, Act.put]) s1.out hsrc.out s2.out hroom s3.out ?_; rw [hW.out])
  all_goals
    go_wp2
    go_ret
    exact ⟨_, _, rfl, HE.out⟩

section
variable {w w' : World} {B nb : Nat} {mv : Value} {room lost : Nat} {ms : List Ms}
set_option maxHeartbeats 1600000 in
theorem drop_some (h : NetIs w B nb mv room ms lost) (i : Nat) (hi : i < ms.length) :
    Calls Try.prog 12 #[.pointer (some ⟨nb, 0, none⟩), .int .i64 (i : Nat)] w fun e w' => e = .returned (.bool true) ∧ ∃ mv', NetIs w' B nb mv' room (ms.eraseIdx i) lost ∧ Mv (NFt nb mv) (NFt nb mv') w w' := by
  have hrm := h.rm
  have hle := h.le
  have hh := has_any h (i : Int)
  have et : decide ((0 : Int) ≤ (i : Int) ∧ (i : Int) < (ms.length : Int)) = true := by simp; omega
  rw [et] at hh
  have hd := del_any h.own (by omega) i (i + 1) hi rfl
  have c1 := h.c1
  obtain ⟨j, hj, hj2⟩ : ∃ j : Nat, (i : Int) + 1 = (j : Int) ∧ i + 1 = j := ⟨i + 1, by omega, rfl⟩
  rw [hj2] at hd
  have hw : IntKind.i64.wrap (j : Int) = (j : Int) := by rw [IntKind.wrap_i64]; omega
  have HE : Hid (∀ (a : Option Addr) (c : Nat) (w2 : World), (Value.slice a (ms.length - 1) c).ownBlock = mv.ownBlock → w2.ownsRow B 63 2 (.slice a (ms.length - 1) c) (ms.length - 1) (msCells (ms.eraseIdx i)) → (∀ k, mv.ownBlock ≠ some k → w2.heap[k]? = w.heap[k]?) → w2.heap.size = w.heap.size → w2.os = w.os → w2.tape = w.tape → w2.output = w.output →
      w2.cell? ⟨nb, 1, none⟩ = some mv ∧ w2.frozen? ⟨nb, 1, none⟩ = false ∧ ∃ mv', NetIs (w2.setCell ⟨nb, 1, none⟩ (.slice a (ms.length - 1) c)) B nb mv' room (ms.eraseIdx i) lost ∧ Mv (NFt nb mv) (NFt nb mv') w (w2.setCell ⟨nb, 1, none⟩ (.slice a (ms.length - 1) c))) := by
    intro a c w2 hb ho hk hz o1 o2 o3
    have hr2 : w2.rowIs nb 44 3 (netCell room mv lost) := h.row.of_block (hk nb h.nm)
    have hset : ∀ b, b ≠ nb → (w2.setCell ⟨nb, 1, none⟩ (.slice a (ms.length - 1) c)).heap[b]? = w2.heap[b]? := fun b hb => Below.heap_setCell _ _ _ _ hb
    have el : (ms.eraseIdx i).length = ms.length - 1 := by rw [List.length_eraseIdx, if_pos hi]
    refine ⟨hr2.cell (i := 1) (by decide), hr2.frozen 1, .slice a (ms.length - 1) c, ⟨?_, ?_, h.lb, by omega, h.rm⟩, o1, o2, o3, ?_, fun k _ hn => ?_, fun k hf => ?_⟩
    · refine (hr2.set 1 _).congr (fun i hi => ?_)
      match i, hi with
      | 0, _ => rfl
      | 1, _ => rfl
      | 2, _ => rfl
    · rw [el]
      exact rows_keep ho (fun k e => hset k (fun e2 => h.nm (by rw [← hb, ← e2]; exact e)))
    · simp [World.setCell]; omega
    · exact (hset k (fun e => hn (.inl e))).trans (hk k (fun e => hn (.inr e)))
    · rcases hf with e | e
      · exact .inl (.inl e)
      · exact .inl (.inr (by rw [← hb]; exact e))
  generalize ms.length = n at *
  clear h et hi hrm hle hj2
  go_enter Try.func12, Try.ntmps12
  go_wp2_with fail
  refine hh.mono ?_
  rintro e w1 ⟨rfl, e1⟩
  subst e1
  go_wp2_with fail
  refine hd.mono ?_
  rintro e w2 ⟨a, c, rfl, hb, ho, hk, hz, o1, o2, o3⟩
  obtain ⟨q1, q2, q3⟩ := HE.out a c w2 hb ho hk hz o1 o2 o3
  have Q : Hid (∃ mv', NetIs (w2.setCell ⟨nb, 1, none⟩ (.slice a (n - 1) c)) B nb mv' room (ms.eraseIdx i) lost ∧ Mv (NFt nb mv) (NFt nb mv') w1 (w2.setCell ⟨nb, 1, none⟩ (.slice a (n - 1) c))) := q3
  clear hh hd hk ho hb HE q3 o1 o2 o3 hz
  generalize n - 1 = n1 at *
  go_wp2
  go_ret
  exact ⟨rfl, Q.out⟩
theorem drop_none (h : NetIs w B nb mv room ms lost) (i : Int) (hi : ¬ (0 ≤ i ∧ i < ms.length)) :
    Calls Try.prog 12 #[.pointer (some ⟨nb, 0, none⟩), .int .i64 i] w fun e w' => e = .returned (.bool false) ∧ w' = w := by
  have hh := has_any h i
  have et : decide ((0 : Int) ≤ (i : Int) ∧ (i : Int) < (ms.length : Int)) = false := by simp; omega
  rw [et] at hh
  clear h et hi
  go_enter Try.func12, Try.ntmps12
  go_wp2_with fail
  refine hh.mono ?_
  rintro e w1 ⟨rfl, e1⟩
  subst e1
  go_wp2
  go_ret
  exact ⟨rfl, rfl⟩
end
end Go.Proofs.Ytdfhdneimoimmaa

/- Package net: Double, Send, Take. -/
namespace Go.Proofs.Ytdfhdneimoimmaa
open Go.RowKit
set_option maxRecDepth 100000
set_option maxRecDepth 100000
section
variable {w w' : World} {B nb : Nat} {mv : Value} {room lost : Nat} {ms : List Ms}
theorem NetIs.drewN (h : NetIs w B nb mv room ms lost) (q : Nat) : NetIs (w.drewN q) B nb mv room ms lost := h.later (fun _ _ => rfl)
theorem Mv.drewN {F F' : Nat → Prop} {q : Nat} (h : Mv F F' (w.drewN q) w') : Mv F F' w w' := ⟨h.os, h.tape, h.output, h.size, h.block, h.foot⟩
set_option maxHeartbeats 1600000 in
theorem double_some (h : NetIs w B nb mv room ms lost) (hB : B ≤ w.heap.size) (i : Nat) (x : Int) (s : ByteArray) (hm : ms[i]? = some ⟨x, s⟩) (hl : ms.length < room) :
    Calls Try.prog 15 #[.pointer (some ⟨nb, 0, none⟩), .int .i64 (i : Nat)] w fun e w' => e = .returned (.bool true) ∧ ∃ mv', NetIs w' B nb mv' room (ms ++ [⟨x, s⟩]) lost ∧ Mv (NFt nb mv) (NFt nb mv') w w' := by
  have hi := (List.getElem?_eq_some_iff.1 hm).1
  have hrm := h.rm
  have hh := has_any h (i : Int)
  have et : decide ((0 : Int) ≤ (i : Int) ∧ (i : Int) < (ms.length : Int)) = true := by simp; omega
  rw [et] at hh
  have hf := full_any h
  have ef : decide (room ≤ ms.length) = false := by simp; omega
  rw [ef] at hf
  have HA : Hid (∀ q, Calls Try.prog 24 #[.pointer (some ⟨nb, 0, none⟩), .agg #[.int .i64 x, .string s]] (w.drewN q) fun e w' => e = .returned (.tuple #[]) ∧ ∃ mv', NetIs w' B nb mv' room (ms ++ [⟨x, s⟩]) lost ∧ Mv (NFt nb mv) (NFt nb mv') w w') := fun q =>
    (add_any (h.drewN q) hB hl x s).mono fun e w' ⟨he, mv', h1, h2⟩ => ⟨he, mv', h1, h2.drewN⟩
  obtain ⟨g, c, rfl, hc, p0, p1⟩ := h.msg hm
  have c1 := h.c1
  have hzi : (i : Int) < (ms.length : Int) := by omega
  have HC : Hid (∀ q, (w.drewN q).cell? ⟨nb, 1, none⟩ = some (.slice (some ⟨g, 0, none⟩) ms.length c) ∧ (w.drewN q).cell? ⟨g, i * 2, none⟩ = some (.int .i64 x) ∧ (w.drewN q).cell? ⟨g, i * 2 + 1, none⟩ = some (.string s)) := fun q => ⟨c1, p0, p1⟩
  generalize ms.length = n at *
  clear h et ef hi hrm hl hm p0 p1 c1
  go_enter Try.func15, Try.ntmps15
  go_wp2_with fail
  refine hh.mono ?_
  rintro e w1 ⟨rfl, e1⟩
  subst e1
  go_wp2_with fail
  refine hf.mono ?_
  rintro e w2 ⟨rfl, q, e1⟩
  obtain ⟨k1, k2, k3⟩ := HC.out q
  have ha := HA.out q
  rw [← e1] at k1 k2 k3 ha
  clear e1 HC HA hh hf
  go_wp2_with fail
  refine ha.mono ?_
  rintro e w3 ⟨rfl, hq⟩
  go_wp2_with fail
  go_ret
  exact ⟨rfl, hq⟩
theorem double_full (h : NetIs w B nb mv room ms lost) (i : Nat) (hi : i < ms.length) (hl : ¬ ms.length < room) :
    Calls Try.prog 15 #[.pointer (some ⟨nb, 0, none⟩), .int .i64 (i : Nat)] w fun e w' => e = .returned (.bool false) ∧ ∃ q, w' = w.drewN q := by
  have hh := has_any h (i : Int)
  have et : decide ((0 : Int) ≤ (i : Int) ∧ (i : Int) < (ms.length : Int)) = true := by simp; omega
  rw [et] at hh
  have hf := full_any h
  have ef : decide (room ≤ ms.length) = true := by simp; omega
  rw [ef] at hf
  clear h et ef hi hl
  go_enter Try.func15, Try.ntmps15
  go_wp2_with fail
  refine hh.mono ?_
  rintro e w1 ⟨rfl, e1⟩
  subst e1
  go_wp2_with fail
  refine hf.mono ?_
  rintro e w2 ⟨rfl, q, e1⟩
  go_wp2_with fail
  go_ret
  exact ⟨rfl, q, rfl⟩
theorem double_none (h : NetIs w B nb mv room ms lost) (i : Int) (hi : ¬ (0 ≤ i ∧ i < ms.length)) :
    Calls Try.prog 15 #[.pointer (some ⟨nb, 0, none⟩), .int .i64 i] w fun e w' => e = .returned (.bool false) ∧ w' = w := by
  have hh := has_any h i
  have et : decide ((0 : Int) ≤ (i : Int) ∧ (i : Int) < (ms.length : Int)) = false := by simp; omega
  rw [et] at hh
  clear h et hi
  go_enter Try.func15, Try.ntmps15
  go_wp2_with fail
  refine hh.mono ?_
  rintro e w1 ⟨rfl, e1⟩
  subst e1
  go_wp2
  go_ret
  exact ⟨rfl, rfl⟩

set_option maxHeartbeats 1600000 in
theorem send_some (h : NetIs w B nb mv room ms lost) (hB : B ≤ w.heap.size) (hl : ms.length < room) (x : Int) (a : Option Addr) (n c : Nat) (y : Nat → Nat) (hb : Byt w a n y) (ha : a = none → n = 0) :
    Calls Try.prog 10 #[.pointer (some ⟨nb, 0, none⟩), .int .i64 x, .slice a n c] w fun e w' => e = .returned (.bool true) ∧ ∃ mv', NetIs w' B nb mv' room (ms ++ [⟨x, strOf n y⟩]) lost ∧ Mv (NFt nb mv) (NFt nb mv') w w' := by
  have hf := full_any h
  have ef : decide (room ≤ ms.length) = false := by simp; omega
  rw [ef] at hf
  have HA : Hid (∀ q, Calls Try.prog 24 #[.pointer (some ⟨nb, 0, none⟩), .agg #[.int .i64 x, .string (strOf n y)]] (w.drewN q).drew fun e w' => e = .returned (.tuple #[]) ∧ ∃ mv', NetIs w' B nb mv' room (ms ++ [⟨x, strOf n y⟩]) lost ∧ Mv (NFt nb mv) (NFt nb mv') w w') := fun q =>
    (add_any (w := (w.drewN q).drew) (h.later (fun _ _ => rfl)) hB hl x _).mono fun e w' ⟨he, mv', h1, h2⟩ => ⟨he, mv', h1, ⟨h2.os, h2.tape, h2.output, h2.size, h2.block, h2.foot⟩⟩
  have HS : Hid (∀ q, (convert 37 9 (.slice a n c)).run Try.prog (w.drewN q).drew = .ok (.string (strOf n y)) (w.drewN q).drew) := fun q => str_byt a n c y (w.drewN q).drew hb ha
  generalize strOf n y = S at *
  clear h ef hl hb ha hB
  go_enter Try.func10, Try.ntmps10
  go_wp2_with fail
  refine hf.mono ?_
  rintro e w2 ⟨rfl, q, e1⟩
  have hs := HS.out q
  have ha := HA.out q
  rw [← e1] at hs ha
  have HA2 : Hid (Calls Try.prog 24 #[.pointer (some ⟨nb, 0, none⟩), .agg #[.int .i64 x, .string S]] w2.drew fun e w' => e = .returned (.tuple #[]) ∧ ∃ mv', NetIs w' B nb mv' room (ms ++ [⟨x, S⟩]) lost ∧ Mv (NFt nb mv) (NFt nb mv') w w') := ha
  clear e1 HS HA hf ha
  go_wp2_with fail
  go_region_law (first
    | (go_simp; go_at_call 24; refine HA2.out.mono ?_; rintro e w6 ⟨rfl, hq⟩))
  all_goals
    go_wp2_with fail
    go_ret
    exact ⟨rfl, hq⟩
theorem send_full (h : NetIs w B nb mv room ms lost) (hl : ¬ ms.length < room) (hlo : lost ≤ 1000000) (x : Int) (v : Value) :
    Calls Try.prog 10 #[.pointer (some ⟨nb, 0, none⟩), .int .i64 x, v] w fun e w' => e = .returned (.bool false) ∧ NetIs w' B nb mv room ms (lost + 1) ∧ Mv (NFt nb mv) (NFt nb mv) w w' := by
  have hf := full_any h
  have ef : decide (room ≤ ms.length) = true := by simp; omega
  rw [ef] at hf
  have HL : Hid (∀ q, Calls Try.prog 23 #[.pointer (some ⟨nb, 0, none⟩)] (w.drewN q) fun e w' => e = .returned (.tuple #[]) ∧ NetIs w' B nb mv room ms (lost + 1) ∧ Mv (NFt nb mv) (NFt nb mv) w w') := fun q =>
    (lose_any (h.drewN q) hlo).mono fun e w' ⟨he, h1, h2⟩ => ⟨he, h1, h2.drewN⟩
  clear h ef hl
  go_enter Try.func10, Try.ntmps10
  go_wp2_with fail
  refine hf.mono ?_
  rintro e w2 ⟨rfl, q, e1⟩
  have ha := HL.out q
  rw [← e1] at ha
  clear HL hf e1
  go_wp2_with fail
  refine ha.mono ?_
  rintro e w3 ⟨rfl, hq⟩
  go_wp2_with fail
  go_ret
  exact ⟨rfl, hq⟩
end
end Go.Proofs.Ytdfhdneimoimmaa

/- Package net: Take. -/
namespace Go.Proofs.Ytdfhdneimoimmaa
open Go.RowKit
set_option maxRecDepth 100000
set_option maxRecDepth 100000
section
variable {w w' : World} {B nb : Nat} {mv : Value} {room lost : Nat} {ms : List Ms}
theorem row2_alloc (w : World) (x y : Value) (t : TypeId) : (w.alloc (.cells #[x, y] t)).rowIs w.heap.size t 2 (fun i => if i = 0 then x else y) :=
  World.rowIs_alloc w _ _ _ (fun i hi => by
    match i, hi with
    | 0, _ => rfl
    | 1, _ => rfl)
theorem set2_far (w : World) (b o o' : Nat) (v v' : Value) (b' k : Nat) (h : b' ≠ b) : ((w.setCell ⟨b, o, none⟩ v).setCell ⟨b, o', none⟩ v').cell? ⟨b', k, none⟩ = w.cell? ⟨b', k, none⟩ :=
  World.cell?_of_block (a := ⟨b', k, none⟩) ((Below.heap_setCell _ _ _ _ h).trans (Below.heap_setCell _ _ _ _ h))
set_option maxHeartbeats 3200000 in
theorem take_some (h : NetIs w B nb mv room ms lost) (i : Nat) (x : Int) (s : ByteArray) (hm : ms[i]? = some ⟨x, s⟩) :
    Calls Try.prog 13 #[.pointer (some ⟨nb, 0, none⟩), .int .i64 (i : Nat)] w fun e w' => ∃ g c, e = .returned (.tuple #[.agg #[.int .i64 x, .slice (some ⟨g, 0, none⟩) s.size c], .bool true]) ∧ FlB w' g c s ∧ w.heap.size ≤ g ∧ ∃ mv', NetIs w' B nb mv' room (ms.eraseIdx i) lost ∧ Mv (NFt nb mv) (NFt nb mv') w w' := by
  have hi := (List.getElem?_eq_some_iff.1 hm).1
  obtain ⟨W0, HW0⟩ : ∃ W, Hid (w.alloc flZ = W) := ⟨_, rfl⟩
  have hz0 : W0.heap.size = w.heap.size + 1 := by rw [← HW0.out]; simp
  have hb0 : Below w.heap.size w W0 := by rw [← HW0.out]; exact (Below.refl _ _).alloc (Nat.le_refl _) _
  have hr0 := flZ_row w
  rw [HW0.out] at hr0
  have h0 : NetIs W0 B nb mv room ms lost := h.on hb0
  have hlk := look_some h0 i x s hm
  have HP : Hid (∀ (w1 W2 : World) (g c : Nat), FlB w1 g c s → W0.heap.size ≤ g → Below W0.heap.size W0 w1 → w1.alloc (.cells #[.int .i64 x, .slice (some ⟨g, 0, none⟩) s.size c] 46) = W2 →
      W2.cell? ⟨w1.heap.size, 0, none⟩ = some (.int .i64 x) ∧ W2.cell? ⟨w1.heap.size, 1, none⟩ = some (.slice (some ⟨g, 0, none⟩) s.size c) ∧ w1.heap.size ≠ w.heap.size ∧
      Hid (Calls Try.prog 12 #[.pointer (some ⟨nb, 0, none⟩), .int .i64 (i : Nat)] W2.drew fun e w5 => e = .returned (.bool true) ∧
        w5.cell? ⟨w.heap.size, 0, none⟩ = some (.int .i64 0) ∧ w5.cell? ⟨w.heap.size, 1, none⟩ = some (.slice none 0 0) ∧ w5.frozen? ⟨w.heap.size, 0, none⟩ = false ∧ w5.frozen? ⟨w.heap.size, 1, none⟩ = false ∧ w5.cell? ⟨w1.heap.size, 0, none⟩ = some (.int .i64 x) ∧ w5.cell? ⟨w1.heap.size, 1, none⟩ = some (.slice (some ⟨g, 0, none⟩) s.size c) ∧
        ∃ W6, Hid ((w5.setCell ⟨w.heap.size, 0, none⟩ (.int .i64 x)).setCell ⟨w.heap.size, 1, none⟩ (.slice (some ⟨g, 0, none⟩) s.size c) = W6) ∧ W6.cell? ⟨w.heap.size, 0, none⟩ = some (.int .i64 x) ∧ W6.cell? ⟨w.heap.size, 1, none⟩ = some (.slice (some ⟨g, 0, none⟩) s.size c) ∧
          Hid (FlB W6 g c s ∧ w.heap.size ≤ g ∧ ∃ mv', NetIs W6 B nb mv' room (ms.eraseIdx i) lost ∧ Mv (NFt nb mv) (NFt nb mv') w W6))) := by
    intro w1 W2 g c hF hg hb1 hW2
    have hz1 := hb1.size
    have hbw : Below w.heap.size w w1 := hb0.trans (hb1.mono hb0.size)
    have hb2 : Below w1.heap.size w1 W2 := by rw [← hW2]; exact (Below.refl _ _).alloc (Nat.le_refl _) _
    have hrF := row2_alloc w1 (.int .i64 x) (.slice (some ⟨g, 0, none⟩) s.size c) 46
    rw [hW2] at hrF
    have hr2 : W2.rowIs w.heap.size 46 2 (fun i => (#[Value.int .i64 0, .slice none 0 0])[i]!) := (hr0.of_block (hb1.block _ (by omega))).of_block (hb2.block _ (by omega))
    have hF2 : FlB W2 g c s := hF.on (hb2.block g hF.lt)
    have h2 : NetIs W2.drew B nb mv room ms lost := ((h0.on hb1).on hb2).later (fun _ _ => rfl)
    have hb02 : Below w.heap.size w W2 := hbw.trans (hb2.mono (by omega))
    have hz2 : W2.heap.size = w1.heap.size + 1 := by rw [← hW2]; simp
    refine ⟨hrF.cell (i := 0) (by decide), hrF.cell (i := 1) (by decide), by omega, (drop_some h2 i hi).mono fun e w5 ⟨he, mv', hN5, hM⟩ => ?_⟩
    have hk : ∀ k, w.heap.size ≤ k → k < W2.heap.size → w5.heap[k]? = W2.heap[k]? := fun k hk hk2 => hM.block k hk2 (fun hf => by have := (h.ge k hf).2; omega)
    have hr5 := hr2.of_block (hk _ (Nat.le_refl _) (by omega))
    have hrF5 := hrF.of_block (hk _ (by omega) (by omega))
    have hF5 := hF2.on (hk g (by omega) hF2.lt)
    refine ⟨he, hr5.cell (i := 0) (by decide), hr5.cell (i := 1) (by decide), hr5.frozen 0, hr5.frozen 1, hrF5.cell (i := 0) (by decide), hrF5.cell (i := 1) (by decide), _, rfl, ?_, ?_, ?_⟩
    · have := ((hr5.set 0 (.int .i64 x)).set 1 (.slice (some ⟨g, 0, none⟩) s.size c)).cell (i := 0) (by decide)
      exact this
    · have := ((hr5.set 0 (.int .i64 x)).set 1 (.slice (some ⟨g, 0, none⟩) s.size c)).cell (i := 1) (by decide)
      exact this
    · have hbk : ∀ k, k ≠ w.heap.size → ((w5.setCell ⟨w.heap.size, 0, none⟩ (.int .i64 x)).setCell ⟨w.heap.size, 1, none⟩ (.slice (some ⟨g, 0, none⟩) s.size c)).heap[k]? = w5.heap[k]? := fun k hk => (Below.heap_setCell _ _ _ _ hk).trans (Below.heap_setCell _ _ _ _ hk)
      refine ⟨hF5.on (hbk g (by omega)), by omega, mv', hN5.later (fun k hf => hbk k (fun e => ?_)), ?_, ?_, ?_, ?_, fun k hk hn => ?_, fun k hf => ?_⟩
      · rcases hM.foot k hf with q | q
        · have := (h.ge k q).2; omega
        · have : W2.heap.size ≤ k := q
          omega
      · exact hM.os.trans hb02.os
      · exact hM.tape.trans hb02.tape
      · exact hM.output.trans hb02.output
      · have : W2.heap.size ≤ w5.heap.size := hM.size
        have := hb02.size
        simp [World.setCell]; omega
      · exact (hbk k (by omega)).trans ((hM.block k (by have := hb02.size; show k < W2.heap.size; omega) hn).trans (hb02.block k hk))
      · rcases hM.foot k hf with q | q
        · exact .inl q
        · exact .inr (by have : W2.heap.size ≤ k := q; have := hb02.size; omega)
  clear h h0 hb0 hr0 hi hm hz0
  unfold flZ at HW0
  go_enter Try.func13, Try.ntmps13
  go_upto_region 1 with fail
  rw [HW0.out]
  go_wp2_with fail
  refine hlk.mono ?_
  rintro e w1 ⟨g, c, rfl, hF, hg, hb1⟩
  obtain ⟨W2, HW2⟩ : ∃ W, Hid (w1.alloc (.cells #[.int .i64 x, .slice (some ⟨g, 0, none⟩) s.size c] 46) = W) := ⟨_, rfl⟩
  obtain ⟨v0, v1, hne, HD⟩ := HP.out w1 W2 g c hF hg hb1 HW2.out
  clear HP hlk hF hb1
  go_upto_region 2 with fail
  rw [HW2.out]
  go_region_held3 (fun W => W.cell? ⟨w1.heap.size, 0, none⟩ = some (.int .i64 x) ∧ W.cell? ⟨w1.heap.size, 1, none⟩ = some (.slice (some ⟨g, 0, none⟩) s.size c))
    (first | exact ⟨v0, v1⟩ | exact ⟨y0, y1⟩ | exact ⟨(set2_far _ _ _ _ _ _ _ _ hne).trans y0, (set2_far _ _ _ _ _ _ _ _ hne).trans y1⟩)
    (first
      | (go_at_call 12; with_reducible refine HD.out.mono ?_; rintro e w5 ⟨rfl, x0, x1, z0, z1, y0, y1, W6, HW6, r0, r1, HE⟩))
  all_goals
    go_wp2
    rw [HW6.out]
    refine bodyPost_ret_by (v := .tuple #[.agg #[.int .i64 x, .slice (some ⟨g, 0, none⟩) s.size c], .bool true]) ?_ rfl ⟨g, c, rfl, HE.out⟩
    rw [results_cell_tmp rfl]
    go_simp
set_option maxHeartbeats 1600000 in
theorem take_none (h : NetIs w B nb mv room ms lost) (i : Int) (hi : ¬ (0 ≤ i ∧ i < ms.length)) :
    Calls Try.prog 13 #[.pointer (some ⟨nb, 0, none⟩), .int .i64 i] w fun e w' => e = .returned (.tuple #[.agg #[.int .i64 0, .slice none 0 0], .bool false]) ∧ Below w.heap.size w w' := by
  obtain ⟨W0, HW0⟩ : ∃ W, Hid (w.alloc flZ = W) := ⟨_, rfl⟩
  have hz0 : W0.heap.size = w.heap.size + 1 := by rw [← HW0.out]; simp
  have hb0 : Below w.heap.size w W0 := by rw [← HW0.out]; exact (Below.refl _ _).alloc (Nat.le_refl _) _
  have hr0 := flZ_row w
  rw [HW0.out] at hr0
  have h0 : NetIs W0 B nb mv room ms lost := h.on hb0
  have hlk := look_none h0 i hi
  have HP : Hid (∀ (w1 W2 : World), Below W0.heap.size W0 w1 → w1.alloc (.cells #[.int .i64 0, .slice none 0 0] 46) = W2 →
      W2.cell? ⟨w1.heap.size, 0, none⟩ = some (.int .i64 0) ∧ W2.cell? ⟨w1.heap.size, 1, none⟩ = some (.slice none 0 0) ∧ w1.heap.size ≠ w.heap.size ∧ Below w.heap.size w W2 ∧ W2.rowIs w.heap.size 46 2 (fun i => (#[Value.int .i64 0, .slice none 0 0])[i]!)) := by
    intro w1 W2 hb1 hW2
    have hz1 := hb1.size
    have hbw : Below w.heap.size w w1 := hb0.trans (hb1.mono hb0.size)
    have hb2 : Below w1.heap.size w1 W2 := by rw [← hW2]; exact (Below.refl _ _).alloc (Nat.le_refl _) _
    have hrF := row2_alloc w1 (.int .i64 0) (.slice none 0 0) 46
    rw [hW2] at hrF
    exact ⟨hrF.cell (i := 0) (by decide), hrF.cell (i := 1) (by decide), by omega, hbw.trans (hb2.mono (by omega)), (hr0.of_block (hb1.block _ (by omega))).of_block (hb2.block _ (by omega))⟩
  clear h h0 hb0 hr0 hi hz0
  unfold flZ at HW0
  go_enter Try.func13, Try.ntmps13
  go_upto_region 1 with fail
  rw [HW0.out]
  go_wp2_with fail
  refine hlk.mono ?_
  rintro e w1 ⟨rfl, hb1⟩
  obtain ⟨W2, HW2⟩ : ∃ W, Hid (w1.alloc (.cells #[.int .i64 0, .slice none 0 0] 46) = W) := ⟨_, rfl⟩
  obtain ⟨v0, v1, hne, hb2, hr2⟩ := HP.out w1 W2 hb1 HW2.out
  have q0 : (W2.cell? ⟨w.heap.size, 0, none⟩) = some (.int .i64 0) := hr2.cell (i := 0) (by decide)
  have q1 : (W2.cell? ⟨w.heap.size, 1, none⟩) = some (.slice none 0 0) := hr2.cell (i := 1) (by decide)
  have z0 := hr2.frozen 0
  have z1 := hr2.frozen 1
  clear HP hlk hb1
  go_upto_region 2 with fail
  rw [HW2.out]
  go_big_region
  all_goals
    go_wp2
    have hr3 := (hr2.set 0 (.int .i64 0)).set 1 (.slice none 0 0)
    have r0 : ((W2.setCell ⟨w.heap.size, 0, none⟩ (.int .i64 0)).setCell ⟨w.heap.size, 1, none⟩ (.slice none 0 0)).drew.cell? ⟨w.heap.size, 0, none⟩ = some (.int .i64 0) := hr3.cell (i := 0) (by decide)
    have r1 : ((W2.setCell ⟨w.heap.size, 0, none⟩ (.int .i64 0)).setCell ⟨w.heap.size, 1, none⟩ (.slice none 0 0)).drew.cell? ⟨w.heap.size, 1, none⟩ = some (.slice none 0 0) := hr3.cell (i := 1) (by decide)
    have hb3 : Below w.heap.size w ((W2.setCell ⟨w.heap.size, 0, none⟩ (.int .i64 0)).setCell ⟨w.heap.size, 1, none⟩ (.slice none 0 0)).drew := ((hb2.setCell (by simp) _).setCell (by simp) _).drew
    clear hr3 hb2 hr2
    generalize ((W2.setCell ⟨w.heap.size, 0, none⟩ (.int .i64 0)).setCell ⟨w.heap.size, 1, none⟩ (.slice none 0 0)).drew = W3 at *
    refine bodyPost_ret_by (v := .tuple #[.agg #[.int .i64 0, .slice none 0 0], .bool false]) ?_ rfl ⟨rfl, hb3⟩
    rw [results_cell_tmp rfl]
    go_simp
end
end Go.Proofs.Ytdfhdneimoimmaa
