/- Own texts, joined: Crc, Sum, Kit, Fixed, Next, Reads, VarLook, RawLook. -/
import Derived.Test.YtonpmabdjngdcaaGreatDoorRows
import Derived.WalkKit
import Derived.Deep.OwnRows
import Derived.Laws.BitsAllLaws
import Derived.Deep.LoopGhost
import Derived.Deep.Cut
import Derived.Deep.Light
import Derived.Deep.CutRange
import Derived.CellFam
import Derived.BigGuard
import Derived.Lib.SlBytesConst
import Derived.BigQuiet
import Derived.BigRegion
import Derived.Deep.RegionWith
import Derived.Deep.QuietTactic
import Derived.Laws.IdiomCopy
import Derived.Deep.RegionHeld3

/- Plain facts on the check sum by four bits at a time: it is linear under exclusive or. -/
namespace Go.Proofs.YtonpmabdjngdcaaGreatDoor.Crc
def tab : List Int := [0, 498536548, 997073096, 651767980, 1994146192, 1802195444, 1303535960, 1342533948, 3988292384, 4027552580, 3604390888, 3412177804, 2607071920, 2262029012, 2685067896, 3183342108]
def T (i : Nat) : Nat := (tab.getD i 0).toNat
def half (s : Nat) : Nat := (s / 16) ^^^ T (s % 16)
def byte (s c : Nat) : Nat := half (half (s ^^^ c))
def fold (s : Nat) (l : List Nat) : Nat := l.foldl byte s
def sum (l : List Nat) : Nat := fold 4294967295 l ^^^ 4294967295

theorem T_lt (i : Nat) : T i < 4294967296 := by
  unfold T
  rcases Nat.lt_or_ge i 16 with h | h
  · have : ∀ i : Fin 16, (tab.getD i.val 0).toNat < 4294967296 := by decide +kernel
    exact this ⟨i, h⟩
  · have e : tab.getD i 0 = 0 := by
      rw [List.getD_eq_getElem?_getD, List.getElem?_eq_none (by exact h)]; rfl
    rw [e]; decide
theorem T_xor16 : ∀ a b : Fin 16, T (a.val ^^^ b.val) = T a.val ^^^ T b.val := by decide +kernel
theorem T_xor (a b : Nat) (ha : a < 16) (hb : b < 16) : T (a ^^^ b) = T a ^^^ T b := T_xor16 ⟨a, ha⟩ ⟨b, hb⟩
theorem half_lt (s : Nat) (h : s < 4294967296) : half s < 4294967296 :=
  Nat.xor_lt_two_pow (n := 32) (by show s / 16 < 4294967296; omega) (T_lt _)
theorem byte_lt (s c : Nat) (h : s < 4294967296) (hc : c < 4294967296) : byte s c < 4294967296 :=
  half_lt _ (half_lt _ (Nat.xor_lt_two_pow (n := 32) h hc))
theorem xor_div16 (a b : Nat) : (a ^^^ b) / 16 = (a / 16) ^^^ (b / 16) := by
  have := Nat.shiftRight_xor_distrib (a := a) (b := b) (i := 4)
  simpa [Nat.shiftRight_eq_div_pow] using this
theorem xor_mod16 (a b : Nat) : (a ^^^ b) % 16 = (a % 16) ^^^ (b % 16) := by
  simpa using Nat.xor_mod_two_pow (a := a) (b := b) (n := 4)
theorem xor4 (a b c d : Nat) : (a ^^^ b) ^^^ (c ^^^ d) = (a ^^^ c) ^^^ (b ^^^ d) := by
  rw [Nat.xor_assoc, Nat.xor_assoc]; congr 1; rw [← Nat.xor_assoc, ← Nat.xor_assoc, Nat.xor_comm b c]
theorem half_xor (a b : Nat) : half (a ^^^ b) = half a ^^^ half b := by
  unfold half
  rw [xor_div16, xor_mod16, T_xor _ _ (Nat.mod_lt _ (by decide)) (Nat.mod_lt _ (by decide)), xor4]
theorem byte_xor (a b c d : Nat) : byte (a ^^^ b) (c ^^^ d) = byte a c ^^^ byte b d := by
  unfold byte; rw [xor4, half_xor, half_xor]
theorem fold_snoc (s : Nat) (l : List Nat) (c : Nat) : fold s (l ++ [c]) = byte (fold s l) c := by
  unfold fold; rw [List.foldl_append]; rfl
theorem fold_lt (s : Nat) (l : List Nat) (h : s < 4294967296) (hl : ∀ c, c ∈ l → c < 256) : fold s l < 4294967296 := by
  induction l generalizing s with
  | nil => exact h
  | cons c r ih =>
    exact ih (byte s c) (byte_lt _ _ h (by have := hl c (by simp); omega)) (fun d hd => hl d (by simp [hd]))
theorem sum_lt (l : List Nat) (hl : ∀ c, c ∈ l → c < 256) : sum l < 4294967296 :=
  Nat.xor_lt_two_pow (n := 32) (fold_lt _ _ (by decide) hl) (by decide)
def mix (a b : List Nat) : List Nat := List.zipWith (fun x y => x ^^^ y) a b
theorem fold_mix (s t : Nat) (a b : List Nat) (h : a.length = b.length) : fold (s ^^^ t) (mix a b) = fold s a ^^^ fold t b := by
  induction a generalizing s t b with
  | nil => cases b with
    | nil => rfl
    | cons _ _ => simp at h
  | cons x a ih => cases b with
    | nil => simp at h
    | cons y b =>
      show fold (byte (s ^^^ t) (x ^^^ y)) (mix a b) = fold (byte s x) a ^^^ fold (byte t y) b
      rw [byte_xor]; exact ih _ _ _ (by simpa using h)
theorem sum_mix3 (a b c : List Nat) (h1 : a.length = b.length) (h2 : a.length = c.length) :
    sum (mix (mix a b) c) = sum a ^^^ sum b ^^^ sum c := by
  unfold sum
  have e : (4294967295 : Nat) = (4294967295 ^^^ 4294967295) ^^^ 4294967295 := by decide
  have hm : (mix a b).length = c.length := by unfold mix; rw [List.length_zipWith]; omega
  have h := fold_mix (4294967295 ^^^ 4294967295) 4294967295 (mix a b) c hm
  rw [← e, fold_mix _ _ a b h1] at h
  rw [h]
  generalize fold 4294967295 a = A
  generalize fold 4294967295 b = B
  generalize fold 4294967295 c = C
  have k : (A ^^^ 4294967295) ^^^ (B ^^^ 4294967295) = A ^^^ B := by
    rw [xor4, Nat.xor_self, Nat.xor_zero]
  rw [k, Nat.xor_assoc]
end Go.Proofs.YtonpmabdjngdcaaGreatDoor.Crc

/- The walk of code.Sum: on any bytes it answers the check sum that the plain text reckons, and leaves the world as it is. -/
namespace Go.Proofs.YtonpmabdjngdcaaGreatDoor
open Go.RowKit

theorem hide {p : Prop} (h : p) : Hid p := h
theorem unhide {p : Prop} (h : Hid p) : p := h
/-- What holds below a number holds below every smaller one. -/
theorem since_mono {B B' : Nat} {w w' : World} (h : w.Since B w') (hB : B' ≤ B) : w.Since B' w' := ⟨h.os, h.tape, h.output, h.size, fun k hk => h.block k (by omega)⟩

def halves : Nat → Nat → Nat
  | 0, s => s
  | j + 1, s => Crc.half (halves j s)

theorem halves_lt (j s : Nat) (h : s < 4294967296) : halves j s < 4294967296 := by
  induction j with
  | zero => exact h
  | succ j ih => exact Crc.half_lt _ ih

theorem ret_u32 {a b : Int} (h : a = b) : Ending.returned (.int .u32 a) = .returned (.int .u32 b) := by rw [h]
theorem flip_sum (l : List Nat) (h : Crc.fold 4294967295 l < 4294967296) : bits .xor .u32 IntKind.u32.max (Crc.fold 4294967295 l : Nat) = ((Crc.sum l : Nat) : Int) := by
  have e : IntKind.u32.max = ((4294967295 : Nat) : Int) := by decide
  rw [e, u32_xor_nat _ _ (by decide) h, Nat.xor_comm]; rfl

theorem sum_any (b off len cap : Nat) (zs : List Nat) (w : World) (hz : zs.length = len) (hmax : len ≤ 9223372036854775807)
    (hc : ∀ j, j < len → w.cell? ⟨b, off + j, none⟩ = some (.int .u8 (zs.getD j 0 : Nat))) (hr : ∀ j : Nat, zs.getD j 0 < 256)
    (ht : ∀ i, i < 16 → w.cell? ⟨0, i, none⟩ = some (.int .u32 (Crc.T i : Nat))) :
    Calls Tryz.prog 38 #[.slice (some ⟨b, off, none⟩) len cap] w fun e w' => e = .returned (.int .u32 (Crc.sum zs : Nat)) ∧ w' = w := by
  go_enter Tryz.func38, Tryz.ntmps38
  go_wp2
  go_loop [3, 8] (fun t i => ∃ (k : Nat), k ≤ len ∧ i = .int .i64 k ∧ t = .int .u32 (Crc.fold 4294967295 (zs.take k) : Nat)) (fun _ i => len - (intOf i).toNat)
  case atStart => exact ⟨0, by omega, rfl, rfl⟩
  case round =>
    obtain ⟨k, hk, rfl, rfl⟩ := hrel
    have hS : Crc.fold 4294967295 (zs.take k) < 4294967296 := Crc.fold_lt _ _ (by decide) (fun c hc => by
      obtain ⟨j, hj, rfl⟩ := List.mem_iff_getElem.1 (List.mem_of_mem_take hc)
      have := hr j; rwa [List.getD_eq_getElem?_getD, List.getElem?_eq_getElem hj] at this)
    by_cases hlt : k < len
    · have hcell : w.cell? ⟨b, off + k, none⟩ = some (.int .u8 (zs.getD k 0 : Nat)) := hc k hlt
      have hrk := hr k
      have HS : Hid (Crc.fold 4294967295 (zs.take (k + 1)) = Crc.byte (Crc.fold 4294967295 (zs.take k)) (zs.getD k 0)) := by
        show _ = _
        rw [List.take_succ_eq_append_getElem (by omega), Crc.fold_snoc]; simp [List.getD, hz, hlt]
      generalize Crc.fold 4294967295 (zs.take k) = S at *
      generalize zs.getD k 0 = c at *
      clear hc hr
      have hx : bits .xor .u32 (S : Int) (c : Int) = ((S ^^^ c : Nat) : Int) := u32_xor_nat S c hS (by omega)
      have hM : S ^^^ c < 4294967296 := Nat.xor_lt_two_pow (n := 32) hS (by omega)
      go_wp2
      have HB : Hid (Crc.byte S c = halves 2 (S ^^^ c)) := rfl
      generalize S ^^^ c = X at *
      clear hx
      go_loop [3, 16] (fun t i => ∃ (j : Nat), j ≤ 2 ∧ i = .int .i64 j ∧ t = .int .u32 (halves j X : Nat)) (fun _ i => 2 - (intOf i).toNat)
      case atStart => exact ⟨0, by omega, rfl, rfl⟩
      case round =>
        obtain ⟨j, hj, rfl, rfl⟩ := hrel
        have hH : halves j X < 4294967296 := halves_lt j X hM
        by_cases hj2 : j < 2
        · have HN : Hid (halves (j + 1) X = Crc.half (halves j X)) := rfl
          generalize halves j X = M at *
          have ha : bits .and .u32 (M : Int) 15 = ((M % 16 : Nat) : Int) := by
            have := u32_and_nat M 15 hH (by decide); rw [nat_mask4] at this; exact this
          have hT := ht (M % 16) (Nat.mod_lt _ (by decide))
          have hl := Crc.T_lt (M % 16)
          have hy : bits .xor .u32 ((M : Int) / 16) ((Crc.T (M % 16) : Nat) : Int) = ((Crc.half M : Nat) : Int) := by
            rw [show ((M : Int) / 16) = ((M / 16 : Nat) : Int) by omega]; exact u32_xor_nat _ _ (by omega) hl
          generalize Crc.T (M % 16) = TT at *
          go_wp2
          go_round
          case rel => exact ⟨j + 1, by omega, by go_num, by rw [HN.out]⟩
          case measure => simp [intOf]; omega
        · go_wp2
          go_round
          case rel => exact ⟨k + 1, by omega, by go_num, by rw [HS.out, HB.out, show j = 2 by omega]⟩
          case measure => simp [intOf]; omega
    · go_wp2
      go_ret
      have e : zs.take k = zs := List.take_of_length_le (by omega)
      exact ⟨ret_u32 (by rw [e]; exact flip_sum zs (e ▸ hS)), rfl⟩

/-- A slice of length 0, a nil one too. -/
theorem sum_empty (a : Option Addr) (cap : Nat) (w : World) :
    Calls Tryz.prog 38 #[.slice a 0 cap] w fun e w' => e = .returned (.int .u32 (Crc.sum [] : Nat)) ∧ w' = w := by
  go_enter Tryz.func38, Tryz.ntmps38
  go_wp2
  refine wp_loop_rounds 1 ?_
  rw [rounds_succ]
  go_wp2
  go_ret
  exact ⟨ret_u32 (flip_sum [] (by decide)), rfl⟩

/-- Both at once. -/
theorem sum_all (a : Option Addr) (len cap : Nat) (zs : List Nat) (w : World) (hz : zs.length = len) (hmax : len ≤ 9223372036854775807)
    (hc : ∀ j, j < len → ∃ b off, a = some ⟨b, off, none⟩ ∧ w.cell? ⟨b, off + j, none⟩ = some (.int .u8 (zs.getD j 0 : Nat))) (hr : ∀ j : Nat, zs.getD j 0 < 256)
    (ht : ∀ i, i < 16 → w.cell? ⟨0, i, none⟩ = some (.int .u32 (Crc.T i : Nat))) :
    Calls Tryz.prog 38 #[.slice a len cap] w fun e w' => e = .returned (.int .u32 (Crc.sum zs : Nat)) ∧ w' = w := by
  by_cases h0 : len = 0
  · subst h0
    obtain rfl := List.eq_nil_of_length_eq_zero hz
    exact sum_empty a cap w
  · obtain ⟨b, off, rfl, _⟩ := hc 0 (by omega)
    refine sum_any b off len cap zs w hz hmax (fun j hj => ?_) hr ht
    obtain ⟨b', off', e, hcell⟩ := hc j hj
    cases e; exact hcell
end Go.Proofs.YtonpmabdjngdcaaGreatDoor

/- Small laws on rows of bytes that the walks of this seat share; the walk of tallyref0.Copy. -/
namespace Go.Proofs.YtonpmabdjngdcaaGreatDoor
open Go.RowKit

theorem Tryz.info5 : (Tryz.prog.info? 5).map (fun i => (i.zero, i.size, i.bytes)) = some (some (.int .u8 0), 1, 1) := by kernel_rfl
theorem Tryz.size5 : (Tryz.prog.info? 5).map (·.size) = some 1 := by kernel_rfl

/-- A slice's cells hold these bytes. -/
def Byt (w : World) (a : Option Addr) (len : Nat) (x : Nat → Nat) : Prop := ∀ j, j < len → ∃ b off, a = some ⟨b, off, none⟩ ∧ w.cell? ⟨b, off + j, none⟩ = some (.int .u8 (x j : Nat))

theorem Byt.since {w w' : World} {a : Option Addr} {len : Nat} {x : Nat → Nat} (h : Byt w a len x) (hs : w.Since w.heap.size w') : Byt w' a len x := fun j hj => by
  obtain ⟨b, off, e, hc⟩ := h j hj
  exact ⟨b, off, e, by rw [hs.cell (a := ⟨b, off + j, none⟩) (World.block_lt_of_cell? _ _ hc)]; exact hc⟩
theorem Byt.of_row {w : World} {b t n : Nat} {x : Nat → Nat} (h : w.rowIs b t n (fun j => .int .u8 (x j : Nat))) : Byt w (some ⟨b, 0, none⟩) n x := fun j hj =>
  ⟨b, 0, rfl, by have := h.cell hj; simpa using this⟩
theorem Byt.drewN {w : World} {a : Option Addr} {len : Nat} {x : Nat → Nat} (h : Byt w a len x) (n : Nat) : Byt (w.drewN n) a len x := fun j hj => h j hj
theorem Byt.le {w : World} {a : Option Addr} {len m : Nat} {x : Nat → Nat} (h : Byt w a len x) (hm : m ≤ len) : Byt w a m x := fun j hj => h j (by omega)

theorem getD_range_map (f : Nat → Nat) (n j : Nat) (h : j < n) : ((List.range n).map f).getD j 0 = f j := by
  simp [List.getD, h]
theorem lt_range_map (f : Nat → Nat) (n j : Nat) (h : ∀ i, f i < 256) : ((List.range n).map f).getD j 0 < 256 := by
  by_cases hj : j < n
  · rw [getD_range_map f n j hj]; exact h j
  · simp [List.getD, hj]
theorem sum_range_lt (n : Nat) (x : Nat → Nat) (h : ∀ i, x i < 256) : Crc.sum ((List.range n).map x) < 4294967296 :=
  Crc.sum_lt _ (fun c hc => by obtain ⟨j, _, rfl⟩ := List.mem_map.1 hc; exact h j)
/-- code.Sum OF A SLICE THAT HOLDS THESE BYTES. -/
theorem sum_byt (a : Option Addr) (len cap : Nat) (x : Nat → Nat) (w : World) (hmax : len ≤ 9223372036854775807) (hc : Byt w a len x) (hr : ∀ j, x j < 256)
    (ht : ∀ i, i < 16 → w.cell? ⟨0, i, none⟩ = some (.int .u32 (Crc.T i : Nat))) :
    Calls Tryz.prog 38 #[.slice a len cap] w fun e w' => e = .returned (.int .u32 (Crc.sum ((List.range len).map x) : Nat)) ∧ w' = w :=
  sum_all a len cap _ w (by simp) hmax (fun j hj => by rw [getD_range_map x len j hj]; exact hc j hj) (fun j => lt_range_map x len j hr) ht

theorem since_setCells {B b : Nat} {w : World} (hb : B ≤ b) : ∀ (vs : List Value) (o : Nat) (w' : World), w.Since B w' → w.Since B (w'.setCells b o vs)
  | [], _, _, h => h
  | v :: r, o, _, h => since_setCells hb r (o + 1) _ (h.setCell (a := ⟨b, o, none⟩) hb v)
theorem size_setCells (b : Nat) : ∀ (vs : List Value) (o : Nat) (w : World), (w.setCells b o vs).heap.size = w.heap.size
  | [], _, _ => rfl
  | v :: r, o, w => by rw [World.setCells, size_setCells b r (o + 1)]; simp [World.setCell]
theorem rowIs_setCells {b t n : Nat} : ∀ (vs : List Value) (o : Nat) (w : World) (f : Nat → Value), w.rowIs b t n f → (w.setCells b o vs).rowIs b t n (fun j => if o ≤ j ∧ j < o + vs.length then vs.getD (j - o) undef else f j)
  | [], o, w, f, h => h.congr (fun i _ => by simp; omega)
  | v :: r, o, w, f, h => by
    refine (rowIs_setCells r (o + 1) _ _ (h.set o v)).congr (fun i _ => ?_)
    by_cases e : i = o
    · subst e
      rw [if_neg (by omega), if_pos rfl, if_pos (by simp)]; simp
    · by_cases hin : o + 1 ≤ i ∧ i < o + 1 + r.length
      · rw [if_pos hin, if_pos (by simp; omega)]
        rw [show i - o = (i - (o + 1)) + 1 by omega]; simp
      · rw [if_neg hin, if_neg e, if_neg (by simp; omega)]

/-- tallyref0.Copy: the same bytes in new memory. -/
theorem copy_any (a : Option Addr) (len cap : Nat) (x : Nat → Nat) (w : World) (hmax : len ≤ 281474976710656) (hc : Byt w a len x) :
    Calls Tryz.prog 15 #[.slice a len cap] w fun e w' => e = .returned (.slice (some ⟨w.heap.size, 0, none⟩) len len) ∧ w.Since w.heap.size w' ∧ w'.heap.size = w.heap.size + 1 ∧ w'.rowIs w.heap.size 5 len (fun j => .int .u8 (x j : Nat)) := by
  have hmk := run_make_row' (P := Tryz.prog) 32 5 (.int .u8 0) 1 Tryz.underlying32 Tryz.info5 rfl .i64 .i64 len (by omega) (by omega)
  have hs0 : w.Since w.heap.size (w.alloc (.cells (madeCells #[.int .u8 0] len) 5)) := (World.Since.refl _ _).alloc (Nat.le_refl _) _
  have hr0 := World.rowIs_made w (.int .u8 0) len 5
  have hz0 : (w.alloc (.cells (madeCells #[.int .u8 0] len) 5)).heap.size = w.heap.size + 1 := by simp
  generalize hW : w.alloc (.cells (madeCells #[.int .u8 0] len) 5) = W at *
  rcases Nat.eq_zero_or_pos len with rfl | hp
  · have hcp := run_copy_none (P := Tryz.prog) W 32 32 3 5 (some ⟨w.heap.size, 0, none⟩) a 0 0 0 cap Tryz.underlying32 Tryz.size5 (by simp)
    have hmk0 : (Instr.makeSlice 32 (.int .i64 0) (.int .i64 0)).run Tryz.prog w = .ok (.slice (some ⟨w.heap.size, 0, none⟩) 0 0) W := by rw [← hW]; simpa using hmk w
    clear hmk hW
    go_enter Tryz.func15, Tryz.ntmps15
    go_wp2
    go_ret
    exact ⟨rfl, hs0, hz0, hr0.congr (fun j hj => by omega)⟩
  · obtain ⟨b, off, rfl, _⟩ := hc 0 hp
    have hc' : ∀ j, j < len → w.cell? ⟨b, off + j, none⟩ = some (.int .u8 (x j : Nat)) := fun j hj => by obtain ⟨b', off', e, hh⟩ := hc j hj; cases e; exact hh
    have hcp := run_copy_cells (P := Tryz.prog) W 32 32 3 5 w.heap.size 0 len len ⟨b, off, none⟩ len cap ((List.range len).map fun j => .int .u8 (x j : Nat)) Tryz.underlying32 Tryz.size5 (by simp)
      (fun j v hv => by
        have hj : j < len := by have := (List.getElem?_eq_some_iff.1 hv).1; simpa using this
        have : v = .int .u8 (x j : Nat) := by rw [List.getElem?_map, List.getElem?_range hj] at hv; simpa using hv.symm
        rw [this, show (⟨b, off, none⟩ : Addr).add j = ⟨b, off + j, none⟩ by simp [Addr.add], hs0.cell (a := ⟨b, off + j, none⟩) (World.block_lt_of_cell? _ _ (hc' j hj))]
        exact hc' j hj)
      (fun j hj => by rw [Nat.zero_add, hr0.cell (by simpa using hj)]; rfl) (fun j _ => by rw [Nat.zero_add]; exact hr0.frozen j) (fun v hv => by obtain ⟨j, _, rfl⟩ := List.mem_map.1 hv; rfl)
    have hend : w.Since w.heap.size (W.setCells w.heap.size 0 ((List.range len).map fun j => .int .u8 (x j : Nat))) ∧ (W.setCells w.heap.size 0 ((List.range len).map fun j => .int .u8 (x j : Nat))).heap.size = w.heap.size + 1 ∧
        (W.setCells w.heap.size 0 ((List.range len).map fun j => .int .u8 (x j : Nat))).rowIs w.heap.size 5 len (fun j => .int .u8 (x j : Nat)) :=
      ⟨since_setCells (Nat.le_refl _) _ _ _ hs0, by rw [size_setCells]; exact hz0, (rowIs_setCells _ 0 _ _ hr0).congr (fun j hj => by
        rw [if_pos (by simp; exact hj)]; simp [List.getD, hj])⟩
    have hmk1 : (Instr.makeSlice 32 (.int .i64 len) (.int .i64 len)).run Tryz.prog w = .ok (.slice (some ⟨w.heap.size, 0, none⟩) len len) W := by rw [← hW]; exact hmk w
    clear hmk hW
    generalize W.setCells w.heap.size 0 ((List.range len).map fun j => .int .u8 (x j : Nat)) = W2 at *
    go_enter Tryz.func15, Tryz.ntmps15
    go_wp2
    go_ret
    exact ⟨rfl, hend⟩
end Go.Proofs.YtonpmabdjngdcaaGreatDoor

/- The walks of package code's lookFixed, look (of the kinds of fixed size), fail and next. -/
namespace Go.Proofs.YtonpmabdjngdcaaGreatDoor
open Go.RowKit

/-- The number that the first i bytes tell, the highest first. -/
def be (z : Nat → Nat) : Nat → Nat
  | 0 => 0
  | i + 1 => be z i * 256 + z i
theorem be_lt (z : Nat → Nat) (hz : ∀ j, z j < 256) : ∀ i, be z i < 256 ^ i
  | 0 => by show 0 < 1; decide
  | i + 1 => by
    have h1 := be_lt z hz i
    have h2 := hz i
    show be z i * 256 + z i < 256 ^ (i + 1)
    rw [Nat.pow_succ]
    omega
theorem be_lt64 (z : Nat → Nat) (hz : ∀ j, z j < 256) (i : Nat) (hi : i ≤ 8) : be z i < 18446744073709551616 :=
  Nat.lt_of_lt_of_le (be_lt z hz i) (by
    have := Nat.pow_le_pow_right (n := 256) (by decide) hi
    exact this)
theorem or_byte (n c : Nat) (hc : c < 256) : n * 256 ||| c = n * 256 + c := nat_join 8 (n * 256) c (by simp [Nat.mul_mod_left]) hc

/-- An empty item; an item. -/
abbrev item0 : Value := .agg #[.int .u64 0, .slice none 0 0, .int .i64 0]

/-- The cells of an item. -/
def itemCell (n : Nat) (a : Option Addr) (l : Nat) (size : Nat) : Nat → Value
  | 0 => .int .u64 n
  | 1 => .slice a l l
  | _ => .int .i64 size
/-- i bytes have been taken in. -/
structure Fx (w wx : World) (z : Nat → Nat) (width i : Nat) : Prop where
  since : w.Since w.heap.size wx
  size : wx.heap.size = w.heap.size + 2
  out : wx.rowIs w.heap.size 137 3 (itemCell 0 none 0 0)
  cur : wx.rowIs (w.heap.size + 1) 137 3 (itemCell (be z i) none 0 width)
theorem item_row (w : World) (n : Nat) (a : Option Addr) (l size : Nat) : (w.alloc (.cells #[.int .u64 n, .slice a l l, .int .i64 size] 137)).rowIs w.heap.size 137 3 (itemCell n a l size) :=
  World.rowIs_alloc w #[.int .u64 n, .slice a l l, .int .i64 size] 137 _ (fun i hi => by
    match i, hi with
    | 0, _ => rfl
    | 1, _ => rfl
    | 2, _ => rfl)
theorem fx_start (w : World) (z : Nat → Nat) (width : Nat) : Fx w ((w.alloc (.cells #[.int .u64 0, .slice none 0 0, .int .i64 0] 137)).alloc (.cells #[.int .u64 0, .slice none 0 0, .int .i64 width] 137)) z width 0 :=
  ⟨((World.Since.refl _ _).alloc (Nat.le_refl _) _).alloc (by simp) _, by simp, (item_row w 0 none 0 0).alloc _, by
    have h := item_row (w.alloc (.cells #[.int .u64 0, .slice none 0 0, .int .i64 0] 137)) 0 none 0 width
    rw [show (w.alloc (.cells #[.int .u64 0, .slice none 0 0, .int .i64 0] 137)).heap.size = w.heap.size + 1 by simp] at h
    exact h⟩
theorem fx_step {w wx : World} {z : Nat → Nat} {width i : Nat} (h : Fx w wx z width i) : Fx w (wx.setCell ⟨w.heap.size + 1, 0, none⟩ (.int .u64 (be z (i + 1) : Nat))).drew z width (i + 1) :=
  ⟨(h.since.setCell (by show w.heap.size ≤ w.heap.size + 1; omega) _).drew, by simp [h.size], (h.out.setOther (by show w.heap.size ≠ w.heap.size + 1; omega) _).drew, ((h.cur.set 0 _).congr (fun j hj => by
    match j, hj with
    | 0, _ => rfl
    | 1, _ => rfl
    | 2, _ => rfl)).drew⟩

set_option maxHeartbeats 800000 in
theorem lookFixed_short (a : Option Addr) (len cap width : Nat) (w : World) (hs : len < width) :
    Calls Tryz.prog 165 #[.slice a len cap, .int .i64 width] w fun e w' => e = .returned (.tuple #[item0, .int .i64 10]) ∧ w.Since w.heap.size w' := by
  go_enter Tryz.func165, Tryz.ntmps165
  go_wp2
  exact bodyPost_ret (v := .tuple #[item0, .int .i64 10]) (by simp [results, Tryz.results165, go_sem]) rfl ⟨rfl, (World.Since.refl _ _).alloc (Nat.le_refl _) _⟩

set_option maxHeartbeats 1600000 in
theorem lookFixed_ok (b off len cap width : Nat) (z : Nat → Nat) (w : World) (hw : width ≤ 8) (hs : width ≤ len) (hl : len ≤ 281474976710656) (hc : ∀ j, j < len → w.cell? ⟨b, off + j, none⟩ = some (.int .u8 (z j : Nat))) (hz : ∀ j, z j < 256) (hlt : b < w.heap.size) :
    Calls Tryz.prog 165 #[.slice (some ⟨b, off, none⟩) len cap, .int .i64 width] w fun e w' => e = .returned (.tuple #[.agg #[.int .u64 (be z width : Nat), .slice none 0 0, .int .i64 width], .int .i64 0]) ∧ w.Since w.heap.size w' := by
  go_enter Tryz.func165, Tryz.ntmps165
  go_wp2_with fail
  have hF0 := fx_start w z width
  go_loopg [16] width (fun g s16 wx => ∃ i : Nat, i ≤ width ∧ g = width - i ∧ s16 = .int .i64 i ∧ Fx w wx z width i)
  case atStart => exact ⟨0, Nat.zero_le _, rfl, rfl, hF0⟩
  case round =>
    obtain ⟨i, hi, rfl, rfl, hF⟩ := hrel
    clear hF0
    by_cases hlt' : i < width
    · have hiz : (i : Int) < (width : Int) := by omega
      have hil : (i : Int) < (len : Int) := by omega
      have t0 : wr.cell? ⟨b, off + i, none⟩ = some (.int .u8 (z i : Nat)) := by rw [hF.since.cell (a := ⟨b, off + i, none⟩) hlt]; exact hc i (by omega)
      have t1 : wr.cell? ⟨w.heap.size + 1, 0, none⟩ = some (.int .u64 (be z i : Nat)) := hF.cur.cell (by decide)
      have t2 : wr.frozen? ⟨w.heap.size + 1, 0, none⟩ = false := hF.cur.frozen 0
      have b1 := be_lt64 z hz (i + 1) (by omega)
      have b2 := hz i
      have e1 : be z (i + 1) = be z i * 256 + z i := rfl
      have hst := fx_step hF
      have hor : bits .or .u64 ((be z i : Int) * 256) (z i : Int) = ((be z (i + 1) : Nat) : Int) := by
        have := u64_or_nat (be z i * 256) (z i) (by omega) (by omega)
        rw [or_byte _ _ b2] at this
        rw [e1]; simpa using this
      have b3 : be z i * 256 < 18446744073709551616 := by omega
      clear e1 hc hF
      generalize be z (i + 1) = N1 at *
      generalize be z i = N at *
      generalize z i = c at *
      go_wp2_with fail
      go_big_region
      go_wp2
      go_roundg (width - (i + 1))
      case measure => go_light; omega
      case rel => go_light; exact ⟨i + 1, by omega, rfl, by simp, hst⟩
    · obtain rfl : i = width := by omega
      have o0 : wr.cell? ⟨w.heap.size, 0, none⟩ = some (.int .u64 0) := hF.out.cell (by decide)
      have o1 : wr.cell? ⟨w.heap.size, 1, none⟩ = some (.slice none 0 0) := hF.out.cell (by decide)
      have o2 : wr.cell? ⟨w.heap.size, 2, none⟩ = some (.int .i64 0) := hF.out.cell (by decide)
      have p0 := hF.out.frozen 0
      have p1 := hF.out.frozen 1
      have p2 := hF.out.frozen 2
      have k0 : wr.cell? ⟨w.heap.size + 1, 0, none⟩ = some (.int .u64 (be z i : Nat)) := hF.cur.cell (by decide)
      have k1 : wr.cell? ⟨w.heap.size + 1, 1, none⟩ = some (.slice none 0 0) := hF.cur.cell (by decide)
      have k2 : wr.cell? ⟨w.heap.size + 1, 2, none⟩ = some (.int .i64 i) := hF.cur.cell (by decide)
      have hsn := hF.since
      clear hF hc
      go_wp2_with fail
      refine bodyPost_ret (v := .tuple #[.agg #[.int .u64 (be z i : Nat), .slice none 0 0, .int .i64 i], .int .i64 0]) (by simp [results, Tryz.results165, go_sem, o0, o1, o2]) rfl ⟨rfl, ?_⟩
      exact ((hsn.setCell (a := ⟨w.heap.size, 0, none⟩) (Nat.le_refl _) _).setCell (a := ⟨w.heap.size, 1, none⟩) (Nat.le_refl _) _).setCell (a := ⟨w.heap.size, 2, none⟩) (Nat.le_refl _) _

/-- The table of widths. -/
def Wid (w : World) : Prop := w.cell? ⟨2, 0, none⟩ = some (.int .i64 1) ∧ w.cell? ⟨2, 1, none⟩ = some (.int .i64 4) ∧ w.cell? ⟨2, 2, none⟩ = some (.int .i64 8)
def widthOf : Nat → Nat
  | 0 => 1
  | 1 => 4
  | _ => 8
theorem Wid.at {w : World} (h : Wid w) (k : Nat) (hk : k ≤ 2) : w.cell? ⟨2, k, none⟩ = some (.int .i64 (widthOf k : Nat)) := by
  match k, hk with
  | 0, _ => exact h.1
  | 1, _ => exact h.2.1
  | 2, _ => exact h.2.2
theorem Wid.since {w w' : World} (h : Wid w) (hs : w.Since w.heap.size w') : Wid w' := by
  have hlt := World.block_lt_of_cell? _ _ h.1
  exact ⟨by rw [hs.cell (a := ⟨2, 0, none⟩) hlt]; exact h.1, by rw [hs.cell (a := ⟨2, 1, none⟩) hlt]; exact h.2.1, by rw [hs.cell (a := ⟨2, 2, none⟩) hlt]; exact h.2.2⟩
theorem widthOf_le (k : Nat) : widthOf k ≤ 8 := by
  match k with
  | 0 => decide
  | 1 => decide
  | _ + 2 => exact Nat.le_refl _

theorem row_since {w w' : World} {b t n : Nat} {f : Nat → Value} (h : w.rowIs b t n f) (hs : w.Since w.heap.size w') : w'.rowIs b t n f := h.of_block (hs.block b h.lt)
/-- The result's cells, behind a callee. -/
theorem item0_cells {w w1 : World} (hs : (w.alloc (.cells #[.int .u64 0, .slice none 0 0, .int .i64 0] 137)).Since (w.heap.size + 1) w1) :
    w1.rowIs w.heap.size 137 3 (itemCell 0 none 0 0) := row_since (item_row w 0 none 0 0) (by simpa using hs)

/-- look OF A KIND OF FIXED SIZE. -/
theorem look_fixed_short (k : Nat) (a : Option Addr) (len cap : Nat) (bound : Int) (w : World) (hk : k ≤ 2) (hw : Wid w) (hs : len < widthOf k) :
    Calls Tryz.prog 140 #[.int .i64 k, .slice a len cap, .int .u64 bound] w fun e w' => e = .returned (.tuple #[item0, .int .i64 10]) ∧ w.Since w.heap.size w' := by
  have hc := hw.at k hk
  have hlt := World.block_lt_of_cell? _ _ hc
  have q3 : ((k : Int) == 3) = false := by simp; omega
  have q4 : ((k : Int) == 4) = false := by simp; omega
  have q5 : ((k : Int) == 5) = false := by simp; omega
  have kz : (k : Int) < 3 := by omega
  go_enter Tryz.func140, Tryz.ntmps140
  go_wp2_with fail
  refine (lookFixed_short a len cap (widthOf k) _ hs).mono ?_
  rintro e w1 ⟨rfl, h1⟩
  have hsz : (w.alloc (.cells #[.int .u64 0, .slice none 0 0, .int .i64 0] 137)).heap.size = w.heap.size + 1 := by simp
  rw [hsz] at h1
  have ho := item0_cells h1
  have o0 : w1.cell? ⟨w.heap.size, 0, none⟩ = some (.int .u64 0) := ho.cell (by decide)
  have o1 : w1.cell? ⟨w.heap.size, 1, none⟩ = some (.slice none 0 0) := ho.cell (by decide)
  have o2 : w1.cell? ⟨w.heap.size, 2, none⟩ = some (.int .i64 0) := ho.cell (by decide)
  have p0 := ho.frozen 0
  have p1 := ho.frozen 1
  have p2 := ho.frozen 2
  have hs1 : w.Since w.heap.size w1 := ((World.Since.refl _ _).alloc (Nat.le_refl _) _).trans (since_mono h1 (by omega))
  clear h1 ho hsz
  go_wp2_with fail
  refine bodyPost_ret (v := .tuple #[item0, .int .i64 10]) (by simp [results, Tryz.results140, go_sem, o0, o1, o2]) rfl ⟨rfl, ?_⟩
  exact ((hs1.setCell (a := ⟨w.heap.size, 0, none⟩) (Nat.le_refl _) _).setCell (a := ⟨w.heap.size, 1, none⟩) (Nat.le_refl _) _).setCell (a := ⟨w.heap.size, 2, none⟩) (Nat.le_refl _) _

theorem look_fixed_ok (k : Nat) (b off len cap : Nat) (bound : Int) (z : Nat → Nat) (w : World) (hk : k ≤ 2) (hw : Wid w) (hs : widthOf k ≤ len) (hl : len ≤ 281474976710656)
    (hc : ∀ j, j < len → w.cell? ⟨b, off + j, none⟩ = some (.int .u8 (z j : Nat))) (hz : ∀ j, z j < 256) (hb : b < w.heap.size) :
    Calls Tryz.prog 140 #[.int .i64 k, .slice (some ⟨b, off, none⟩) len cap, .int .u64 bound] w fun e w' =>
      e = .returned (.tuple #[.agg #[.int .u64 (be z (widthOf k) : Nat), .slice none 0 0, .int .i64 (widthOf k : Nat)], .int .i64 0]) ∧ w.Since w.heap.size w' := by
  have hck := hw.at k hk
  have hlt := World.block_lt_of_cell? _ _ hck
  have hwl := widthOf_le k
  have q3 : ((k : Int) == 3) = false := by simp; omega
  have q4 : ((k : Int) == 4) = false := by simp; omega
  have q5 : ((k : Int) == 5) = false := by simp; omega
  have kz : (k : Int) < 3 := by omega
  have hcA : ∀ j, j < len → (w.alloc (.cells #[.int .u64 0, .slice none 0 0, .int .i64 0] 137)).cell? ⟨b, off + j, none⟩ = some (.int .u8 (z j : Nat)) := fun j hj => by
    rw [World.cell?_alloc_lt _ _ _ hb]; exact hc j hj
  have HA := hide hcA
  clear hc hcA
  go_enter Tryz.func140, Tryz.ntmps140
  go_wp2_with fail
  refine (lookFixed_ok b off len cap (widthOf k) z _ hwl hs hl (unhide HA) hz (by simp; omega)).mono ?_
  rintro e w1 ⟨rfl, h1⟩
  have hsz : (w.alloc (.cells #[.int .u64 0, .slice none 0 0, .int .i64 0] 137)).heap.size = w.heap.size + 1 := by simp
  rw [hsz] at h1
  have ho := item0_cells h1
  have o0 : w1.cell? ⟨w.heap.size, 0, none⟩ = some (.int .u64 0) := ho.cell (by decide)
  have o1 : w1.cell? ⟨w.heap.size, 1, none⟩ = some (.slice none 0 0) := ho.cell (by decide)
  have o2 : w1.cell? ⟨w.heap.size, 2, none⟩ = some (.int .i64 0) := ho.cell (by decide)
  have p0 := ho.frozen 0
  have p1 := ho.frozen 1
  have p2 := ho.frozen 2
  have hs1 : w.Since w.heap.size w1 := ((World.Since.refl _ _).alloc (Nat.le_refl _) _).trans (since_mono h1 (by omega))
  clear h1 ho hsz
  go_wp2_with fail
  refine bodyPost_ret (v := .tuple #[.agg #[.int .u64 (be z (widthOf k) : Nat), .slice none 0 0, .int .i64 (widthOf k : Nat)], .int .i64 0]) (by simp [results, Tryz.results140, go_sem, o0, o1, o2]) rfl ⟨rfl, ?_⟩
  exact ((hs1.setCell (a := ⟨w.heap.size, 0, none⟩) (Nat.le_refl _) _).setCell (a := ⟨w.heap.size, 1, none⟩) (Nat.le_refl _) _).setCell (a := ⟨w.heap.size, 2, none⟩) (Nat.le_refl _) _

/-- fail: the first fault is kept. -/
theorem fail_none (rb : Nat) (bad q : Int) (w : World) (h2 : w.cell? ⟨rb, 2, none⟩ = some (.int .i64 q)) (hq : (q == 0) = false) :
    Calls Tryz.prog 141 #[.pointer (some ⟨rb, 0, none⟩), .int .i64 bad] w fun e w' => e = .returned (.tuple #[]) ∧ w' = w := by
  go_enter Tryz.func141, Tryz.ntmps141
  go_wp2
  go_end0
  exact ⟨rfl, rfl⟩
theorem fail_first (rb : Nat) (bad : Int) (w : World) (h2 : w.cell? ⟨rb, 2, none⟩ = some (.int .i64 0)) (hf : w.frozen? ⟨rb, 2, none⟩ = false) :
    Calls Tryz.prog 141 #[.pointer (some ⟨rb, 0, none⟩), .int .i64 bad] w fun e w' => e = .returned (.tuple #[]) ∧ w' = w.setCell ⟨rb, 2, none⟩ (.int .i64 bad) := by
  go_enter Tryz.func141, Tryz.ntmps141
  go_wp2
  go_end0
  exact ⟨rfl, rfl⟩
end Go.Proofs.YtonpmabdjngdcaaGreatDoor

/- What a Reader is in memory; the walk of its next. -/
namespace Go.Proofs.YtonpmabdjngdcaaGreatDoor
open Go.RowKit

/-- Nothing that was there has turned but block r. -/
structure But (r : Nat) (w w' : World) : Prop where
  os : w'.os = w.os
  tape : w'.tape = w.tape
  output : w'.output = w.output
  size : w.heap.size ≤ w'.heap.size
  block : ∀ k, k < w.heap.size → k ≠ r → w'.heap[k]? = w.heap[k]?
theorem But.of_since {r : Nat} {w w' : World} (h : w.Since w.heap.size w') : But r w w' := ⟨h.os, h.tape, h.output, h.size, fun k hk _ => h.block k hk⟩
theorem But.trans {r : Nat} {a b c : World} (h : But r a b) (k : But r b c) : But r a c :=
  ⟨k.os.trans h.os, k.tape.trans h.tape, k.output.trans h.output, Nat.le_trans h.size k.size, fun i hi hr => (k.block i (Nat.lt_of_lt_of_le hi h.size) hr).trans (h.block i hi hr)⟩
theorem But.setCell {r : Nat} {w w' : World} (h : But r w w') (i : Nat) (v : Value) : But r w (w'.setCell ⟨r, i, none⟩ v) :=
  ⟨h.os, h.tape, h.output, by have := h.size; simpa [World.setCell] using this, fun k hk hr => by rw [Below.heap_setCell _ _ _ _ hr]; exact h.block k hk hr⟩
theorem But.drew {r : Nat} {w w' : World} (h : But r w w') : But r w w'.drew := ⟨h.os, h.tape, h.output, h.size, h.block⟩
theorem But.since {r B : Nat} {w0 w w' : World} (h0 : w0.Since B w) (hB : B ≤ r) (hB2 : B ≤ w.heap.size) (h : But r w w') : w0.Since B w' :=
  ⟨h.os.trans h0.os, h.tape.trans h0.tape, h.output.trans h0.output, Nat.le_trans h0.size h.size, fun k hk => (h.block k (by omega) (by omega)).trans (h0.block k hk)⟩
theorem But.row {r b t n : Nat} {w w' : World} {f : Nat → Value} (h : But r w w') (hr : w.rowIs b t n f) (hb : b ≠ r) : w'.rowIs b t n f := hr.of_block (h.block b hr.lt hb)

/-- The cells of a Reader. -/
def rdCell (hb n at' bad : Nat) : Nat → Value
  | 0 => .slice (some ⟨hb, 0, none⟩) n n
  | 1 => .int .i64 at'
  | _ => .int .i64 bad
structure IsR (w : World) (rb hb n : Nat) (z : Nat → Nat) (at' bad : Nat) : Prop where
  rd : w.rowIs rb 135 3 (rdCell hb n at' bad)
  row : w.rowIs hb 5 n (fun j => .int .u8 (z j : Nat))
  ne : hb ≠ rb
  byte : ∀ j, z j < 256
  le : at' ≤ n
  room : n ≤ 281474976710656
theorem IsR.since {w w' : World} {rb hb n at' bad : Nat} {z : Nat → Nat} (h : IsR w rb hb n z at' bad) (hs : w.Since w.heap.size w') : IsR w' rb hb n z at' bad :=
  ⟨row_since h.rd hs, row_since h.row hs, h.ne, h.byte, h.le, h.room⟩
theorem IsR.but {r : Nat} {w w' : World} {rb hb n at' bad : Nat} {z : Nat → Nat} (h : IsR w rb hb n z at' bad) (hs : But r w w') (h1 : rb ≠ r) (h2 : hb ≠ r) : IsR w' rb hb n z at' bad :=
  ⟨hs.row h.rd h1, hs.row h.row h2, h.ne, h.byte, h.le, h.room⟩
theorem IsR.setAt {w : World} {rb hb n at' bad : Nat} {z : Nat → Nat} (h : IsR w rb hb n z at' bad) (q : Nat) (hq : q ≤ n) : IsR (w.setCell ⟨rb, 1, none⟩ (.int .i64 q)) rb hb n z q bad :=
  ⟨(h.rd.set 1 _).congr (fun i hi => by
      match i, hi with
      | 0, _ => rfl
      | 1, _ => rfl
      | 2, _ => rfl), h.row.setOther (by show hb ≠ rb; exact h.ne) _, h.ne, h.byte, hq, h.room⟩
theorem IsR.setBad {w : World} {rb hb n at' bad : Nat} {z : Nat → Nat} (h : IsR w rb hb n z at' bad) (q : Nat) : IsR (w.setCell ⟨rb, 2, none⟩ (.int .i64 q)) rb hb n z at' q :=
  ⟨(h.rd.set 2 _).congr (fun i hi => by
      match i, hi with
      | 0, _ => rfl
      | 1, _ => rfl
      | 2, _ => rfl), h.row.setOther (by show hb ≠ rb; exact h.ne) _, h.ne, h.byte, h.le, h.room⟩
theorem IsR.drew {w : World} {rb hb n at' bad : Nat} {z : Nat → Nat} (h : IsR w rb hb n z at' bad) : IsR w.drew rb hb n z at' bad := ⟨h.rd.drew, h.row.drew, h.ne, h.byte, h.le, h.room⟩
theorem IsR.c0 {w : World} {rb hb n at' bad : Nat} {z : Nat → Nat} (h : IsR w rb hb n z at' bad) : w.cell? ⟨rb, 0, none⟩ = some (.slice (some ⟨hb, 0, none⟩) n n) := h.rd.cell (by decide)
theorem IsR.c1 {w : World} {rb hb n at' bad : Nat} {z : Nat → Nat} (h : IsR w rb hb n z at' bad) : w.cell? ⟨rb, 1, none⟩ = some (.int .i64 at') := h.rd.cell (by decide)
theorem IsR.c2 {w : World} {rb hb n at' bad : Nat} {z : Nat → Nat} (h : IsR w rb hb n z at' bad) : w.cell? ⟨rb, 2, none⟩ = some (.int .i64 bad) := h.rd.cell (by decide)

theorem But.setNew {r : Nat} {w w' : World} (h : But r w w') {a : Addr} (ha : w.heap.size ≤ a.block) (v : Value) : But r w (w'.setCell a v) :=
  ⟨h.os, h.tape, h.output, by have := h.size; simpa [World.setCell] using this, fun k hk hr => by rw [Below.heap_setCell _ _ _ _ (by omega)]; exact h.block k hk hr⟩
theorem IsR.setOther {w : World} {rb hb n at' bad : Nat} {z : Nat → Nat} (h : IsR w rb hb n z at' bad) {a : Addr} (h1 : rb ≠ a.block) (h2 : hb ≠ a.block) (v : Value) : IsR (w.setCell a v) rb hb n z at' bad :=
  ⟨h.rd.setOther h1 v, h.row.setOther h2 v, h.ne, h.byte, h.le, h.room⟩

/-- A text in new memory, or none. -/
def Txt (B : Nat) (w : World) (ta : Option Addr) (l : Nat) (tx : Nat → Nat) : Prop :=
  (ta = none ∧ l = 0) ∨ ∃ t, ta = some ⟨t, 0, none⟩ ∧ B ≤ t ∧ w.rowIs t 5 l (fun j => .int .u8 (tx j : Nat))
theorem Txt.since {B : Nat} {w w' : World} {ta : Option Addr} {l : Nat} {tx : Nat → Nat} (h : Txt B w ta l tx) (hs : w.Since w.heap.size w') : Txt B w' ta l tx := by
  rcases h with h | ⟨t, e, hb, hr⟩
  · exact Or.inl h
  · exact Or.inr ⟨t, e, hb, row_since hr hs⟩

theorem Txt.setOther {B : Nat} {w : World} {ta : Option Addr} {l : Nat} {tx : Nat → Nat} (h : Txt B w ta l tx) {a : Addr} (ha : a.block < B) (v : Value) : Txt B (w.setCell a v) ta l tx := by
  rcases h with h | ⟨t, e, hb, hr⟩
  · exact Or.inl h
  · exact Or.inr ⟨t, e, hb, hr.setOther (by omega) v⟩
theorem Txt.mono {B B' : Nat} {w : World} {ta : Option Addr} {l : Nat} {tx : Nat → Nat} (h : Txt B w ta l tx) (hB : B' ≤ B) : Txt B' w ta l tx := by
  rcases h with h | ⟨t, e, hb, hr⟩
  · exact Or.inl h
  · exact Or.inr ⟨t, e, by omega, hr⟩

/-- next BEHIND A FAULT. -/
theorem next_bad (rb hb n at' bad : Nat) (z : Nat → Nat) (k bound : Int) (w : World) (h : IsR w rb hb n z at' bad) (hbad : bad ≠ 0) :
    Calls Tryz.prog 85 #[.pointer (some ⟨rb, 0, none⟩), .int .i64 k, .int .u64 bound] w fun e w' => e = .returned item0 ∧ w.Since w.heap.size w' := by
  have c2 := h.c2
  have hlt := World.block_lt_of_cell? _ _ c2
  have hq : ((bad : Int) != 0) = true := by simp; omega
  go_enter Tryz.func85, Tryz.ntmps85
  go_wp2_with fail
  exact bodyPost_ret (v := item0) (by simp [results, Tryz.results85, go_sem]) rfl ⟨rfl, (World.Since.refl _ _).alloc (Nat.le_refl _) _⟩

/-- What look says in every later world: its item, its fault. -/
def Looks (w : World) (sa : Option Addr) (m : Nat) (k bound : Int) (N l size bd : Nat) (tx : Nat → Nat) : Prop :=
  ∀ W, w.Since w.heap.size W → Calls Tryz.prog 140 #[.int .i64 k, .slice sa m m, .int .u64 bound] W fun e w' =>
    (∃ ta, e = .returned (.tuple #[.agg #[.int .u64 N, .slice ta l l, .int .i64 size], .int .i64 bd]) ∧ Txt W.heap.size w' ta l tx) ∧ W.Since W.heap.size w'

/-- Behind the region that looks: the item lies in a block of its own. -/
structure Seen (w wx : World) (ib : Nat) (ta : Option Addr) (N l size : Nat) (tx : Nat → Nat) : Prop where
  since : w.Since w.heap.size wx
  out : wx.rowIs w.heap.size 137 3 (itemCell 0 none 0 0)
  it : wx.rowIs ib 137 3 (itemCell N ta l size)
  lt : w.heap.size < ib
  txt : Txt (w.heap.size + 1) wx ta l tx

theorem seen_a {w w1 w' : World} {ta : Option Addr} {N l size : Nat} {tx : Nat → Nat} (e0 : w1.heap.size = w.heap.size + 1) (hs0 : w.Since w.heap.size w1) (hr0 : w1.rowIs w.heap.size 137 3 (itemCell 0 none 0 0))
    (hs : w1.drew.Since w1.drew.heap.size w') (htx : Txt w1.drew.heap.size w' ta l tx) :
    Seen w (w'.alloc (.cells #[.int .u64 N, .slice ta l l, .int .i64 size] 137)) w'.heap.size ta N l size tx := by
  have hz : w1.heap.size ≤ w'.heap.size := hs.size
  have hs' : w.Since w.heap.size w' := hs0.drew.trans (since_mono hs (by show w.heap.size ≤ w1.heap.size; omega))
  refine ⟨hs'.alloc (by omega) _, (row_since hr0.drew hs).alloc _, item_row w' N ta l size, by omega, ?_⟩
  rcases htx with h | ⟨t, e, hb, hr⟩
  · exact Or.inl h
  · exact Or.inr ⟨t, e, by have : w1.heap.size ≤ t := hb
                           omega, hr.alloc _⟩
theorem seen_b {w w1 w' : World} {ta : Option Addr} {N l size : Nat} {tx : Nat → Nat} (e0 : w1.heap.size = w.heap.size + 1) (hs0 : w.Since w.heap.size w1) (hr0 : w1.rowIs w.heap.size 137 3 (itemCell 0 none 0 0))
    (hs : (w1.alloc (.cells #[.int .u64 0, .slice none 0 0, .int .i64 0] 137)).drew.Since (w1.alloc (.cells #[.int .u64 0, .slice none 0 0, .int .i64 0] 137)).drew.heap.size w')
    (htx : Txt (w1.alloc (.cells #[.int .u64 0, .slice none 0 0, .int .i64 0] 137)).drew.heap.size w' ta l tx) :
    Seen w (((w'.setCell ⟨w.heap.size + 1, 0, none⟩ (.int .u64 N)).setCell ⟨w.heap.size + 1, 1, none⟩ (.slice ta l l)).setCell ⟨w.heap.size + 1, 2, none⟩ (.int .i64 size)) (w.heap.size + 1) ta N l size tx := by
  have hz : w1.heap.size + 1 ≤ w'.heap.size := by have := hs.size; simpa using this
  have hs' : w.Since w.heap.size w' := ((hs0.alloc (by omega) _).drew).trans (since_mono hs (by simp; omega))
  have hrow : w'.rowIs (w.heap.size + 1) 137 3 (itemCell 0 none 0 0) := by have := row_since (item_row w1 0 none 0 0).drew hs; rwa [e0] at this
  have hout : w'.rowIs w.heap.size 137 3 (itemCell 0 none 0 0) := row_since (hr0.alloc _).drew hs
  have q : ∀ i, w.heap.size ≤ (⟨w.heap.size + 1, i, none⟩ : Addr).block := fun i => by show w.heap.size ≤ w.heap.size + 1; omega
  have q2 : ∀ i, w.heap.size ≠ (⟨w.heap.size + 1, i, none⟩ : Addr).block := fun i => by show w.heap.size ≠ w.heap.size + 1; omega
  refine ⟨((hs'.setCell (q 0) _).setCell (q 1) _).setCell (q 2) _, ((hout.setOther (q2 0) _).setOther (q2 1) _).setOther (q2 2) _, (((hrow.set 0 _).set 1 _).set 2 _).congr (fun i hi => ?_), by omega, ?_⟩
  · match i, hi with
    | 0, _ => rfl
    | 1, _ => rfl
    | 2, _ => rfl
  · rcases htx with h | ⟨t, e, hb, hr⟩
    · exact Or.inl h
    · have hb' : w1.heap.size + 1 ≤ t := by simpa using hb
      have q3 : ∀ i, t ≠ (⟨w.heap.size + 1, i, none⟩ : Addr).block := fun i => by show t ≠ w.heap.size + 1; omega
      exact Or.inr ⟨t, e, by omega, ((hr.setOther (q3 0) _).setOther (q3 1) _).setOther (q3 2) _⟩
theorem scell {W w' : World} (hs : W.Since W.heap.size w') : (∀ b o, b < W.heap.size → w'.cell? ⟨b, o, none⟩ = W.cell? ⟨b, o, none⟩) ∧ (∀ b o, b < W.heap.size → w'.frozen? ⟨b, o, none⟩ = W.frozen? ⟨b, o, none⟩) :=
  ⟨fun b o h => hs.cell (a := ⟨b, o, none⟩) h, fun b o h => hs.frozen (a := ⟨b, o, none⟩) h⟩

set_option maxHeartbeats 800000 in
set_option maxRecDepth 100000 in
theorem next_any (rb hb n at' : Nat) (z : Nat → Nat) (k bound : Int) (N l size bd : Nat) (tx : Nat → Nat) (w : World) (h : IsR w rb hb n z at' 0) (hl : Looks w (if n = at' then some ⟨hb, 0, none⟩ else some ⟨hb, at', none⟩) (n - at') k bound N l size bd tx) (hsz : bd = 0 → at' + size ≤ n) :
    Calls Tryz.prog 85 #[.pointer (some ⟨rb, 0, none⟩), .int .i64 k, .int .u64 bound] w fun e w' => But rb w w' ∧
      ((bd = 0 ∧ (∃ ta, e = .returned (.agg #[.int .u64 N, .slice ta l l, .int .i64 size]) ∧ Txt w.heap.size w' ta l tx) ∧ IsR w' rb hb n z (at' + size) 0) ∨
       (bd ≠ 0 ∧ e = .returned item0 ∧ IsR w' rb hb n z at' bd)) := by
  have hrlt := h.rd.lt
  have hhlt := h.row.lt
  have hle := h.le
  have hroom := h.room
  have hz1 : (at' : Int) ≤ (n : Int) := by omega
  have hs0 : w.Since w.heap.size (w.alloc (.cells #[.int .u64 0, .slice none 0 0, .int .i64 0] 137)) := (World.Since.refl _ _).alloc (Nat.le_refl _) _
  have hr0 := item_row w 0 none 0 0
  have e0 : (w.alloc (.cells #[.int .u64 0, .slice none 0 0, .int .i64 0] 137)).heap.size = w.heap.size + 1 := by simp
  go_enter Tryz.func85, Tryz.ntmps85
  have c2 := h.c2
  go_upto_region 3 with fail
  have hI1 := h.since hs0
  generalize w.alloc (.cells #[.int .u64 0, .slice none 0 0, .int .i64 0] 137) = w1 at *
  have d0 := hI1.c0
  have d1 := hI1.c1
  have n0 := World.new_ne w1 _ d0
  have n1 := World.new_ne w1 _ d1
  have HL := hide hl
  clear hl c2
  go_cut [7, 8] from 15 to 45 (fun s7 s8 wx => ∃ ib ta, s7 = .pointer (some ⟨ib, 0, none⟩) ∧ s8 = .int .i64 bd ∧ Seen w wx ib ta N l size tx)
  case first =>
    by_cases hna : n = at'
    · subst hna
      rw [if_pos rfl, Nat.sub_self] at HL
      go_region_held3 (fun w' => w'.cell? ⟨rb, 0, none⟩ = some (.slice (some ⟨hb, 0, none⟩) n n) ∧ w'.cell? ⟨rb, 1, none⟩ = some (.int .i64 n))
        (first | go_keep | (refine ⟨?_, ?_⟩ <;> (iterate 3 (rw [World.cell?_setCell_far _ _ _ _ (by show w.heap.size + 1 ≠ rb; omega)])) <;> (rw [hcc _ _ (by simp; omega)]) <;> (go_simp)))
        (first | (go_at_call 140; refine ((unhide HL) _ ?_).mono ?_; (first | exact hs0.drew | exact (hs0.alloc (by omega) _).drew | exact (hs0.drew).alloc (by simp; omega) _); rintro e w' ⟨⟨ta, rfl, htx⟩, hs⟩; (obtain ⟨hcc, hff⟩ := scell hs; have x2 : rb < w'.heap.size := (by have := hs.size; simp at this; omega); have x3 : rb < w.heap.size + 1 := (by omega); have x4 : rb < w.heap.size + 2 := (by omega))))
      all_goals
        go_wp2_with fail
        go_meet
        case rel => go_light; first | exact ⟨_, ta, rfl, rfl, seen_a e0 hs0 hr0 hs htx⟩ | exact ⟨_, ta, rfl, rfl, seen_b e0 hs0 hr0 hs htx⟩
    · rw [if_neg hna] at HL
      go_region_held3 (fun w' => w'.cell? ⟨rb, 0, none⟩ = some (.slice (some ⟨hb, 0, none⟩) n n) ∧ w'.cell? ⟨rb, 1, none⟩ = some (.int .i64 at'))
        (first | go_keep | (refine ⟨?_, ?_⟩ <;> (iterate 3 (rw [World.cell?_setCell_far _ _ _ _ (by show w.heap.size + 1 ≠ rb; omega)])) <;> (rw [hcc _ _ (by simp; omega)]) <;> (go_simp)))
        (first | (go_at_call 140; refine ((unhide HL) _ ?_).mono ?_; (first | exact hs0.drew | exact (hs0.alloc (by omega) _).drew | exact (hs0.drew).alloc (by simp; omega) _); rintro e w' ⟨⟨ta, rfl, htx⟩, hs⟩; (obtain ⟨hcc, hff⟩ := scell hs; have x2 : rb < w'.heap.size := (by have := hs.size; simp at this; omega); have x3 : rb < w.heap.size + 1 := (by omega); have x4 : rb < w.heap.size + 2 := (by omega))))
      all_goals
        go_wp2_with fail
        go_meet
        case rel => go_light; first | exact ⟨_, ta, rfl, rfl, seen_a e0 hs0 hr0 hs htx⟩ | exact ⟨_, ta, rfl, rfl, seen_b e0 hs0 hr0 hs htx⟩
  case rest =>
    obtain ⟨ib, ta, rfl, rfl, hS⟩ := hcut
    have hIc := h.since hS.since
    have hlt := hS.lt
    have hbut : But rb w wc := But.of_since hS.since
    clear hs0 hr0 e0 hI1 d0 d1 n0 n1 HL
    by_cases hbd : bd = 0
    · have hle2 := hsz hbd
      subst hbd
      have c1 := hIc.c1
      have f1 := hIc.rd.frozen 1
      have k2 : wc.cell? ⟨ib, 2, none⟩ = some (.int .i64 size) := hS.it.cell (by decide)
      have hI2 := (hIc.setAt (at' + size) hle2).drew
      have hb2 := (hbut.setCell 1 (.int .i64 ((at' + size : Nat) : Int))).drew
      have ho2 : (wc.setCell ⟨rb, 1, none⟩ (.int .i64 ((at' + size : Nat) : Int))).drew.rowIs w.heap.size 137 3 (itemCell 0 none 0 0) := (hS.out.setOther (by show w.heap.size ≠ rb; omega) _).drew
      have hi2 : (wc.setCell ⟨rb, 1, none⟩ (.int .i64 ((at' + size : Nat) : Int))).drew.rowIs ib 137 3 (itemCell N ta l size) := (hS.it.setOther (by show ib ≠ rb; omega) _).drew
      have ht2 : Txt (w.heap.size + 1) (wc.setCell ⟨rb, 1, none⟩ (.int .i64 ((at' + size : Nat) : Int))).drew ta l tx := by
        rcases hS.txt with h | ⟨t, e, hb, hr⟩
        · exact Or.inl h
        · exact Or.inr ⟨t, e, hb, (hr.setOther (by show t ≠ rb; omega) _).drew⟩
      clear hS hIc hbut
      go_wp2_with fail
      go_big_region
      rw [show ((at' : Int) + (size : Int)) = ((at' + size : Nat) : Int) by omega]
      generalize (wc.setCell ⟨rb, 1, none⟩ (.int .i64 ((at' + size : Nat) : Int))).drew = W2 at *
      have o0 : W2.cell? ⟨w.heap.size, 0, none⟩ = some (.int .u64 0) := ho2.cell (by decide)
      have o1 : W2.cell? ⟨w.heap.size, 1, none⟩ = some (.slice none 0 0) := ho2.cell (by decide)
      have o2 : W2.cell? ⟨w.heap.size, 2, none⟩ = some (.int .i64 0) := ho2.cell (by decide)
      have p0 := ho2.frozen 0
      have p1 := ho2.frozen 1
      have p2 := ho2.frozen 2
      have i0 : W2.cell? ⟨ib, 0, none⟩ = some (.int .u64 N) := hi2.cell (by decide)
      have i1 : W2.cell? ⟨ib, 1, none⟩ = some (.slice ta l l) := hi2.cell (by decide)
      have i2 : W2.cell? ⟨ib, 2, none⟩ = some (.int .i64 size) := hi2.cell (by decide)
      clear ho2 hi2
      go_wp2_with fail
      have q1 : ∀ i, rb ≠ (⟨w.heap.size, i, none⟩ : Addr).block := fun i => by show rb ≠ w.heap.size; omega
      have q2 : ∀ i, hb ≠ (⟨w.heap.size, i, none⟩ : Addr).block := fun i => by show hb ≠ w.heap.size; omega
      have q3 : ∀ i, (⟨w.heap.size, i, none⟩ : Addr).block < w.heap.size + 1 := fun i => by show w.heap.size < w.heap.size + 1; omega
      have q4 : ∀ i, w.heap.size ≤ (⟨w.heap.size, i, none⟩ : Addr).block := fun i => Nat.le_refl _
      exact bodyPost_ret (v := .agg #[.int .u64 N, .slice ta l l, .int .i64 size]) (by simp [results, Tryz.results85, go_sem, o0, o1, o2]) rfl
        ⟨((hb2.setNew (q4 0) _).setNew (q4 1) _).setNew (q4 2) _, ⟨ta, rfl, (((ht2.setOther (q3 0) _).setOther (q3 1) _).setOther (q3 2) _).mono (by omega)⟩, ((hI2.setOther (q1 0) (q2 0) _).setOther (q1 1) (q2 1) _).setOther (q1 2) (q2 2) _⟩
    · have hq : ((bd : Int) != 0) = true := by simp; omega
      have c2 := hIc.c2
      have f2 := hIc.rd.frozen 2
      have hI2 := hIc.setBad bd
      have hb2 := hbut.setCell 2 (.int .i64 (bd : Int))
      have ho2 : (wc.setCell ⟨rb, 2, none⟩ (.int .i64 (bd : Int))).rowIs w.heap.size 137 3 (itemCell 0 none 0 0) := hS.out.setOther (by show w.heap.size ≠ rb; omega) _
      have hfl := fail_first rb bd wc c2 f2
      clear hS hIc hbut
      go_wp2_with fail
      refine hfl.mono ?_
      rintro e w' ⟨rfl, rfl⟩
      generalize (wc.setCell ⟨rb, 2, none⟩ (.int .i64 (bd : Int))) = W2 at *
      have o0 : W2.cell? ⟨w.heap.size, 0, none⟩ = some (.int .u64 0) := ho2.cell (by decide)
      have o1 : W2.cell? ⟨w.heap.size, 1, none⟩ = some (.slice none 0 0) := ho2.cell (by decide)
      have o2 : W2.cell? ⟨w.heap.size, 2, none⟩ = some (.int .i64 0) := ho2.cell (by decide)
      have p0 := ho2.frozen 0
      have p1 := ho2.frozen 1
      have p2 := ho2.frozen 2
      clear ho2 hfl
      go_wp2_with fail
      have q1 : ∀ i, rb ≠ (⟨w.heap.size, i, none⟩ : Addr).block := fun i => by show rb ≠ w.heap.size; omega
      have q2 : ∀ i, hb ≠ (⟨w.heap.size, i, none⟩ : Addr).block := fun i => by show hb ≠ w.heap.size; omega
      have q4 : ∀ i, w.heap.size ≤ (⟨w.heap.size, i, none⟩ : Addr).block := fun i => Nat.le_refl _
      exact bodyPost_ret (v := item0) (by simp [results, Tryz.results85, go_sem, o0, o1, o2]) rfl
        ⟨((hb2.setNew (q4 0) _).setNew (q4 1) _).setNew (q4 2) _, Or.inr ⟨hbd, rfl, ((hI2.setOther (q1 0) (q2 0) _).setOther (q1 1) (q2 1) _).setOther (q1 2) (q2 2) _⟩⟩
end Go.Proofs.YtonpmabdjngdcaaGreatDoor

/- The walks of package code's copied, Read and the Reader's calls that the statements make. -/
namespace Go.Proofs.YtonpmabdjngdcaaGreatDoor
open Go.RowKit

theorem ret_int {k : IntKind} {a b : Int} (h : a = b) : Ending.returned (.int k a) = .returned (.int k b) := by rw [h]

theorem fld0 (w : World) (N s : Int) (a : Option Addr) (l : Nat) : (Instr.field 137 (.agg #[.int .u64 N, .slice a l l, .int .i64 s]) 0).run Tryz.prog w = .ok (.int .u64 N) w := by kernel_rfl
theorem fld1 (w : World) (N s : Int) (a : Option Addr) (l : Nat) : (Instr.field 137 (.agg #[.int .u64 N, .slice a l l, .int .i64 s]) 1).run Tryz.prog w = .ok (.slice a l l) w := by kernel_rfl

/-- copied: the same bytes in new memory. -/
theorem copied_any (a : Option Addr) (len cap : Nat) (x : Nat → Nat) (w : World) (hmax : len ≤ 281474976710656) (hc : Byt w a len x) :
    Calls Tryz.prog 84 #[.slice a len cap] w fun e w' => e = .returned (.slice (some ⟨w.heap.size, 0, none⟩) len len) ∧ w.Since w.heap.size w' ∧ w'.heap.size = w.heap.size + 1 ∧ w'.rowIs w.heap.size 5 len (fun j => .int .u8 (x j : Nat)) := by
  have hmk := run_make_row' (P := Tryz.prog) 32 5 (.int .u8 0) 1 Tryz.underlying32 Tryz.info5 rfl .i64 .i64 len (by omega) (by omega)
  have hs0 : w.Since w.heap.size (w.alloc (.cells (madeCells #[.int .u8 0] len) 5)) := (World.Since.refl _ _).alloc (Nat.le_refl _) _
  have hr0 := World.rowIs_made w (.int .u8 0) len 5
  have hz0 : (w.alloc (.cells (madeCells #[.int .u8 0] len) 5)).heap.size = w.heap.size + 1 := by simp
  generalize hW : w.alloc (.cells (madeCells #[.int .u8 0] len) 5) = W at *
  rcases Nat.eq_zero_or_pos len with rfl | hp
  · have hcp := run_copy_none (P := Tryz.prog) W 32 32 3 5 (some ⟨w.heap.size, 0, none⟩) a 0 0 0 cap Tryz.underlying32 Tryz.size5 (by simp)
    have hmk0 : (Instr.makeSlice 32 (.int .i64 0) (.int .i64 0)).run Tryz.prog w = .ok (.slice (some ⟨w.heap.size, 0, none⟩) 0 0) W := by rw [← hW]; simpa using hmk w
    clear hmk hW
    go_enter Tryz.func84, Tryz.ntmps84
    go_wp2
    go_ret
    exact ⟨rfl, hs0, hz0, hr0.congr (fun j hj => by omega)⟩
  · obtain ⟨b, off, rfl, _⟩ := hc 0 hp
    have hc' : ∀ j, j < len → w.cell? ⟨b, off + j, none⟩ = some (.int .u8 (x j : Nat)) := fun j hj => by obtain ⟨b', off', e, hh⟩ := hc j hj; cases e; exact hh
    have hcp := run_copy_cells (P := Tryz.prog) W 32 32 3 5 w.heap.size 0 len len ⟨b, off, none⟩ len cap ((List.range len).map fun j => .int .u8 (x j : Nat)) Tryz.underlying32 Tryz.size5 (by simp)
      (fun j v hv => by
        have hj : j < len := by have := (List.getElem?_eq_some_iff.1 hv).1; simpa using this
        have : v = .int .u8 (x j : Nat) := by rw [List.getElem?_map, List.getElem?_range hj] at hv; simpa using hv.symm
        rw [this, show (⟨b, off, none⟩ : Addr).add j = ⟨b, off + j, none⟩ by simp [Addr.add], hs0.cell (a := ⟨b, off + j, none⟩) (World.block_lt_of_cell? _ _ (hc' j hj))]
        exact hc' j hj)
      (fun j hj => by rw [Nat.zero_add, hr0.cell (by simpa using hj)]; rfl) (fun j _ => by rw [Nat.zero_add]; exact hr0.frozen j) (fun v hv => by obtain ⟨j, _, rfl⟩ := List.mem_map.1 hv; rfl)
    have hend : w.Since w.heap.size (W.setCells w.heap.size 0 ((List.range len).map fun j => .int .u8 (x j : Nat))) ∧ (W.setCells w.heap.size 0 ((List.range len).map fun j => .int .u8 (x j : Nat))).heap.size = w.heap.size + 1 ∧
        (W.setCells w.heap.size 0 ((List.range len).map fun j => .int .u8 (x j : Nat))).rowIs w.heap.size 5 len (fun j => .int .u8 (x j : Nat)) :=
      ⟨since_setCells (Nat.le_refl _) _ _ _ hs0, by rw [size_setCells]; exact hz0, (rowIs_setCells _ 0 _ _ hr0).congr (fun j hj => by
        rw [if_pos (by simp; exact hj)]; simp [List.getD, hj])⟩
    have hmk1 : (Instr.makeSlice 32 (.int .i64 len) (.int .i64 len)).run Tryz.prog w = .ok (.slice (some ⟨w.heap.size, 0, none⟩) len len) W := by rw [← hW]; exact hmk w
    clear hmk hW
    generalize W.setCells w.heap.size 0 ((List.range len).map fun j => .int .u8 (x j : Nat)) = W2 at *
    go_enter Tryz.func84, Tryz.ntmps84
    go_wp2
    go_ret
    exact ⟨rfl, hend⟩

/-- Read: a Reader over a copy of the bytes. -/
theorem read_any (a : Option Addr) (len cap : Nat) (x : Nat → Nat) (w : World) (hmax : len ≤ 281474976710656) (hc : Byt w a len x) (hr : ∀ j, x j < 256) :
    Calls Tryz.prog 40 #[.slice a len cap] w fun e w' => ∃ rb, e = .returned (.pointer (some ⟨rb, 0, none⟩)) ∧ w.heap.size < rb ∧ w.Since w.heap.size w' ∧ IsR w' rb w.heap.size len x 0 0 := by
  go_enter Tryz.func40, Tryz.ntmps40
  go_wp2_with fail
  refine (copied_any a len cap x w hmax hc).mono ?_
  rintro e w1 ⟨rfl, h1, z1, r1⟩
  go_wp2_with fail
  go_ret
  refine ⟨w1.heap.size, by rw [z1]; rfl, by omega, h1.alloc (by omega) _, ⟨World.rowIs_alloc w1 #[.slice (some ⟨w.heap.size, 0, none⟩) len len, .int .i64 0, .int .i64 0] 135 _ (fun i hi => ?_), r1.alloc _, by omega, hr, Nat.zero_le _, hmax⟩⟩
  match i, hi with
  | 0, _ => rfl
  | 1, _ => rfl
  | 2, _ => rfl

/-- What look says of a kind of fixed size, at the Reader's place. -/
theorem looks_short (k : Nat) (hb n at' : Nat) (z : Nat → Nat) (w : World) (hk : k ≤ 2) (hw : Wid w) (hs : n - at' < widthOf k) :
    Looks w (if n = at' then some ⟨hb, 0, none⟩ else some ⟨hb, at', none⟩) (n - at') k 0 0 0 0 10 z := fun W hW =>
  (look_fixed_short k _ (n - at') (n - at') 0 W hk (hw.since hW) hs).mono fun _ _ ⟨he, hs'⟩ => ⟨⟨none, he, Or.inl ⟨rfl, rfl⟩⟩, hs'⟩
theorem looks_ok (k : Nat) (rb hb n at' : Nat) (z : Nat → Nat) (w : World) (hk : k ≤ 2) (hw : Wid w) (h : IsR w rb hb n z at' 0) (hs : widthOf k ≤ n - at') :
    Looks w (if n = at' then some ⟨hb, 0, none⟩ else some ⟨hb, at', none⟩) (n - at') k 0 (be (fun j => z (at' + j)) (widthOf k)) 0 (widthOf k) 0 z := fun W hW => by
  have hpos : 0 < widthOf k := by
    match k with
    | 0 => decide
    | 1 => decide
    | _ + 2 => exact (by decide : 0 < 8)
  rw [if_neg (by omega)]
  have hrow := row_since h.row hW
  refine (look_fixed_ok k hb at' (n - at') (n - at') 0 (fun j => z (at' + j)) W hk (hw.since hW) hs (by have := h.room; omega) (fun j hj => ?_) (fun j => h.byte _) hrow.lt).mono fun _ _ ⟨he, hs'⟩ => ⟨⟨none, he, Or.inl ⟨rfl, rfl⟩⟩, hs'⟩
  exact hrow.cell (by omega)

theorem left_any (rb hb n at' bad : Nat) (z : Nat → Nat) (w : World) (h : IsR w rb hb n z at' bad) : Calls Tryz.prog 142 #[.pointer (some ⟨rb, 0, none⟩)] w fun e w' => e = .returned (.int .i64 ((n - at' : Nat) : Int)) ∧ ∃ m, w' = w.drewN m := by
  have c1 := h.c1
  have c0 := h.c0
  have hle := h.le
  have hroom := h.room
  go_enter Tryz.func142, Tryz.ntmps142
  go_wp2_with fail
  go_quiet (fail)
  go_wp2
  go_ret
  exact ⟨ret_int (by omega), nq, rfl⟩
end Go.Proofs.YtonpmabdjngdcaaGreatDoor

/- What stands at the front of bytes as a number in its shortest form; the walk of package code's lookVar. -/
namespace Go.Proofs.YtonpmabdjngdcaaGreatDoor
open Go.RowKit

/-- What the first i bytes say, the lowest first. -/
def vs (z : Nat → Nat) : Nat → Nat
  | 0 => 0
  | i + 1 => vs z i + z i % 128 * 128 ^ i
theorem vs_lt (z : Nat → Nat) : ∀ i, vs z i < 128 ^ i
  | 0 => by show 0 < 1; decide
  | i + 1 => by
    have h1 := vs_lt z i
    show vs z i + z i % 128 * 128 ^ i < 128 ^ (i + 1)
    rw [Nat.pow_succ]
    have h2 : z i % 128 * 128 ^ i ≤ 127 * 128 ^ i := Nat.mul_le_mul_right _ (by omega)
    omega
/-- A number, how many bytes it takes, its fault. -/
def vres (z : Nat → Nat) (m most : Nat) : Nat → Nat → Nat × Nat × Nat
  | 0, _ => (0, 0, 11)
  | f + 1, i => if i = m then (0, 0, 10) else if i = 9 ∧ 1 < z i then (0, 0, 11) else if 128 ≤ z i then vres z m most f (i + 1) else if z i = 0 ∧ 0 < i then (0, 0, 11) else if most < vs z (i + 1) then (0, 0, 12) else (vs z (i + 1), i + 1, 0)
def vlook (z : Nat → Nat) (m most : Nat) : Nat × Nat × Nat := vres z m most 10 0

theorem and127 (c : Nat) (h : c < 256) : bits .and .u8 (c : Int) 127 = ((c % 128 : Nat) : Int) := by
  have := u8_and_nat c 127 h (by decide); rw [nat_mask7] at this; exact this
theorem and128 (c : Nat) (h : c < 256) : bits .and .u8 (c : Int) 128 = if 128 ≤ c then 128 else 0 := by
  have : ∀ c : Fin 256, bits .and .u8 ((c.val : Nat) : Int) 128 = if 128 ≤ c.val then 128 else 0 := by decide +kernel
  exact this ⟨c, h⟩
theorem vs_or (z : Nat → Nat) (i : Nat) (hb : vs z (i + 1) < 18446744073709551616) : bits .or .u64 (vs z i : Int) ((z i % 128 * 128 ^ i : Nat) : Int) = ((vs z (i + 1) : Nat) : Int) := by
  have h1 := vs_lt z i
  have e : vs z (i + 1) = vs z i + z i % 128 * 128 ^ i := rfl
  have e2 : (128 : Nat) ^ i = 2 ^ (7 * i) := by rw [Nat.pow_mul]
  have := u64_or_nat (vs z i) (z i % 128 * 128 ^ i) (by omega) (by omega)
  rw [this, Nat.or_comm, e]
  have hj := nat_join (7 * i) (z i % 128 * 128 ^ i) (vs z i) (by rw [e2]; simp [Nat.mul_mod_left]) (by rw [← e2]; exact h1)
  rw [hj, Nat.add_comm]

set_option maxHeartbeats 3200000 in
theorem lookVar_walk (a : Option Addr) (m cap most : Nat) (z : Nat → Nat) (w : World) (N size bd : Nat) (hmax : m ≤ 281474976710656) (hc : Byt w a m z) (hz : ∀ j, z j < 256) (hres : vlook z m most = (N, size, bd)) :
    Calls Tryz.prog 162 #[.slice a m cap, .int .u64 most] w fun e w' => e = .returned (.tuple #[.agg #[.int .u64 N, .slice none 0 0, .int .i64 size], .int .i64 bd]) ∧ w.Since w.heap.size w' := by
  have hs0 : w.Since w.heap.size (w.alloc (.cells #[.int .u64 0, .slice none 0 0, .int .i64 0] 137)) := (World.Since.refl _ _).alloc (Nat.le_refl _) _
  have hr0 := item_row w 0 none 0 0
  go_enter Tryz.func162, Tryz.ntmps162
  go_wp2_with fail
  generalize w.alloc (.cells #[.int .u64 0, .slice none 0 0, .int .i64 0] 137) = w0 at *
  go_loopg [6, 8] 10 (fun g s6 s8 wx => ∃ i : Nat, i ≤ 10 ∧ i ≤ m ∧ g = 10 - i ∧ s6 = .int .u64 (vs z i : Nat) ∧ s8 = .int .i64 i ∧ vres z m most (10 - i) i = (N, size, bd) ∧ w.Since w.heap.size wx ∧ wx.rowIs w.heap.size 137 3 (itemCell 0 none 0 0))
  case atStart => exact ⟨0, by omega, by omega, rfl, rfl, rfl, hres, hs0, hr0⟩
  case round =>
    obtain ⟨i, hi, him, rfl, rfl, rfl, hv, hsn, hrw⟩ := hrel
    clear hs0 hr0 hres
    have o0 : wr.cell? ⟨w.heap.size, 0, none⟩ = some (.int .u64 0) := hrw.cell (by decide)
    have o1 : wr.cell? ⟨w.heap.size, 1, none⟩ = some (.slice none 0 0) := hrw.cell (by decide)
    have o2 : wr.cell? ⟨w.heap.size, 2, none⟩ = some (.int .i64 0) := hrw.cell (by decide)
    have p0 := hrw.frozen 0
    have p1 := hrw.frozen 1
    have p2 := hrw.frozen 2
    have fin : ∀ u0 u1 u2, w.Since w.heap.size (((wr.setCell ⟨w.heap.size, 0, none⟩ u0).setCell ⟨w.heap.size, 1, none⟩ u1).setCell ⟨w.heap.size, 2, none⟩ u2) := fun u0 u1 u2 =>
      ((hsn.setCell (a := ⟨w.heap.size, 0, none⟩) (Nat.le_refl _) _).setCell (a := ⟨w.heap.size, 1, none⟩) (Nat.le_refl _) _).setCell (a := ⟨w.heap.size, 2, none⟩) (Nat.le_refl _) _
    by_cases h10 : i = 10
    · subst h10
      have hv' : ((0, 0, 11) : Nat × Nat × Nat) = (N, size, bd) := hv
      cases hv'
      clear hv
      go_wp2_with fail
      refine bodyPost_ret (v := .tuple #[item0, .int .i64 11]) (by simp [results, Tryz.results162, go_sem, o0, o1, o2]) rfl ⟨rfl, fin _ _ _⟩
    · obtain ⟨f, hf⟩ : ∃ f, 10 - i = f + 1 := ⟨9 - i, by omega⟩
      rw [hf] at hv
      unfold vres at hv
      have hi10 : (i : Int) < 10 := by omega
      by_cases hie : i = m
      · rw [if_pos hie] at hv
        cases hv
        subst hie
        clear hf
        go_wp2_with fail
        refine bodyPost_ret (v := .tuple #[item0, .int .i64 10]) (by simp [results, Tryz.results162, go_sem, o0, o1, o2]) rfl ⟨rfl, fin _ _ _⟩
      · rw [if_neg hie] at hv
        have hlt : i < m := by omega
        obtain ⟨b, off, rfl, hcell⟩ := hc i hlt
        have t0 : wr.cell? ⟨b, off + i, none⟩ = some (.int .u8 (z i : Nat)) := by rw [hsn.cell (a := ⟨b, off + i, none⟩) (World.block_lt_of_cell? _ _ hcell)]; exact hcell
        have him' : ((i : Int) == (m : Int)) = false := by simp; omega
        have hiz : (i : Int) < (m : Int) := by omega
        have hzi := hz i
        clear hc hcell
        by_cases h9 : i = 9 ∧ 1 < z i
        · rw [if_pos h9] at hv
          cases hv
          obtain ⟨rfl, h9b⟩ := h9
          have h9c : (1 : Int) < (z 9 : Int) := by omega
          clear hf
          go_wp2_with fail
          refine bodyPost_ret (v := .tuple #[item0, .int .i64 11]) (by simp [results, Tryz.results162, go_sem, o0, o1, o2]) rfl ⟨rfl, fin _ _ _⟩
        · rw [if_neg h9] at hv
          have hvb : vs z (i + 1) < 18446744073709551616 := by
            have e : vs z (i + 1) = vs z i + z i % 128 * 128 ^ i := rfl
            by_cases e9 : i = 9
            · subst e9
              have := vs_lt z 9
              have h1 : z 9 ≤ 1 := by omega
              have h2 : z 9 % 128 ≤ 1 := by omega
              have h3 : z 9 % 128 * 128 ^ 9 ≤ 1 * 128 ^ 9 := Nat.mul_le_mul_right _ h2
              omega
            · have h1 := vs_lt z (i + 1)
              have h2 : 128 ^ (i + 1) ≤ 128 ^ 9 := Nat.pow_le_pow_right (by decide) (by omega)
              omega
          have hor : bits .or .u64 (vs z i : Int) (IntKind.u64.wrap ((z i : Int) % 128 * 2 ^ (7 * i))) = ((vs z (i + 1) : Nat) : Int) := by
            rw [← vs_or z i hvb]
            congr 1
            have e2 : (128 : Nat) ^ i = 2 ^ (7 * i) := by rw [Nat.pow_mul]
            have h1 : z i % 128 * 128 ^ i < 18446744073709551616 := by
              have e : vs z (i + 1) = vs z i + z i % 128 * 128 ^ i := rfl
              omega
            rw [e2] at h1 ⊢
            have h3 : ((z i : Int) % 128 * 2 ^ (7 * i)) = ((z i % 128 * 2 ^ (7 * i) : Nat) : Int) := by simp
            rw [h3]
            generalize z i % 128 * 2 ^ (7 * i) = q at *
            rw [IntKind.wrap_u64]; omega
          have ha7 := and127 (z i) hzi
          have ha8 := and128 (z i) hzi
          have g9 : i = 9 → ¬ ((1 : Int) < (z i : Int)) := fun e => by omega
          have hf' : f = 9 - i := by omega
          by_cases hge : 128 ≤ z i
          · rw [if_pos hge] at hv ha8
            have q9 : ((i : Int) == 9) = false := by simp; omega
            clear h9 hf g9
            go_wp2_with fail
            go_roundg (10 - (i + 1))
            case measure => go_light; omega
            case rel =>
              go_light
              refine ⟨i + 1, by omega, by omega, rfl, rfl, by simp, ?_, hsn, hrw⟩
              rw [show 10 - (i + 1) = 9 - i by omega, ← hf']; exact hv
          · rw [if_neg hge] at hv ha8
            have hzlt : z i < 128 := by omega
            by_cases hz0 : z i = 0 ∧ 0 < i
            · rw [if_pos hz0] at hv
              cases hv
              obtain ⟨hz0, hip⟩ := hz0
              have hip' : (0 : Int) < (i : Int) := by omega
              rw [hz0] at t0 ha7 ha8 hor
              by_cases e9 : i = 9
              · subst e9
                clear h9 hf g9 hf'
                go_wp2_with fail
                refine bodyPost_ret (v := .tuple #[item0, .int .i64 11]) (by simp [results, Tryz.results162, go_sem, o0, o1, o2]) rfl ⟨rfl, fin _ _ _⟩
              · have q9 : ((i : Int) == 9) = false := by simp; omega
                clear h9 hf g9 hf'
                go_wp2_with fail
                refine bodyPost_ret (v := .tuple #[item0, .int .i64 11]) (by simp [results, Tryz.results162, go_sem, o0, o1, o2]) rfl ⟨rfl, fin _ _ _⟩
            · rw [if_neg hz0] at hv
              have hcs : ((z i = 0 ∧ i = 0) ∨ z i ≠ 0) := by omega
              rcases hcs with ⟨hz1, hi0⟩ | hz1
              · have q9 : ((i : Int) == 9) = false := by simp; omega
                have hip' : ¬ ((0 : Int) < (i : Int)) := by omega
                have zq : ((z i : Int) == 0) = true := by simp; omega
                clear h9 hf g9 hz0 hi0 hz1
                by_cases hmo : most < vs z (i + 1)
                · rw [if_pos hmo] at hv
                  cases hv
                  have hmo' : (most : Int) < (vs z (i + 1) : Int) := by omega
                  clear hf'
                  go_wp2_with fail
                  refine bodyPost_ret (v := .tuple #[item0, .int .i64 12]) (by simp [results, Tryz.results162, go_sem, o0, o1, o2]) rfl ⟨rfl, fin _ _ _⟩
                · rw [if_neg hmo] at hv
                  cases hv
                  have hmo' : ¬ ((most : Int) < (vs z (i + 1) : Int)) := by omega
                  clear hf'
                  go_wp2_with fail
                  refine bodyPost_ret (v := .tuple #[.agg #[.int .u64 (vs z (i + 1) : Nat), .slice none 0 0, .int .i64 ((i + 1 : Nat) : Int)], .int .i64 0]) (by simp [results, Tryz.results162, go_sem, o0, o1, o2]) rfl ⟨rfl, fin _ _ _⟩
              · have zq : ((z i : Int) == 0) = false := by simp; omega
                by_cases e9 : i = 9
                · have g9' := g9 e9
                  have q9 : ((i : Int) == 9) = true := by simp; omega
                  clear h9 hf g9 hz0 e9
                  by_cases hmo : most < vs z (i + 1)
                  · rw [if_pos hmo] at hv
                    cases hv
                    have hmo' : (most : Int) < (vs z (i + 1) : Int) := by omega
                    clear hf'
                    go_wp2_with fail
                    refine bodyPost_ret (v := .tuple #[item0, .int .i64 12]) (by simp [results, Tryz.results162, go_sem, o0, o1, o2]) rfl ⟨rfl, fin _ _ _⟩
                  · rw [if_neg hmo] at hv
                    cases hv
                    have hmo' : ¬ ((most : Int) < (vs z (i + 1) : Int)) := by omega
                    clear hf'
                    go_wp2_with fail
                    refine bodyPost_ret (v := .tuple #[.agg #[.int .u64 (vs z (i + 1) : Nat), .slice none 0 0, .int .i64 ((i + 1 : Nat) : Int)], .int .i64 0]) (by simp [results, Tryz.results162, go_sem, o0, o1, o2]) rfl ⟨rfl, fin _ _ _⟩
                · have q9 : ((i : Int) == 9) = false := by simp; omega
                  clear h9 hf g9 hz0
                  by_cases hmo : most < vs z (i + 1)
                  · rw [if_pos hmo] at hv
                    cases hv
                    have hmo' : (most : Int) < (vs z (i + 1) : Int) := by omega
                    clear hf'
                    go_wp2_with fail
                    refine bodyPost_ret (v := .tuple #[item0, .int .i64 12]) (by simp [results, Tryz.results162, go_sem, o0, o1, o2]) rfl ⟨rfl, fin _ _ _⟩
                  · rw [if_neg hmo] at hv
                    cases hv
                    have hmo' : ¬ ((most : Int) < (vs z (i + 1) : Int)) := by omega
                    clear hf'
                    go_wp2_with fail
                    refine bodyPost_ret (v := .tuple #[.agg #[.int .u64 (vs z (i + 1) : Nat), .slice none 0 0, .int .i64 ((i + 1 : Nat) : Int)], .int .i64 0]) (by simp [results, Tryz.results162, go_sem, o0, o1, o2]) rfl ⟨rfl, fin _ _ _⟩

theorem lookVar_any (a : Option Addr) (m cap most : Nat) (z : Nat → Nat) (w : World) (hmax : m ≤ 281474976710656) (hc : Byt w a m z) (hz : ∀ j, z j < 256) :
    Calls Tryz.prog 162 #[.slice a m cap, .int .u64 most] w fun e w' => e = .returned (.tuple #[.agg #[.int .u64 ((vlook z m most).1 : Nat), .slice none 0 0, .int .i64 ((vlook z m most).2.1 : Nat)], .int .i64 ((vlook z m most).2.2 : Nat)]) ∧ w.Since w.heap.size w' :=
  lookVar_walk a m cap most z w _ _ _ hmax hc hz rfl
end Go.Proofs.YtonpmabdjngdcaaGreatDoor

/- The walks of package code's lookRaw, lookBytes and of look for the kinds Var, Bytes and Raw. -/
namespace Go.Proofs.YtonpmabdjngdcaaGreatDoor
open Go.RowKit

/-- Three cells of a result, written anew. -/
theorem since_item {w wr : World} (hsn : w.Since w.heap.size wr) (u0 u1 u2 : Value) : w.Since w.heap.size (((wr.setCell ⟨w.heap.size, 0, none⟩ u0).setCell ⟨w.heap.size, 1, none⟩ u1).setCell ⟨w.heap.size, 2, none⟩ u2) :=
  ((hsn.setCell (a := ⟨w.heap.size, 0, none⟩) (Nat.le_refl _) _).setCell (a := ⟨w.heap.size, 1, none⟩) (Nat.le_refl _) _).setCell (a := ⟨w.heap.size, 2, none⟩) (Nat.le_refl _) _
theorem txt_item {w wr : World} {ta : Option Addr} {l : Nat} {tx : Nat → Nat} (h : Txt (w.heap.size + 1) wr ta l tx) (u0 u1 u2 : Value) : Txt w.heap.size (((wr.setCell ⟨w.heap.size, 0, none⟩ u0).setCell ⟨w.heap.size, 1, none⟩ u1).setCell ⟨w.heap.size, 2, none⟩ u2) ta l tx := by
  rcases h with h | ⟨t, e, hb, hr⟩
  · exact Or.inl h
  · have q3 : ∀ i, t ≠ (⟨w.heap.size, i, none⟩ : Addr).block := fun i => by show t ≠ w.heap.size; omega
    exact Or.inr ⟨t, e, by omega, ((hr.setOther (q3 0) _).setOther (q3 1) _).setOther (q3 2) _⟩

theorem lookRaw_short (a : Option Addr) (m cap n : Nat) (w : World) (hmax : m ≤ 281474976710656) (hs : m < n) :
    Calls Tryz.prog 164 #[.slice a m cap, .int .u64 n] w fun e w' => e = .returned (.tuple #[item0, .int .i64 10]) ∧ w.Since w.heap.size w' := by
  have hz : (m : Int) < (n : Int) := by omega
  go_enter Tryz.func164, Tryz.ntmps164
  go_wp2
  exact bodyPost_ret (v := .tuple #[item0, .int .i64 10]) (by simp [results, Tryz.results164, go_sem]) rfl ⟨rfl, (World.Since.refl _ _).alloc (Nat.le_refl _) _⟩

set_option maxHeartbeats 800000 in
theorem lookRaw_ok (b off m cap n : Nat) (z : Nat → Nat) (w : World) (hmax : m ≤ 281474976710656) (hcap : m ≤ cap) (hs : n ≤ m) (hc : Byt w (some ⟨b, off, none⟩) m z) :
    Calls Tryz.prog 164 #[.slice (some ⟨b, off, none⟩) m cap, .int .u64 n] w fun e w' => (∃ ta, e = .returned (.tuple #[.agg #[.int .u64 0, .slice ta n n, .int .i64 n], .int .i64 0]) ∧ Txt w.heap.size w' ta n z) ∧ w.Since w.heap.size w' := by
  have hz : ¬ ((m : Int) < (n : Int)) := by omega
  have hz1 : (n : Int) ≤ (cap : Int) := by omega
  have hs0 : w.Since w.heap.size (w.alloc (.cells #[.int .u64 0, .slice none 0 0, .int .i64 0] 137)) := (World.Since.refl _ _).alloc (Nat.le_refl _) _
  have hr0 := item_row w 0 none 0 0
  have e0 : (w.alloc (.cells #[.int .u64 0, .slice none 0 0, .int .i64 0] 137)).heap.size = w.heap.size + 1 := by simp
  have hc1 := (hc.le hs).since hs0
  go_enter Tryz.func164, Tryz.ntmps164
  go_wp2_with fail
  generalize w.alloc (.cells #[.int .u64 0, .slice none 0 0, .int .i64 0] 137) = w0 at *
  refine (copied_any _ n _ z w0 (by omega) hc1).mono ?_
  rintro e w1 ⟨rfl, h1, z1, r1⟩
  have hrw := row_since hr0 h1
  have o0 : w1.cell? ⟨w.heap.size, 0, none⟩ = some (.int .u64 0) := hrw.cell (by decide)
  have o1 : w1.cell? ⟨w.heap.size, 1, none⟩ = some (.slice none 0 0) := hrw.cell (by decide)
  have o2 : w1.cell? ⟨w.heap.size, 2, none⟩ = some (.int .i64 0) := hrw.cell (by decide)
  have p0 := hrw.frozen 0
  have p1 := hrw.frozen 1
  have p2 := hrw.frozen 2
  have hsn : w.Since w.heap.size w1 := hs0.trans (since_mono h1 (by omega))
  have htx : Txt (w.heap.size + 1) w1 (some ⟨w.heap.size + 1, 0, none⟩) n z := by rw [e0] at r1; exact Or.inr ⟨w.heap.size + 1, rfl, Nat.le_refl _, r1⟩
  rw [e0]
  clear hrw h1 r1 hs0 hr0 hc1 hc
  go_wp2_with fail
  refine bodyPost_ret (v := .tuple #[.agg #[.int .u64 0, .slice (some ⟨w.heap.size + 1, 0, none⟩) n n, .int .i64 n], .int .i64 0]) (by simp [results, Tryz.results164, go_sem, o0, o1, o2]) rfl ⟨⟨_, rfl, txt_item htx _ _ _⟩, since_item hsn _ _ _⟩

/-- A text with its length ahead: its length, how many bytes it takes, its fault. -/
def blook (z : Nat → Nat) (m most : Nat) : Nat × Nat × Nat :=
  if (vlook z m most).2.2 ≠ 0 then (0, 0, (vlook z m most).2.2) else if m - (vlook z m most).2.1 < (vlook z m most).1 then (0, 0, 10) else ((vlook z m most).1, (vlook z m most).2.1 + (vlook z m most).1, 0)

theorem vres_size (z : Nat → Nat) (m most : Nat) : ∀ f i, i ≤ m → (vres z m most f i).2.2 = 0 → (vres z m most f i).2.1 ≤ m ∧ i < (vres z m most f i).2.1 ∧ (vres z m most f i).1 = vs z (vres z m most f i).2.1 ∧ (vres z m most f i).1 ≤ most
  | 0, i, _, h => by simp [vres] at h
  | f + 1, i, him, h => by
    unfold vres at h ⊢
    split at h
    · simp at h
    · next h1 =>
      rw [if_neg h1]
      split at h
      · simp at h
      · next h2 =>
        rw [if_neg h2]
        split at h
        · next h3 =>
          rw [if_pos h3]
          have := vres_size z m most f (i + 1) (by omega) h
          exact ⟨this.1, by omega, this.2.2⟩
        · next h3 =>
          rw [if_neg h3]
          split at h
          · simp at h
          · next h4 =>
            rw [if_neg h4]
            split at h
            · simp at h
            · next h5 =>
              rw [if_neg h5]
              exact ⟨by show i + 1 ≤ m; omega, by show i < i + 1; omega, rfl, by show vs z (i + 1) ≤ most; omega⟩
theorem vlook_size (z : Nat → Nat) (m most : Nat) (h : (vlook z m most).2.2 = 0) : (vlook z m most).2.1 ≤ m ∧ 0 < (vlook z m most).2.1 ∧ (vlook z m most).1 = vs z (vlook z m most).2.1 ∧ (vlook z m most).1 ≤ most :=
  vres_size z m most 10 0 (Nat.zero_le _) h
theorem vres_bad (z : Nat → Nat) (m most : Nat) : ∀ f i, (vres z m most f i).2.2 ≠ 0 → (vres z m most f i).1 = 0 ∧ (vres z m most f i).2.1 = 0
  | 0, i, _ => ⟨rfl, rfl⟩
  | f + 1, i, h => by
    unfold vres at h ⊢
    split
    · exact ⟨rfl, rfl⟩
    · next h1 =>
      rw [if_neg h1] at h
      split
      · exact ⟨rfl, rfl⟩
      · next h2 =>
        rw [if_neg h2] at h
        split
        · next h3 => rw [if_pos h3] at h; exact vres_bad z m most f (i + 1) h
        · next h3 =>
          rw [if_neg h3] at h
          split
          · exact ⟨rfl, rfl⟩
          · next h4 =>
            rw [if_neg h4] at h
            split
            · exact ⟨rfl, rfl⟩
            · next h5 => rw [if_neg h5] at h; exact absurd rfl h
theorem vlook_bad (z : Nat → Nat) (m most : Nat) (h : (vlook z m most).2.2 ≠ 0) : (vlook z m most).1 = 0 ∧ (vlook z m most).2.1 = 0 := vres_bad z m most 10 0 h
end Go.Proofs.YtonpmabdjngdcaaGreatDoor
