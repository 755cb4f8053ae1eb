/- The walks of package code's lookFixed, look (of the kinds of fixed size), fail and next. -/
import Derived.Test.YtbmdnlomhnodeabDoorKit
namespace Go.Proofs.YtbmdnlomhnodeabDoor
open Go.RowKit
set_option maxRecDepth 100000

/-- The number that the first i bytes tell, the highest first. -/
def be (z : Nat → Nat) : Nat → Nat
  | 0 => 0
  | i + 1 => be z i * 256 + z i
theorem be_lt (z : Nat → Nat) (hz : ∀ j, z j < 256) : ∀ i, be z i < 256 ^ i
  | 0 => by show 0 < 1; decide
  | i + 1 => by
    have h1 := be_lt z hz i
    have h2 := hz i
    show be z i * 256 + z i < 256 ^ (i + 1)
    rw [Nat.pow_succ]
    omega
theorem be_lt64 (z : Nat → Nat) (hz : ∀ j, z j < 256) (i : Nat) (hi : i ≤ 8) : be z i < 18446744073709551616 :=
  Nat.lt_of_lt_of_le (be_lt z hz i) (by
    have := Nat.pow_le_pow_right (n := 256) (by decide) hi
    exact this)
theorem or_byte (n c : Nat) (hc : c < 256) : n * 256 ||| c = n * 256 + c := nat_join 8 (n * 256) c (by simp [Nat.mul_mod_left]) hc

/-- An empty item; an item. -/
abbrev item0 : Value := .agg #[.int .u64 0, .slice none 0 0, .int .i64 0]

/-- The cells of an item. -/
def itemCell (n : Nat) (a : Option Addr) (l : Nat) (size : Nat) : Nat → Value
  | 0 => .int .u64 n
  | 1 => .slice a l l
  | _ => .int .i64 size
/-- i bytes have been taken in. -/
structure Fx (w wx : World) (z : Nat → Nat) (width i : Nat) : Prop where
  since : w.Since w.heap.size wx
  size : wx.heap.size = w.heap.size + 2
  out : wx.rowIs w.heap.size 91 3 (itemCell 0 none 0 0)
  cur : wx.rowIs (w.heap.size + 1) 91 3 (itemCell (be z i) none 0 width)
theorem item_row (w : World) (n : Nat) (a : Option Addr) (l size : Nat) : (w.alloc (.cells #[.int .u64 n, .slice a l l, .int .i64 size] 91)).rowIs w.heap.size 91 3 (itemCell n a l size) :=
  World.rowIs_alloc w #[.int .u64 n, .slice a l l, .int .i64 size] 91 _ (fun i hi => by
    match i, hi with
    | 0, _ => rfl
    | 1, _ => rfl
    | 2, _ => rfl)
theorem fx_start (w : World) (z : Nat → Nat) (width : Nat) : Fx w ((w.alloc (.cells #[.int .u64 0, .slice none 0 0, .int .i64 0] 91)).alloc (.cells #[.int .u64 0, .slice none 0 0, .int .i64 width] 91)) z width 0 :=
  ⟨((World.Since.refl _ _).alloc (Nat.le_refl _) _).alloc (by simp) _, by simp, (item_row w 0 none 0 0).alloc _, by
    have h := item_row (w.alloc (.cells #[.int .u64 0, .slice none 0 0, .int .i64 0] 91)) 0 none 0 width
    rw [show (w.alloc (.cells #[.int .u64 0, .slice none 0 0, .int .i64 0] 91)).heap.size = w.heap.size + 1 by simp] at h
    exact h⟩
theorem fx_step {w wx : World} {z : Nat → Nat} {width i : Nat} (h : Fx w wx z width i) : Fx w (wx.setCell ⟨w.heap.size + 1, 0, none⟩ (.int .u64 (be z (i + 1) : Nat))).drew z width (i + 1) :=
  ⟨(h.since.setCell (by show w.heap.size ≤ w.heap.size + 1; omega) _).drew, by simp [h.size], (h.out.setOther (by show w.heap.size ≠ w.heap.size + 1; omega) _).drew, ((h.cur.set 0 _).congr (fun j hj => by
    match j, hj with
    | 0, _ => rfl
    | 1, _ => rfl
    | 2, _ => rfl)).drew⟩

set_option maxHeartbeats 800000 in
theorem lookFixed_short (a : Option Addr) (len cap width : Nat) (w : World) (hs : len < width) :
    Calls Tryd.prog 92 #[.slice a len cap, .int .i64 width] w fun e w' => e = .returned (.tuple #[item0, .int .i64 10]) ∧ w.Since w.heap.size w' := by
  go_enter Tryd.func92, Tryd.ntmps92
  go_wp2
  exact bodyPost_ret (v := .tuple #[item0, .int .i64 10]) (by simp [results, Tryd.results92, go_sem]) rfl ⟨rfl, (World.Since.refl _ _).alloc (Nat.le_refl _) _⟩

set_option maxHeartbeats 1600000 in
theorem lookFixed_ok (b off len cap width : Nat) (z : Nat → Nat) (w : World) (hw : width ≤ 8) (hs : width ≤ len) (hl : len ≤ 281474976710656) (hc : ∀ j, j < len → w.cell? ⟨b, off + j, none⟩ = some (.int .u8 (z j : Nat))) (hz : ∀ j, z j < 256) (hlt : b < w.heap.size) :
    Calls Tryd.prog 92 #[.slice (some ⟨b, off, none⟩) len cap, .int .i64 width] w fun e w' => e = .returned (.tuple #[.agg #[.int .u64 (be z width : Nat), .slice none 0 0, .int .i64 width], .int .i64 0]) ∧ w.Since w.heap.size w' := by
  go_enter Tryd.func92, Tryd.ntmps92
  go_wp2_with fail
  have hF0 := fx_start w z width
  go_loopg [16] width (fun g s16 wx => ∃ i : Nat, i ≤ width ∧ g = width - i ∧ s16 = .int .i64 i ∧ Fx w wx z width i)
  case atStart => exact ⟨0, Nat.zero_le _, rfl, rfl, hF0⟩
  case round =>
    obtain ⟨i, hi, rfl, rfl, hF⟩ := hrel
    clear hF0
    by_cases hlt' : i < width
    · have hiz : (i : Int) < (width : Int) := by omega
      have hil : (i : Int) < (len : Int) := by omega
      have t0 : wr.cell? ⟨b, off + i, none⟩ = some (.int .u8 (z i : Nat)) := by rw [hF.since.cell (a := ⟨b, off + i, none⟩) hlt]; exact hc i (by omega)
      have t1 : wr.cell? ⟨w.heap.size + 1, 0, none⟩ = some (.int .u64 (be z i : Nat)) := hF.cur.cell (by decide)
      have t2 : wr.frozen? ⟨w.heap.size + 1, 0, none⟩ = false := hF.cur.frozen 0
      have b1 := be_lt64 z hz (i + 1) (by omega)
      have b2 := hz i
      have e1 : be z (i + 1) = be z i * 256 + z i := rfl
      have hst := fx_step hF
      have hor : bits .or .u64 ((be z i : Int) * 256) (z i : Int) = ((be z (i + 1) : Nat) : Int) := by
        have := u64_or_nat (be z i * 256) (z i) (by omega) (by omega)
        rw [or_byte _ _ b2] at this
        rw [e1]; simpa using this
      have b3 : be z i * 256 < 18446744073709551616 := by omega
      clear e1 hc hF
      generalize be z (i + 1) = N1 at *
      generalize be z i = N at *
      generalize z i = c at *
      go_wp2_with fail
      go_big_region
      go_wp2
      go_roundg (width - (i + 1))
      case measure => go_light; omega
      case rel => go_light; exact ⟨i + 1, by omega, rfl, by simp, hst⟩
    · obtain rfl : i = width := by omega
      have o0 : wr.cell? ⟨w.heap.size, 0, none⟩ = some (.int .u64 0) := hF.out.cell (by decide)
      have o1 : wr.cell? ⟨w.heap.size, 1, none⟩ = some (.slice none 0 0) := hF.out.cell (by decide)
      have o2 : wr.cell? ⟨w.heap.size, 2, none⟩ = some (.int .i64 0) := hF.out.cell (by decide)
      have p0 := hF.out.frozen 0
      have p1 := hF.out.frozen 1
      have p2 := hF.out.frozen 2
      have k0 : wr.cell? ⟨w.heap.size + 1, 0, none⟩ = some (.int .u64 (be z i : Nat)) := hF.cur.cell (by decide)
      have k1 : wr.cell? ⟨w.heap.size + 1, 1, none⟩ = some (.slice none 0 0) := hF.cur.cell (by decide)
      have k2 : wr.cell? ⟨w.heap.size + 1, 2, none⟩ = some (.int .i64 i) := hF.cur.cell (by decide)
      have hsn := hF.since
      clear hF hc
      go_wp2_with fail
      refine bodyPost_ret (v := .tuple #[.agg #[.int .u64 (be z i : Nat), .slice none 0 0, .int .i64 i], .int .i64 0]) (by simp [results, Tryd.results92, go_sem, o0, o1, o2]) rfl ⟨rfl, ?_⟩
      exact ((hsn.setCell (a := ⟨w.heap.size, 0, none⟩) (Nat.le_refl _) _).setCell (a := ⟨w.heap.size, 1, none⟩) (Nat.le_refl _) _).setCell (a := ⟨w.heap.size, 2, none⟩) (Nat.le_refl _) _

/-- The table of widths. -/
def Wid (w : World) : Prop := w.cell? ⟨0, 0, none⟩ = some (.int .i64 1) ∧ w.cell? ⟨0, 1, none⟩ = some (.int .i64 4) ∧ w.cell? ⟨0, 2, none⟩ = some (.int .i64 8)
def widthOf : Nat → Nat
  | 0 => 1
  | 1 => 4
  | _ => 8
theorem Wid.at {w : World} (h : Wid w) (k : Nat) (hk : k ≤ 2) : w.cell? ⟨0, k, none⟩ = some (.int .i64 (widthOf k : Nat)) := by
  match k, hk with
  | 0, _ => exact h.1
  | 1, _ => exact h.2.1
  | 2, _ => exact h.2.2
theorem Wid.since {w w' : World} (h : Wid w) (hs : w.Since w.heap.size w') : Wid w' := by
  have hlt := World.block_lt_of_cell? _ _ h.1
  exact ⟨by rw [hs.cell (a := ⟨0, 0, none⟩) hlt]; exact h.1, by rw [hs.cell (a := ⟨0, 1, none⟩) hlt]; exact h.2.1, by rw [hs.cell (a := ⟨0, 2, none⟩) hlt]; exact h.2.2⟩
theorem widthOf_le (k : Nat) : widthOf k ≤ 8 := by
  match k with
  | 0 => decide
  | 1 => decide
  | _ + 2 => exact Nat.le_refl _

theorem row_since {w w' : World} {b t n : Nat} {f : Nat → Value} (h : w.rowIs b t n f) (hs : w.Since w.heap.size w') : w'.rowIs b t n f := h.of_block (hs.block b h.lt)
/-- The result's cells, behind a callee. -/
theorem item0_cells {w w1 : World} (hs : (w.alloc (.cells #[.int .u64 0, .slice none 0 0, .int .i64 0] 91)).Since (w.heap.size + 1) w1) :
    w1.rowIs w.heap.size 91 3 (itemCell 0 none 0 0) := row_since (item_row w 0 none 0 0) (by simpa using hs)

/-- look OF A KIND OF FIXED SIZE. -/
theorem look_fixed_short (k : Nat) (a : Option Addr) (len cap : Nat) (bound : Int) (w : World) (hk : k ≤ 2) (hw : Wid w) (hs : len < widthOf k) :
    Calls Tryd.prog 67 #[.int .i64 k, .slice a len cap, .int .u64 bound] w fun e w' => e = .returned (.tuple #[item0, .int .i64 10]) ∧ w.Since w.heap.size w' := by
  have hc := hw.at k hk
  have hlt := World.block_lt_of_cell? _ _ hc
  have q3 : ((k : Int) == 3) = false := by simp; omega
  have q4 : ((k : Int) == 4) = false := by simp; omega
  have q5 : ((k : Int) == 5) = false := by simp; omega
  have kz : (k : Int) < 3 := by omega
  go_enter Tryd.func67, Tryd.ntmps67
  go_wp2_with fail
  refine (lookFixed_short a len cap (widthOf k) _ hs).mono ?_
  rintro e w1 ⟨rfl, h1⟩
  have hsz : (w.alloc (.cells #[.int .u64 0, .slice none 0 0, .int .i64 0] 91)).heap.size = w.heap.size + 1 := by simp
  rw [hsz] at h1
  have ho := item0_cells h1
  have o0 : w1.cell? ⟨w.heap.size, 0, none⟩ = some (.int .u64 0) := ho.cell (by decide)
  have o1 : w1.cell? ⟨w.heap.size, 1, none⟩ = some (.slice none 0 0) := ho.cell (by decide)
  have o2 : w1.cell? ⟨w.heap.size, 2, none⟩ = some (.int .i64 0) := ho.cell (by decide)
  have p0 := ho.frozen 0
  have p1 := ho.frozen 1
  have p2 := ho.frozen 2
  have hs1 : w.Since w.heap.size w1 := ((World.Since.refl _ _).alloc (Nat.le_refl _) _).trans (since_mono h1 (by omega))
  clear h1 ho hsz
  go_wp2_with fail
  refine bodyPost_ret (v := .tuple #[item0, .int .i64 10]) (by simp [results, Tryd.results67, go_sem, o0, o1, o2]) rfl ⟨rfl, ?_⟩
  exact ((hs1.setCell (a := ⟨w.heap.size, 0, none⟩) (Nat.le_refl _) _).setCell (a := ⟨w.heap.size, 1, none⟩) (Nat.le_refl _) _).setCell (a := ⟨w.heap.size, 2, none⟩) (Nat.le_refl _) _

theorem look_fixed_ok (k : Nat) (b off len cap : Nat) (bound : Int) (z : Nat → Nat) (w : World) (hk : k ≤ 2) (hw : Wid w) (hs : widthOf k ≤ len) (hl : len ≤ 281474976710656)
    (hc : ∀ j, j < len → w.cell? ⟨b, off + j, none⟩ = some (.int .u8 (z j : Nat))) (hz : ∀ j, z j < 256) (hb : b < w.heap.size) :
    Calls Tryd.prog 67 #[.int .i64 k, .slice (some ⟨b, off, none⟩) len cap, .int .u64 bound] w fun e w' =>
      e = .returned (.tuple #[.agg #[.int .u64 (be z (widthOf k) : Nat), .slice none 0 0, .int .i64 (widthOf k : Nat)], .int .i64 0]) ∧ w.Since w.heap.size w' := by
  have hck := hw.at k hk
  have hlt := World.block_lt_of_cell? _ _ hck
  have hwl := widthOf_le k
  have q3 : ((k : Int) == 3) = false := by simp; omega
  have q4 : ((k : Int) == 4) = false := by simp; omega
  have q5 : ((k : Int) == 5) = false := by simp; omega
  have kz : (k : Int) < 3 := by omega
  have hcA : ∀ j, j < len → (w.alloc (.cells #[.int .u64 0, .slice none 0 0, .int .i64 0] 91)).cell? ⟨b, off + j, none⟩ = some (.int .u8 (z j : Nat)) := fun j hj => by
    rw [World.cell?_alloc_lt _ _ _ hb]; exact hc j hj
  have HA := hide hcA
  clear hc hcA
  go_enter Tryd.func67, Tryd.ntmps67
  go_wp2_with fail
  refine (lookFixed_ok b off len cap (widthOf k) z _ hwl hs hl (unhide HA) hz (by simp; omega)).mono ?_
  rintro e w1 ⟨rfl, h1⟩
  have hsz : (w.alloc (.cells #[.int .u64 0, .slice none 0 0, .int .i64 0] 91)).heap.size = w.heap.size + 1 := by simp
  rw [hsz] at h1
  have ho := item0_cells h1
  have o0 : w1.cell? ⟨w.heap.size, 0, none⟩ = some (.int .u64 0) := ho.cell (by decide)
  have o1 : w1.cell? ⟨w.heap.size, 1, none⟩ = some (.slice none 0 0) := ho.cell (by decide)
  have o2 : w1.cell? ⟨w.heap.size, 2, none⟩ = some (.int .i64 0) := ho.cell (by decide)
  have p0 := ho.frozen 0
  have p1 := ho.frozen 1
  have p2 := ho.frozen 2
  have hs1 : w.Since w.heap.size w1 := ((World.Since.refl _ _).alloc (Nat.le_refl _) _).trans (since_mono h1 (by omega))
  clear h1 ho hsz
  go_wp2_with fail
  refine bodyPost_ret (v := .tuple #[.agg #[.int .u64 (be z (widthOf k) : Nat), .slice none 0 0, .int .i64 (widthOf k : Nat)], .int .i64 0]) (by simp [results, Tryd.results67, go_sem, o0, o1, o2]) rfl ⟨rfl, ?_⟩
  exact ((hs1.setCell (a := ⟨w.heap.size, 0, none⟩) (Nat.le_refl _) _).setCell (a := ⟨w.heap.size, 1, none⟩) (Nat.le_refl _) _).setCell (a := ⟨w.heap.size, 2, none⟩) (Nat.le_refl _) _

/-- fail: the first fault is kept. -/
theorem fail_none (rb : Nat) (bad q : Int) (w : World) (h2 : w.cell? ⟨rb, 2, none⟩ = some (.int .i64 q)) (hq : (q == 0) = false) :
    Calls Tryd.prog 58 #[.pointer (some ⟨rb, 0, none⟩), .int .i64 bad] w fun e w' => e = .returned (.tuple #[]) ∧ w' = w := by
  go_enter Tryd.func58, Tryd.ntmps58
  go_wp2
  go_end0
  exact ⟨rfl, rfl⟩
theorem fail_first (rb : Nat) (bad : Int) (w : World) (h2 : w.cell? ⟨rb, 2, none⟩ = some (.int .i64 0)) (hf : w.frozen? ⟨rb, 2, none⟩ = false) :
    Calls Tryd.prog 58 #[.pointer (some ⟨rb, 0, none⟩), .int .i64 bad] w fun e w' => e = .returned (.tuple #[]) ∧ w' = w.setCell ⟨rb, 2, none⟩ (.int .i64 bad) := by
  go_enter Tryd.func58, Tryd.ntmps58
  go_wp2
  go_end0
  exact ⟨rfl, rfl⟩
end Go.Proofs.YtbmdnlomhnodeabDoor
