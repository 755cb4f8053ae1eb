/- The marks of TextLines; append of one list to a list of lists. -/
import Derived.Test.YthoeehgnkolgpaaDoorRefWords
import Derived.Test.YthoeehgnkolgpaaDoorRefMoney
namespace Go.Proofs.YthoeehgnkolgpaaDoor
open Go.RowKit

theorem info22 : (Tryd.prog.info? 22).map (fun i => (i.zero, i.size, i.bytes)) = some (some (.slice none 0 0), 1, 24) := by kernel_rfl
/-- append of one list of texts to a list of such lists: what it leaves of every block below, and of every block but its own. -/
theorem app_list {w : World} {K n : Nat} {v : Value} {xs : List Value} (h : w.ownsRow K 22 1 v n xs) (y : Value) (hy : ∃ a l c, y = .slice a l c) (hb : (n + 1) * 24 ≤ 140737488355328) (hK : K ≤ w.heap.size) (ty : TypeId) :
    ∃ v' w', (Builtin.append_ #[53, 53] ty #[v, .slice (some ⟨w.heap.size, 0, none⟩) 1 1]).run Tryd.prog (w.alloc (.cells #[y] 22)) = .ok v' w' ∧ w'.ownsRow K 22 1 v' (n + 1) (xs ++ [y]) ∧ (w.alloc (.cells #[y] 22)).grownBy w' v.ownBlock := by
  obtain ⟨ya, yl, yc, rfl⟩ := hy
  obtain ⟨i0, hi, hz0, hz1, hz2⟩ := info_parts info22
  obtain ⟨v', w', h1, h2, h3, _⟩ := run_append_own (P := Tryd.prog) (w := w.alloc (.cells #[.slice ya yl yc] 22)) K 53 ty 22 i0 (.slice none 0 0) 1 24 Tryd.underlying53 hi hz0 hz1 hz2 rfl (by decide) v n xs (h.alloc _) ⟨w.heap.size, 0, none⟩ 1 1 [.slice ya yl yc] rfl
    (fun j u hj => by
      obtain ⟨hj1, hj2⟩ := List.getElem?_eq_some_iff.1 hj
      have : j = 0 := by simpa using hj1
      subst this
      rw [← hj2]
      simp [Addr.add])
    (fun u hu => by simp at hu; subst hu; rfl) (by have : maxLen = 9223372036854775807 := rfl; omega) hb (by simp; omega)
  exact ⟨v', w', h1, h2, h3⟩
/-- A text of list i alone. -/
def markS (i k : Nat) : ByteArray := ⟨#[UInt8.ofNat (i % 256), UInt8.ofNat (i / 256 % 256), UInt8.ofNat (i / 65536 % 256), UInt8.ofNat k]⟩
set_option maxRecDepth 100000 in
theorem str4 (W : World) (x y z u : Nat) (hx : x < 256) (hy : y < 256) (hz : z < 256) (hu : u < 256) : (convert 40 9 (.slice (some ⟨W.heap.size, 0, none⟩) 4 4)).run Tryd.prog (W.alloc (.cells #[.int .u8 (x : Int), .int .u8 (y : Int), .int .u8 (z : Int), .int .u8 (u : Int)] 5)) = .ok (.string ⟨#[UInt8.ofNat x, UInt8.ofNat y, UInt8.ofNat z, UInt8.ofNat u]⟩) (W.alloc (.cells #[.int .u8 (x : Int), .int .u8 (y : Int), .int .u8 (z : Int), .int .u8 (u : Int)] 5)) := by
  have h := str_cells W [UInt8.ofNat x, UInt8.ofNat y, UInt8.ofNat z, UInt8.ofNat u] 4
  simp only [Lib.byteCells, List.map, of_small hx, of_small hy, of_small hz, of_small hu] at h
  exact h
set_option maxHeartbeats 1600000 in
set_option maxRecDepth 100000 in
theorem mark_any (i k : Nat) (w : World) (hk : k ≤ 1) :
    Calls Tryd.prog 25 #[.int .i64 i, .int .i64 k] w fun e w' => e = .returned (.string (markS i k)) ∧ Below w.heap.size w w' := by
  have h4 := fun W => str4 W (i % 256) (i / 256 % 256) (i / 65536 % 256) k (by omega) (by omega) (by omega) (by omega)
  obtain ⟨x, hx⟩ : ∃ x, x = i % 256 := ⟨_, rfl⟩
  obtain ⟨y, hy⟩ : ∃ x, x = i / 256 % 256 := ⟨_, rfl⟩
  obtain ⟨z, hz⟩ : ∃ x, x = i / 65536 % 256 := ⟨_, rfl⟩
  have w1 : IntKind.u8.wrap (i : Int) = (x : Int) := by rw [IntKind.wrap_u8']; omega
  have w2 : IntKind.u8.wrap ((i : Int) / 256) = (y : Int) := by rw [IntKind.wrap_u8']; omega
  have w3 : IntKind.u8.wrap ((i : Int) / 65536) = (z : Int) := by rw [IntKind.wrap_u8']; omega
  have w4 : IntKind.u8.wrap (k : Int) = (k : Int) := wr_u8 (by omega) (by omega)
  unfold markS
  rw [← hx, ← hy, ← hz] at h4 ⊢
  generalize (⟨#[UInt8.ofNat x, UInt8.ofNat y, UInt8.ofNat z, UInt8.ofNat k]⟩ : ByteArray) = M at *
  clear hx hy hz
  go_enter Tryd.func25, Tryd.ntmps25
  go_wp2_with fail
  go_ret
  exact ⟨rfl, (Below.refl _ w).alloc (Nat.le_refl _) _⟩
end Go.Proofs.YthoeehgnkolgpaaDoor
