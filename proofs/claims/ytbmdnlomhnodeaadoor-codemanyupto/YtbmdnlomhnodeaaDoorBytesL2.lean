/- Writer.Bytes, where the bytes may lie anywhere if there are none. -/
import Derived.Test.YtbmdnlomhnodeaaDoorWrites1
namespace Go.Proofs.YtbmdnlomhnodeaaDoor
open Go.RowKit

theorem bytes_l3 (wb B : Nat) (v : Value) (l : List Nat) (a : Option Addr) (m c : Nat) (y : Nat → Nat) (w : World) (h : IsL w wb B v l) (hb : Byt w a m y) (ha : a = none → m = 0 ∧ c = 0) (hmax : l.length + 10 + m ≤ 140737488355328) (hne : 0 < m → ∀ b off, a = some ⟨b, off, none⟩ → b ≠ wb ∧ some b ≠ v.ownBlock) :
    Calls Tryd.prog 30 #[.pointer (some ⟨wb, 0, none⟩), .slice a m c] w fun e w' => e = .returned (.tuple #[]) ∧ ∃ v', IsL w' wb B v' (l ++ (vl 9 m ++ (List.range m).map y)) ∧ Ext wb v v' w w' := by
  go_enter Tryd.func30, Tryd.ntmps30
  go_wp2_with fail
  refine (var_l wb B v l m w h (by omega) (by omega)).mono ?_
  rintro e w1 ⟨rfl, v1, h1, hE1⟩
  have hb1 : Byt w1 a m y := fun j hj => by
    obtain ⟨b, off, e, hc⟩ := hb j hj
    have hn := hne (by omega) b off e
    exact ⟨b, off, e, by rw [World.cell?_of_block (w := w) (hE1.block b (World.block_lt_of_cell? _ _ hc) hn.1 hn.2)]; exact hc⟩
  have hl := vl_len 9 m
  go_wp2_with fail
  refine (raw_l wb B v1 (l ++ vl 9 m) a m c y w1 h1 hb1 ha (by rw [List.length_append]; omega)).mono ?_
  rintro e w2 ⟨rfl, v2, h2, hE2⟩
  go_wp2_with fail
  go_end0
  exact ⟨rfl, v2, by rw [← List.append_assoc]; exact h2, hE1.trans hE2⟩
end Go.Proofs.YtbmdnlomhnodeaaDoor
