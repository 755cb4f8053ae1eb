/- The calls of a script, as functions of their place. -/
import Derived.Test.YtbmdnlomhnodeabDoorLend
namespace Go.Proofs.YtbmdnlomhnodeabDoor
open Go.RowKit
set_option maxRecDepth 100000

/-- One call of a script. -/
structure OpD where
  K : Int
  WH : Int
  M : Int
  N : Nat
  ba : Option Addr
  bl : Nat
  bc : Nat
  zb : Nat → Nat
/-- What the walk knows of the calls of its script. -/
structure Ops (w : World) (ob oo olen : Nat) (F : Nat → OpD) : Prop where
  c : ∀ i, i < olen → w.cell? ⟨ob, oo + i * 5, none⟩ = some (.int .i64 (F i).K) ∧ w.cell? ⟨ob, oo + i * 5 + 1, none⟩ = some (.int .i64 (F i).WH) ∧ w.cell? ⟨ob, oo + i * 5 + 2, none⟩ = some (.int .i64 (F i).M) ∧ w.cell? ⟨ob, oo + i * 5 + 3, none⟩ = some (.int .u64 (F i).N) ∧ w.cell? ⟨ob, oo + i * 5 + 4, none⟩ = some (.slice (F i).ba (F i).bl (F i).bc)
  n : ∀ i, i < olen → (F i).N < 18446744073709551616
  byt : ∀ i, i < olen → Byt w (F i).ba (F i).bl (F i).zb
  nil : ∀ i, i < olen → (F i).ba = none → (F i).bl = 0 ∧ (F i).bc = 0
  bl : ∀ i, i < olen → (F i).bl ≤ 1048576
  zb : ∀ i, i < olen → ∀ j, (F i).zb j < 256
theorem Ops.since {w w' : World} {ob oo olen : Nat} {F : Nat → OpD} (h : Ops w ob oo olen F) (hs : w.Since w.heap.size w') : Ops w' ob oo olen F :=
  ⟨fun i hi => by
    have mv : ∀ {o : Nat} {u : Value}, w.cell? ⟨ob, o, none⟩ = some u → w'.cell? ⟨ob, o, none⟩ = some u := fun {o u} hc => by
      rw [hs.cell (a := ⟨ob, o, none⟩) (World.block_lt_of_cell? _ _ hc)]; exact hc
    obtain ⟨c0, c1, c2, c3, c4⟩ := h.c i hi
    exact ⟨mv c0, mv c1, mv c2, mv c3, mv c4⟩, h.n, fun i hi => (h.byt i hi).since hs, h.nil, h.bl, h.zb⟩
theorem Ops.low {w : World} {ob oo olen : Nat} {F : Nat → OpD} (h : Ops w ob oo olen F) {i : Nat} (hi : i < olen) (hp : 0 < (F i).bl) {b off : Nat} (e : (F i).ba = some ⟨b, off, none⟩) : b < w.heap.size := by
  obtain ⟨b', off', e', hc⟩ := h.byt i hi 0 hp
  rw [e] at e'
  cases e'
  exact World.block_lt_of_cell? _ _ hc
end Go.Proofs.YtbmdnlomhnodeabDoor
