/- The Shelf of ints: may it hold more, is all on it as it was? -/
import Derived.Test.YtbebnjeamlmclaaGreatPlaneRef3
import Derived.Test.YtbebnjeamlmclaaGreatSpread4
namespace Go.Proofs.YtbebnjeamlmclaaGreat
open Go.RowKit Go.Shelf Go.Sort
set_option maxRecDepth 100000
set_option maxRecDepth 100000

/-- A Shelf of ints alone. -/
def shCell (sz : Int) (kv ov : Value) (i : Nat) : Value := if i = 0 then .int .i64 sz else if i = 1 then kv else if i = 2 then ov else .slice none 0 0

theorem shelf_holds (xb : Nat) (sz n : Nat) (kv ov : Value) (w : World) (h : w.rowIs xb 30 11 (shCell sz kv ov)) (hs : sz ≤ 1000000000000) (hn : n ≤ 1000000000000) :
    Calls Tryz.prog 15 #[.pointer (some ⟨xb, 0, none⟩), .int .i64 n] w fun e w' => e = .returned (.bool (decide (sz + n + 50 ≤ 4194304))) ∧ w' = w.setCell ⟨xb, 0, none⟩ (.int .i64 (sz + n + 50 : Nat)) := by
  have c0 : w.cell? ⟨xb, 0, none⟩ = some (.int .i64 (sz : Int)) := h.cell (i := 0) (by decide)
  have f0 := h.frozen 0
  have hsz : (sz : Int) ≤ 1000000000000 := by omega
  have hnz : (n : Int) ≤ 1000000000000 := by omega
  clear h
  have hd : decide (sz + n + 50 ≤ 4194304) = decide ((sz : Int) + (n : Int) + 50 ≤ 4194304) := decide_eq_decide.2 (by omega)
  rw [hd]
  go_enter Tryz.func15, Tryz.ntmps15
  go_wp2_with fail
  go_ret
  exact ⟨rfl, by push_cast; rfl⟩

/-- Beside each list lies another with the same in it. -/
def SameL (W : World) (kv ov : Value) (N : Nat) : Prop :=
  ∃ ka kc oa oc, kv = .slice ka N kc ∧ ov = .slice oa N oc ∧ N ≤ kc ∧ N ≤ oc ∧ ∀ p, p < N → ∃ kb ob a c a' c' n f, ka = some ⟨kb, 0, none⟩ ∧ oa = some ⟨ob, 0, none⟩ ∧ W.cell? ⟨kb, p, none⟩ = some (.slice a n c) ∧ W.cell? ⟨ob, p, none⟩ = some (.slice a' n c') ∧ n ≤ 1048576 ∧ IntsAt W a n f ∧ IntsAt W a' n f

theorem IntsAt.on {W W' : World} {a : Option Addr} {n : Nat} {f : Nat → Int} (h : IntsAt W a n f) (hb : RowKit.Below W.heap.size W W') : IntsAt W' a n f := fun j hj => by
  obtain ⟨b, o, e, hc⟩ := h j hj
  exact ⟨b, o, e, by rw [World.cell?_of_block (a := ⟨b, o + j, none⟩) (hb.block _ (World.block_lt_of_cell? _ _ hc))]; exact hc⟩
theorem cel_on {W W' : World} {b i : Nat} {v : Value} (h : RowKit.Below W.heap.size W W') (hc : W.cell? ⟨b, i, none⟩ = some v) : W'.cell? ⟨b, i, none⟩ = some v := by
  rw [World.cell?_of_block (a := ⟨b, i, none⟩) (h.block _ (World.block_lt_of_cell? _ _ hc))]; exact hc

set_option maxHeartbeats 4000000 in
theorem shelf_same (xb N : Nat) (sz : Int) (kv ov : Value) (W : World) (hN : N ≤ 1000) (h : W.rowIs xb 30 11 (shCell sz kv ov)) (hS : SameL W kv ov N) :
    Calls Tryz.prog 16 #[.pointer (some ⟨xb, 0, none⟩)] W fun e w' => e = .returned (.bool true) ∧ RowKit.Below W.heap.size W w' := by
  obtain ⟨ka, kc, oa, oc, rfl, rfl, hkc, hoc, hl⟩ := hS
  have HL : Hid (∀ p, p < N → ∃ kb ob a c a' c' n f, ka = some ⟨kb, 0, none⟩ ∧ oa = some ⟨ob, 0, none⟩ ∧ W.cell? ⟨kb, p, none⟩ = some (.slice a n c) ∧ W.cell? ⟨ob, p, none⟩ = some (.slice a' n c') ∧ n ≤ 1048576 ∧ IntsAt W a n f ∧ IntsAt W a' n f) := hl
  clear hl
  have mixed : Tryz.prog.follows .mixedOrders = true := by kernel_rfl
  have hNz : (N : Int) ≤ 1000 := by omega
  have hNkc : (N : Int) ≤ (kc : Int) := by omega
  have hNoc : (N : Int) ≤ (oc : Int) := by omega
  have c1 : W.cell? ⟨xb, 1, none⟩ = some (.slice ka N kc) := h.cell (i := 1) (by decide)
  have c2 : W.cell? ⟨xb, 2, none⟩ = some (.slice oa N oc) := h.cell (i := 2) (by decide)
  have c3 : W.cell? ⟨xb, 3, none⟩ = some (.slice none 0 0) := h.cell (i := 3) (by decide)
  have c5 : W.cell? ⟨xb, 5, none⟩ = some (.slice none 0 0) := h.cell (i := 5) (by decide)
  have c7 : W.cell? ⟨xb, 7, none⟩ = some (.slice none 0 0) := h.cell (i := 7) (by decide)
  have c9 : W.cell? ⟨xb, 9, none⟩ = some (.slice none 0 0) := h.cell (i := 9) (by decide)
  clear h
  go_enter Tryz.func16, Tryz.ntmps16
  go_wp2_with fail
  go_loopg [3] N (fun q s3 wr => ∃ (p : Nat), p ≤ N ∧ q = N - p ∧ s3 = .int .i64 p ∧ RowKit.Below W.heap.size W wr)
  case atStart => exact ⟨0, Nat.zero_le _, rfl, rfl, RowKit.Below.refl _ _⟩
  case round =>
    obtain ⟨p, hp, rfl, rfl, hB⟩ := hrel
    have d1 := cel_on hB c1
    by_cases hpi : p < N
    · have hpz : (p : Int) < (N : Int) := by omega
      have d2 := cel_on hB c2
      obtain ⟨kb, ob, a, c, a', c', n, f, rfl, rfl, e1, e2, hn, i1, i2⟩ := HL.out p hpi
      replace e1 := cel_on hB e1
      replace e2 := cel_on hB e2
      replace i1 := i1.on hB
      replace i2 := i2.on hB
      have g1 : ∀ q os, (grow (wr.drewN q) os).cell? ⟨xb, 1, none⟩ = _ := fun q os => cell_grown (World.block_lt_of_cell? _ _ d1) d1 q os
      have g2 : ∀ q os, (grow (wr.drewN q) os).cell? ⟨xb, 2, none⟩ = _ := fun q os => cell_grown (World.block_lt_of_cell? _ _ d2) d2 q os
      have g3 : ∀ q os, (grow (wr.drewN q) os).cell? ⟨kb, p, none⟩ = _ := fun q os => cell_grown (World.block_lt_of_cell? _ _ e1) e1 q os
      have g4 : ∀ q os, (grow (wr.drewN q) os).cell? ⟨ob, p, none⟩ = _ := fun q os => cell_grown (World.block_lt_of_cell? _ _ e2) e2 q os
      have heq : ∀ q os, Calls Tryz.prog 30 #[.slice a n c, .slice a' n c'] (grow (wr.drewN q) os) fun e w' => e = .returned (.bool true) ∧ ∃ q' os', w' = grow ((grow (wr.drewN q) os).drewN q') os' := fun q os =>
        (eqInts_same a a' n c c' f _ (by omega) (i1.on (below_grow _ wr q os (Nat.le_refl _))) (i2.on (below_grow _ wr q os (Nat.le_refl _)))).mono fun _ _ ⟨h1, q', h2⟩ => ⟨h1, q', #[], by rw [h2, grow_empty]⟩
      have HB : Hid (∀ q os, RowKit.Below W.heap.size W (grow (wr.drewN q) os)) := fun q os => hB.trans ((below_grow _ wr q os (Nat.le_refl _)).mono hB.size)
      clear hB i1 i2 e1 e2 d2
      go_wp2_with fail
      go_quiet_grown (with_reducible exact Calls.grown_of (heq _ _))
      have hB2 := HB.out nq osq
      show Exit.then _ _ Exit.normal _ (grow (wr.drewN nq) osq)
      obtain ⟨W5, hW5⟩ : ∃ W5, grow (wr.drewN nq) osq = W5 := ⟨_, rfl⟩
      rw [hW5] at hB2 ⊢
      clear hW5 HB heq g1 g2 g3 g4 d1
      go_wp2_with fail
      go_roundg (N - (p + 1))
      case measure => omega
      case rel => exact ⟨p + 1, by omega, rfl, by go_num, hB2⟩
    · have hpz : ¬ (p : Int) < (N : Int) := by omega
      obtain rfl : p = N := by omega
      have d3 := cel_on hB c3
      have d5 := cel_on hB c5
      have d7 := cel_on hB c7
      have d9 := cel_on hB c9
      go_wp2_with fail
      go_loopg [4] 0 (fun q s4 wx => q = 0 ∧ s4 = .int .i64 0 ∧ wr = wx)
      case atStart => exact ⟨rfl, rfl, rfl⟩
      case round =>
        obtain ⟨rfl, rfl, rfl⟩ := hrel
        go_wp2_with fail
        go_loopg [5] 0 (fun q s5 wx => q = 0 ∧ s5 = .int .i64 0 ∧ wr = wx)
        case atStart => exact ⟨rfl, rfl, rfl⟩
        case round =>
          obtain ⟨rfl, rfl, rfl⟩ := hrel
          go_wp2_with fail
          go_loopg [6] 0 (fun q s6 wx => q = 0 ∧ s6 = .int .i64 0 ∧ wr = wx)
          case atStart => exact ⟨rfl, rfl, rfl⟩
          case round =>
            obtain ⟨rfl, rfl, rfl⟩ := hrel
            go_wp2_with fail
            go_loopg [7] 0 (fun q s7 wx => q = 0 ∧ s7 = .int .i64 0 ∧ wr = wx)
            case atStart => exact ⟨rfl, rfl, rfl⟩
            case round =>
              obtain ⟨rfl, rfl, rfl⟩ := hrel
              go_wp2_with fail
              go_ret
              exact ⟨rfl, hB⟩
end Go.Proofs.YtbebnjeamlmclaaGreat
