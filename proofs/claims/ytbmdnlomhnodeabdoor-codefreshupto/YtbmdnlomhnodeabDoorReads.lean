/- The walks of package code's copied, Read and the Reader's calls that the statements make. -/
import Derived.Test.YtbmdnlomhnodeabDoorNext
namespace Go.Proofs.YtbmdnlomhnodeabDoor
open Go.RowKit
set_option maxRecDepth 100000

theorem ret_int {k : IntKind} {a b : Int} (h : a = b) : Ending.returned (.int k a) = .returned (.int k b) := by rw [h]

theorem fld0 (w : World) (N s : Int) (a : Option Addr) (l : Nat) : (Instr.field 91 (.agg #[.int .u64 N, .slice a l l, .int .i64 s]) 0).run Tryd.prog w = .ok (.int .u64 N) w := by kernel_rfl
theorem fld1 (w : World) (N s : Int) (a : Option Addr) (l : Nat) : (Instr.field 91 (.agg #[.int .u64 N, .slice a l l, .int .i64 s]) 1).run Tryd.prog w = .ok (.slice a l l) w := by kernel_rfl

/-- copied: the same bytes in new memory. -/
theorem copied_any (a : Option Addr) (len cap : Nat) (x : Nat → Nat) (w : World) (hmax : len ≤ 281474976710656) (hc : Byt w a len x) :
    Calls Tryd.prog 47 #[.slice a len cap] w fun e w' => e = .returned (.slice (some ⟨w.heap.size, 0, none⟩) len len) ∧ w.Since w.heap.size w' ∧ w'.heap.size = w.heap.size + 1 ∧ w'.rowIs w.heap.size 5 len (fun j => .int .u8 (x j : Nat)) := by
  have hmk := run_make_row' (P := Tryd.prog) 22 5 (.int .u8 0) 1 Tryd.underlying22 Tryd.info5 rfl .i64 .i64 len (by omega) (by omega)
  have hs0 : w.Since w.heap.size (w.alloc (.cells (madeCells #[.int .u8 0] len) 5)) := (World.Since.refl _ _).alloc (Nat.le_refl _) _
  have hr0 := World.rowIs_made w (.int .u8 0) len 5
  have hz0 : (w.alloc (.cells (madeCells #[.int .u8 0] len) 5)).heap.size = w.heap.size + 1 := by simp
  generalize hW : w.alloc (.cells (madeCells #[.int .u8 0] len) 5) = W at *
  rcases Nat.eq_zero_or_pos len with rfl | hp
  · have hcp := run_copy_none (P := Tryd.prog) W 22 22 3 5 (some ⟨w.heap.size, 0, none⟩) a 0 0 0 cap Tryd.underlying22 Tryd.size5 (by simp)
    have hmk0 : (Instr.makeSlice 22 (.int .i64 0) (.int .i64 0)).run Tryd.prog w = .ok (.slice (some ⟨w.heap.size, 0, none⟩) 0 0) W := by rw [← hW]; simpa using hmk w
    clear hmk hW
    go_enter Tryd.func47, Tryd.ntmps47
    go_wp2
    go_ret
    exact ⟨rfl, hs0, hz0, hr0.congr (fun j hj => by omega)⟩
  · obtain ⟨b, off, rfl, _⟩ := hc 0 hp
    have hc' : ∀ j, j < len → w.cell? ⟨b, off + j, none⟩ = some (.int .u8 (x j : Nat)) := fun j hj => by obtain ⟨b', off', e, hh⟩ := hc j hj; cases e; exact hh
    have hcp := run_copy_cells (P := Tryd.prog) W 22 22 3 5 w.heap.size 0 len len ⟨b, off, none⟩ len cap ((List.range len).map fun j => .int .u8 (x j : Nat)) Tryd.underlying22 Tryd.size5 (by simp)
      (fun j v hv => by
        have hj : j < len := by have := (List.getElem?_eq_some_iff.1 hv).1; simpa using this
        have : v = .int .u8 (x j : Nat) := by rw [List.getElem?_map, List.getElem?_range hj] at hv; simpa using hv.symm
        rw [this, show (⟨b, off, none⟩ : Addr).add j = ⟨b, off + j, none⟩ by simp [Addr.add], hs0.cell (a := ⟨b, off + j, none⟩) (World.block_lt_of_cell? _ _ (hc' j hj))]
        exact hc' j hj)
      (fun j hj => by rw [Nat.zero_add, hr0.cell (by simpa using hj)]; rfl) (fun j _ => by rw [Nat.zero_add]; exact hr0.frozen j) (fun v hv => by obtain ⟨j, _, rfl⟩ := List.mem_map.1 hv; rfl)
    have hend : w.Since w.heap.size (W.setCells w.heap.size 0 ((List.range len).map fun j => .int .u8 (x j : Nat))) ∧ (W.setCells w.heap.size 0 ((List.range len).map fun j => .int .u8 (x j : Nat))).heap.size = w.heap.size + 1 ∧
        (W.setCells w.heap.size 0 ((List.range len).map fun j => .int .u8 (x j : Nat))).rowIs w.heap.size 5 len (fun j => .int .u8 (x j : Nat)) :=
      ⟨since_setCells (Nat.le_refl _) _ _ _ hs0, by rw [size_setCells]; exact hz0, (rowIs_setCells _ 0 _ _ hr0).congr (fun j hj => by
        rw [if_pos (by simp; exact hj)]; simp [List.getD, hj])⟩
    have hmk1 : (Instr.makeSlice 22 (.int .i64 len) (.int .i64 len)).run Tryd.prog w = .ok (.slice (some ⟨w.heap.size, 0, none⟩) len len) W := by rw [← hW]; exact hmk w
    clear hmk hW
    generalize W.setCells w.heap.size 0 ((List.range len).map fun j => .int .u8 (x j : Nat)) = W2 at *
    go_enter Tryd.func47, Tryd.ntmps47
    go_wp2
    go_ret
    exact ⟨rfl, hend⟩

/-- Read: a Reader over a copy of the bytes. -/
theorem read_any (a : Option Addr) (len cap : Nat) (x : Nat → Nat) (w : World) (hmax : len ≤ 281474976710656) (hc : Byt w a len x) (hr : ∀ j, x j < 256) :
    Calls Tryd.prog 12 #[.slice a len cap] w fun e w' => ∃ rb, e = .returned (.pointer (some ⟨rb, 0, none⟩)) ∧ w.heap.size < rb ∧ w.Since w.heap.size w' ∧ IsR w' rb w.heap.size len x 0 0 := by
  go_enter Tryd.func12, Tryd.ntmps12
  go_wp2_with fail
  refine (copied_any a len cap x w hmax hc).mono ?_
  rintro e w1 ⟨rfl, h1, z1, r1⟩
  go_wp2_with fail
  go_ret
  refine ⟨w1.heap.size, by rw [z1]; rfl, by omega, h1.alloc (by omega) _, ⟨World.rowIs_alloc w1 #[.slice (some ⟨w.heap.size, 0, none⟩) len len, .int .i64 0, .int .i64 0] 89 _ (fun i hi => ?_), r1.alloc _, by omega, hr, Nat.zero_le _, hmax⟩⟩
  match i, hi with
  | 0, _ => rfl
  | 1, _ => rfl
  | 2, _ => rfl

/-- What look says of a kind of fixed size, at the Reader's place. -/
theorem looks_short (k : Nat) (hb n at' : Nat) (z : Nat → Nat) (w : World) (hk : k ≤ 2) (hw : Wid w) (hs : n - at' < widthOf k) :
    Looks w (if n = at' then some ⟨hb, 0, none⟩ else some ⟨hb, at', none⟩) (n - at') k 0 0 0 0 10 z := fun W hW =>
  (look_fixed_short k _ (n - at') (n - at') 0 W hk (hw.since hW) hs).mono fun _ _ ⟨he, hs'⟩ => ⟨⟨none, he, Or.inl ⟨rfl, rfl⟩⟩, hs'⟩
theorem looks_ok (k : Nat) (rb hb n at' : Nat) (z : Nat → Nat) (w : World) (hk : k ≤ 2) (hw : Wid w) (h : IsR w rb hb n z at' 0) (hs : widthOf k ≤ n - at') :
    Looks w (if n = at' then some ⟨hb, 0, none⟩ else some ⟨hb, at', none⟩) (n - at') k 0 (be (fun j => z (at' + j)) (widthOf k)) 0 (widthOf k) 0 z := fun W hW => by
  have hpos : 0 < widthOf k := by
    match k with
    | 0 => decide
    | 1 => decide
    | _ + 2 => exact (by decide : 0 < 8)
  rw [if_neg (by omega)]
  have hrow := row_since h.row hW
  refine (look_fixed_ok k hb at' (n - at') (n - at') 0 (fun j => z (at' + j)) W hk (hw.since hW) hs (by have := h.room; omega) (fun j hj => ?_) (fun j => h.byte _) hrow.lt).mono fun _ _ ⟨he, hs'⟩ => ⟨⟨none, he, Or.inl ⟨rfl, rfl⟩⟩, hs'⟩
  exact hrow.cell (by omega)

/-- U64 without a fault: the number, or the fault. -/
theorem u64_ok (rb hb n at' : Nat) (z : Nat → Nat) (w : World) (h : IsR w rb hb n z at' 0) (hw : Wid w) (hs : at' + 8 ≤ n) :
    Calls Tryd.prog 50 #[.pointer (some ⟨rb, 0, none⟩)] w fun e w' => e = .returned (.int .u64 (be (fun j => z (at' + j)) 8 : Nat)) ∧ But rb w w' ∧ IsR w' rb hb n z (at' + 8) 0 := by
  have hn := next_any rb hb n at' z 2 0 _ _ _ _ _ w h (looks_ok 2 rb hb n at' z w (by decide) hw h (by show 8 ≤ n - at'; omega)) (fun _ => hs)
  go_enter Tryd.func50, Tryd.ntmps50
  go_wp2_with fail
  refine hn.mono ?_
  rintro e w1 ⟨hb1, ⟨_, ⟨ta, rfl, _⟩, hI⟩ | ⟨hne, _⟩⟩
  · have hfl := fld0 w1 (be (fun j => z (at' + j)) (widthOf 2) : Nat) (widthOf 2 : Nat) ta 0
    go_wp2
    go_ret
    exact ⟨rfl, hb1, hI⟩
  · exact absurd rfl hne
theorem u64_short (rb hb n at' : Nat) (z : Nat → Nat) (w : World) (h : IsR w rb hb n z at' 0) (hw : Wid w) (hs : n < at' + 8) :
    Calls Tryd.prog 50 #[.pointer (some ⟨rb, 0, none⟩)] w fun e w' => e = .returned (.int .u64 0) ∧ But rb w w' ∧ IsR w' rb hb n z at' 10 := by
  have hn := next_any rb hb n at' z 2 0 _ _ _ _ _ w h (looks_short 2 hb n at' z w (by decide) hw (by show n - at' < 8; have := h.le; omega)) (fun e => by simp at e)
  go_enter Tryd.func50, Tryd.ntmps50
  go_wp2_with fail
  refine hn.mono ?_
  rintro e w1 ⟨hb1, ⟨he, _⟩ | ⟨_, rfl, hI⟩⟩
  · exact absurd he (by decide)
  · have hfl := fld0 w1 0 0 none 0
    go_wp2
    go_ret
    exact ⟨rfl, hb1, hI⟩

/-- Fault, At, Left, End only look. -/
theorem fault_any (rb hb n at' bad : Nat) (z : Nat → Nat) (w : World) (h : IsR w rb hb n z at' bad) : Calls Tryd.prog 17 #[.pointer (some ⟨rb, 0, none⟩)] w fun e w' => e = .returned (.int .i64 bad) ∧ w' = w := by
  have c2 := h.c2
  go_enter Tryd.func17, Tryd.ntmps17
  go_wp2
  go_ret
  exact ⟨rfl, rfl⟩
theorem at_any (rb hb n at' bad : Nat) (z : Nat → Nat) (w : World) (h : IsR w rb hb n z at' bad) : Calls Tryd.prog 20 #[.pointer (some ⟨rb, 0, none⟩)] w fun e w' => e = .returned (.int .i64 at') ∧ w' = w := by
  have c1 := h.c1
  go_enter Tryd.func20, Tryd.ntmps20
  go_wp2
  go_ret
  exact ⟨rfl, rfl⟩
theorem left_any (rb hb n at' bad : Nat) (z : Nat → Nat) (w : World) (h : IsR w rb hb n z at' bad) : Calls Tryd.prog 19 #[.pointer (some ⟨rb, 0, none⟩)] w fun e w' => e = .returned (.int .i64 ((n - at' : Nat) : Int)) ∧ ∃ m, w' = w.drewN m := by
  have c1 := h.c1
  have c0 := h.c0
  have hle := h.le
  have hroom := h.room
  go_enter Tryd.func19, Tryd.ntmps19
  go_wp2_with fail
  go_quiet (fail)
  go_wp2
  go_ret
  exact ⟨ret_int (by omega), nq, rfl⟩
end Go.Proofs.YtbmdnlomhnodeabDoor
