/- The walk of CodeMixed: on any texts it answers true; nothing that was there is turned. -/
import Derived.Test.YtafkkmkjagodfaaDoorSum
import Derived.Deep.LoopGhost
import Derived.Deep.OwnRows
import Derived.Deep.Cut
import Derived.Deep.Light
import Derived.Deep.CutRange
import Derived.CellFam
import Derived.BigGuard
import Derived.Lib.SlBytesConst
import Derived.BigQuiet
import Derived.Deep.RegionWith
import Derived.BigRegion
import Derived.Deep.QuietTactic
namespace Go.Proofs.YtafkkmkjagodfaaDoor
open Go.RowKit

theorem Tryd.info5 : (Tryd.prog.info? 5).map (fun i => (i.zero, i.size, i.bytes)) = some (some (.int .u8 0), 1, 1) := by kernel_rfl

/-- WHAT HOLDS AT THE OUTER LOOP's HEAD: nothing that was there has turned; the boxed argument lies in the first new block. -/
structure Mix (w wr : World) (v : Value) : Prop where
  since : w.Since w.heap.size wr
  size : w.heap.size < wr.heap.size
  box : wr.cell? ⟨w.heap.size, 0, none⟩ = some v

theorem mix_drewN {w wr : World} {v : Value} (h : Mix w wr v) (n : Nat) : Mix w (wr.drewN n) v :=
  ⟨⟨h.since.os, h.since.tape, h.since.output, h.since.size, h.since.block⟩, h.size, h.box⟩
theorem mix_alloc {w wr : World} {v : Value} (h : Mix w wr v) (o : Obj) : Mix w (wr.alloc o) v :=
  ⟨h.since.alloc (Nat.le_of_lt h.size) _, by have := h.size; simp; omega, by rw [World.cell?_alloc_lt _ _ _ h.size]; exact h.box⟩

theorem mix_start (w : World) (v : Value) (t : TypeId) (o : Obj) : Mix w ((w.alloc (.cells #[v] t)).alloc o) v :=
  ⟨((World.Since.refl _ _).alloc (Nat.le_refl _) _).alloc (by simp) _, by simp; omega, by simp⟩

/-- WHAT HOLDS AT THE INNER LOOP's HEAD: c of the mixture's bytes are laid. -/
structure Inner (wr wi : World) (n c : Nat) (X : Nat → Nat) : Prop where
  since : wr.Since wr.heap.size wi
  size : wi.heap.size = wr.heap.size + 1
  cur : wi.rowIs wr.heap.size 5 n (fun i => if i < c then .int .u8 (X i : Nat) else .int .u8 0)

theorem inner_start (wr : World) (n : Nat) (X : Nat → Nat) : Inner wr (wr.alloc (.cells (madeCells #[.int .u8 0] n) 5)) n 0 X :=
  ⟨(World.Since.refl _ _).alloc (Nat.le_refl _) _, by simp, (World.rowIs_made wr _ n 5).congr (fun j _ => by simp)⟩

theorem inner_step {wr wi : World} {n c : Nat} {X : Nat → Nat} (h : Inner wr wi n c X) : Inner wr (wi.setCell ⟨wr.heap.size, c, none⟩ (.int .u8 (X c : Nat))).drew n (c + 1) X := by
  refine ⟨(h.since.setCell (Nat.le_refl _) _).drew, by simp [h.size], ((h.cur.set c _).congr (fun i _ => ?_)).drew⟩
  by_cases e : i = c
  · subst e; simp
  · rw [if_neg e]
    by_cases hlt : i < c
    · rw [if_pos hlt, if_pos (by omega)]
    · rw [if_neg hlt, if_neg (by omega)]

/-- The sums of the four texts, from the cells. -/
theorem getD_range_map (f : Nat → Nat) (n j : Nat) (h : j < n) : ((List.range n).map f).getD j 0 = f j := by
  simp [List.getD, h]
theorem lt_range_map (f : Nat → Nat) (n j : Nat) (h : ∀ i, f i < 256) : ((List.range n).map f).getD j 0 < 256 := by
  by_cases hj : j < n
  · rw [getD_range_map f n j hj]; exact h j
  · simp [List.getD, hj]
theorem mix_range (n : Nat) (x y : Nat → Nat) : Crc.mix ((List.range n).map x) ((List.range n).map y) = (List.range n).map fun j => x j ^^^ y j := by
  unfold Crc.mix; rw [List.zipWith_map]; simp [List.zipWith_self]
theorem sums_fit (n : Nat) (x y z : Nat → Nat) : Crc.sum ((List.range n).map fun j => (x j ^^^ y j) ^^^ z j) = Crc.sum ((List.range n).map x) ^^^ Crc.sum ((List.range n).map y) ^^^ Crc.sum ((List.range n).map z) := by
  rw [← Crc.sum_mix3 _ _ _ (by simp) (by simp), mix_range, mix_range]
theorem sum_range_lt (n : Nat) (x : Nat → Nat) (h : ∀ i, x i < 256) : Crc.sum ((List.range n).map x) < 4294967296 :=
  Crc.sum_lt _ (fun c hc => by obtain ⟨j, _, rfl⟩ := List.mem_map.1 hc; exact h j)
theorem sum_cells (b off len cap : Nat) (x : Nat → Nat) (w : World) (hmax : len ≤ 9223372036854775807) (hc : ∀ j, j < len → w.cell? ⟨b, off + j, none⟩ = some (.int .u8 (x j : Nat))) (hr : ∀ j, x j < 256)
    (ht : ∀ i, i < 16 → w.cell? ⟨0, i, none⟩ = some (.int .u32 (Crc.T i : Nat))) :
    Calls Tryd.prog 9 #[.slice (some ⟨b, off, none⟩) len cap] w fun e w' => e = .returned (.int .u32 (Crc.sum ((List.range len).map x) : Nat)) ∧ w' = w :=
  sum_any b off len cap _ w (by simp) hmax (fun j hj => by rw [getD_range_map x len j hj]; exact hc j hj) (fun j => lt_range_map x len j hr) ht

theorem sum0 : Crc.sum [] = 0 := by decide +kernel
theorem sumA : Crc.sum [97] = 3904355907 := by decide +kernel

set_option maxHeartbeats 1600000 in
set_option maxRecDepth 100000 in
theorem mixed_walk (ga : Option Addr) (gb go G Gc : Nat) (A : Nat → Option Addr) (L C RB RO : Nat → Nat) (Z : Nat → Nat → Nat) (w : World) (hga : 0 < G → ga = some ⟨gb, go, none⟩)
    (hG : G ≤ 281474976710656) (hLb : ∀ r, r < G → L r ≤ 281474976710656) (hLC : ∀ r, r < G → L r ≤ C r)
    (hrow : ∀ r, r < G → w.cell? ⟨gb, go + r, none⟩ = some (.slice (A r) (L r) (C r)))
    (hA : ∀ r, r < G → ∀ c, c < L r → A r = some ⟨RB r, RO r, none⟩ ∧ w.cell? ⟨RB r, RO r + c, none⟩ = some (.int .u8 (Z r c : Nat)))
    (hZ : ∀ r c, Z r c < 256) (hpos : 0 < w.heap.size)
    (ht : ∀ i, i < 16 → w.cell? ⟨0, i, none⟩ = some (.int .u32 (Crc.T i : Nat))) :
    Calls Tryd.prog 3 #[.agg #[.slice ga G Gc]] w fun e w' => e = .returned (.bool true) ∧ w.Since w.heap.size w' := by
  have kc : (convert 27 27 (.slice (some ⟨w.heap.size + 1, 0, none⟩) 1 1)).run Tryd.prog ((w.alloc (.cells #[.slice ga G Gc] 24)).alloc (.cells #[.int .u8 97] 5)) =
      .ok (.slice (some ⟨w.heap.size + 1, 0, none⟩) 1 1) ((w.alloc (.cells #[.slice ga G Gc] 24)).alloc (.cells #[.int .u8 97] 5 (1, 2))) := by
    have := Lib.run_convert_bytes_const (P := Tryd.prog) (w.alloc (.cells #[.slice ga G Gc] 24)) 27 5 #[.int .u8 97] 1 1 Tryd.underlying27 Tryd.underlying5
    simpa using this
  go_enter Tryd.func3, Tryd.ntmps3
  go_wp2_with fail
  have hm0 := mix_start w (.slice ga G Gc) 24 (.cells #[.int .u8 97] 5 (1, 2))
  have hs0 := sum_any (w.heap.size + 1) 0 1 1 [97] ((w.alloc (.cells #[.slice ga G Gc] 24)).alloc (.cells #[.int .u8 97] 5 (1, 2))) rfl (by decide)
    (fun j hj => by obtain rfl : j = 0 := by omega
                    exact (by simpa using World.cell?_alloc_mark (w.alloc (.cells #[.slice ga G Gc] 24)) #[.int .u8 97] 5 (1, 2) 0)) (fun j => by rcases j with _ | j <;> simp) (fun i hi => by rw [hm0.since.cell (a := ⟨0, i, none⟩) hpos]; exact ht i hi)
  generalize ((w.alloc (.cells #[.slice ga G Gc] 24)).alloc (.cells #[.int .u8 97] 5 (1, 2))) = w2 at *
  refine hs0.mono ?_
  rintro e w' ⟨rfl, rfl⟩
  clear hs0
  rw [sumA]
  go_wp2_with fail
  have hpw := hm0.size
  go_loopg [3] G (fun g i wr => ∃ k : Nat, k ≤ G ∧ g = G - k ∧ i = .int .i64 k ∧ Mix w wr (.slice ga G Gc))
  case atStart => exact ⟨0, Nat.zero_le _, rfl, rfl, hm0⟩
  case round =>
    obtain ⟨k, hk, rfl, rfl, hM⟩ := hrel
    clear hm0 kc hpw
    have hbox := hM.box
    by_cases hk2 : k + 2 < G
    · obtain rfl := hga (by omega)
      have hgb : gb < w.heap.size := World.block_lt_of_cell? _ _ (hrow k (by omega))
      have g0 : wr.cell? ⟨gb, go + k, none⟩ = some (.slice (A k) (L k) (C k)) := by rw [hM.since.cell (a := ⟨gb, go + k, none⟩) hgb]; exact hrow k (by omega)
      have g1 : wr.cell? ⟨gb, go + (k + 1), none⟩ = some (.slice (A (k + 1)) (L (k + 1)) (C (k + 1))) := by rw [hM.since.cell (a := ⟨gb, go + (k + 1), none⟩) hgb]; exact hrow (k + 1) (by omega)
      have g2 : wr.cell? ⟨gb, go + (k + 2), none⟩ = some (.slice (A (k + 2)) (L (k + 2)) (C (k + 2))) := by rw [hM.since.cell (a := ⟨gb, go + (k + 2), none⟩) hgb]; exact hrow (k + 2) (by omega)
      have b0 := hLb k (by omega)
      have b1 := hLb (k + 1) (by omega)
      have b2 := hLb (k + 2) (by omega)
      go_upto_if 44 with fail
      go_cut [7] from 14 to 93 (fun s7 wx => wr = wx ∧ ∃ n : Nat, s7 = .int .i64 n ∧ n ≤ L k ∧ n ≤ L (k + 1))
      case first =>
        go_wp2_with fail
        all_goals
          go_meet
          case rel => go_light; first | exact ⟨rfl, L (k + 1), rfl, by omega, Nat.le_refl _⟩ | exact ⟨rfl, L k, rfl, Nat.le_refl _, by omega⟩
      case rest =>
        obtain ⟨rfl, n1, rfl, hn0, hn1⟩ := hcut
        go_upto_if 50 with fail
        go_cut [7] from 14 to 93 (fun s7 wx => wr = wx ∧ ∃ n : Nat, s7 = .int .i64 n ∧ n ≤ L k ∧ n ≤ L (k + 1) ∧ n ≤ L (k + 2))
        case first =>
          go_wp2_with fail
          all_goals
            go_meet
            case rel => go_light; first | exact ⟨rfl, L (k + 2), rfl, by omega, by omega, Nat.le_refl _⟩ | exact ⟨rfl, n1, rfl, by omega, by omega, by omega⟩
        case rest =>
          obtain ⟨rfl, n, rfl, hx0, hx1, hx2⟩ := hcut
          have q0 : ∀ c, c < n → A k = some ⟨RB k, RO k, none⟩ ∧ wr.cell? ⟨RB k, RO k + c, none⟩ = some (.int .u8 (Z k c : Nat)) ∧ RB k < w.heap.size := fun c hc => by
            have hh := hA k (by omega) c (by omega)
            have hb := World.block_lt_of_cell? _ _ hh.2
            exact ⟨hh.1, by rw [hM.since.cell (a := ⟨RB k, RO k + c, none⟩) hb]; exact hh.2, hb⟩
          have q1 : ∀ c, c < n → A (k + 1) = some ⟨RB (k + 1), RO (k + 1), none⟩ ∧ wr.cell? ⟨RB (k + 1), RO (k + 1) + c, none⟩ = some (.int .u8 (Z (k + 1) c : Nat)) ∧ RB (k + 1) < w.heap.size := fun c hc => by
            have hh := hA (k + 1) (by omega) c (by omega)
            have hb := World.block_lt_of_cell? _ _ hh.2
            exact ⟨hh.1, by rw [hM.since.cell (a := ⟨RB (k + 1), RO (k + 1) + c, none⟩) hb]; exact hh.2, hb⟩
          have q2 : ∀ c, c < n → A (k + 2) = some ⟨RB (k + 2), RO (k + 2), none⟩ ∧ wr.cell? ⟨RB (k + 2), RO (k + 2) + c, none⟩ = some (.int .u8 (Z (k + 2) c : Nat)) ∧ RB (k + 2) < w.heap.size := fun c hc => by
            have hh := hA (k + 2) (by omega) c (by omega)
            have hb := World.block_lt_of_cell? _ _ hh.2
            exact ⟨hh.1, by rw [hM.since.cell (a := ⟨RB (k + 2), RO (k + 2) + c, none⟩) hb]; exact hh.2, hb⟩
          have z0 := hZ k
          have z1 := hZ (k + 1)
          have z2 := hZ (k + 2)
          have c0 := hLC k (by omega)
          have c1 := hLC (k + 1) (by omega)
          have c2 := hLC (k + 2) (by omega)
          have htr : ∀ i, i < 16 → wr.cell? ⟨0, i, none⟩ = some (.int .u32 (Crc.T i : Nat)) := fun i hi => by rw [hM.since.cell (a := ⟨0, i, none⟩) hpos]; exact ht i hi
          have hmk := run_make_row' (P := Tryd.prog) 27 5 (.int .u8 0) 1 Tryd.underlying27 Tryd.info5 rfl .i64 .i64 n (by omega) (by omega)
          clear hrow hA hZ g0 g1 g2 hbox hn0 hn1 hLb hLC ht
          generalize L k = l0 at *
          generalize L (k + 1) = l1 at *
          generalize L (k + 2) = l2 at *
          generalize C k = p0 at *
          generalize C (k + 1) = p1 at *
          generalize C (k + 2) = p2 at *
          generalize A k = a0 at *
          generalize A (k + 1) = a1 at *
          generalize A (k + 2) = a2 at *
          generalize Z k = y0 at *
          generalize Z (k + 1) = y1 at *
          generalize Z (k + 2) = y2 at *
          generalize RB k = d0 at *
          generalize RB (k + 1) = d1 at *
          generalize RB (k + 2) = d2 at *
          generalize RO k = o0 at *
          generalize RO (k + 1) = o1 at *
          generalize RO (k + 2) = o2 at *
          rcases Nat.eq_zero_or_pos n with rfl | hnp
          · clear q0 q1 q2
            have hmk0 : (Instr.makeSlice 27 (.int .i64 0) (.int .i64 0)).run Tryd.prog wr = .ok (.slice (some ⟨wr.heap.size, 0, none⟩) 0 0) (wr.alloc (.cells (madeCells #[.int .u8 0] 0) 5)) := by simpa using hmk wr
            have hfin := mix_alloc hM (.cells (madeCells #[.int .u8 0] 0) 5)
            clear hmk htr hM
            go_wp2_with fail
            refine wp_loop_rounds 1 ?_
            rw [rounds_succ]
            go_wp2_with fail
            generalize wr.alloc (.cells (madeCells #[.int .u8 0] 0) 5) = wq at *
            cases a0 <;> cases a1 <;> cases a2
            all_goals
              go_quiet ((go_at_call 9; exact Calls.quiet_of_same (sum_empty _ _ _)))
              rw [sum0]
              go_wp2
              go_roundg (G - (k + 1))
              case measure => go_light; omega
              case rel => go_light; exact ⟨k + 1, by omega, rfl, by simp, mix_drewN hfin _⟩
          · obtain ⟨rfl, _, hd0⟩ := q0 0 hnp
            obtain ⟨rfl, _, hd1⟩ := q1 0 hnp
            obtain ⟨rfl, _, hd2⟩ := q2 0 hnp
            go_wp2_with fail
            generalize wr = wo at *
            have hI0 := inner_start wo n (fun j => (y0 j ^^^ y1 j) ^^^ y2 j)
            have hwz := hM.size
            go_loopg [9] n (fun g i wx => ∃ c : Nat, c ≤ n ∧ g = n - c ∧ i = .int .i64 c ∧ Inner wo wx n c (fun j => (y0 j ^^^ y1 j) ^^^ y2 j))
            case atStart => exact ⟨0, Nat.zero_le _, rfl, rfl, hI0⟩
            case round =>
              obtain ⟨c, hc, rfl, rfl, hI⟩ := hrel
              clear hI0 hmk
              by_cases hcn : c < n
              · have hcz : (c : Int) < (n : Int) := by omega
                have t0 : wr.cell? ⟨d0, o0 + c, none⟩ = some (.int .u8 (y0 c : Nat)) := by rw [hI.since.cell (a := ⟨d0, o0 + c, none⟩) (by show d0 < wo.heap.size; omega)]; exact (q0 c hcn).2.1
                have t1 : wr.cell? ⟨d1, o1 + c, none⟩ = some (.int .u8 (y1 c : Nat)) := by rw [hI.since.cell (a := ⟨d1, o1 + c, none⟩) (by show d1 < wo.heap.size; omega)]; exact (q1 c hcn).2.1
                have t2 : wr.cell? ⟨d2, o2 + c, none⟩ = some (.int .u8 (y2 c : Nat)) := by rw [hI.since.cell (a := ⟨d2, o2 + c, none⟩) (by show d2 < wo.heap.size; omega)]; exact (q2 c hcn).2.1
                have t4 : wr.cell? ⟨wo.heap.size, c, none⟩ = some (.int .u8 0) := by simpa using hI.cur.cell hcn
                have t5 : wr.frozen? ⟨wo.heap.size, c, none⟩ = false := hI.cur.frozen c
                have x1 : bits .xor .u8 (y0 c : Int) (y1 c : Int) = ((y0 c ^^^ y1 c : Nat) : Int) := u8_xor_nat _ _ (z0 c) (z1 c)
                have x2 : bits .xor .u8 ((y0 c ^^^ y1 c : Nat) : Int) (y2 c : Int) = (((y0 c ^^^ y1 c) ^^^ y2 c : Nat) : Int) := u8_xor_nat _ _ (Nat.xor_lt_two_pow (n := 8) (z0 c) (z1 c)) (z2 c)
                have hst := inner_step hI
                clear q0 q1 q2 htr
                go_wp2_with fail
                go_big_region
                go_wp2
                go_roundg (n - (c + 1))
                case measure => go_light; omega
                case rel => go_light; exact ⟨c + 1, by omega, rfl, by simp, hst⟩
              · obtain rfl : c = n := by omega
                have hsz := hI.size
                have hd : ∀ (nq : Nat), Calls Tryd.prog 9 #[.slice (some ⟨wo.heap.size, 0, none⟩) c c] (wr.drewN nq) fun e w' => e = .returned (.int .u32 (Crc.sum ((List.range c).map fun j => (y0 j ^^^ y1 j) ^^^ y2 j) : Nat)) ∧ w' = wr.drewN nq := fun nq =>
                  sum_cells wo.heap.size 0 c c _ _ (by omega) (fun j hj => by have := hI.cur.cell hj; rw [if_pos hj] at this; simpa using this)
                    (fun j => Nat.xor_lt_two_pow (n := 8) (Nat.xor_lt_two_pow (n := 8) (z0 j) (z1 j)) (z2 j)) (fun i hi => by have := htr i hi; rw [← hI.since.cell (a := ⟨0, i, none⟩) (by show 0 < wo.heap.size; omega)] at this; simpa using this)
                have he0 : ∀ (nq : Nat), Calls Tryd.prog 9 #[.slice (some ⟨d0, o0, none⟩) c p0] (wr.drewN nq) fun e w' => e = .returned (.int .u32 (Crc.sum ((List.range c).map y0) : Nat)) ∧ w' = wr.drewN nq := fun nq =>
                  sum_cells d0 o0 c p0 _ _ (by omega) (fun j hj => by have := (q0 j hj).2.1; rw [← hI.since.cell (a := ⟨d0, o0 + j, none⟩) (by show d0 < wo.heap.size; omega)] at this; simpa using this)
                    z0 (fun i hi => by have := htr i hi; rw [← hI.since.cell (a := ⟨0, i, none⟩) (by show 0 < wo.heap.size; omega)] at this; simpa using this)
                have he1 : ∀ (nq : Nat), Calls Tryd.prog 9 #[.slice (some ⟨d1, o1, none⟩) c p1] (wr.drewN nq) fun e w' => e = .returned (.int .u32 (Crc.sum ((List.range c).map y1) : Nat)) ∧ w' = wr.drewN nq := fun nq =>
                  sum_cells d1 o1 c p1 _ _ (by omega) (fun j hj => by have := (q1 j hj).2.1; rw [← hI.since.cell (a := ⟨d1, o1 + j, none⟩) (by show d1 < wo.heap.size; omega)] at this; simpa using this)
                    z1 (fun i hi => by have := htr i hi; rw [← hI.since.cell (a := ⟨0, i, none⟩) (by show 0 < wo.heap.size; omega)] at this; simpa using this)
                have he2 : ∀ (nq : Nat), Calls Tryd.prog 9 #[.slice (some ⟨d2, o2, none⟩) c p2] (wr.drewN nq) fun e w' => e = .returned (.int .u32 (Crc.sum ((List.range c).map y2) : Nat)) ∧ w' = wr.drewN nq := fun nq =>
                  sum_cells d2 o2 c p2 _ _ (by omega) (fun j hj => by have := (q2 j hj).2.1; rw [← hI.since.cell (a := ⟨d2, o2 + j, none⟩) (by show d2 < wo.heap.size; omega)] at this; simpa using this)
                    z2 (fun i hi => by have := htr i hi; rw [← hI.since.cell (a := ⟨0, i, none⟩) (by show 0 < wo.heap.size; omega)] at this; simpa using this)
                have v0 := sum_range_lt c y0 z0
                have v1 := sum_range_lt c y1 z1
                have v2 := sum_range_lt c y2 z2
                rw [sums_fit] at hd
                generalize Crc.sum ((List.range c).map y0) = S0 at *
                generalize Crc.sum ((List.range c).map y1) = S1 at *
                generalize Crc.sum ((List.range c).map y2) = S2 at *
                have x3 : bits .xor .u32 (S0 : Int) (S1 : Int) = ((S0 ^^^ S1 : Nat) : Int) := u32_xor_nat _ _ v0 v1
                have x4 : bits .xor .u32 ((S0 ^^^ S1 : Nat) : Int) (S2 : Int) = ((S0 ^^^ S1 ^^^ S2 : Nat) : Int) := u32_xor_nat _ _ (Nat.xor_lt_two_pow (n := 32) v0 v1) v2
                have hfin : Mix w wr (.slice (some ⟨gb, go, none⟩) G Gc) := ⟨hM.since.trans (since_mono hI.since (by omega)), by omega, by rw [hI.since.cell (a := ⟨w.heap.size, 0, none⟩) hM.size]; exact hM.box⟩
                clear q0 q1 q2 htr hI
                have Hd := hide hd
                have H0 := hide he0
                have H1 := hide he1
                have H2 := hide he2
                clear hd he0 he1 he2
                go_wp2_with fail
                go_quiet (first
                  | (go_at_call_of 9 d0; exact Calls.quiet_of_same ((unhide H0) _))
                  | (go_at_call_of 9 d1; exact Calls.quiet_of_same ((unhide H1) _))
                  | (go_at_call_of 9 d2; exact Calls.quiet_of_same ((unhide H2) _))
                  | (go_at_call 9; exact Calls.quiet_of_same ((unhide Hd) _)))
                go_wp2
                go_roundg (G - (k + 1))
                case measure => go_light; omega
                case rel => go_light; exact ⟨k + 1, by omega, rfl, by simp, mix_drewN hfin _⟩
    · go_wp2
      go_ret
      exact ⟨rfl, hM.since⟩
end Go.Proofs.YtafkkmkjagodfaaDoor
