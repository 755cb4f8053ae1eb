/- The document's own answers for package plane: Copies. -/
import Derived.Test.YtbebnjeamlmclaaGreatPlaneRef2
import Derived.Test.YtbebnjeamlmclaaGreatPlaneTabG
import Derived.Test.YtbebnjeamlmclaaGreatFam
namespace Go.Proofs.YtbebnjeamlmclaaGreat
open Go.RowKit Go.Shelf Go.Sort
set_option maxRecDepth 100000
set_option maxRecDepth 100000

theorem boolInfo : (Tryz.prog.info? 4).map (fun i => (i.zero, i.size, i.bytes)) = some (some (.bool false), 1, 1) := by kernel_rfl

/-- Is a node among the first so many? -/
def inB (s n i m : Nat) : Bool := (List.range i).any fun j => cT s n j == m
theorem inB_succ (s n i m : Nat) : inB s n (i + 1) m = (inB s n i m || cT s n i == m) := by unfold inB; rw [List.range_succ, List.any_append]; simp

/-- The nearest of the first k nodes that are left; none: -1. -/
def selM (s n j : Nat) : Nat → Int
  | 0 => -1
  | k + 1 => if inB s n j k = false ∧ (selM s n j k < 0 ∨ dT s k < dT s (selM s n j k).toNat) then (k : Int) else selM s n j k
theorem sel_end : ∀ s, s < 8 → ∀ n, n < 10 → ∀ j, j < n → selM s n j n = (cT s n j : Int) := by decide +kernel
theorem sel_le (s n j : Nat) : ∀ k, -1 ≤ selM s n j k ∧ selM s n j k < k
  | 0 => by simp [selM]
  | k + 1 => by
    have := sel_le s n j k
    unfold selM
    split <;> omega

structure RC (w : World) (ab ub s n j : Nat) (lv : Value) (W : World) : Prop where
  pt : ∃ cur, W.heap[ab]? = some (.cells cur 80 (0, 0))
  below : RowKit.Below w.heap.size w W
  a0 : W.cell? ⟨ab, 0, none⟩ = some (.int .i64 (shardM s).1)
  a1 : W.cell? ⟨ab, 1, none⟩ = some (.int .i64 (shardM s).2)
  row : W.rowIs ub 4 n (fun m => .bool (inB s n j m))
  own : W.ownsRow w.heap.size 3 1 lv j ((List.range j).map fun i => .int .i64 (cT s n i : Nat))
theorem RC.on {w : World} {ab ub s n j : Nat} {lv : Value} {W W' : World} (h : RC w ab ub s n j lv W) (hb : RowKit.Below W.heap.size W W') : RC w ab ub s n j lv W' :=
  ⟨by obtain ⟨cur, hc⟩ := h.pt; exact ⟨cur, (hb.block _ (Array.getElem?_eq_some_iff.1 hc).1).trans hc⟩, h.below.trans (hb.mono h.below.size), below_cell hb h.a0, below_cell hb h.a1, h.row.of_block (hb.block _ h.row.lt), own_block h.own (fun b e => hb.block b (h.own.lt b e).2)⟩

theorem refCopies_bad (s n c : Int) (hb : ¬ goodM s n c) (w : World) : Calls Tryz.prog 28 #[.int .i64 s, .int .i64 n, .int .i64 c] w fun e w' => e = .returned (.tuple #[.slice none 0 0, .int .i64 30]) ∧ w' = w := by
  by_cases h1 : n < 1
  · go_enter Tryz.func28, Tryz.ntmps28
    go_wp2
    go_ret2
    exact ⟨rfl, rfl⟩
  by_cases h2 : n > 9
  · go_enter Tryz.func28, Tryz.ntmps28
    go_wp2
    go_ret2
    exact ⟨rfl, rfl⟩
  by_cases h3 : c < 1
  · go_enter Tryz.func28, Tryz.ntmps28
    go_wp2
    go_ret2
    exact ⟨rfl, rfl⟩
  by_cases h4 : c > 7
  · go_enter Tryz.func28, Tryz.ntmps28
    go_wp2
    go_ret2
    exact ⟨rfl, rfl⟩
  have ht : c.tmod 2 = c % 2 := Int.tmod_eq_emod_of_nonneg (by omega)
  by_cases h5 : c % 2 = 0
  · have ht0 : (c.tmod 2 == 0) = true := by rw [ht, h5]; rfl
    have ht1 : (c % 2 == 0) = true := by rw [h5]; rfl
    clear ht h5
    go_enter Tryz.func28, Tryz.ntmps28
    go_wp2
    go_ret2
    exact ⟨rfl, rfl⟩
  have ht0 : (c.tmod 2 == 0) = false := by rw [ht]; exact beq_eq_false_iff_ne.2 h5
  have ht1 : (c % 2 == 0) = false := beq_eq_false_iff_ne.2 h5
  clear ht
  by_cases h6 : c > n
  · clear h5
    go_enter Tryz.func28, Tryz.ntmps28
    go_wp2
    go_ret2
    exact ⟨rfl, rfl⟩
  by_cases h7 : s < 0
  · clear h5
    go_enter Tryz.func28, Tryz.ntmps28
    go_wp2
    go_ret2
    exact ⟨rfl, rfl⟩
  have h8 : s ≥ 8 := by
    by_cases h8 : s < 8
    · exact absurd ⟨by omega, by omega, by omega, by omega, by omega, by omega, by omega, by omega⟩ hb
    · omega
  clear h5 hb
  go_enter Tryz.func28, Tryz.ntmps28
  go_wp2
  go_ret2
  exact ⟨rfl, rfl⟩

theorem wpList_app {P : Program} {w w' : World} {ops : Array Oper} {rest : List Oper} {o : Oper} {a : Act} {Q : Exit → Act → World → Prop} (hgd : o.guard = none) (s x : Operand) (t : TypeId)
    (ho : o.op = .call { callee := .builtin .append, args := #[s, x], argTypes := #[t, t] }) (v u v' : Value) (hs : a.eval s = v) (hx : a.eval x = u)
    (hrun : (Builtin.append_ #[t, t] o.type #[v, u]).run P w = .ok v' w') (h : wpList P ops Q rest (a.put o.dst v') w') : wpList P ops Q (o :: rest) a w := by
  refine wpList_plain hgd fun K hK => ?_
  unfold Oper.wp
  simp [execOp, ho, resolve, invoke, builtin, hs, hx, hrun, Result.andThen]
  exact hK _ _ h

set_option maxHeartbeats 8000000 in
theorem refCopies_any (s n c : Nat) (hg : goodM s n c) (w : World) : Calls Tryz.prog 28 #[.int .i64 s, .int .i64 n, .int .i64 c] w fun e w' =>
    ∃ v, e = .returned (.tuple #[v, .int .i64 0]) ∧ w'.ownsRow w.heap.size 3 1 v c ((List.range c).map fun j => .int .i64 (cT s n j : Nat)) ∧ RowKit.Below w.heap.size w w' := by
  obtain ⟨g1, g2, g3, g4, g5, g6, g7, g8⟩ := hg
  have k1 : ¬ (n : Int) < 1 := by omega
  have k2 : ¬ (n : Int) > 9 := by omega
  have k3 : ¬ (c : Int) < 1 := by omega
  have k4 : ¬ (c : Int) > 7 := by omega
  have k5 : ((c : Int).tmod 2 == 0) = false := by rw [Int.tmod_eq_emod_of_nonneg (by omega)]; exact beq_eq_false_iff_ne.2 (by omega)
  have k5' : ((c : Int) % 2 == 0) = false := beq_eq_false_iff_ne.2 (by omega)
  have k6 : ¬ (c : Int) > (n : Int) := by omega
  have k7 : ¬ (s : Int) < 0 := by omega
  have k8 : ¬ (s : Int) ≥ 8 := by omega
  have hs8 : s < 8 := by omega
  have hn9 : n ≤ 9 := by omega
  have hcn : c ≤ n := by omega
  have hn1 : 1 ≤ n := by omega
  clear g1 g2 g3 g4 g5 g6 g7 g8
  have mixed : Tryz.prog.follows .mixedOrders = true := by kernel_rfl
  obtain ⟨r1, r2⟩ := sp_near (s + 1) (by omega)
  have hsp := fun w => refSpiral_in (s + 1) (by omega) (by omega) w
  have e1 : ((s + 1 : Nat) : Int) = (s : Int) + 1 := by omega
  rw [e1] at hsp
  go_enter Tryz.func28, Tryz.ntmps28
  go_wp2_with fail
  refine (hsp _).mono ?_
  rintro e w1 ⟨rfl, os1, hw1⟩
  have b1 : RowKit.Below w.heap.size w w1 := hw1 ▸ below_grow _ w 0 os1 (Nat.le_refl _)
  clear hw1
  go_wp2_with fail
  refine (refTurn_any _ _ 1 (by omega) (by omega) _).mono ?_
  rintro e w2 ⟨rfl, b2⟩
  have hat : turnN (1 % 4 : Int).toNat ((spM (s + 1)).1, (spM (s + 1)).2) = shardM s := rfl
  rw [hat]
  have b12 := b1.trans (b2.mono b1.size)
  clear hsp b1 b2 hat e1
  obtain ⟨W2, hW2⟩ : ∃ W2, w2.alloc (.cells #[.int .i64 (shardM s).1, .int .i64 (shardM s).2] 80) = W2 := ⟨_, rfl⟩
  have hmk := run_make_row' (P := Tryz.prog) 117 4 (.bool false) 1 Tryz.underlying117 boolInfo rfl .i64 .i64 n (by omega) (by omega) W2
  obtain ⟨W3, hW3⟩ : ∃ W3, W2.alloc (.cells (madeCells #[.bool false] n) 4) = W3 := ⟨_, rfl⟩
  have a0 : W2.cell? ⟨w2.heap.size, 0, none⟩ = some (.int .i64 (shardM s).1) := by rw [← hW2]; exact World.cell?_alloc_at (w := w2) _ _ _ 0 rfl
  have a1 : W2.cell? ⟨w2.heap.size, 1, none⟩ = some (.int .i64 (shardM s).2) := by rw [← hW2]; exact World.cell?_alloc_at (w := w2) _ _ _ 1 rfl
  have bW2 : RowKit.Below w.heap.size w W2 := by rw [← hW2]; exact b12.alloc b12.size _
  have hpt0 : W2.heap[w2.heap.size]? = some (.cells #[.int .i64 (shardM s).1, .int .i64 (shardM s).2] 80 (0, 0)) := by rw [← hW2]; exact heap_alloc_new w2 _
  have hS : RC w w2.heap.size W2.heap.size s n 0 (.slice none 0 0) W3 := by
    rw [← hW3]
    exact ⟨⟨_, (Below.heap_alloc _ _ _ (World.block_lt_of_cell? _ _ a0)).trans hpt0⟩, bW2.alloc bW2.size _, by rw [alloc_keeps _ _ _ _ (World.block_lt_of_cell? _ _ a0)]; exact a0, by rw [alloc_keeps _ _ _ _ (World.block_lt_of_cell? _ _ a1)]; exact a1, World.rowIs_made W2 (.bool false) n 4, World.ownsRow_nil _ _ _ _⟩
  rw [hW3] at hmk
  have hub : w.heap.size ≤ W2.heap.size := bW2.size
  clear a0 a1 bW2 b12 hW3
  have hab : w2.heap.size ≠ W2.heap.size := by rw [← hW2]; simp
  have hcz : (c : Int) ≤ 7 := by omega
  have hnz : (n : Int) ≤ 9 := by omega
  go_wp2_with fail
  go_loopg [10, 11, 12] c (fun q s10 s11 s12 wr => ∃ (j : Nat) (lv : Value), lv = s10 ∧ j ≤ c ∧ q = c - j ∧ RC w w2.heap.size W2.heap.size s n j lv wr)
  case atStart => exact ⟨0, _, rfl, Nat.zero_le _, rfl, hS⟩
  case round =>
    obtain ⟨j, lv, rfl, hj, rfl, hC⟩ := hrel
    clear hS hmk
    obtain ⟨la, lc, rfl, hlc, _⟩ := own_slice hC.own
    by_cases hlt : j < c
    · have hjz : (j : Int) < (c : Int) := by omega
      have HE := sel_end s hs8 n (by omega) j (by omega)
      have HE' : Hid (selM s n j n = (cT s n j : Int)) := HE
      have hLn := cop_lt s hs8 n (by omega) j (by omega)
      have HLn : Hid (cT s n j < n) := hLn
      clear HE hLn
      go_wp2_with fail
      go_loopg [11, 12] n (fun q s11 s12 wx => ∃ k : Nat, k ≤ n ∧ q = n - k ∧ s11 = .int .i64 (selM s n j k) ∧ s12 = .int .i64 k ∧ RC w w2.heap.size W2.heap.size s n j (.slice la j lc) wx)
      case atStart => exact ⟨0, Nat.zero_le _, rfl, rfl, rfl, hC⟩
      case round =>
        obtain ⟨k, hk, rfl, rfl, rfl, hK⟩ := hrel
        clear hC
        by_cases hkn : k < n
        · have hkz : (k : Int) < (n : Int) := by omega
          have hin := hK.row.cell hkn
          obtain ⟨sl1, sl2⟩ := sel_le s n j k
          have hsel : selM s n j (k + 1) = if inB s n j k = false ∧ (selM s n j k < 0 ∨ dT s k < dT s (selM s n j k).toNat) then (k : Int) else selM s n j k := rfl
          obtain ⟨b0, hb0⟩ : ∃ b0, selM s n j k = b0 := ⟨_, rfl⟩
          rw [hb0] at hsel sl1 sl2
          rw [hb0]
          have gi : ∀ q os, (grow (wr.drewN q) os).cell? ⟨W2.heap.size, k, none⟩ = _ := fun q os => cell_grown (World.block_lt_of_cell? _ _ hin) hin q os
          have ga0 : ∀ q os, (grow (wr.drewN q) os).cell? ⟨w2.heap.size, 0, none⟩ = _ := fun q os => cell_grown (World.block_lt_of_cell? _ _ hK.a0) hK.a0 q os
          have ga1 : ∀ q os, (grow (wr.drewN q) os).cell? ⟨w2.heap.size, 1, none⟩ = _ := fun q os => cell_grown (World.block_lt_of_cell? _ _ hK.a1) hK.a1 q os
          have HK : Hid (∀ q os, RC w w2.heap.size W2.heap.size s n j (.slice la j lc) (grow (wr.drewN q) os)) := fun q os => hK.on (below_grow _ wr q os (Nat.le_refl _))
          have HS : Hid (selM s n j (k + 1) = if inB s n j k = false ∧ (b0 < 0 ∨ dT s k < dT s b0.toNat) then (k : Int) else b0) := hsel
          clear hsel hK hin
          cases hb : inB s n j k with
          | true =>
            rw [hb] at gi HS
            have hs1 : selM s n j (k + 1) = b0 := by rw [HS.out, if_neg (by simp)]
            have HS1 : Hid (selM s n j (k + 1) = b0) := hs1
            clear hs1 HS hb
            go_wp2_with fail
            refine wp_region_quiet_grown mixed (by kernel_rfl) ?_
            repeat (go_big_quiet_step (fail))
            refine wpQuiet_nil ?_
            intro _ hw'
            obtain ⟨⟨nq, osq⟩, hw''⟩ := hw'
            subst hw''
            have hN := HK.out nq osq
            show Exit.then _ _ Exit.normal _ (grow (wr.drewN nq) osq)
            go_wp2_with fail
            go_roundg (n - (k + 1))
            case measure => omega
            case rel => exact ⟨k + 1, by omega, rfl, by rw [HS1.out], by go_num, hN⟩
          | false =>
            rw [hb] at gi HS
            by_cases hneg : b0 < 0
            · have hs1 : selM s n j (k + 1) = (k : Int) := by rw [HS.out, if_pos ⟨rfl, .inl hneg⟩]
              have HS1 : Hid (selM s n j (k + 1) = (k : Int)) := hs1
              clear hs1 HS hb
              go_wp2_with fail
              have t1 : ∀ w, (binOp .lss 3 (.int .i64 b0) (.int .i64 0)).run Tryz.prog w = .ok (.bool true) w := fun w => by go_simp
              refine wp_region_quiet_grown mixed (by kernel_rfl) ?_
              repeat (go_big_quiet_step (fail))
              refine wpQuiet_nil ?_
              intro _ hw'
              obtain ⟨⟨nq, osq⟩, hw''⟩ := hw'
              subst hw''
              have hN := HK.out nq osq
              show Exit.then _ _ Exit.normal _ (grow (wr.drewN nq) osq)
              go_wp2_with fail
              go_roundg (n - (k + 1))
              case measure => omega
              case rel => exact ⟨k + 1, by omega, rfl, by rw [HS1.out], by go_num, hN⟩
            · obtain ⟨b, rfl⟩ : ∃ b : Nat, b0 = b := ⟨b0.toNat, by omega⟩
              have hb9 : b < 9 := by omega
              have hk9 : k < 9 := by omega
              obtain ⟨z1, z2⟩ := sp_near k (by omega)
              obtain ⟨z3, z4⟩ := sp_near b (by omega)
              have hsh : (shardM s).1.natAbs ≤ 2097151 ∧ (shardM s).2.natAbs ≤ 2097151 := by
                show (-(spM (s + 1)).2).natAbs ≤ _ ∧ (spM (s + 1)).1.natAbs ≤ _
                omega
              have c1 : ∀ W, Calls Tryz.prog 23 #[.int .i64 (k : Int)] W fun e w' => e = .returned (.agg #[.int .i64 (spM k).1, .int .i64 (spM k).2]) ∧ ∃ q os, w' = grow (W.drewN q) os := fun W => (refSpiral_any k W).mono fun _ _ ⟨he, os, hw⟩ => ⟨by rw [he, spZ_nat k (by omega)], 0, os, hw⟩
              have c2 : ∀ W, Calls Tryz.prog 23 #[.int .i64 (b : Int)] W fun e w' => e = .returned (.agg #[.int .i64 (spM b).1, .int .i64 (spM b).2]) ∧ ∃ q os, w' = grow (W.drewN q) os := fun W => (refSpiral_any b W).mono fun _ _ ⟨he, os, hw⟩ => ⟨by rw [he, spZ_nat b (by omega)], 0, os, hw⟩
              have c3 : ∀ W, Calls Tryz.prog 27 #[.agg #[.int .i64 (spM k).1, .int .i64 (spM k).2], .agg #[.int .i64 (shardM s).1, .int .i64 (shardM s).2]] W fun e w' => e = .returned (.int .i64 (dT s k)) ∧ ∃ q os, w' = grow (W.drewN q) os := fun W => (refApart_any _ _ _ _ (by omega) (by omega) W).mono fun _ _ ⟨he, os, hw⟩ => ⟨by rw [he, ← dT_eq s hs8 k hk9]; rfl, 0, os, hw⟩
              have c4 : ∀ W, Calls Tryz.prog 27 #[.agg #[.int .i64 (spM b).1, .int .i64 (spM b).2], .agg #[.int .i64 (shardM s).1, .int .i64 (shardM s).2]] W fun e w' => e = .returned (.int .i64 (dT s b)) ∧ ∃ q os, w' = grow (W.drewN q) os := fun W => (refApart_any _ _ _ _ (by omega) (by omega) W).mono fun _ _ ⟨he, os, hw⟩ => ⟨by rw [he, ← dT_eq s hs8 b hb9]; rfl, 0, os, hw⟩
              have HS2 : Hid (selM s n j (k + 1) = if dT s k < dT s b then (k : Int) else (b : Int)) := by
                show _ = _
                rw [HS.out]
                simp only [hneg, false_or, Int.toNat_natCast, true_and]
              clear z1 z2 z3 z4 hsh HS hb
              by_cases hd : dT s k < dT s b
              · have hs1 : selM s n j (k + 1) = (k : Int) := by rw [HS2.out, if_pos hd]
                have HS1 : Hid (selM s n j (k + 1) = (k : Int)) := hs1
                clear hs1 HS2
                generalize dT s k = dk at *
                generalize dT s b = db at *
                go_wp2_with fail
                have y1 : decide ((b : Int) < 0) = false := decide_eq_false (by omega)
                have y2 : ¬ (b : Int) < 0 := by omega
                have t1 : ∀ w, (binOp .lss 3 (.int .i64 (b : Int)) (.int .i64 0)).run Tryz.prog w = .ok (.bool false) w := fun w => by go_simp
                have y3 : decide (dk < db) = true := decide_eq_true hd
                have t2 : ∀ w, (binOp .lss 3 (.int .i64 dk) (.int .i64 db)).run Tryz.prog w = .ok (.bool true) w := fun w => by go_simp
                refine wp_region_quiet_grown mixed (by kernel_rfl) ?_
                repeat (go_big_quiet_step (first | with_reducible exact Calls.grown_of (c1 _) | with_reducible exact Calls.grown_of (c2 _) | with_reducible exact Calls.grown_of (c3 _) | with_reducible exact Calls.grown_of (c4 _)))
                refine wpQuiet_nil ?_
                intro _ hw'
                obtain ⟨⟨nq, osq⟩, hw''⟩ := hw'
                subst hw''
                have hN := HK.out nq osq
                show Exit.then _ _ Exit.normal _ (grow (wr.drewN nq) osq)
                go_wp2_with fail
                go_roundg (n - (k + 1))
                case measure => omega
                case rel => exact ⟨k + 1, by omega, rfl, by rw [HS1.out], by go_num, hN⟩
              · have hs1 : selM s n j (k + 1) = (b : Int) := by rw [HS2.out, if_neg hd]
                have HS1 : Hid (selM s n j (k + 1) = (b : Int)) := hs1
                clear hs1 HS2
                generalize dT s k = dk at *
                generalize dT s b = db at *
                go_wp2_with fail
                have hd1 : ¬ dk < db := by omega
                have y1 : decide ((b : Int) < 0) = false := decide_eq_false (by omega)
                have y2 : ¬ (b : Int) < 0 := by omega
                have t1 : ∀ w, (binOp .lss 3 (.int .i64 (b : Int)) (.int .i64 0)).run Tryz.prog w = .ok (.bool false) w := fun w => by go_simp
                have y3 : decide (dk < db) = false := decide_eq_false hd1
                have t2 : ∀ w, (binOp .lss 3 (.int .i64 dk) (.int .i64 db)).run Tryz.prog w = .ok (.bool false) w := fun w => by go_simp
                refine wp_region_quiet_grown mixed (by kernel_rfl) ?_
                repeat (go_big_quiet_step (first | with_reducible exact Calls.grown_of (c1 _) | with_reducible exact Calls.grown_of (c2 _) | with_reducible exact Calls.grown_of (c3 _) | with_reducible exact Calls.grown_of (c4 _)))
                refine wpQuiet_nil ?_
                intro _ hw'
                obtain ⟨⟨nq, osq⟩, hw''⟩ := hw'
                subst hw''
                have hN := HK.out nq osq
                show Exit.then _ _ Exit.normal _ (grow (wr.drewN nq) osq)
                go_wp2_with fail
                go_roundg (n - (k + 1))
                case measure => omega
                case rel => exact ⟨k + 1, by omega, rfl, by rw [HS1.out], by go_num, hN⟩
        · have hkz : ¬ (k : Int) < (n : Int) := by omega
          obtain rfl : k = n := by omega
          rw [HE'.out]
          obtain ⟨L, hL⟩ : ∃ L, cT s k j = L := ⟨_, rfl⟩
          have hLk := HLn.out
          rw [hL] at hLk ⊢
          have hLz : (L : Int) < (k : Int) := by omega
          have hc0 := hK.row.cell hLk
          have hf0 := hK.row.frozen L
          have hne : ∀ b, (Value.slice la j lc).ownBlock = some b → b ≠ W2.heap.size := fun b hb e => by
            obtain ⟨cur, h1, _⟩ := hK.row
            rcases hK.own.2 with ⟨e0, _⟩ | ⟨q, cap, cur', e0, _, hq, _⟩
            · rw [e0] at hb; cases hb
            · rw [e0] at hb
              obtain rfl : q = b := by simpa [Value.ownBlock] using hb
              rw [← e, hq] at h1
              simp only [Option.some.injEq, Obj.cells.injEq] at h1
              exact absurd h1.2.1 (by decide)
          have hnp : ∀ b, (∃ cur, wr.heap[b]? = some (.cells cur 80 (0, 0))) → (Value.slice la j lc).ownBlock ≠ some b := fun b hb' hb => by
            obtain ⟨cur, h1⟩ := hb'
            rcases hK.own.2 with ⟨e0, _⟩ | ⟨q, cap, cur', e0, _, hq, _⟩
            · rw [e0] at hb; cases hb
            · rw [e0] at hb
              obtain rfl : q = b := by simpa [Value.ownBlock] using hb
              rw [hq] at h1
              simp only [Option.some.injEq, Obj.cells.injEq] at h1
              exact absurd h1.2.1 (by decide)
          have HPT : Hid (∃ cur, wr.heap[w2.heap.size]? = some (.cells cur 80 (0, 0))) := hK.pt
          obtain ⟨W5, hW5⟩ : ∃ W5, wr.setCell ⟨W2.heap.size, L, none⟩ (.bool true) = W5 := ⟨_, rfl⟩
          have hrow5 : W5.rowIs W2.heap.size 4 k (fun m => .bool (inB s k (j + 1) m)) := by
            rw [← hW5]
            refine (hK.row.set L (.bool true)).congr (fun m _ => ?_)
            rw [inB_succ, hL]
            by_cases e : m = L
            · rw [if_pos e, e]; simp
            · rw [if_neg e]
              have : (L == m) = false := beq_eq_false_iff_ne.2 (fun h => e h.symm)
              rw [this, Bool.or_false]
          have hown5 : W5.ownsRow w.heap.size 3 1 (.slice la j lc) j ((List.range j).map fun i => .int .i64 (cT s k i : Nat)) := by
            rw [← hW5]; exact own_block hK.own (fun b hb => Below.heap_setCell _ _ _ _ (hne b hb))
          have hbel5 : RowKit.Below w.heap.size w W5 := by rw [← hW5]; exact hK.below.setCell hub _
          have ha05 : W5.cell? ⟨w2.heap.size, 0, none⟩ = some (.int .i64 (shardM s).1) := by
            rw [← hW5, World.cell?_of_block (w := wr) (a := ⟨w2.heap.size, 0, none⟩) (Below.heap_setCell _ _ _ _ hab)]; exact hK.a0
          have ha15 : W5.cell? ⟨w2.heap.size, 1, none⟩ = some (.int .i64 (shardM s).2) := by
            rw [← hW5, World.cell?_of_block (w := wr) (a := ⟨w2.heap.size, 1, none⟩) (Below.heap_setCell _ _ _ _ hab)]; exact hK.a1
          obtain ⟨v', W6, hrun, hown6, hg6, _⟩ := app_one (P := Tryz.prog) (y := .int .i64 (L : Int)) (t := 31) (ty := 31) Tryz.underlying31 intInfo rfl hown5 rfl (by omega) (by omega) hbel5.size
          have nn : ∀ b, (none : Option Nat) ≠ some b := fun _ e => by cases e
          have hC6 : RC w w2.heap.size W2.heap.size s k (j + 1) v' W6 := by
            refine ⟨by obtain ⟨cur, hc⟩ := HPT.out; exact ⟨cur, by rw [hg6.block _ (World.block_lt_of_cell? _ _ ha05) (hnp _ HPT.out) (nn _), ← hW5, Below.heap_setCell _ _ _ _ hab]; exact hc⟩, hbel5.trans (hg6.below w.heap.size hbel5.size (fun b e => (hown5.lt b e).1) (fun b e => absurd e (nn b))), ?_, ?_, ?_, ?_⟩
            · exact (World.cell?_of_block (w := W5) (a := ⟨w2.heap.size, 0, none⟩) (hg6.block _ (World.block_lt_of_cell? _ _ ha05) (hnp _ HPT.out) (nn _))).trans ha05
            · exact (World.cell?_of_block (w := W5) (a := ⟨w2.heap.size, 1, none⟩) (hg6.block _ (World.block_lt_of_cell? _ _ ha15) (hnp _ HPT.out) (nn _))).trans ha15
            · exact hrow5.of_block (hg6.block _ hrow5.lt (fun e => hne _ e rfl) (nn _))
            · rw [List.range_succ, List.map_append, List.map_cons, List.map_nil, hL]
              exact hown6
          have HR : Hid ((Builtin.append_ #[31, 31] 31 #[.slice la j lc, .slice (some ⟨W5.heap.size, 0, none⟩) 1 1]).run Tryz.prog (W5.alloc (.cells #[.int .i64 (L : Int)] 3)) = .ok v' W6) := hrun
          clear hrow5 hown5 hbel5 ha05 ha15 hown6 hg6 hrun hK hne nn
          go_wp2_with (at_builtin; refine wpList_app rfl _ _ 31 rfl _ _ _ (by rfl) (by rfl) HR.out ?_)
          go_roundg (c - (j + 1))
          case measure => omega
          case rel => exact ⟨j + 1, v', rfl, by omega, rfl, hC6⟩
    · have hjz : ¬ (j : Int) < (c : Int) := by omega
      obtain rfl : j = c := by omega
      go_wp2
      go_ret2
      exact ⟨_, rfl, hC.own, hC.below⟩
end Go.Proofs.YtbebnjeamlmclaaGreat
