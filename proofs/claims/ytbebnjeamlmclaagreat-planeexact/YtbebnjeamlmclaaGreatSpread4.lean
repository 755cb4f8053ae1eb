/- The appending to lists of ints that were marked. -/
import Derived.Test.YtbebnjeamlmclaaGreatIntFam2
import Derived.Deep.RegionHeld3
namespace Go.Proofs.YtbebnjeamlmclaaGreat
open Go.RowKit
set_option maxRecDepth 100000
set_option maxRecDepth 100000

theorem wpList_apps {P : Program} {w w' : World} {ops : Array Oper} {rest : List Oper} {o : Oper} {a : Act} {Q : Exit → Act → World → Prop} (hgd : o.guard = none) (s x : Operand) (t : TypeId)
    (ho : o.op = .call { callee := .builtin .append, args := #[s, x], argTypes := #[t, t] }) (v u v' : Value) (hs : a.eval s = v) (hx : a.eval x = u)
    (hrun : (Builtin.append_ #[t, t] o.type #[v, u]).run P w = .ok v' w') (h : wpList P ops Q rest (a.put o.dst v') w') : wpList P ops Q (o :: rest) a w := by
  refine wpList_plain hgd fun K hK => ?_
  unfold Oper.wp
  simp [execOp, ho, resolve, invoke, builtin, hs, hx, hrun, Result.andThen]
  exact hK _ _ h

theorem K3.row {mk : Nat → Value} {w W : World} {S0 : Nat} {kv mv : Value} {N i : Nat} {ks ms : List Value} {zb : Nat} {f : Nat → Value} (h : K3 mk w W S0 kv mv N i ks ms) (hz : W.rowIs zb 61 8 f) (hb : w.heap.size ≤ zb) (o : Nat) (x : Value) : K3 mk w (W.setCell ⟨zb, o, none⟩ x) S0 kv mv N i ks ms := by
  refine h.keep ((Below.refl w.heap.size W).setCell hb _) (by simp [World.setCell]) (fun b t y hc => ?_) (fun e v n xs he ho => own_block ho (fun b hb' => ?_))
  · refine Below.heap_setCell _ _ _ _ (fun e => ?_)
    subst e
    obtain ⟨c, h1, _⟩ := hz
    obtain ⟨cur, h2, _⟩ := hc
    rw [h1] at h2
    simp only [Option.some.injEq, Obj.cells.injEq] at h2
    exact absurd h2.2.1 (by decide)
  · refine Below.heap_setCell _ _ _ _ (fun e' => row_apart ho hz ?_ (by have e2 : b = zb := e'; rw [← e2]; exact hb'))
    rcases he with rfl | rfl <;> decide

set_option maxHeartbeats 8000000 in
theorem spr_grown (yb N : Nat) (kv : Value) (ks : List Value) (w W : World) (hN : N ≤ 1000) (hy : W.rowIs yb 61 8 (sprCell kv)) (hK : K2 mI w W kv N ks N 0) :
    Calls Tryz.prog 18 #[.pointer (some ⟨yb, 0, none⟩)] W fun e w' => ∃ zb mv ms S0, e = .returned (.pointer (some ⟨zb, 0, none⟩)) ∧ w'.rowIs yb 61 8 (sprCell kv) ∧ w'.rowIs zb 61 8 (sprCell mv) ∧ K3 mI w w' S0 kv mv N N ks ms := by
  obtain ⟨ka, kc, rfl, hkc, _⟩ := own_slice hK.base.row
  have hNz : (N : Int) ≤ 1000 := by omega
  have hNkc : (N : Int) ≤ (kc : Int) := by omega
  have hwW := hK.base.below.size
  have hy1 := hy.alloc (.cells #[.slice none 0 0, .slice none 0 0, .slice none 0 0, .slice none 0 0, .slice none 0 0, .slice none 0 0, .slice none 0 0, .slice none 0 0] 61)
  have hyb := hy.lt
  have hz1 : (W.alloc (.cells #[.slice none 0 0, .slice none 0 0, .slice none 0 0, .slice none 0 0, .slice none 0 0, .slice none 0 0, .slice none 0 0, .slice none 0 0] 61)).rowIs W.heap.size 61 8 (sprCell (.slice none 0 0)) :=
    World.rowIs_alloc W _ _ _ (fun i hi => by
      have hi' : i < 8 := hi
      match i, hi' with
      | 0, _ | 1, _ | 2, _ | 3, _ | 4, _ | 5, _ | 6, _ | 7, _ => rfl)
  have hK1 := (hK.on (Below.alloc (Below.refl W.heap.size W) (Nat.le_refl _) (.cells #[.slice none 0 0, .slice none 0 0, .slice none 0 0, .slice none 0 0, .slice none 0 0, .slice none 0 0, .slice none 0 0, .slice none 0 0] 61))).to3
  obtain ⟨S0, hS0⟩ : ∃ S0, (W.alloc (.cells #[.slice none 0 0, .slice none 0 0, .slice none 0 0, .slice none 0 0, .slice none 0 0, .slice none 0 0, .slice none 0 0, .slice none 0 0] 61)).heap.size = S0 := ⟨_, rfl⟩
  rw [hS0] at hK1
  clear hS0 hK hy
  go_enter Tryz.func18, Tryz.ntmps18
  go_wp2_with fail
  obtain ⟨zb, hzb⟩ : ∃ zb, W.heap.size = zb := ⟨_, rfl⟩
  rw [hzb] at hz1 hwW hyb
  simp only [hzb]
  go_loopg [4, 5, 6] N (fun q s4 s5 s6 wr => ∃ (i : Nat) (mv : Value) (ms : List Value), i ≤ N ∧ q = N - i ∧ s4 = .int .i64 i ∧ wr.rowIs yb 61 8 (sprCell (.slice ka N kc)) ∧ wr.rowIs zb 61 8 (sprCell mv) ∧ K3 mI w wr S0 (.slice ka N kc) mv N i ks ms)
  case atStart => exact ⟨0, _, [], Nat.zero_le _, rfl, rfl, hy1, hz1, hK1⟩
  case round =>
    obtain ⟨i, mv, ms, hi, rfl, rfl, hyr, hzr, hK⟩ := hrel
    clear hK1 hy1 hz1
    have c0 : wr.cell? ⟨yb, 0, none⟩ = some (.slice ka N kc) := hyr.cell (i := 0) (by decide)
    by_cases hiN : i < N
    · have hiz : (i : Int) < (N : Int) := by omega
      obtain ⟨kb, rfl⟩ := rows_some hK.krow (by omega)
      obtain ⟨v, hv⟩ := rows_at hK.krow hiN
      have hcell := rows_cel hK.krow hv
      obtain ⟨n, hn, hK4⟩ := hK.open hv
      have hvn := hK4.g
      simp only [Nat.add_zero] at hvn
      obtain ⟨a, c, rfl, _, _⟩ := own_slice hvn
      have HK3 : Hid (K3 mI w wr S0 (.slice (some ⟨kb, 0, none⟩) N kc) mv N i ks ms) := hK
      have HVN : Hid (wr.ownsRow w.heap.size 3 1 (.slice a n c) n (List.replicate n (mI i))) := hvn
      have hw0 : w.heap.size ≤ wr.heap.size := hK.below.size
      clear hK hvn
      go_wp2_with fail
      clear c0 hcell
      generalize wr = W0 at *
      go_loopg [5, 6] 40 (fun q s5 s6 wx => ∃ (k : Nat) (gv : Value), gv = s5 ∧ k ≤ 40 ∧ q = 40 - k ∧ s6 = .int .i64 k ∧ K4 mI w W0 wx (.slice a n c) gv i n k)
      case atStart => exact ⟨0, _, rfl, Nat.zero_le _, rfl, rfl, hK4⟩
      case round =>
        obtain ⟨k, gv, rfl, hk, rfl, rfl, hG⟩ := hrel
        clear hK4
        by_cases hk40 : k < 40
        · have hkz : (k : Int) < 40 := by omega
          obtain ⟨gv2, W3, hrun, hG3⟩ := K4.app (mo := fun j => -1 - (j : Int)) hG hw0 hn hk40
          have HR : Hid ((Builtin.append_ #[31, 31] 31 #[gv, .slice (some ⟨wr.heap.size, 0, none⟩) 1 1]).run Tryz.prog (wr.alloc (.cells #[.int .i64 (-1 - (i : Int))] 3)) = .ok gv2 W3) := hrun
          clear hrun hG
          go_wp2_with (at_builtin; refine wpList_apps rfl _ _ 31 rfl _ _ _ (by rfl) (by rfl) HR.out ?_)
          go_roundg (40 - (k + 1))
          case measure => omega
          case rel => exact ⟨k + 1, gv2, rfl, by omega, rfl, by go_num, hG3⟩
        · have hkz : ¬ (k : Int) < 40 := by omega
          obtain rfl : k = 40 := by omega
          obtain ⟨ga, gc, rfl, _, _⟩ := own_slice hG.g
          have vy : (Value.slice a n c).ownBlock ≠ some yb := row_apart HVN.out hyr (by decide)
          have vz : (Value.slice a n c).ownBlock ≠ some zb := row_apart HVN.out hzr (by decide)
          have hy2 := hG.gr.rowIs hyr vy (by simp)
          have hz2 := hG.gr.rowIs hzr vz (by simp)
          obtain ⟨mv2, W5, ms2, hrun, hK5, hg5, hm5⟩ := K4.close HK3.out hv hG hn (by omega) HVN.out
          obtain ⟨ma2, mc2, rfl, _, _⟩ := own_slice hK5.mrow
          obtain ⟨ma1, mc1, rfl, _, _⟩ := own_slice hm5
          have hy3 := hg5.rowIs hy2 (row_apart hm5 hy2 (by decide)) (by simp)
          have hz3 := hg5.rowIs hz2 (row_apart hm5 hz2 (by decide)) (by simp)
          have HR : Hid ((Builtin.append_ #[24, 24] 24 #[.slice ma1 i mc1, .slice (some ⟨wr.heap.size, 0, none⟩) 1 1]).run Tryz.prog (wr.alloc (.cells #[.slice ga (n + 40) gc] 31)) = .ok (.slice ma2 (i + 1) mc2) W5) := hrun
          have hK6 := hK5.row hz3 hwW 0 (.slice ma2 (i + 1) mc2)
          have hz4 : (W5.setCell ⟨zb, 0, none⟩ (.slice ma2 (i + 1) mc2)).rowIs zb 61 8 (sprCell (.slice ma2 (i + 1) mc2)) := (hz3.set 0 (.slice ma2 (i + 1) mc2)).congr (fun j _ => by unfold sprCell; by_cases e : j = 0 <;> simp [e])
          have hy4 : (W5.setCell ⟨zb, 0, none⟩ (.slice ma2 (i + 1) mc2)).rowIs yb 61 8 (sprCell (.slice (some ⟨kb, 0, none⟩) N kc)) := hy3.setOther (by show yb ≠ zb; omega) (.slice ma2 (i + 1) mc2)
          have d0 : wr.cell? ⟨zb, 0, none⟩ = some (.slice ma1 i mc1) := hz2.cell (i := 0) (by decide)
          have e0 : W5.cell? ⟨zb, 0, none⟩ = some (.slice ma1 i mc1) := hz3.cell (i := 0) (by decide)
          have e1 := hz3.frozen 0
          clear hrun hG hK5 hg5 hm5 hy2 hz2 hy3 hz3 hyr hzr vy vz
          go_wp2_with (at_builtin; refine wpList_apps rfl _ _ 24 rfl _ _ _ (by rfl) (by rfl) HR.out ?_)
          go_roundg (N - (i + 1))
          case measure => omega
          case rel => exact ⟨i + 1, (.slice ma2 (i + 1) mc2), ms2, by omega, rfl, by go_num, hy4, hz4, hK6⟩
    · have hiz : ¬ (i : Int) < (N : Int) := by omega
      obtain rfl : i = N := by omega
      have hrest := spr_rest yb (.pointer (some ⟨zb, 0, none⟩)) _ wr hyr
      have c1 : wr.cell? ⟨yb, 1, none⟩ = some (.slice none 0 0) := hyr.cell (i := 1) (by decide)
      have c2 : wr.cell? ⟨yb, 2, none⟩ = some (.slice none 0 0) := hyr.cell (i := 2) (by decide)
      have c3 : wr.cell? ⟨yb, 3, none⟩ = some (.slice none 0 0) := hyr.cell (i := 3) (by decide)
      go_wp2_with fail
      go_loopg [7] 0 (fun q s7 wx => q = 0 ∧ s7 = .int .i64 0 ∧ wr = wx)
      case atStart => exact ⟨rfl, rfl, rfl⟩
      case round =>
        obtain ⟨rfl, rfl, rfl⟩ := hrel
        go_wp2_with fail
        go_loopg [10] 0 (fun q s10 wx => q = 0 ∧ s10 = .int .i64 0 ∧ wr = wx)
        case atStart => exact ⟨rfl, rfl, rfl⟩
        case round =>
          obtain ⟨rfl, rfl, rfl⟩ := hrel
          go_wp2_with fail
          go_loopg [13] 0 (fun q s13 wx => q = 0 ∧ s13 = .int .i64 0 ∧ wr = wx)
          case atStart => exact ⟨rfl, rfl, rfl⟩
          case round =>
            obtain ⟨rfl, rfl, rfl⟩ := hrel
            go_wp2_with fail
            go_at_call 43
            refine hrest.mono ?_
            rintro e w2 ⟨rfl, rfl⟩
            go_wp2_with fail
            go_ret
            exact ⟨zb, mv, ms, S0, rfl, hyr, hzr, hK⟩
end Go.Proofs.YtbebnjeamlmclaaGreat
