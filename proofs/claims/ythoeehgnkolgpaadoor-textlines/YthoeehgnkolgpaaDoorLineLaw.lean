/- The law of lines, walked: over the contracts of what it calls. -/
import Derived.Test.YthoeehgnkolgpaaDoorLineFam2
import Derived.Deep.RegionHeld3
import Derived.Deep.LoopGhost
import Derived.Deep.Light
import Derived.Deep.QuietTactic
import Derived.BigQuiet
import Derived.Shelf.SlSortCmp.QuietGrown
namespace Go.Proofs.YthoeehgnkolgpaaDoor
open Go.RowKit Go.Sort
set_option maxRecDepth 100000

/-- What the law asks of the functions that it calls. er, xs: a line's error and its words; ms: the marks. -/
structure LineCalls (w : World) (er : ByteArray → Int) (xs : ByteArray → List Value) (ok : ByteArray → Prop) (ms : Nat → Nat → ByteArray) : Prop where
  begun : ∀ W, RowKit.Below w.heap.size w W → Calls Tryd.prog 9 #[] W fun e w' => e = .returned (.bool true) ∧ RowKit.Below W.heap.size W w'
  words : ∀ s W, ok s → RowKit.Below w.heap.size w W → Calls Tryd.prog 22 #[.string s] W fun e w' => ∃ v n, e = .returned (.tuple #[v, .int .i64 (er s)]) ∧ n ≤ 1048576 ∧ w'.ownsRow W.heap.size 9 1 v n (xs s) ∧ RowKit.Below W.heap.size W w'
  ref : ∀ s W, ok s → Calls Tryd.prog 24 #[.string s] W fun e w' => ∃ v n, e = .returned (.tuple #[v, .int .i64 (er s)]) ∧ w'.ownsRow W.heap.size 9 1 v n (xs s) ∧ RowKit.Below W.heap.size W w'
  eq : ∀ s W K K' a n c a' n' c', ok s → W.ownsRow K 9 1 (.slice a n c) n (xs s) → W.ownsRow K' 9 1 (.slice a' n' c') n' (xs s) → Calls Tryd.prog 23 #[.slice a n c, .slice a' n' c'] W fun e w' => e = .returned (.bool true) ∧ RowKit.Below W.heap.size W w'
  mark : ∀ (i k : Nat) W, k ≤ 1 → Calls Tryd.prog 25 #[.int .i64 i, .int .i64 k] W fun e w' => e = .returned (.string (ms i k)) ∧ ∃ os, w' = grow W os

theorem num2_any (e : Int) (w : World) : Calls Tryd.prog 12 #[.int .i64 e] w fun r w' => r = .returned (.int .i64 e) ∧ w' = w := by
  go_enter Tryd.func12, Tryd.ntmps12
  go_wp2
  go_ret
  exact ⟨rfl, rfl⟩

theorem below_grow2 (w : World) (os : Array Obj) : RowKit.Below w.heap.size w (grow w os) :=
  ⟨rfl, rfl, rfl, by rw [size_grow]; exact Nat.le_add_right _ _, fun k hk => heap_grow_old _ _ hk⟩
theorem below_grow_n (w : World) (n : Nat) (os : Array Obj) : RowKit.Below w.heap.size w (grow (w.drewN n) os) :=
  ⟨rfl, rfl, rfl, by rw [size_grow]; exact Nat.le_add_right _ _, fun k hk => heap_grow_old _ _ hk⟩
theorem below_cel {W W' : World} {b i : Nat} {v : Value} (h : RowKit.Below W.heap.size W W') (hc : W.cell? ⟨b, i, none⟩ = some v) : W'.cell? ⟨b, i, none⟩ = some v := by
  rw [World.cell?_of_block (a := ⟨b, i, none⟩) (h.block _ (World.block_lt_of_cell? _ _ hc))]; exact hc
theorem row_cel {W : World} {K : Nat} {e : TypeId} {kb n c : Nat} {ks : List Value} (h : W.ownsRow K e 1 (.slice (some ⟨kb, 0, none⟩) n c) n ks) {i : Nat} {v : Value} (hv : ks[i]? = some v) : W.cell? ⟨kb, i, none⟩ = some v := by
  have := (List.getElem?_eq_some_iff.1 hv).1
  have hl := h.1
  rw [h.cellAt i (by omega)]
  exact hv
/-- A row's value, where it has an entry. -/
theorem row_some {W : World} {K : Nat} {e : TypeId} {a : Option Addr} {n c : Nat} {ks : List Value} (h : W.ownsRow K e 1 (.slice a n c) n ks) (hn : 0 < n) : ∃ kb, a = some ⟨kb, 0, none⟩ := by
  obtain ⟨b, c', e, _⟩ := own_some h hn
  injection e with e1
  exact ⟨b, e1⟩
theorem row_at {W : World} {K : Nat} {e : TypeId} {v : Value} {n i : Nat} {ks : List Value} (h : W.ownsRow K e 1 v n ks) (hi : i < n) : ∃ u, ks[i]? = some u :=
  ⟨ks[i]'(by have := h.1; omega), List.getElem?_eq_getElem _⟩

theorem K3.on {mk mo : Nat → Value} {w W W' : World} {S0 : Nat} {kv fv mv : Value} {N i : Nat} {ks fs ms : List Value} (h : K3 mk mo w W S0 kv fv mv N i ks fs ms) (hb : RowKit.Below W.heap.size W W') : K3 mk mo w W' S0 kv fv mv N i ks fs ms :=
  ⟨h.below.trans (hb.mono h.below.size), h.s0, Nat.le_trans h.s1 hb.size, below_own h.krow hb, below_own h.frow hb, below_own h.mrow hb, h.kf, h.km, h.fm, h.low,
   fun j v hj hv => by obtain ⟨n, hn, ho⟩ := h.rest j v hj hv; exact ⟨n, hn, below_own ho hb⟩, h.apart,
   fun j v f m hj hv hf hm => (h.done j v f m hj hv hf hm).keep (fun b t x hc _ => hb.block b hc.lt)⟩

theorem wpList_app {P : Program} {w w' : World} {ops : Array Oper} {rest : List Oper} {o : Oper} {a : Act} {Q : Exit → Act → World → Prop} (hgd : o.guard = none) (s x : Operand) (t : TypeId)
    (ho : o.op = .call { callee := .builtin .append, args := #[s, x], argTypes := #[t, t] }) (v u v' : Value) (hs : a.eval s = v) (hx : a.eval x = u)
    (hrun : (Builtin.append_ #[t, t] o.type #[v, u]).run P w = .ok v' w') (h : wpList P ops Q rest (a.put o.dst v') w') : wpList P ops Q (o :: rest) a w := by
  refine wpList_plain hgd fun K hK => ?_
  unfold Oper.wp
  simp [execOp, ho, resolve, invoke, builtin, hs, hx, hrun, Result.andThen]
  exact hK _ _ h

set_option maxHeartbeats 8000000 in
theorem lines_any (la : Option Addr) (N cap : Nat) (ss : Nat → ByteArray) (er : ByteArray → Int) (xs : ByteArray → List Value) (ok : ByteArray → Prop) (ms : Nat → Nat → ByteArray) (w : World) (C : LineCalls w er xs ok ms) (hN : N ≤ 8796093021952)
    (hl : ∀ j, j < N → ok (ss j) ∧ ∃ b o, la = some ⟨b, o, none⟩ ∧ w.cell? ⟨b, o + j, none⟩ = some (.string (ss j))) :
    Calls Tryd.prog 7 #[.slice la N cap] w fun e w' => e = .returned (.bool true) ∧ RowKit.Below w.heap.size w w' := by
  have HC : Hid (LineCalls w er xs ok ms) := C
  have HL : Hid (∀ j, j < N → ok (ss j) ∧ ∃ b o, la = some ⟨b, o, none⟩ ∧ w.cell? ⟨b, o + j, none⟩ = some (.string (ss j))) := hl
  have mixed : Tryd.prog.follows .mixedOrders = true := by kernel_rfl
  have hNz : (N : Int) ≤ 8796093021952 := by omega
  clear C hl
  go_enter Tryd.func7, Tryd.ntmps7
  go_wp2_with fail
  refine (HC.out.begun w (RowKit.Below.refl _ _)).mono ?_
  rintro e w1 ⟨rfl, b1⟩
  have hK0 : K1 w w1 (.slice none 0 0) 0 [] := ⟨b1, World.ownsRow_nil _ _ _ _, fun j v h => by simp at h, fun a b v u _ h => by simp at h⟩
  clear b1
  go_wp2_with fail
  go_loopg [3, 6] N (fun q s3 s6 wr => ∃ (i : Nat) (ks : List Value) (kv : Value), kv = s3 ∧ i ≤ N ∧ q = N - i ∧ s6 = .int .i64 i ∧ K1 w wr kv i ks)
  case atStart => exact ⟨0, [], _, rfl, Nat.zero_le _, rfl, rfl, hK0⟩
  case round =>
    obtain ⟨i, ks, kv, rfl, hi, rfl, rfl, hK⟩ := hrel
    clear hK0
    by_cases hlt : i < N
    · have hz : (i : Int) < (N : Int) := by omega
      obtain ⟨hok, b, o, rfl, hc⟩ := HL.out i hlt
      have hc1 : wr.cell? ⟨b, o + i, none⟩ = some (.string (ss i)) := below_cel hK.below hc
      generalize ss i = s at *
      go_wp2_with fail
      refine (HC.out.words s wr hok hK.below).mono ?_
      rintro e w2 ⟨v, n, rfl, hn, hv, b2⟩
      obtain ⟨a, c, rfl, _, _⟩ := own_slice hv
      have hc2 := below_cel b2 hc1
      clear hc1
      go_wp2_with fail
      refine (HC.out.ref s w2 hok).mono ?_
      rintro e w3 ⟨u, n', rfl, hu, b3⟩
      obtain ⟨a', c', rfl, _, _⟩ := own_slice hu
      have hv3 := below_own hv b3
      have b23 := b2.trans (b3.mono b2.size)
      clear hc2 hv
      go_wp2_with fail
      refine (num2_any _ _).mono ?_
      rintro e w3 ⟨rfl, rfl⟩
      go_wp2_with fail
      refine (HC.out.eq s w3 _ _ a n c a' n' c' hok hv3 hu).mono ?_
      rintro e w4 ⟨rfl, b4⟩
      have hv4 := below_own hv3 b4
      have b24 := b23.trans (b4.mono b23.size)
      obtain ⟨kv', W5, hrun, hK5⟩ := hK.push b24 hv4 hn (by omega)
      have HR : Hid ((Builtin.append_ #[53, 53] 53 #[kv, .slice (some ⟨w4.heap.size, 0, none⟩) 1 1]).run Tryd.prog (w4.alloc (.cells #[.slice a n c] 22)) = .ok kv' W5) := hrun
      clear hv3 hu hv4 b23 b3 b4 b2 b24 hK hrun
      go_wp2_with (at_builtin; refine wpList_app rfl _ _ 53 rfl _ _ _ (by rfl) (by rfl) HR.out ?_)
      go_roundg (N - (i + 1))
      case measure => omega
      case rel => exact ⟨i + 1, ks ++ [.slice a n c], kv', rfl, by omega, rfl, by go_num, hK5⟩
    · have hz : ¬ (i : Int) < (N : Int) := by omega
      obtain rfl : i = N := by omega
      obtain ⟨ka, kc, rfl, hkc, _⟩ := own_slice hK.row
      have hK2 : K2 (fun j => .string (ms j 0)) w wr (.slice ka i kc) i ks 0 0 := hK.marked
      clear hK
      have hikc : (i : Int) ≤ (kc : Int) := by omega
      go_wp2_with fail
      go_loopg [11, 12] i (fun q s11 s12 wr => ∃ (p : Nat), p ≤ i ∧ q = i - p ∧ s11 = .int .i64 p ∧ K2 (fun j => .string (ms j 0)) w wr (.slice ka i kc) i ks p 0)
      case atStart => exact ⟨0, Nat.zero_le _, rfl, rfl, hK2⟩
      case round =>
        obtain ⟨p, hp, rfl, rfl, hK⟩ := hrel
        clear hK2
        by_cases hpi : p < i
        · have hpz : (p : Int) < (i : Int) := by omega
          obtain ⟨kb, rfl⟩ := row_some hK.base.row (by omega)
          obtain ⟨v, hv⟩ := row_at hK.base.row hpi
          obtain ⟨n, _, hn, ho, _⟩ := hK.marks p v hv
          obtain ⟨a, c, rfl, hnc, ha⟩ := own_slice ho
          clear ho
          have hnz : (n : Int) ≤ 1048576 := by omega
          have hncz : (n : Int) ≤ (c : Int) := by omega
          go_wp2_with fail
          go_loopg [12] n (fun q s12 wr => ∃ (k : Nat), k ≤ n ∧ q = n - k ∧ s12 = .int .i64 k ∧ K2 (fun j => .string (ms j 0)) w wr (.slice (some ⟨kb, 0, none⟩) i kc) i ks p k)
          case atStart => exact ⟨0, Nat.zero_le _, rfl, rfl, hK⟩
          case round =>
            obtain ⟨k, hk, rfl, rfl, hK'⟩ := hrel
            clear hK
            have hcell := row_cel hK'.base.row hv
            by_cases hkn : k < n
            · have hkz : (k : Int) < (n : Int) := by omega
              obtain ⟨m, zs, _, ho, _⟩ := hK'.marks p _ hv
              obtain ⟨g, c', eq, hgb, _, _, _⟩ := own_some ho (by
                obtain ⟨a2, c2, e2, _⟩ := own_slice ho
                have : n = m := by injection e2
                omega)
              obtain ⟨rfl, rfl, rfl⟩ : a = some ⟨g, 0, none⟩ ∧ n = m ∧ c = c' := by injection eq with e1 e2 e3; exact ⟨e1, e2, e3⟩
              have hlz : zs.length = n := by have := ho.1; omega
              have hgk : wr.cell? ⟨g, k, none⟩ = some zs[k] := by rw [ho.cellAt k (by omega)]; exact List.getElem?_eq_getElem (by omega)
              have hgf := ho.frozenAt k
              obtain ⟨z, hz'⟩ : ∃ z, zs[k] = z := ⟨_, rfl⟩
              rw [hz'] at hgk
              have hkg : kb ≠ g := fun e => own_apart hK'.base.row ho ne_kinds kb rfl (by rw [e]; rfl)
              clear ho hz' hlz
              have hmark : ∀ W, Calls Tryd.prog 25 #[.int .i64 (p : Int), .int .i64 0] W fun e w' => e = .returned (.string (ms p 0)) ∧ RowKit.Below W.heap.size W w' := fun W => (HC.out.mark p 0 W (by omega)).mono fun _ _ ⟨he, os, hw⟩ => ⟨he, hw ▸ below_grow2 W os⟩
              have HK' : Hid (K2 (fun j => .string (ms j 0)) w wr (.slice (some ⟨kb, 0, none⟩) i kc) i ks p k) := hK'
              clear hK'
              go_wp2_with fail
              go_region_held3 (fun W => W.cell? ⟨kb, p, none⟩ = some (.slice (some ⟨g, 0, none⟩) n c))
                (first | exact hcell | exact t1 | exact (World.cell?_of_block (a := ⟨kb, p, none⟩) (Below.heap_setCell _ _ _ _ hkg)).trans t1)
                (first | (go_at_call 25; refine (hmark _).mono ?_; rintro e w2 ⟨rfl, b2'⟩; have b2 : RowKit.Below wr.heap.size wr w2 := ⟨b2'.os, b2'.tape, b2'.output, b2'.size, b2'.block⟩; have t1 := below_cel b2 hcell; have s1 := below_cel b2 hgk; have s2 : w2.frozen? ⟨g, k, none⟩ = false := (World.frozen?_of_block (a := ⟨g, k, none⟩) (b2.block g (World.block_lt_of_cell? _ _ hgk))).trans hgf))
              all_goals
                have hKs := (HK'.out.on b2).store hv hkn
                clear b2 b2' t1 s1 s2
                go_wp2_with fail
                go_roundg (n - (k + 1))
                case measure => omega
                case rel => exact ⟨k + 1, by omega, rfl, by go_num, hKs⟩
            · have hkz : ¬ (k : Int) < (n : Int) := by omega
              have hK3 := hK'.next hv rfl (by omega)
              clear hK'
              go_wp2_with fail
              go_roundg (i - (p + 1))
              case measure => omega
              case rel => exact ⟨p + 1, by omega, rfl, by go_num, hK3⟩
        · have hpz : ¬ (p : Int) < (i : Int) := by omega
          obtain rfl : p = i := by omega
          have hK3 : K3 (fun j => .string (ms j 0)) (fun j => .string (ms j 1)) w wr wr.heap.size (.slice ka p kc) (.slice none 0 0) (.slice none 0 0) p 0 ks [] [] := hK.to3
          clear hK
          obtain ⟨S0, hS0⟩ : ∃ S0, wr.heap.size = S0 := ⟨_, rfl⟩
          rw [hS0] at hK3
          clear hS0
          have hpk : (p : Int) ≤ (kc : Int) := by omega
          go_wp2_with fail
          go_loopg [4, 5, 13] p (fun q s4 s5 s13 wr => ∃ (j : Nat) (fv mv : Value) (fs ms' : List Value), fv = s4 ∧ mv = s5 ∧ j ≤ p ∧ q = p - j ∧ s13 = .int .i64 j ∧ K3 (fun j => .string (ms j 0)) (fun j => .string (ms j 1)) w wr S0 (.slice ka p kc) fv mv p j ks fs ms')
          case atStart => exact ⟨0, _, _, [], [], rfl, rfl, Nat.zero_le _, rfl, rfl, hK3⟩
          case round =>
            obtain ⟨j, fv, mv, fs, ms', rfl, rfl, hj, rfl, rfl, hK⟩ := hrel
            clear hK3
            by_cases hjp : j < p
            · have hjz : (j : Int) < (p : Int) := by omega
              obtain ⟨kb, rfl⟩ := row_some hK.krow (by omega)
              obtain ⟨v, hv⟩ := row_at hK.krow hjp
              have hcell := row_cel hK.krow hv
              obtain ⟨n, hn, hK4⟩ := hK.open hv
              have hvn := hK4.g
              simp only [Nat.add_zero, List.replicate_zero, List.append_nil] at hvn
              obtain ⟨a, c, rfl, _, _⟩ := own_slice hvn
              have HK3 : Hid (K3 (fun j => .string (ms j 0)) (fun j => .string (ms j 1)) w wr S0 (.slice (some ⟨kb, 0, none⟩) p kc) fv mv p j ks fs ms') := hK
              have HVN : Hid (wr.ownsRow w.heap.size 9 1 (.slice a n c) n (List.replicate n (.string (ms j 0)))) := hvn
              have hw0 : w.heap.size ≤ wr.heap.size := hK.below.size
              clear hK hvn
              go_wp2_with fail
              generalize wr = W0 at *
              go_loopg [4, 14, 15] 70 (fun q s4 s14 s15 wx => ∃ (k : Nat) (gv fv' : Value) (fs2 : List Value), fv' = s4 ∧ gv = s14 ∧ k ≤ 70 ∧ q = 70 - k ∧ s15 = .int .i64 k ∧ K4 (fun j => .string (ms j 0)) (fun j => .string (ms j 1)) w W0 wx (.slice a n c) gv fv fv' j n k (min k 1) fs fs2)
              case atStart => exact ⟨0, _, _, fs, rfl, rfl, Nat.zero_le _, rfl, rfl, hK4⟩
              case round =>
                obtain ⟨k, gv, fv', fs2, rfl, rfl, hk, rfl, rfl, hG⟩ := hrel
                clear hK4
                by_cases hk70 : k < 70
                · have hkz : (k : Int) < 70 := by omega
                  have HG : Hid (K4 (fun j => .string (ms j 0)) (fun j => .string (ms j 1)) w W0 wr (.slice a n c) gv fv fv' j n k (min k 1) fs fs2) := hG
                  clear hG
                  go_wp2_with fail
                  refine (HC.out.mark j 1 _ (by omega)).mono ?_
                  rintro e w2 ⟨rfl, os, hw2⟩
                  have b2 : RowKit.Below wr.heap.size wr w2 := hw2 ▸ below_grow2 wr os
                  obtain ⟨gv2, W3, hrun, hG3⟩ := HG.out.app hw0 b2 hn hk70
                  have HR : Hid ((Builtin.append_ #[22, 22] 22 #[gv, .slice (some ⟨w2.heap.size, 0, none⟩) 1 1]).run Tryd.prog (w2.alloc (.cells #[.string (ms j 1)] 9)) = .ok gv2 W3) := hrun
                  clear hrun b2 hw2
                  by_cases hk0 : k = 0
                  · subst hk0
                    obtain ⟨ga, gc, rfl, _, _⟩ := own_slice hG3.g
                    obtain ⟨fv3, W4, fs3, hrun, hG4⟩ := K4.first hG3 hw0 (by omega)
                    have HR2 : Hid ((Builtin.append_ #[53, 53] 53 #[fv', .slice (some ⟨W3.heap.size, 0, none⟩) 1 1]).run Tryd.prog (W3.alloc (.cells #[.slice ga (n + (0 + 1)) gc] 22)) = .ok fv3 W4) := hrun
                    clear hrun hG3
                    go_wp2_with (at_builtin; first | (refine wpList_app rfl _ _ 22 rfl _ _ _ (by rfl) (by rfl) HR.out ?_) | (refine wpList_app rfl _ _ 53 rfl _ _ _ (by rfl) (by rfl) HR2.out ?_))
                    go_roundg 69
                    case measure => omega
                    case rel => exact ⟨1, _, fv3, fs3, rfl, rfl, by omega, rfl, rfl, hG4⟩
                  · have hkb : ((k : Int) == 0) = false := beq_eq_false_iff_ne.2 (by omega)
                    have hkn : ¬ (k : Int) = 0 := by omega
                    have e1 : min k 1 = min (k + 1) 1 := by omega
                    rw [e1] at hG3
                    clear e1
                    go_wp2_with (at_builtin; refine wpList_app rfl _ _ 22 rfl _ _ _ (by rfl) (by rfl) HR.out ?_)
                    go_roundg (70 - (k + 1))
                    case measure => omega
                    case rel => exact ⟨k + 1, gv2, fv', fs2, rfl, rfl, by omega, rfl, by go_num, hG3⟩
                · have hkz : ¬ (k : Int) < 70 := by omega
                  obtain rfl : k = 70 := by omega
                  obtain ⟨ga, gc, rfl, _, _⟩ := own_slice hG.g
                  obtain ⟨mv2, W5, ms2, hrun, hK5⟩ := K4.close HK3.out hv hG hn (by omega) HVN.out
                  have HR : Hid ((Builtin.append_ #[53, 53] 53 #[mv, .slice (some ⟨wr.heap.size, 0, none⟩) 1 1]).run Tryd.prog (wr.alloc (.cells #[.slice ga (n + 70) gc] 22)) = .ok mv2 W5) := hrun
                  clear hrun hG
                  go_wp2_with (at_builtin; refine wpList_app rfl _ _ 53 rfl _ _ _ (by rfl) (by rfl) HR.out ?_)
                  go_roundg (p - (j + 1))
                  case measure => omega
                  case rel => exact ⟨j + 1, fv', mv2, fs2, ms2, rfl, rfl, by omega, rfl, by go_num, hK5⟩
            · have hjz : ¬ (j : Int) < (p : Int) := by omega
              obtain rfl : j = p := by omega
              obtain ⟨fa, fc, rfl, hfc, _⟩ := own_slice hK.frow
              obtain ⟨ma, mc, rfl, hmc, _⟩ := own_slice hK.mrow
              have hjfc : (j : Int) ≤ (fc : Int) := by omega
              have hjmc : (j : Int) ≤ (mc : Int) := by omega
              go_wp2_with fail
              go_loopg [16, 17, 18] j (fun q s16 s17 s18 wr => ∃ (r : Nat), r ≤ j ∧ q = j - r ∧ s16 = .int .i64 r ∧ K3 (fun j => .string (ms j 0)) (fun j => .string (ms j 1)) w wr S0 (.slice ka j kc) (.slice fa j fc) (.slice ma j mc) j j ks fs ms')
              case atStart => exact ⟨0, Nat.zero_le _, rfl, rfl, hK⟩
              case round =>
                obtain ⟨r, hr, rfl, rfl, hK4⟩ := hrel
                clear hK
                by_cases hrj : r < j
                · have hrz : (r : Int) < (j : Int) := by omega
                  obtain ⟨kb, rfl⟩ := row_some hK4.krow (by omega)
                  obtain ⟨fb, rfl⟩ := row_some hK4.frow (by omega)
                  obtain ⟨mb, rfl⟩ := row_some hK4.mrow (by omega)
                  obtain ⟨v, hv⟩ := row_at hK4.krow hrj
                  obtain ⟨f, hf⟩ := row_at hK4.frow hrj
                  obtain ⟨m, hm⟩ := row_at hK4.mrow hrj
                  obtain ⟨n, a, c, F, cf, M, cm, hn, rfl, hnc, rfl, hcf, rfl, hcm, d1, d2, d3, d4, _, _⟩ := hK4.done r v f m hrj hv hf hm
                  have kk := row_cel hK4.krow hv
                  have kf := row_cel hK4.frow hf
                  have km := row_cel hK4.mrow hm
                  have hnz : (n : Int) ≤ 1048576 := by omega
                  have hnfc : (n : Int) + 1 ≤ (cf : Int) := by omega
                  have hnmc : (n : Int) + 70 ≤ (cm : Int) := by omega
                  have hnc' : (n : Int) ≤ (c : Int) := by omega
                  have hn1 : (n : Int) < (n : Int) + 1 := by omega
                  have gf : ∀ q os, (grow (wr.drewN q) os).cell? ⟨fb, r, none⟩ = _ := fun q os => cell_grown (World.block_lt_of_cell? _ _ kf) kf q os
                  have gF : ∀ q os, (grow (wr.drewN q) os).cell? ⟨F, n, none⟩ = _ := fun q os => cell_grown (World.block_lt_of_cell? _ _ d2.cell) d2.cell q os
                  have hmk : Hid (∀ (k : Nat) W, k ≤ 1 → Calls Tryd.prog 25 #[.int .i64 (r : Int), .int .i64 k] W fun e w' => e = .returned (.string (ms r k)) ∧ ∃ q os, w' = grow (W.drewN q) os) := fun k W hk => (HC.out.mark r k W hk).mono fun _ _ ⟨he, os, hw⟩ => ⟨he, 0, os, hw⟩
                  have hm0 : ∀ W, Calls Tryd.prog 25 #[.int .i64 (r : Int), .int .i64 0] W fun e w' => e = .returned (.string (ms r 0)) ∧ ∃ q os, w' = grow (W.drewN q) os := fun W => hmk.out 0 W (by omega)
                  have hm1 : ∀ W, Calls Tryd.prog 25 #[.int .i64 (r : Int), .int .i64 1] W fun e w' => e = .returned (.string (ms r 1)) ∧ ∃ q os, w' = grow (W.drewN q) os := fun W => hmk.out 1 W (by omega)
                  have HK4 : Hid (K3 (fun j => .string (ms j 0)) (fun j => .string (ms j 1)) w wr S0 (.slice (some ⟨kb, 0, none⟩) j kc) (.slice (some ⟨fb, 0, none⟩) j fc) (.slice (some ⟨mb, 0, none⟩) j mc) j j ks fs ms') := hK4
                  have HD : Hid ((∀ t, t < n → ∃ g, a = some ⟨g, 0, none⟩ ∧ Cel 9 wr g t (.string (ms r 0))) ∧ (∀ t, t < n → Cel 9 wr M t (.string (ms r 0))) ∧ (∀ t, n ≤ t → t < n + 70 → Cel 9 wr M t (.string (ms r 1)))) := ⟨d1, d3, d4⟩
                  clear hK4 d1 d2 d3 d4 kf
                  go_wp2_with fail
                  go_quiet_grown (first | with_reducible exact Calls.grown_of (hm1 _) | with_reducible exact Calls.grown_of (hm0 _))
                  have b5 : RowKit.Below wr.heap.size wr (grow (wr.drewN nq) osq) := below_grow_n wr nq osq
                  show Exit.then _ _ Exit.normal _ (grow (wr.drewN nq) osq)
                  obtain ⟨W5, hW5⟩ : ∃ W5, grow (wr.drewN nq) osq = W5 := ⟨_, rfl⟩
                  rw [hW5] at b5 ⊢
                  clear hW5 gf gF
                  generalize wr = WR at *
                  have hnz70 : (n : Int) + 70 ≤ 2000000 := by omega
                  go_wp2_with fail
                  go_loopg [18] (n + 70) (fun q s18 wx => ∃ (t : Nat), t ≤ n + 70 ∧ q = n + 70 - t ∧ s18 = .int .i64 t ∧ RowKit.Below WR.heap.size WR wx)
                  case atStart => exact ⟨0, Nat.zero_le _, rfl, rfl, b5⟩
                  case round =>
                    obtain ⟨t, ht, rfl, rfl, bT⟩ := hrel
                    clear b5
                    have km' : wr.cell? ⟨mb, r, none⟩ = some (.slice (some ⟨M, 0, none⟩) (n + 70) cm) := below_cel bT km
                    have kk' : wr.cell? ⟨kb, r, none⟩ = some (.slice a n c) := below_cel bT kk
                    by_cases htn : t < n + 70
                    · have htz : (t : Int) < (n : Int) + 70 := by omega
                      have gm : ∀ q os, (grow (wr.drewN q) os).cell? ⟨mb, r, none⟩ = _ := fun q os => cell_grown (World.block_lt_of_cell? _ _ km') km' q os
                      have gk : ∀ q os, (grow (wr.drewN q) os).cell? ⟨kb, r, none⟩ = _ := fun q os => cell_grown (World.block_lt_of_cell? _ _ kk') kk' q os
                      have HBT : Hid (∀ q os, RowKit.Below WR.heap.size WR (grow (wr.drewN q) os)) := fun q os => bT.trans ((below_grow_n wr q os).mono bT.size)
                      by_cases hlt' : t < n
                      · have hlz : (t : Int) < (n : Int) := by omega
                        obtain ⟨g, rfl, hg⟩ := HD.out.1 t hlt'
                        have hM := HD.out.2.1 t hlt'
                        have c1 := below_cel bT hg.cell
                        have c2 := below_cel bT hM.cell
                        have gg : ∀ q os, (grow (wr.drewN q) os).cell? ⟨g, t, none⟩ = _ := fun q os => cell_grown (World.block_lt_of_cell? _ _ c1) c1 q os
                        have gM : ∀ q os, (grow (wr.drewN q) os).cell? ⟨M, t, none⟩ = _ := fun q os => cell_grown (World.block_lt_of_cell? _ _ c2) c2 q os
                        clear hg hM c1 c2
                        go_wp2_with fail
                        have y1 : decide ((t : Int) < (n : Int)) = true := decide_eq_true (by omega)
                        have y2 : decide (t < n) = true := decide_eq_true (by omega)
                        have y3 : decide ((n : Int) ≤ (t : Int)) = false := decide_eq_false (by omega)
                        have y4 : decide (n ≤ t) = false := decide_eq_false (by omega)
                        have y5 : ¬ (n : Int) ≤ (t : Int) := by omega
                        have y6 : ¬ n ≤ t := by omega
                        have r1 : ∀ w, (binOp .lss 3 (.int .i64 (t : Int)) (.int .i64 (n : Int))).run Tryd.prog w = .ok (.bool true) w := fun w => by go_simp
                        have r2 : ∀ w, (binOp .geq 3 (.int .i64 (t : Int)) (.int .i64 (n : Int))).run Tryd.prog w = .ok (.bool false) w := fun w => by go_simp
                        refine wp_region_quiet_grown mixed (by kernel_rfl) ?_
                        repeat (go_big_quiet_step (first | with_reducible exact Calls.grown_of (hm0 _) | with_reducible exact Calls.grown_of (hm1 _)))
                        refine wpQuiet_nil ?_
                        intro _ hw'
                        obtain ⟨⟨nq, osq⟩, hw''⟩ := hw'
                        subst hw''
                        have bN := HBT.out nq osq
                        show Exit.then _ _ Exit.normal _ (grow (wr.drewN nq) osq)
                        go_wp2_with fail
                        go_roundg (n + 70 - (t + 1))
                        case measure => omega
                        case rel => exact ⟨t + 1, by omega, rfl, by go_num, bN⟩
                      · have hlz : ¬ (t : Int) < (n : Int) := by omega
                        have hgz : (n : Int) ≤ (t : Int) := by omega
                        have hM := HD.out.2.2 t (by omega) htn
                        have c2 := below_cel bT hM.cell
                        have gM : ∀ q os, (grow (wr.drewN q) os).cell? ⟨M, t, none⟩ = _ := fun q os => cell_grown (World.block_lt_of_cell? _ _ c2) c2 q os
                        clear hM c2
                        go_wp2_with fail
                        have y1 : decide ((t : Int) < (n : Int)) = false := decide_eq_false (by omega)
                        have y2 : decide (t < n) = false := decide_eq_false (by omega)
                        have y3 : decide ((n : Int) ≤ (t : Int)) = true := decide_eq_true (by omega)
                        have y4 : decide (n ≤ t) = true := decide_eq_true (by omega)
                        have y5 : ¬ (t : Int) < (n : Int) := by omega
                        have y6 : ¬ t < n := by omega
                        have r1 : ∀ w, (binOp .lss 3 (.int .i64 (t : Int)) (.int .i64 (n : Int))).run Tryd.prog w = .ok (.bool false) w := fun w => by go_simp
                        have r2 : ∀ w, (binOp .geq 3 (.int .i64 (t : Int)) (.int .i64 (n : Int))).run Tryd.prog w = .ok (.bool true) w := fun w => by go_simp
                        refine wp_region_quiet_grown mixed (by kernel_rfl) ?_
                        repeat (go_big_quiet_step (first | with_reducible exact Calls.grown_of (hm0 _) | with_reducible exact Calls.grown_of (hm1 _)))
                        refine wpQuiet_nil ?_
                        intro _ hw'
                        obtain ⟨⟨nq, osq⟩, hw''⟩ := hw'
                        subst hw''
                        have bN := HBT.out nq osq
                        show Exit.then _ _ Exit.normal _ (grow (wr.drewN nq) osq)
                        go_wp2_with fail
                        go_roundg (n + 70 - (t + 1))
                        case measure => omega
                        case rel => exact ⟨t + 1, by omega, rfl, by go_num, bN⟩
                    · have htz : ¬ (t : Int) < (n : Int) + 70 := by omega
                      have hK6 := HK4.out.on bT
                      go_wp2_with fail
                      go_roundg (j - (r + 1))
                      case measure => omega
                      case rel => exact ⟨r + 1, by omega, rfl, by go_num, hK6⟩
                · have hrz : ¬ (r : Int) < (j : Int) := by omega
                  go_wp2_with fail
                  refine (HC.out.begun wr hK4.below).mono ?_
                  rintro e w5 ⟨rfl, b5⟩
                  go_wp2_with fail
                  go_ret
                  exact ⟨rfl, hK4.below.trans (b5.mono hK4.below.size)⟩
end Go.Proofs.YthoeehgnkolgpaaDoor
