/- Own texts, joined: Writes1, Other, RefCode, RefEq, Pairs, Book1, Many1, Book2. -/
import Derived.Test.YtonpmabdjngdcaaGreatDoorM1
import Derived.Deep.RegionHeld3
import Derived.Deep.RegionLaw
import Derived.Laws.OwnMore

/- The walks of a Writer's Var, Bytes, fixed, U8, U32, U64: what it holds told as a list. -/
namespace Go.Proofs.YtonpmabdjngdcaaGreatDoor
open Go.RowKit

theorem own_congr {w : World} {B : Nat} {v : Value} {n : Nat} {x y : Nat → Nat} (h : Own w B v n x) (e : ∀ j, j < n → x j = y j) : Own w B v n y := by
  have e2 : cellsOf n x = cellsOf n y := List.map_congr_left (fun j hj => by rw [e j (List.mem_range.1 hj)])
  show w.ownsRow B 5 1 v n (cellsOf n y)
  rw [← e2]; exact h
/-- A Writer that holds this list of bytes. -/
def IsL (w : World) (wb B : Nat) (v : Value) (l : List Nat) : Prop := IsW w wb B v l.length (fun j => l.getD j 0)
theorem isL_add {w : World} {wb B : Nat} {v : Value} {l r : List Nat} {n : Nat} {y : Nat → Nat} (h : IsW w wb B v (l.length + n) (cat (fun j => l.getD j 0) l.length y)) (hr : r.length = n) (e : ∀ j, j < n → y j = r.getD j 0) : IsL w wb B v (l ++ r) := by
  subst hr
  refine ⟨h.cell, ?_, h.ne, h.lo⟩
  rw [List.length_append]
  refine own_congr h.own (fun j hj => ?_)
  unfold cat
  by_cases h1 : j < l.length
  · rw [if_pos h1]
    show l.getD j 0 = (l ++ r).getD j 0
    rw [List.getD_eq_getElem?_getD, List.getD_eq_getElem?_getD, List.getElem?_append_left h1]
  · rw [if_neg h1, e _ (by omega), List.getD_eq_getElem?_getD, List.getD_eq_getElem?_getD, List.getElem?_append_right (by omega)]

theorem raw_l (wb B : Nat) (v : Value) (l : List Nat) (a : Option Addr) (m c : Nat) (y : Nat → Nat) (w : World) (h : IsL w wb B v l) (hb : Byt w a m y) (ha : a = none → m = 0 ∧ c = 0) (hmax : l.length + m ≤ 140737488355328) :
    Calls Tryz.prog 157 #[.pointer (some ⟨wb, 0, none⟩), .slice a m c] w fun e w' => e = .returned (.tuple #[]) ∧ ∃ v', IsL w' wb B v' (l ++ (List.range m).map y) ∧ Ext wb v v' w w' :=
  (raw_w wb B v l.length _ a m c y w h hb ha hmax).mono fun _ _ ⟨he, v', h1, h2⟩ => ⟨he, v', isL_add h1 (by simp) (fun j hj => (getD_range_map y m j hj).symm), h2⟩

/-- A number in its shortest form. -/
def vl : Nat → Nat → List Nat
  | 0, N => [N % 256]
  | f + 1, N => if N < 128 then [N] else (N % 128 + 128) :: vl f (N / 128)
theorem vl_len : ∀ f N, (vl f N).length ≤ f + 1
  | 0, _ => Nat.le_refl _
  | f + 1, N => by
    unfold vl
    split
    · simp
    · have := vl_len f (N / 128); simp; omega
theorem vl_lt : ∀ f N, ∀ c, c ∈ vl f N → c < 256
  | 0, N, c, h => by
    have : c = N % 256 := by simpa [vl] using h
    omega
  | f + 1, N, c, h => by
    unfold vl at h
    split at h
    · have : c = N := by simpa using h
      omega
    · rcases List.mem_cons.1 h with e | e
      · omega
      · exact vl_lt f (N / 128) c e

theorem mask127 (N : Nat) (h : N < 18446744073709551616) : bits .and .u64 (N : Int) 127 = ((N % 128 : Nat) : Int) := by
  have := u64_and_nat N 127 h (by decide); rw [nat_mask7] at this; exact this
theorem or128 (c : Nat) (h : c < 128) : bits .or .u8 (c : Int) 128 = ((c + 128 : Nat) : Int) := by
  have h1 := u8_or_nat c 128 (by omega) (by decide)
  have h2 : c ||| 128 = c + 128 := by
    have := nat_join 7 128 c (by decide) h
    rw [Nat.or_comm]; omega
  rw [h2] at h1; exact h1

set_option maxHeartbeats 1600000 in
set_option maxRecDepth 100000 in
theorem var_l (wb B : Nat) (v : Value) (l : List Nat) (N : Nat) (w : World) (h : IsL w wb B v l) (hN : N < 18446744073709551616) (hmax : l.length + 10 ≤ 140737488355328) :
    Calls Tryz.prog 116 #[.pointer (some ⟨wb, 0, none⟩), .int .u64 N] w fun e w' => e = .returned (.tuple #[]) ∧ ∃ v', IsL w' wb B v' (l ++ vl 9 N) ∧ Ext wb v v' w w' := by
  go_enter Tryz.func116, Tryz.ntmps116
  go_wp2_with fail
  go_loopg [1] 9 (fun f s1 wx => ∃ (M : Nat) (r : List Nat) (v1 : Value), s1 = .int .u64 M ∧ M < 128 ^ (f + 1) ∧ M < 18446744073709551616 ∧ r ++ vl f M = vl 9 N ∧ r.length + f = 9 ∧ IsL wx wb B v1 (l ++ r) ∧ Ext wb v v1 w wx)
  case atStart => exact ⟨N, [], v, rfl, Nat.lt_of_lt_of_le hN (by decide), hN, rfl, rfl, by simpa using h, Ext.refl _ _ _⟩
  case round =>
    obtain ⟨M, r, v1, rfl, hM, hM64, hr, hrf, hI, hE⟩ := hrel
    obtain ⟨n1, hn1⟩ : ∃ n1, (l ++ r).length = n1 := ⟨_, rfl⟩
    have hlen : n1 ≤ l.length + 9 := by rw [← hn1, List.length_append]; omega
    have hW : IsW wr wb B v1 n1 (fun j => (l ++ r).getD j 0) := by rw [← hn1]; exact hI
    have hadd : ∀ (W : World) (v2 : Value) (c : Nat), IsW W wb B v2 (n1 + 1) (cat (fun j => (l ++ r).getD j 0) n1 (fun _ => c)) → IsL W wb B v2 (l ++ (r ++ [c])) := fun W v2 c hh => by
      rw [← List.append_assoc]
      subst hn1
      exact isL_add hh rfl (fun j hj => by
        have e : j = 0 := by omega
        subst e; rfl)
    obtain ⟨va, vc, rfl⟩ := own_form hW.own
    have c0 := hW.cell.cell (i := 0) (by decide)
    clear hI hn1
    by_cases hbig : 127 < M
    · cases gk with
      | zero => exact absurd hM (by simp; omega)
      | succ f =>
        have hr3 : (r ++ [M % 128 + 128]) ++ vl f (M / 128) = vl 9 N := by
          rw [← hr, List.append_assoc]
          show r ++ (M % 128 + 128) :: vl f (M / 128) = r ++ vl (f + 1) M
          rw [show vl (f + 1) M = (M % 128 + 128) :: vl f (M / 128) by rw [vl, if_neg (by omega)]]
        have hM3 : M / 128 < 128 ^ (f + 1) := by rw [Nat.pow_succ] at hM; omega
        have hma : bits .and .u64 (M : Int) 127 = (M : Int) % 128 := by have := mask127 M hM64; rw [this]; omega
        have hor : bits .or .u8 ((M : Int) % 128) 128 = ((M % 128 + 128 : Nat) : Int) := by have := or128 (M % 128) (by omega); rw [← this]; congr 1
        have hC : M % 128 + 128 < 256 := by omega
        generalize M % 128 + 128 = C at *
        have hs1 : wr.Since wr.heap.size (wr.alloc (.cells #[.int .u8 (C : Nat)] 5)) := (World.Since.refl _ _).alloc (Nat.le_refl _) _
        have hb1 : Byt (wr.alloc (.cells #[.int .u8 (C : Nat)] 5)) (some ⟨wr.heap.size, 0, none⟩) 1 (fun _ => C) := fun j hj => ⟨wr.heap.size, 0, rfl, by
          have e : j = 0 := by omega
          subst e; simp⟩
        obtain ⟨v', w', hrun, hI2, hE2, hc2, hf2⟩ := write_step hW hs1 (some ⟨wr.heap.size, 0, none⟩) 1 1 _ hb1 (fun e => by cases e) (by omega)
        obtain ⟨va', vc', rfl⟩ := own_form hI2.own
        have hI3 := hadd _ _ _ hI2
        have hE3 := hE.trans hE2
        have H := hide hrun
        have HM := hide hM3
        have HR := hide hr3
        clear hrun hI2 hE2 hb1 hs1 hW hE hr hM hM3 hr3 hadd
        go_wp2_with (at_builtin; refine wpList_append_eq rfl _ _ 32 rfl _ _ _ (by rfl) (by rfl) (unhide H) ?_)
        go_roundg f
        case measure => go_light; omega
        case rel => go_light; exact ⟨M / 128, r ++ [C], _, by go_num, unhide HM, by omega, unhide HR, by rw [List.length_append]; simp; omega, hI3, hE3⟩
    · have hv9 : vl gk M = [M] := by
        cases gk with
        | zero => show [M % 256] = [M]; rw [Nat.mod_eq_of_lt (by omega)]
        | succ f => rw [vl, if_pos (by omega)]
      have hr3 : r ++ [M] = vl 9 N := by rw [← hr, hv9]
      have hs1 : wr.Since wr.heap.size (wr.alloc (.cells #[.int .u8 (M : Nat)] 5)) := (World.Since.refl _ _).alloc (Nat.le_refl _) _
      have hb1 : Byt (wr.alloc (.cells #[.int .u8 (M : Nat)] 5)) (some ⟨wr.heap.size, 0, none⟩) 1 (fun _ => M) := fun j hj => ⟨wr.heap.size, 0, rfl, by
        have e : j = 0 := by omega
        subst e; simp⟩
      obtain ⟨v', w', hrun, hI2, hE2, hc2, hf2⟩ := write_step hW hs1 (some ⟨wr.heap.size, 0, none⟩) 1 1 _ hb1 (fun e => by cases e) (by omega)
      obtain ⟨va', vc', rfl⟩ := own_form hI2.own
      have hI3 := hadd _ _ _ hI2
      rw [hr3] at hI3
      have hE3 := hE.trans hE2
      have H := hide hrun
      clear hrun hI2 hE2 hb1 hs1 hW hE hr hM hr3 hadd hv9
      go_wp2_with (at_builtin; refine wpList_append_eq rfl _ _ 32 rfl _ _ _ (by rfl) (by rfl) (unhide H) ?_)
      go_end0
      exact ⟨rfl, _, hI3, hE3⟩
/-- Bytes: the length, the bytes. -/
theorem bytes_l (wb B : Nat) (v : Value) (l : List Nat) (a : Option Addr) (m c : Nat) (y : Nat → Nat) (w : World) (h : IsL w wb B v l) (hb : Byt w a m y) (ha : a = none → m = 0 ∧ c = 0) (hmax : l.length + 10 + m ≤ 140737488355328) (hne : ∀ b off, a = some ⟨b, off, none⟩ → b ≠ wb ∧ some b ≠ v.ownBlock) :
    Calls Tryz.prog 128 #[.pointer (some ⟨wb, 0, none⟩), .slice a m c] w fun e w' => e = .returned (.tuple #[]) ∧ ∃ v', IsL w' wb B v' (l ++ vl 9 m ++ (List.range m).map y) ∧ Ext wb v v' w w' := by
  go_enter Tryz.func128, Tryz.ntmps128
  go_wp2_with fail
  refine (var_l wb B v l m w h (by omega) (by omega)).mono ?_
  rintro e w1 ⟨rfl, v1, h1, hE1⟩
  have hb1 : Byt w1 a m y := fun j hj => by
    obtain ⟨b, off, e, hc⟩ := hb j hj
    have hn := hne b off e
    exact ⟨b, off, e, by rw [World.cell?_of_block (w := w) (hE1.block b (World.block_lt_of_cell? _ _ hc) hn.1 hn.2)]; exact hc⟩
  have hl := vl_len 9 m
  go_wp2_with fail
  refine (raw_l wb B v1 (l ++ vl 9 m) a m c y w1 h1 hb1 ha (by rw [List.length_append]; omega)).mono ?_
  rintro e w2 ⟨rfl, v2, h2, hE2⟩
  go_wp2_with fail
  go_end0
  exact ⟨rfl, v2, h2, hE1.trans hE2⟩

/-- A number in so many bytes, the highest first. -/
def fl (width N : Nat) : List Nat := (List.range width).map fun i => N / 256 ^ (width - 1 - i) % 256
/-- append in a region that draws, by its run. -/
theorem step_append_eq {P : Program} {w w' : World} {ops : Array Oper} {o : Oper} {a : Act} {K : Act → World → Prop} {Q : Exit → Act → World → Prop} {E : Prop} (hgd : o.guard = none) (s x : Operand) (t : TypeId)
    (ho : o.op = .call { callee := .builtin .append, args := #[s, x], argTypes := #[t, t] }) (v u v' : Value) (hs : a.eval s = v) (hx : a.eval x = u)
    (hrun : (Builtin.append_ #[t, t] o.type #[v, u]).run P w = .ok v' w') (h : K (a.put o.dst v') w') : if Region.wanted o (yielded ops a.tmps) = true then Oper.wp P o a w K Q else E := by
  have hw : Region.wanted o (yielded ops a.tmps) = true := by simp [Region.wanted, hgd]
  rw [if_pos hw]
  unfold Oper.wp
  simp [execOp, ho, resolve, invoke, builtin, hs, hx, hrun, Result.andThen]
  exact h

set_option maxHeartbeats 1600000 in
set_option maxRecDepth 100000 in
theorem fixed_l (wb B : Nat) (v : Value) (l : List Nat) (k N : Nat) (w : World) (h : IsL w wb B v l) (hk : k ≤ 2) (hw : Wid w) (hmax : l.length + 8 ≤ 140737488355328) :
    Calls Tryz.prog 83 #[.pointer (some ⟨wb, 0, none⟩), .int .i64 k, .int .u64 N] w fun e w' => e = .returned (.tuple #[]) ∧ ∃ v', IsL w' wb B v' (l ++ fl (widthOf k) N) ∧ Ext wb v v' w w' := by
  have hck := hw.at k hk
  have hw8 := widthOf_le k
  have kz : (k : Int) < 3 := by omega
  generalize widthOf k = width at *
  go_enter Tryz.func83, Tryz.ntmps83
  go_wp2_with fail
  go_loopg [12] width (fun q s12 wx => ∃ (i : Nat) (v1 : Value), i ≤ width ∧ q = width - i ∧ s12 = .int .i64 i ∧ IsL wx wb B v1 (l ++ (fl width N).take i) ∧ Ext wb v v1 w wx)
  case atStart => exact ⟨0, v, Nat.zero_le _, rfl, rfl, by simpa using h, Ext.refl _ _ _⟩
  case round =>
    obtain ⟨i, v1, hi, rfl, rfl, hI, hE⟩ := hrel
    have hfl : (fl width N).length = width := by simp [fl]
    by_cases hlt : i < width
    · have htk : (fl width N).take (i + 1) = (fl width N).take i ++ [N / 256 ^ (width - 1 - i) % 256] := by
        rw [List.take_succ_eq_append_getElem (by omega)]; simp [fl]
      obtain ⟨n1, hn1⟩ : ∃ n1, (l ++ (fl width N).take i).length = n1 := ⟨_, rfl⟩
      have hlen : n1 ≤ l.length + 8 := by rw [← hn1, List.length_append, List.length_take]; omega
      have hlen2 : n1 + 1 ≤ 140737488355328 := by rw [← hn1, List.length_append, List.length_take]; omega
      have hW : IsW wr wb B v1 n1 (fun j => (l ++ (fl width N).take i).getD j 0) := by rw [← hn1]; exact hI
      have hadd : ∀ (W : World) (v2 : Value) (c : Nat), IsW W wb B v2 (n1 + 1) (cat (fun j => (l ++ (fl width N).take i).getD j 0) n1 (fun _ => c)) → IsL W wb B v2 (l ++ ((fl width N).take i ++ [c])) := fun W v2 c hh => by
        rw [← List.append_assoc]
        subst hn1
        exact isL_add hh rfl (fun j hj => by
          have e : j = 0 := by omega
          subst e; rfl)
      obtain ⟨va, vc, rfl⟩ := own_form hW.own
      have c0 := hW.cell.cell (i := 0) (by decide)
      clear hI hn1
      obtain ⟨p, hp⟩ : ∃ p : Nat, p = width - 1 := ⟨_, rfl⟩
      obtain ⟨q, hq⟩ : ∃ q : Nat, q = width - 1 - i := ⟨_, rfl⟩
      obtain ⟨sh, hsh⟩ : ∃ sh : Nat, sh = 8 * q := ⟨_, rfl⟩
      obtain ⟨D, hD⟩ : ∃ D : Nat, D = N / 2 ^ sh := ⟨_, rfl⟩
      obtain ⟨C, hC⟩ : ∃ C : Nat, C = D % 256 := ⟨_, rfl⟩
      have u1 : IntKind.i64.wrap ((width : Int) - 1) = (p : Int) := by rw [IntKind.wrap_i64]; omega
      have u2 : IntKind.i64.wrap ((p : Int) - (i : Int)) = (q : Int) := by rw [IntKind.wrap_i64]; omega
      have u3 : IntKind.i64.wrap (8 * (q : Int)) = (sh : Int) := by rw [IntKind.wrap_i64]; omega
      have u4 : (N : Int) / 2 ^ min sh 64 = (D : Int) := by rw [Nat.min_eq_left (by omega), hD]; simp
      have u5 : IntKind.u8.wrap (D : Int) = (C : Int) := by rw [IntKind.wrap_u8']; omega
      have hCe : N / 256 ^ (width - 1 - i) % 256 = C := by
        rw [hC, hD, hsh, ← hq, Nat.pow_mul]
      rw [hCe] at htk
      have hClt : C < 256 := by omega
      clear hp hq hsh hD hC hCe
      have hs1 : wr.Since wr.heap.size (wr.alloc (.cells #[.int .u8 (C : Nat)] 5)).drew := ((World.Since.refl _ _).alloc (Nat.le_refl _) _).drew
      have hb1 : Byt (wr.alloc (.cells #[.int .u8 (C : Nat)] 5)).drew (some ⟨wr.heap.size, 0, none⟩) 1 (fun _ => C) := fun j hj => ⟨wr.heap.size, 0, rfl, by
        have e : j = 0 := by omega
        subst e
        show (wr.alloc _).cell? _ = _
        simp⟩
      have hwlt : wb < wr.heap.size := hW.cell.lt
      obtain ⟨v', w', hrun, hI2, hE2, hc2, hf2⟩ := write_step hW hs1 (some ⟨wr.heap.size, 0, none⟩) 1 1 _ hb1 (fun e => by cases e) (by omega)
      obtain ⟨va', vc', rfl⟩ := own_form hI2.own
      have hI3 := hadd _ _ _ hI2
      rw [← htk] at hI3
      have hE3 := hE.trans hE2
      have H := hide hrun
      have n0 := World.new_ne wr _ c0
      clear hrun hI2 hE2 hb1 hs1 hW hE hadd htk
      go_wp2_with fail
      go_region_law (refine step_append_eq (by rfl) (.tmp 19) (.tmp 28) 32 (by rfl) _ _ _ (by rfl) (by rfl) (unhide H) ?_)
      all_goals
        go_wp2_with fail
        go_roundg (width - (i + 1))
        case measure => go_light; omega
        case rel => go_light; exact ⟨i + 1, _, by omega, rfl, by simp, hI3, hE3⟩
    · obtain rfl : i = width := by omega
      have hfin : IsL wr wb B v1 (l ++ fl i N) := by rw [List.take_of_length_le (by omega)] at hI; exact hI
      clear hI
      go_wp2_with fail
      go_end0
      exact ⟨rfl, v1, hfin, hE⟩

theorem u8_l (wb B : Nat) (v : Value) (l : List Nat) (N : Nat) (w : World) (h : IsL w wb B v l) (hw : Wid w) (_hN : N < 256) (hmax : l.length + 8 ≤ 140737488355328) :
    Calls Tryz.prog 82 #[.pointer (some ⟨wb, 0, none⟩), .int .u8 N] w fun e w' => e = .returned (.tuple #[]) ∧ ∃ v', IsL w' wb B v' (l ++ fl 1 N) ∧ Ext wb v v' w w' := by
  have hf := fixed_l wb B v l 0 N w h (by decide) hw hmax
  go_enter Tryz.func82, Tryz.ntmps82
  go_wp2_with fail
  refine hf.mono ?_
  rintro e w1 ⟨rfl, v1, h1, hE1⟩
  go_wp2_with fail
  go_end0
  exact ⟨rfl, v1, h1, hE1⟩
theorem u32_l (wb B : Nat) (v : Value) (l : List Nat) (N : Nat) (w : World) (h : IsL w wb B v l) (hw : Wid w) (_hN : N < 4294967296) (hmax : l.length + 8 ≤ 140737488355328) :
    Calls Tryz.prog 37 #[.pointer (some ⟨wb, 0, none⟩), .int .u32 N] w fun e w' => e = .returned (.tuple #[]) ∧ ∃ v', IsL w' wb B v' (l ++ fl 4 N) ∧ Ext wb v v' w w' := by
  have hf := fixed_l wb B v l 1 N w h (by decide) hw hmax
  go_enter Tryz.func37, Tryz.ntmps37
  go_wp2_with fail
  refine hf.mono ?_
  rintro e w1 ⟨rfl, v1, h1, hE1⟩
  go_wp2_with fail
  go_end0
  exact ⟨rfl, v1, h1, hE1⟩
end Go.Proofs.YtonpmabdjngdcaaGreatDoor

/- The walks of tallylaw1's Into and Other. -/
namespace Go.Proofs.YtonpmabdjngdcaaGreatDoor
open Go.RowKit

/-- k bytes have been laid over the list. -/
structure Over (w wr : World) (g cap : Nat) (f : Nat → Value) (y : Nat → Nat) (k : Nat) : Prop where
  but : But g w wr
  row : wr.rowIs g 5 cap (fun j => if j < k then .int .u8 (y j : Nat) else f j)
theorem over_step {w wr : World} {g cap : Nat} {f : Nat → Value} {y : Nat → Nat} {k : Nat} (h : Over w wr g cap f y k) : Over w (wr.setCell ⟨g, k, none⟩ (.int .u8 (y k : Nat))) g cap f y (k + 1) :=
  ⟨h.but.setCell k _, (h.row.set k _).congr (fun j _ => by
    by_cases e : j = k
    · subst e; rw [if_pos rfl, if_pos (by omega)]
    · rw [if_neg e]
      by_cases h2 : j < k
      · rw [if_pos h2, if_pos (by omega)]
      · rw [if_neg h2, if_neg (by omega)])⟩

set_option maxHeartbeats 800000 in
/-- Into: the list holds these bytes now. -/
theorem into_any (g len cap : Nat) (f : Nat → Value) (a : Option Addr) (m c : Nat) (y : Nat → Nat) (w : World) (hrow : w.rowIs g 5 cap f) (hlc : len ≤ cap) (hmax : len ≤ 140737488351232) (hm : len ≤ m) (hb : Byt w a m y) (hne : ∀ b off, a = some ⟨b, off, none⟩ → b ≠ g) :
    Calls Tryz.prog 24 #[.slice (some ⟨g, 0, none⟩) len cap, .slice a m c] w fun e w' => e = .returned (.tuple #[]) ∧ Over w w' g cap f y len := by
  have hO0 : Over w w g cap f y 0 := ⟨But.of_since (World.Since.refl _ _), hrow.congr (fun j _ => by simp)⟩
  go_enter Tryz.func24, Tryz.ntmps24
  go_wp2
  go_loopg [4] len (fun q s4 wx => ∃ k : Nat, k ≤ len ∧ q = len - k ∧ s4 = .int .i64 k ∧ Over w wx g cap f y k)
  case atStart => exact ⟨0, Nat.zero_le _, rfl, rfl, hO0⟩
  case round =>
    obtain ⟨k, hk, rfl, rfl, hO⟩ := hrel
    clear hO0
    by_cases hlt : k < len
    · obtain ⟨b, off, rfl, hc⟩ := hb k (by omega)
      have hbg := hne b off rfl
      have hblt : b < w.heap.size := World.block_lt_of_cell? _ _ hc
      have t0 : wr.cell? ⟨b, off + k, none⟩ = some (.int .u8 (y k : Nat)) := by rw [World.cell?_of_block (w := w) (hO.but.block b hblt hbg)]; exact hc
      have t1 : wr.cell? ⟨g, k, none⟩ = some (f k) := by rw [hO.row.cell (by omega), if_neg (by omega)]
      have t2 := hO.row.frozen k
      have hst := over_step hO
      have kz : (k : Int) < (len : Int) := by omega
      have kz2 : (k : Int) < (m : Int) := by omega
      clear hc hO
      go_wp2_with fail
      go_roundg (len - (k + 1))
      case measure => go_light; omega
      case rel => go_light; exact ⟨k + 1, by omega, rfl, by simp, hst⟩
    · obtain rfl : k = len := by omega
      go_wp2_with fail
      go_end0
      exact ⟨rfl, hO⟩

theorem own_of_row {w : World} {B g n cap : Nat} {f : Nat → Value} {y : Nat → Nat} (h : w.rowIs g 5 cap f) (hB : B ≤ g) (hn : n ≤ cap) (hm : cap ≤ maxLen) (hf : ∀ j, j < n → f j = .int .u8 (y j : Nat)) : Own w B (.slice (some ⟨g, 0, none⟩) n cap) n y := by
  obtain ⟨c, hh, hs, hc⟩ := h
  refine ⟨by rw [length_cellsOf, Nat.mul_one], Or.inr ⟨g, cap, c, rfl, hB, hh, hn, hm, by rw [hs, Nat.mul_one], ?_⟩⟩
  rw [Nat.mul_one]
  apply List.ext_getElem?
  intro j
  rcases Nat.lt_or_ge j n with hj | hj
  · rw [List.getElem?_take_of_lt hj, get_cellsOf hj, Array.getElem?_toList, hc j (by omega), hf j hj]
  · rw [List.getElem?_eq_none (by rw [List.length_take]; omega), List.getElem?_eq_none (by rw [length_cellsOf]; exact hj)]
theorem byt_one (w : World) (c : Nat) : Byt (w.alloc (.cells #[.int .u8 (c : Nat)] 5)) (some ⟨w.heap.size, 0, none⟩) 1 (fun _ => c) := fun j hj => by
  obtain rfl : j = 0 := by omega
  exact ⟨w.heap.size, 0, rfl, by simp⟩

/-- THE LOOP OF Other: so many bytes are gathered. -/
structure Gath (w wr : World) (v : Value) (n : Nat) (y : Nat → Nat) : Prop where
  since : w.Since w.heap.size wr
  own : Own wr w.heap.size v n y

set_option maxHeartbeats 1600000 in
set_option maxRecDepth 100000 in
/-- Other: other bytes, as many, in new memory. -/
theorem other_any (a : Option Addr) (len cap : Nat) (x : Nat → Nat) (w : World) (hmax : len ≤ 140737488351232) (hb : Byt w a len x) (hr : ∀ j, x j < 256) (ha : a = none → len = 0) :
    Calls Tryz.prog 23 #[.slice a len cap] w fun e w' => ∃ v y, e = .returned v ∧ w.Since w.heap.size w' ∧ Own w' w.heap.size v len y ∧ ∀ j, y j < 256 := by
  have hG0 : Gath w w (.slice none 0 0) 0 (fun j => x (len - 1 - j)) := ⟨World.Since.refl _ _, own_nil _ _ _⟩
  go_enter Tryz.func23, Tryz.ntmps23
  go_wp2_with fail
  go_loopg [3, 4] len (fun q s3 s4 wx => q ≤ len ∧ s4 = .int .i64 ((q : Int) - 1) ∧ ∃ v, v = s3 ∧ Gath w wx v (len - q) (fun j => x (len - 1 - j)))
  case atStart => exact ⟨Nat.le_refl _, rfl, _, rfl, by rw [Nat.sub_self]; exact hG0⟩
  case round =>
    obtain ⟨hk, rfl, v, rfl, hG⟩ := hrel
    clear hG0
    cases gk with
    | succ q =>
      rw [show (((q + 1 : Nat) : Int) - 1) = (q : Int) by omega]
      obtain ⟨b, off, rfl, hc⟩ := hb q (by omega)
      have t0 : wr.cell? ⟨b, off + q, none⟩ = some (.int .u8 (x q : Nat)) := by rw [hG.since.cell (a := ⟨b, off + q, none⟩) (World.block_lt_of_cell? _ _ hc)]; exact hc
      have hz := hG.since.size
      have hown1 : Own (wr.alloc (.cells #[.int .u8 (x q : Nat)] 5)) w.heap.size v (len - (q + 1)) (fun j => x (len - 1 - j)) := hG.own.alloc _
      have hb1 := byt_one wr (x q)
      obtain ⟨v2, w2, hr2, ho2, hg2⟩ := app_own _ w.heap.size v _ _ hown1 (some ⟨wr.heap.size, 0, none⟩) 1 1 _ hb1 (fun h => by cases h) (by omega) (by simp; omega)
      have hs2 := grown_since (hG.since.alloc hz (.cells #[.int .u8 (x q : Nat)] 5)) hg2 (by simp; omega) (own_block hown1)
      have hG2 : Gath w w2 v2 (len - q) (fun j => x (len - 1 - j)) := ⟨hs2, by
        rw [show len - (q + 1) + 1 = len - q by omega] at ho2
        have e : cellsOf (len - q) (cat (fun j => x (len - 1 - j)) (len - (q + 1)) (fun _ => x q)) = cellsOf (len - q) (fun j => x (len - 1 - j)) := by
          unfold cellsOf
          apply List.map_congr_left
          intro j hj
          have hj' := List.mem_range.1 hj
          unfold cat
          by_cases h1 : j < len - (q + 1)
          · rw [if_pos h1]
          · rw [if_neg h1]
            show Value.int .u8 ((x q : Nat) : Int) = .int .u8 ((x (len - 1 - j) : Nat) : Int)
            rw [show len - 1 - j = q by omega]
        show w2.ownsRow _ 5 1 v2 (len - q) _
        rw [← e]; exact ho2⟩
      have H2 := hide hr2
      have kz : (q : Int) < (len : Int) := by omega
      clear hr2 ho2 hg2 hown1 hb1 hG hc hs2
      go_wp2_with (at_builtin; refine wpList_append_eq rfl _ _ 32 rfl _ _ _ (by rfl) (by rfl) (unhide H2) ?_)
      go_roundg q
      case measure => go_light; omega
      case rel => go_light; exact ⟨by omega, rfl, v2, rfl, hG2⟩
    | zero =>
      rw [Nat.sub_zero] at hG
      rw [show (((0 : Nat) : Int) - 1) = -1 by decide]
      have hyl : ∀ j, x (len - 1 - j) < 256 := fun j => hr _
      rcases Nat.eq_zero_or_pos len with rfl | hp
      · have hfin : ∃ y, Own wr w.heap.size v 0 y ∧ ∀ j, y j < 256 := ⟨_, hG.own, hyl⟩
        have hs := hG.since
        clear hG
        go_wp2_with fail
        go_ret
        obtain ⟨y, h1, h2⟩ := hfin
        exact ⟨v, rfl, hs, y, h1, h2⟩
      · obtain ⟨g, cap', f, rfl, hg, hc', hrow, hf⟩ := own_row hG.own hp
        have hby : Byt wr (some ⟨g, 0, none⟩) len (fun j => x (len - 1 - j)) := fun j hj => ⟨g, 0, rfl, by rw [Nat.zero_add, hrow.cell (by omega), hf j hj]⟩
        have s1 := str_byt (some ⟨g, 0, none⟩) len cap' _ wr hby (fun e => by cases e)
        have s2 := str_byt a len cap x wr (hb.since hG.since) ha
        have hs := hG.since
        have hown := hG.own
        have hpz : (0 : Int) < (len : Int) := by omega
        generalize strOf len (fun j => x (len - 1 - j)) = S1 at *
        generalize strOf len x = S2 at *
        clear hG hby
        have hcm : cap' ≤ maxLen := by
          rcases hown.2 with ⟨h, _⟩ | ⟨g', c', cur, h, _, _, _, hm, _⟩
          · cases h
          · cases h; exact hm
        by_cases hS : (S1.toList == S2.toList) = true
        · have k0 : wr.cell? ⟨g, len - 1, none⟩ = some (.int .u8 (x 0 : Nat)) := by rw [hrow.cell (by omega), hf _ (by omega), show len - 1 - (len - 1) = 0 by omega]
          have k1 := hrow.frozen (len - 1)
          have hxr : bits .xor .u8 ((x 0 : Nat) : Int) 1 = ((x 0 ^^^ 1 : Nat) : Int) := u8_xor_nat (x 0) 1 (hr 0) (by decide)
          have hx0 : x 0 ^^^ 1 < 256 := Nat.xor_lt_two_pow (n := 8) (hr 0) (by decide)
          generalize x 0 ^^^ 1 = X at *
          have hown2 : Own (wr.setCell ⟨g, len - 1, none⟩ (.int .u8 (X : Nat))) w.heap.size (.slice (some ⟨g, 0, none⟩) len cap') len (fun j => if j = len - 1 then X else x (len - 1 - j)) :=
            own_of_row (hrow.set (len - 1) _) hg hc' hcm (fun j hj => by
              by_cases e : j = len - 1
              · rw [if_pos e, if_pos e]
              · rw [if_neg e, if_neg e]; exact hf j hj)
          have hs2 := hs.setCell (a := ⟨g, len - 1, none⟩) hg (.int .u8 (X : Nat))
          have hy2 : ∀ j, (if j = len - 1 then X else x (len - 1 - j)) < 256 := fun j => by
            split
            · exact hx0
            · exact hr _
          clear hown hrow hf
          go_wp2_with fail
          go_ret
          exact ⟨_, _, rfl, hs2, hown2, hy2⟩
        · have hS' : (S1.toList == S2.toList) = false := by simpa using hS
          clear hS
          go_wp2_with fail
          go_ret
          exact ⟨_, _, rfl, hs, hown, hyl⟩
end Go.Proofs.YtonpmabdjngdcaaGreatDoor

/- The walks of the reference's writes: fixed, U8, U32, U64, Var, Text, and of Cmp and Eq. -/
namespace Go.Proofs.YtonpmabdjngdcaaGreatDoor
open Go.RowKit

/-- A slice of the call's own that holds this list of bytes. -/
def OwnL (w : World) (B : Nat) (v : Value) (l : List Nat) : Prop := Own w B v l.length (fun j => l.getD j 0)
theorem own_since {w w' : World} {B : Nat} {v : Value} {n : Nat} {x : Nat → Nat} (h : Own w B v n x) (hx : w.Since w.heap.size w') : Own w' B v n x := by
  refine ⟨h.1, ?_⟩
  rcases h.2 with h1 | ⟨g, cap, cur, e, hb, hh, r⟩
  · exact Or.inl h1
  · exact Or.inr ⟨g, cap, cur, e, hb, by rw [hx.block g (by
      rcases Nat.lt_or_ge g w.heap.size with h | h
      · exact h
      · rw [Array.getElem?_eq_none h] at hh; cases hh)]; exact hh, r⟩
theorem own_lower {w : World} {B B' : Nat} {v : Value} {n : Nat} {x : Nat → Nat} (h : Own w B v n x) (hB : B' ≤ B) : Own w B' v n x := by
  refine ⟨h.1, ?_⟩
  rcases h.2 with h1 | ⟨g, cap, cur, e, hb, r⟩
  · exact Or.inl h1
  · exact Or.inr ⟨g, cap, cur, e, Nat.le_trans hB hb, r⟩
theorem own_byt {w : World} {B : Nat} {v : Value} {n : Nat} {x : Nat → Nat} (h : Own w B v n x) : ∃ a c, v = .slice a n c ∧ Byt w a n x ∧ (a = none → n = 0 ∧ c = 0) := by
  rcases Nat.eq_zero_or_pos n with rfl | hp
  · rcases h.2 with ⟨rfl, _⟩ | ⟨g, cap, cur, rfl, _⟩
    · exact ⟨none, 0, rfl, fun j hj => by omega, fun _ => ⟨rfl, rfl⟩⟩
    · exact ⟨_, cap, rfl, fun j hj => by omega, fun e => by cases e⟩
  · obtain ⟨g, cap, f, rfl, _, hc, hrow, hf⟩ := own_row h hp
    exact ⟨_, cap, rfl, fun j hj => ⟨g, 0, rfl, by rw [Nat.zero_add, hrow.cell (by omega), hf j hj]⟩, fun e => by cases e⟩
theorem ownL_add {w : World} {B : Nat} {v : Value} {l r : List Nat} {n : Nat} {y : Nat → Nat} (h : Own w B v (l.length + n) (cat (fun j => l.getD j 0) l.length y)) (hr : r.length = n) (e : ∀ j, j < n → y j = r.getD j 0) : OwnL w B v (l ++ r) := by
  subst hr
  show Own w B v (l ++ r).length _
  rw [List.length_append]
  refine own_congr h (fun j hj => ?_)
  unfold cat
  by_cases h1 : j < l.length
  · rw [if_pos h1]
    show l.getD j 0 = (l ++ r).getD j 0
    rw [List.getD_eq_getElem?_getD, List.getD_eq_getElem?_getD, List.getElem?_append_left h1]
  · rw [if_neg h1, e _ (by omega), List.getD_eq_getElem?_getD, List.getD_eq_getElem?_getD, List.getElem?_append_right (by omega)]
/-- append of bytes onto such a slice. -/
theorem app_l {w : World} {B : Nat} {v : Value} {l : List Nat} (h : OwnL w B v l) (a : Option Addr) (m c : Nat) (y : Nat → Nat) (hb : Byt w a m y) (ha : a = none → m = 0 ∧ c = 0) (hmax : l.length + m ≤ 140737488355328) (hB : B ≤ w.heap.size) :
    ∃ v' w', (Builtin.append_ #[32, 32] 32 #[v, .slice a m c]).run Tryz.prog w = .ok v' w' ∧ OwnL w' B v' (l ++ (List.range m).map y) ∧ w.grownBy w' v.ownBlock ∧ (v'.ownBlock = v.ownBlock ∨ v'.ownBlock = some w.heap.size) := by
  obtain ⟨v', w', hr, ho, hg, hl⟩ := app_at w B v _ _ h a m c y hb ha hmax hB
  exact ⟨v', w', hr, ownL_add ho (by simp) (fun j hj => (getD_range_map y m j hj).symm), hg, hl⟩
theorem range_getD (l : List Nat) : (List.range l.length).map (fun j => l.getD j 0) = l := by
  apply List.ext_getElem?
  intro j
  by_cases h : j < l.length
  · simp [h]
  · simp [h]
theorem app_ll {w : World} {B B2 : Nat} {v v2 : Value} {l r : List Nat} (h : OwnL w B v l) (h2 : OwnL w B2 v2 r) (hmax : l.length + r.length ≤ 140737488355328) (hB : B ≤ w.heap.size) :
    ∃ v' w', (Builtin.append_ #[32, 32] 32 #[v, v2]).run Tryz.prog w = .ok v' w' ∧ OwnL w' B v' (l ++ r) ∧ w.grownBy w' v.ownBlock ∧ (v'.ownBlock = v.ownBlock ∨ v'.ownBlock = some w.heap.size) := by
  obtain ⟨a, c, rfl, hb, ha⟩ := own_byt h2
  have := app_l h a _ c _ hb ha hmax hB
  rwa [range_getD] at this
theorem row_one (w : World) (c : Nat) : (w.alloc (.cells #[.int .u8 (c : Nat)] 5)).rowIs w.heap.size 5 1 (fun _ => .int .u8 (c : Nat)) :=
  ⟨#[.int .u8 (c : Nat)], by show (w.heap.push _)[w.heap.size]? = _; simp, rfl, fun i hi => by
    have e : i = 0 := by omega
    subst e; rfl⟩
theorem own_one (w : World) (c : Nat) : OwnL (w.alloc (.cells #[.int .u8 (c : Nat)] 5)) w.heap.size (.slice (some ⟨w.heap.size, 0, none⟩) 1 1) [c] :=
  own_of_row (row_one w c) (Nat.le_refl _) (Nat.le_refl _) (by unfold maxLen; omega) (fun j hj => by
    have e : j = 0 := by simp at hj; omega
    subst e; rfl)

/-- THE LOOP OF THE REFERENCE'S fixed: the bytes from q on are laid. -/
structure Fill (w wr : World) (W N q : Nat) : Prop where
  since : w.Since w.heap.size wr
  row : wr.rowIs w.heap.size 5 W (fun j => if q ≤ j then .int .u8 (N / 256 ^ (W - 1 - j) % 256 : Nat) else .int .u8 0)
theorem fill_step {w wr : World} {W N q : Nat} (h : Fill w wr W N (q + 1)) (C : Nat) (hC : C = N / 256 ^ (W - 1 - q) % 256) : Fill w (wr.setCell ⟨w.heap.size, q, none⟩ (.int .u8 (C : Nat))) W N q :=
  ⟨h.since.setCell (a := ⟨w.heap.size, q, none⟩) (Nat.le_refl _) _, (h.row.set q _).congr (fun j _ => by
    by_cases e : j = q
    · subst e; rw [if_pos rfl, if_pos (Nat.le_refl _), hC]
    · rw [if_neg e]
      by_cases h2 : q + 1 ≤ j
      · rw [if_pos h2, if_pos (by omega)]
      · rw [if_neg h2, if_neg (by omega)])⟩

set_option maxHeartbeats 800000 in
theorem reffixed (N W : Nat) (w : World) (hN : N < 18446744073709551616) (hW : W ≤ 8) :
    Calls Tryz.prog 108 #[.int .u64 N, .int .i64 W] w fun e w' => ∃ v, e = .returned v ∧ w.Since w.heap.size w' ∧ OwnL w' w.heap.size v (fl W N) := by
  have hmk := run_make_row' (P := Tryz.prog) 32 5 (.int .u8 0) 1 Tryz.underlying32 Tryz.info5 rfl .i64 .i64 W (by omega) (by omega) w
  have hF0 : Fill w (w.alloc (.cells (madeCells #[.int .u8 0] W) 5)) W N W := ⟨(World.Since.refl _ _).alloc (Nat.le_refl _) _, (World.rowIs_made w (.int .u8 0) W 5).congr (fun j hj => by rw [if_neg (by omega)])⟩
  generalize w.alloc (.cells (madeCells #[.int .u8 0] W) 5) = W0 at *
  go_enter Tryz.func108, Tryz.ntmps108
  go_wp2_with fail
  go_loopg [0, 6] W (fun q s0 s6 wx => q ≤ W ∧ s6 = .int .i64 ((q : Int) - 1) ∧ ∃ D : Nat, s0 = .int .u64 D ∧ D < 18446744073709551616 ∧ D = N / 256 ^ (W - q) ∧ Fill w wx W N q)
  case atStart => exact ⟨Nat.le_refl _, by go_num, N, rfl, hN, by simp, hF0⟩
  case round =>
    obtain ⟨hq, rfl, D, rfl, hD, hDe, hF⟩ := hrel
    clear hF0 hmk
    cases gk with
    | succ q =>
      rw [show (((q + 1 : Nat) : Int) - 1) = (q : Int) by omega]
      obtain ⟨C, hC⟩ : ∃ C : Nat, C = D % 256 := ⟨_, rfl⟩
      obtain ⟨E, hE⟩ : ∃ E : Nat, E = D / 256 := ⟨_, rfl⟩
      have hst := fill_step hF C (by rw [hC, hDe, show W - (q + 1) = W - 1 - q by omega])
      have hE2 : E = N / 256 ^ (W - q) := by
        rw [hE, hDe, show W - q = W - (q + 1) + 1 by omega, Nat.pow_succ, Nat.div_div_eq_div_mul]
      have u1 : (D : Int) % 256 = (C : Int) := by omega
      have u2 : (D : Int) / 256 = (E : Int) := by omega
      have hClt : C < 256 := by omega
      have hElt : E < 18446744073709551616 := by omega
      have t1 : wr.cell? ⟨w.heap.size, q, none⟩ = some (.int .u8 0) := by rw [hF.row.cell (by omega), if_neg (by omega)]
      have t2 := hF.row.frozen q
      have kz : (q : Int) < (W : Int) := by omega
      have HE := hide hE2
      clear hC hE hE2 hDe hF
      go_wp2_with fail
      go_roundg q
      case measure => go_light; omega
      case rel => go_light; exact ⟨by omega, by go_num, E, rfl, hElt, unhide HE, hst⟩
    | zero =>
      rw [show (((0 : Nat) : Int) - 1) = -1 by decide]
      have hlen : (fl W N).length = W := by simp [fl]
      have hfin : OwnL wr w.heap.size (.slice (some ⟨w.heap.size, 0, none⟩) W W) (fl W N) := by
        show Own _ _ _ (fl W N).length _
        rw [hlen]
        exact own_of_row hF.row (Nat.le_refl _) (Nat.le_refl _) (by unfold maxLen; omega) (fun j hj => by
          rw [if_pos (Nat.zero_le _)]; unfold fl; rw [getD_range_map _ _ _ hj])
      have hs := hF.since
      clear hF hDe
      go_wp2_with fail
      go_ret
      exact ⟨_, rfl, hs, hfin⟩
theorem refu32 (N : Nat) (w : World) (hN : N < 4294967296) : Calls Tryz.prog 51 #[.int .u32 N] w fun e w' => ∃ v, e = .returned v ∧ w.Since w.heap.size w' ∧ OwnL w' w.heap.size v (fl 4 N) := by
  have hf := reffixed N 4 w (by omega) (by decide)
  go_enter Tryz.func51, Tryz.ntmps51
  go_wp2_with fail
  refine hf.mono ?_
  rintro e w1 ⟨v, rfl, h1, h2⟩
  go_wp2_with fail
  go_ret
  exact ⟨_, rfl, h1, h2⟩
set_option maxHeartbeats 800000 in
set_option maxRecDepth 100000 in
theorem refvar : ∀ (f N : Nat) (w : World), N < 128 ^ (f + 1) → N < 18446744073709551616 → f ≤ 9 → Calls Tryz.prog 111 #[.int .u64 N] w fun e w' => ∃ v, e = .returned v ∧ w.Since w.heap.size w' ∧ OwnL w' w.heap.size v (vl f N) := by
  intro f
  induction f with
  | zero =>
    intro N w h1 h2 _
    have hlt : N < 128 := by simpa using h1
    have hs : w.Since w.heap.size (w.alloc (.cells #[.int .u8 (N : Nat)] 5)) := (World.Since.refl _ _).alloc (Nat.le_refl _) _
    have ho : OwnL (w.alloc (.cells #[.int .u8 (N : Nat)] 5)) w.heap.size (.slice (some ⟨w.heap.size, 0, none⟩) 1 1) (vl 0 N) := by
      have := own_one w N
      rw [show vl 0 N = [N] by rw [vl, Nat.mod_eq_of_lt (by omega)]]; exact this
    clear h1
    go_enter Tryz.func111, Tryz.ntmps111
    go_wp2_with fail
    go_ret
    exact ⟨_, rfl, hs, ho⟩
  | succ f ih =>
    intro N w h1 h2 h9
    by_cases hlt : N < 128
    · have hs : w.Since w.heap.size (w.alloc (.cells #[.int .u8 (N : Nat)] 5)) := (World.Since.refl _ _).alloc (Nat.le_refl _) _
      have ho : OwnL (w.alloc (.cells #[.int .u8 (N : Nat)] 5)) w.heap.size (.slice (some ⟨w.heap.size, 0, none⟩) 1 1) (vl (f + 1) N) := by
        have := own_one w N
        rw [show vl (f + 1) N = [N] by rw [vl, if_pos hlt]]; exact this
      clear h1 ih
      go_enter Tryz.func111, Tryz.ntmps111
      go_wp2_with fail
      go_ret
      exact ⟨_, rfl, hs, ho⟩
    · obtain ⟨C, hC⟩ : ∃ C : Nat, C = N % 128 + 128 := ⟨_, rfl⟩
      obtain ⟨E, hE⟩ : ∃ E : Nat, E = N / 128 := ⟨_, rfl⟩
      have hv : vl (f + 1) N = [C] ++ vl f E := by rw [vl, if_neg hlt, hC, hE]; rfl
      have hE1 : E < 128 ^ (f + 1) := by rw [hE]; rw [Nat.pow_succ] at h1; omega
      have hlen := vl_len f E
      have u1 : (128 : Int) + (N : Int) % 128 = (C : Int) := by omega
      have u2 : (N : Int) / 128 = (E : Int) := by omega
      have hClt : C < 256 := by omega
      have hElt : E < 18446744073709551616 := by omega
      have hs : w.Since w.heap.size (w.alloc (.cells #[.int .u8 (C : Nat)] 5)) := (World.Since.refl _ _).alloc (Nat.le_refl _) _
      have ho := own_one w C
      have hrec := ih E (w.alloc (.cells #[.int .u8 (C : Nat)] 5)) hE1 hElt (by omega)
      have HV := hide hv
      clear hC hE hE1 h1 ih hv
      go_enter Tryz.func111, Tryz.ntmps111
      go_wp2_with fail
      refine hrec.mono ?_
      rintro e w1 ⟨v1, rfl, hs1, ho1⟩
      obtain ⟨v2, w2, hr2, ho2, hg2, _⟩ := app_ll (own_since ho hs1 : OwnL w1 _ _ _) ho1 (by simp; omega) (by have := hs1.size; have := hs.size; omega)
      have hs2 := grown_since (hs.trans (since_mono hs1 hs.size)) hg2 (by have := hs1.size; have := hs.size; omega) (own_block ho)
      have H2 := hide hr2
      rw [← unhide HV] at ho2
      clear hr2 hg2 ho ho1 hs hs1
      go_wp2_with (at_builtin; refine wpList_append_eq rfl _ _ 32 rfl _ _ _ (by rfl) (by rfl) (unhide H2) ?_)
      go_ret
      exact ⟨_, rfl, hs2, ho2⟩
end Go.Proofs.YtonpmabdjngdcaaGreatDoor

/- The walks of the reference's Text, of Cmp, Eq and into. -/
namespace Go.Proofs.YtonpmabdjngdcaaGreatDoor
open Go.RowKit

set_option maxHeartbeats 800000 in
set_option maxRecDepth 100000 in
theorem reftext (a : Option Addr) (m c : Nat) (y : Nat → Nat) (w : World) (hb : Byt w a m y) (ha : a = none → m = 0 ∧ c = 0) (hmax : m + 10 ≤ 140737488355328) :
    Calls Tryz.prog 112 #[.slice a m c] w fun e w' => ∃ v, e = .returned v ∧ w.Since w.heap.size w' ∧ OwnL w' w.heap.size v (vl 9 m ++ (List.range m).map y) := by
  have hv := refvar 9 m w (Nat.lt_of_lt_of_le (show m < 2 ^ 64 by omega) (by decide)) (by omega) (Nat.le_refl _)
  have hlen := vl_len 9 m
  go_enter Tryz.func112, Tryz.ntmps112
  go_wp2_with fail
  refine hv.mono ?_
  rintro e w1 ⟨v1, rfl, hs1, ho1⟩
  obtain ⟨v2, w2, hr2, ho2, hg2, _⟩ := app_l ho1 a m c y (hb.since hs1) ha (by omega) hs1.size
  have hs2 := grown_since hs1 hg2 hs1.size (own_block ho1)
  have H2 := hide hr2
  clear hr2 hg2 ho1 hs1 hv
  go_wp2_with (at_builtin; refine wpList_append_eq rfl _ _ 32 rfl _ _ _ (by rfl) (by rfl) (unhide H2) ?_)
  go_ret
  exact ⟨_, rfl, hs2, ho2⟩

set_option maxHeartbeats 800000 in
theorem cmp_same (a b : Option Addr) (n c d : Nat) (x : Nat → Nat) (w : World) (ha : Byt w a n x) (hb : Byt w b n x) (hmax : n ≤ 140737488355328) :
    Calls Tryz.prog 43 #[.slice a n c, .slice b n d] w fun e w' => e = .returned (.int .i64 0) ∧ ∃ m, w' = w.drewN m := by
  go_enter Tryz.func43, Tryz.ntmps43
  go_wp2_with fail
  go_loopg [5] n (fun q s5 wx => ∃ (i m : Nat), i ≤ n ∧ q = n - i ∧ s5 = .int .i64 i ∧ wx = w.drewN m)
  case atStart => exact ⟨0, 0, Nat.zero_le _, rfl, rfl, rfl⟩
  case round =>
    obtain ⟨i, m, hi, rfl, rfl, rfl⟩ := hrel
    by_cases hlt : i < n
    · obtain ⟨b1, o1, rfl, hc1⟩ := ha i hlt
      obtain ⟨b2, o2, rfl, hc2⟩ := hb i hlt
      have hc1' : (w.drewN m).cell? ⟨b1, o1 + i, none⟩ = some (.int .u8 (x i : Nat)) := hc1
      have hc2' : (w.drewN m).cell? ⟨b2, o2 + i, none⟩ = some (.int .u8 (x i : Nat)) := hc2
      have hz : (i : Int) < (n : Int) := by omega
      have HD : Hid (∀ n, (w.drewN m).drewN n = w.drewN (m + n)) := fun n => World.drewN_drewN _ _ _
      generalize w.drewN m = wd at *
      clear hc1 hc2 ha hb
      go_wp2_with fail
      go_quiet (fail)
      go_wp2_with fail
      go_quiet (fail)
      go_wp2_with fail
      go_roundg (n - (i + 1))
      case measure => go_light; omega
      case rel => go_light; exact ⟨i + 1, _, by omega, rfl, by simp, (unhide HD) _⟩
    · obtain rfl : i = n := by omega
      clear ha hb
      go_wp2_with fail
      go_ret
      exact ⟨rfl, m, rfl⟩
theorem eq_same (a b : Option Addr) (n c d : Nat) (x : Nat → Nat) (w : World) (ha : Byt w a n x) (hb : Byt w b n x) (hmax : n ≤ 140737488355328) :
    Calls Tryz.prog 13 #[.slice a n c, .slice b n d] w fun e w' => e = .returned (.bool true) ∧ ∃ m, w' = w.drewN m := by
  have hc := cmp_same a b n c d x w ha hb hmax
  go_enter Tryz.func13, Tryz.ntmps13
  go_wp2_with fail
  refine hc.mono ?_
  rintro e w1 ⟨rfl, m, rfl⟩
  go_wp2_with fail
  go_ret
  exact ⟨rfl, m, rfl⟩
end Go.Proofs.YtonpmabdjngdcaaGreatDoor

/- A Writer beside the list that holds what the document says: what of memory is theirs, and what a step leaves. -/
namespace Go.Proofs.YtonpmabdjngdcaaGreatDoor
open Go.RowKit
set_option maxRecDepth 100000

theorem own_keep {w w' : World} {B : Nat} {v : Value} {n : Nat} {x : Nat → Nat} (h : Own w B v n x) (hk : ∀ k, v.ownBlock = some k → w'.heap[k]? = w.heap[k]?) : Own w' B v n x := by
  refine ⟨h.1, ?_⟩
  rcases h.2 with h1 | ⟨g, cap, cur, e, hb, hh, r⟩
  · exact Or.inl h1
  · exact Or.inr ⟨g, cap, cur, e, hb, by rw [hk g (by rw [e]; rfl)]; exact hh, r⟩
theorem own_lt {w : World} {B : Nat} {v : Value} {n : Nat} {x : Nat → Nat} (h : Own w B v n x) : ∀ k, v.ownBlock = some k → k < w.heap.size := fun k hk => by
  rcases h.2 with ⟨rfl, _⟩ | ⟨g, cap, cur, rfl, hb, hh, _⟩
  · simp [Value.ownBlock] at hk
  · obtain rfl : g = k := by simpa [Value.ownBlock] using hk
    rcases Nat.lt_or_ge g w.heap.size with h | h
    · exact h
    · rw [Array.getElem?_eq_none h] at hh; cases hh

def Foot (wb : Nat) (v hv : Value) (k : Nat) : Prop := k = wb ∨ v.ownBlock = some k ∨ hv.ownBlock = some k
/-- The Writer holds lw, the list beside it lh. -/
structure Pair (w : World) (wb B : Nat) (v hv : Value) (lw lh : List Nat) : Prop where
  isl : IsL w wb B v lw
  own : OwnL w B hv lh
  ne1 : hv.ownBlock ≠ some wb
  ne2 : ∀ k, v.ownBlock = some k → hv.ownBlock ≠ some k
  low : B ≤ wb
structure Move (wb : Nat) (v hv v' hv' : Value) (w w' : World) : Prop where
  os : w'.os = w.os
  tape : w'.tape = w.tape
  output : w'.output = w.output
  size : w.heap.size ≤ w'.heap.size
  block : ∀ k, k < w.heap.size → ¬ Foot wb v hv k → w'.heap[k]? = w.heap[k]?
  foot : ∀ k, Foot wb v' hv' k → Foot wb v hv k ∨ w.heap.size ≤ k
theorem Pair.lt {w : World} {wb B : Nat} {v hv : Value} {lw lh : List Nat} (h : Pair w wb B v hv lw lh) : ∀ k, Foot wb v hv k → k < w.heap.size := fun k hk => by
  rcases hk with rfl | e | e
  · exact h.isl.cell.lt
  · exact own_lt h.isl.own k e
  · exact own_lt h.own k e
theorem Pair.ge {w : World} {wb B : Nat} {v hv : Value} {lw lh : List Nat} (h : Pair w wb B v hv lw lh) : ∀ k, Foot wb v hv k → B ≤ k := fun k hk => by
  rcases hk with rfl | e | e
  · exact h.low
  · exact own_block h.isl.own k e
  · exact own_block h.own k e
theorem Pair.keep {w w' : World} {wb B : Nat} {v hv : Value} {lw lh : List Nat} (h : Pair w wb B v hv lw lh) (hz : w.heap.size ≤ w'.heap.size) (hk : ∀ k, Foot wb v hv k → w'.heap[k]? = w.heap[k]?) : Pair w' wb B v hv lw lh :=
  ⟨⟨h.isl.cell.of_block (hk wb (Or.inl rfl)), own_keep h.isl.own (fun k e => hk k (Or.inr (Or.inl e))), h.isl.ne, Nat.le_trans h.isl.lo hz⟩, own_keep h.own (fun k e => hk k (Or.inr (Or.inr e))), h.ne1, h.ne2, h.low⟩
theorem Pair.since {w w' : World} {wb B : Nat} {v hv : Value} {lw lh : List Nat} (h : Pair w wb B v hv lw lh) (hs : w.Since w.heap.size w') : Pair w' wb B v hv lw lh ∧ Move wb v hv v hv w w' :=
  ⟨h.keep hs.size (fun k hk => hs.block k (h.lt k hk)), hs.os, hs.tape, hs.output, hs.size, fun k hk _ => hs.block k hk, fun _ hk => Or.inl hk⟩
theorem Pair.wrote {w w' : World} {wb B : Nat} {v v' hv : Value} {lw lh l' : List Nat} (h : Pair w wb B v hv lw lh) (hI : IsL w' wb B v' l') (hE : Ext wb v v' w w') : Pair w' wb B v' hv l' lh ∧ Move wb v hv v' hv w w' := by
  have hlt := own_lt h.own
  refine ⟨⟨hI, own_keep h.own (fun k e => hE.block k (hlt k e) (fun e2 => h.ne1 (by rw [e, e2])) (fun e2 => h.ne2 k e2.symm e)), h.ne1, fun k e e2 => ?_, h.low⟩, hE.os, hE.tape, hE.output, hE.size, fun k hk hn => hE.block k hk (fun e => hn (Or.inl e)) (fun e => hn (Or.inr (Or.inl e.symm))), fun k hk => ?_⟩
  · rcases hE.lies with e3 | ⟨g, e3, hg⟩
    · rw [e3] at e; exact h.ne2 k e e2
    · rw [e3] at e; cases e; have := hlt _ e2; omega
  · rcases hk with e | e | e
    · exact Or.inl (Or.inl e)
    · rcases hE.lies with e3 | ⟨g, e3, hg⟩
      · rw [e3] at e; exact Or.inl (Or.inr (Or.inl e))
      · rw [e3] at e; cases e; exact Or.inr hg
    · exact Or.inl (Or.inr (Or.inr e))
theorem Pair.held {w w' : World} {wb B : Nat} {v hv hv' : Value} {lw lh l' : List Nat} (h : Pair w wb B v hv lw lh) (ho : OwnL w' B hv' l') (hg : w.grownBy w' hv.ownBlock) (hl : hv'.ownBlock = hv.ownBlock ∨ hv'.ownBlock = some w.heap.size) : Pair w' wb B v hv' lw l' ∧ Move wb v hv v hv' w w' := by
  have hlt := own_lt h.isl.own
  have hwb : wb < w.heap.size := h.isl.cell.lt
  refine ⟨⟨⟨h.isl.cell.of_block (hg.block wb hwb (fun e => h.ne1 e.symm)), own_keep h.isl.own (fun k e => hg.block k (hlt k e) (fun e2 => h.ne2 k e e2.symm)), h.isl.ne, Nat.le_trans h.isl.lo hg.size⟩, ho, ?_, fun k e e2 => ?_, h.low⟩, hg.os, hg.tape, hg.output, hg.size, fun k hk hn => hg.block k hk (fun e => hn (Or.inr (Or.inr e.symm))), fun k hk => ?_⟩
  · rcases hl with e | e
    · rw [e]; exact h.ne1
    · rw [e]; intro e2; cases e2; omega
  · rcases hl with e3 | e3
    · rw [e3] at e2; exact h.ne2 k e e2
    · rw [e3] at e2; cases e2; have := hlt _ e; omega
  · rcases hk with e | e | e
    · exact Or.inl (Or.inl e)
    · exact Or.inl (Or.inr (Or.inl e))
    · rcases hl with e3 | e3
      · rw [e3] at e; exact Or.inl (Or.inr (Or.inr e))
      · rw [e3] at e; cases e; exact Or.inr (Nat.le_refl _)
theorem Move.refl (wb : Nat) (v hv : Value) (w : World) : Move wb v hv v hv w w := ⟨rfl, rfl, rfl, Nat.le_refl _, fun _ _ _ => rfl, fun _ h => Or.inl h⟩
theorem Move.trans {wb : Nat} {v hv v' hv' v'' hv'' : Value} {a b c : World} (h : Move wb v hv v' hv' a b) (k : Move wb v' hv' v'' hv'' b c) : Move wb v hv v'' hv'' a c :=
  ⟨k.os.trans h.os, k.tape.trans h.tape, k.output.trans h.output, Nat.le_trans h.size k.size, fun i hi hn => (k.block i (Nat.lt_of_lt_of_le hi h.size) (fun hf => by
      rcases h.foot i hf with e | e
      · exact hn e
      · omega)).trans (h.block i hi hn), fun i hi => by
    rcases k.foot i hi with e | e
    · exact h.foot i e
    · exact Or.inr (Nat.le_trans h.size e)⟩
theorem Move.since {w0 w w' : World} {wb B : Nat} {v hv v' hv' : Value} {lw lh : List Nat} (hm : Move wb v hv v' hv' w w') (h : Pair w wb B v hv lw lh) (hs : w0.Since B w) (hB : B ≤ w.heap.size) : w0.Since B w' :=
  ⟨hm.os.trans hs.os, hm.tape.trans hs.tape, hm.output.trans hs.output, Nat.le_trans hs.size hm.size, fun k hk => (hm.block k (by omega) (fun hf => by have := h.ge k hf; omega)).trans (hs.block k hk)⟩
/-- A block that is not theirs. -/
theorem Move.cell {wb : Nat} {v hv v' hv' : Value} {w w' : World} (hm : Move wb v hv v' hv' w w') {b o : Nat} {u : Value} (hc : w.cell? ⟨b, o, none⟩ = some u) (hn : ¬ Foot wb v hv b) : w'.cell? ⟨b, o, none⟩ = some u := by
  rw [World.cell?_of_block (w := w) (hm.block b (World.block_lt_of_cell? _ _ hc) hn)]; exact hc
/-- THE TWO STEPS OF ONE CALL: the Writer's, then the list's. -/
theorem Pair.two {w w1 w2 w3 : World} {wb B : Nat} {v v' hv hv' : Value} {l l' : List Nat} (h : Pair w wb B v hv l l) (hI : IsL w1 wb B v' l') (hE : Ext wb v v' w w1) (hs : w1.Since w1.heap.size w2) (ho : OwnL w3 B hv' l') (hg : w2.grownBy w3 hv.ownBlock) (hl : hv'.ownBlock = hv.ownBlock ∨ hv'.ownBlock = some w2.heap.size) : Pair w3 wb B v' hv' l' l' ∧ Move wb v hv v' hv' w w3 := by
  obtain ⟨p1, m1⟩ := h.wrote hI hE
  obtain ⟨p2, m2⟩ := p1.since hs
  obtain ⟨p3, m3⟩ := p2.held ho hg hl
  exact ⟨p3, m1.trans (m2.trans m3)⟩
end Go.Proofs.YtonpmabdjngdcaaGreatDoor

/- The marks of a Book; append of one byte, and what it leaves. -/
namespace Go.Proofs.YtonpmabdjngdcaaGreatDoor
open Go.RowKit

/-- Byte k of the mark of list n. -/
def mrk (n k : Nat) : Nat := if k % 2 = 0 then 1 + n % 251 else 1 + (7 * n + n / 251) % 251
theorem mrk_lt (n k : Nat) : mrk n k < 256 := by
  unfold mrk
  split <;> omega
theorem at_any' (n k : Nat) (w : World) (hn : n ≤ 10000000000000000) : Calls Tryz.prog 45 #[.int .i64 n, .int .i64 k] w fun e w' => e = .returned (.int .u8 (mrk n k : Nat)) ∧ w' = w := by
  by_cases h2 : k % 2 = 0
  · have e : mrk n k = 1 + n % 251 := if_pos h2
    rw [e]
    have h1 : Int.tmod (k : Int) 2 = 0 := by
      have := Int.ofNat_tmod k 2
      rw [h2] at this
      exact this.symm
    obtain ⟨r, hr, hr2⟩ : ∃ r : Nat, Int.tmod (n : Int) 251 = (r : Int) ∧ r = n % 251 := ⟨n % 251, (Int.ofNat_tmod n 251).symm, rfl⟩
    obtain ⟨q, hq, hq2⟩ : ∃ q : Nat, (1 : Int) + (r : Int) = (q : Int) ∧ q = 1 + r := ⟨1 + r, by omega, rfl⟩
    have hw : IntKind.i64.wrap (q : Int) = (q : Int) := by rw [IntKind.wrap_i64]; omega
    have hw8 : IntKind.u8.wrap (q : Int) = (q : Int) := by rw [IntKind.wrap_u8']; omega
    have hfin : q = 1 + n % 251 := by omega
    clear hq2 hr2
    rw [← hfin]
    clear hfin
    go_enter Tryz.func45, Tryz.ntmps45
    go_wp2_with fail
    go_ret
    exact ⟨rfl, rfl⟩
  · have e : mrk n k = 1 + (7 * n + n / 251) % 251 := if_neg h2
    rw [e]
    have h1 : Int.tmod (k : Int) 2 = 1 := by
      have := Int.ofNat_tmod k 2
      rw [show k % 2 = 1 by omega] at this
      exact this.symm
    obtain ⟨s, hs, hs2⟩ : ∃ s : Nat, (7 : Int) * (n : Int) = (s : Int) ∧ s = 7 * n := ⟨7 * n, by omega, rfl⟩
    have hws : IntKind.i64.wrap (s : Int) = (s : Int) := by rw [IntKind.wrap_i64]; omega
    obtain ⟨d, hd, hd2⟩ : ∃ d : Nat, Int.tdiv (n : Int) 251 = (d : Int) ∧ d = n / 251 := ⟨n / 251, (Int.ofNat_tdiv n 251).symm, rfl⟩
    obtain ⟨c, hc, hc2⟩ : ∃ c : Nat, (s : Int) + (d : Int) = (c : Int) ∧ c = s + d := ⟨s + d, by omega, rfl⟩
    have hwd : IntKind.i64.wrap (d : Int) = (d : Int) := by rw [IntKind.wrap_i64]; omega
    have hwc : IntKind.i64.wrap (c : Int) = (c : Int) := by rw [IntKind.wrap_i64]; omega
    obtain ⟨r, hr, hr2⟩ : ∃ r : Nat, Int.tmod (c : Int) 251 = (r : Int) ∧ r = c % 251 := ⟨c % 251, (Int.ofNat_tmod c 251).symm, rfl⟩
    obtain ⟨q, hq, hq2⟩ : ∃ q : Nat, (1 : Int) + (r : Int) = (q : Int) ∧ q = 1 + r := ⟨1 + r, by omega, rfl⟩
    have hw : IntKind.i64.wrap (q : Int) = (q : Int) := by rw [IntKind.wrap_i64]; omega
    have hw8 : IntKind.u8.wrap (q : Int) = (q : Int) := by rw [IntKind.wrap_u8']; omega
    have hfin : q = 1 + (7 * n + n / 251) % 251 := by omega
    clear hq2 hr2 hc2 hd2 hs2
    rw [← hfin]
    clear hfin
    go_enter Tryz.func45, Tryz.ntmps45
    go_wp2_with fail
    go_ret
    exact ⟨rfl, rfl⟩
/-- append OF ONE BYTE: in its own room, or into new memory with the old left as it was. -/
theorem app_mark (w : World) (B : Nat) (v : Value) (n : Nat) (x : Nat → Nat) (hown : Own w B v n x) (g c : Nat) (hc : w.cell? ⟨g, 0, none⟩ = some (.int .u8 (c : Nat))) (hmax : n + 1 ≤ 140737488355328) (hB : B ≤ w.heap.size) :
    ∃ v' w', (Builtin.append_ #[32, 32] 32 #[v, .slice (some ⟨g, 0, none⟩) 1 1]).run Tryz.prog w = .ok v' w' ∧ Own w' B v' (n + 1) (cat x n (fun _ => c)) ∧ w.grownBy w' v.ownBlock ∧ (v'.ownBlock = v.ownBlock ∨ (v'.ownBlock = some w.heap.size ∧ w.Since w.heap.size w')) := by
  have hb : Byt w (some ⟨g, 0, none⟩) 1 (fun _ => c) := fun j hj => ⟨g, 0, rfl, by
    obtain rfl : j = 0 := by omega
    exact hc⟩
  obtain ⟨v', w', hr, ho, hg, hl⟩ := app_at w B v n x hown (some ⟨g, 0, none⟩) 1 1 (fun _ => c) hb (fun e => by cases e) hmax hB
  refine ⟨v', w', hr, ho, hg, ?_⟩
  rcases hl with e | e
  · exact Or.inl e
  · rcases hown.2 with ⟨rfl, _⟩ | ⟨q, cap, cur, rfl, hbg, hq, hnc, hcm, hcs, htake⟩
    · exact Or.inr ⟨e, hg.os, hg.tape, hg.output, hg.size, fun k hk => hg.block k hk (by simp [Value.ownBlock])⟩
    · obtain ⟨i0, hi, hz0, hz1, hz2⟩ := info_parts Tryz.info5
      have hnews : ∀ j u, [Value.int .u8 (c : Nat)][j]? = some u → w.cell? ((⟨g, 0, none⟩ : Addr).add j) = some u := fun j u hu => by
        match j with
        | 0 =>
          have : u = .int .u8 (c : Nat) := by simpa using hu.symm
          rw [this]
          simpa [Addr.add] using hc
        | j + 1 => simp at hu
      by_cases hroom : n + 1 ≤ cap
      · have hr2 := run_append_room (P := Tryz.prog) w 32 32 5 i0 Tryz.underlying32 hi q n cap cur hq ⟨g, 0, none⟩ 1 1 [.int .u8 (c : Nat)] (by rw [hz1]; rfl) hnews (fun u hu => by
          have : u = .int .u8 (c : Nat) := by simpa using hu
          rw [this]; rfl) hroom (by rw [hz1, hcs]; show n * 1 + 1 ≤ cap * 1; omega)
        rw [hr2] at hr
        cases hr
        exact Or.inl rfl
      · have hr2 := run_append_grow (P := Tryz.prog) w 32 32 5 i0 (.int .u8 0) Tryz.underlying32 hi hz0 ⟨q, 0, none⟩ n cap (cellsOf n x) (by rw [hz1]; exact hown.1) (hown.cells (g := q) rfl) ⟨g, 0, none⟩ 1 1 [.int .u8 (c : Nat)] (by rw [hz1]; rfl) hnews (by omega) (by omega) (by rw [hz2]; exact growslice_fits (by omega) (by omega))
        rw [hr2] at hr
        cases hr
        exact Or.inr ⟨rfl, rfl, rfl, rfl, by simp, fun k hk => heap_alloc_old w.drew _ hk⟩
end Go.Proofs.YtonpmabdjngdcaaGreatDoor

/- Any number of Writers side by side, each with its list: what of memory is theirs. -/
namespace Go.Proofs.YtonpmabdjngdcaaGreatDoor
open Go.RowKit

theorem Tryz.infoW : (Tryz.prog.info? 93).map (fun i => (i.zero, i.size, i.bytes)) = some (some (.pointer none), 1, 8) := by kernel_rfl
theorem Tryz.infoR : (Tryz.prog.info? 100).map (fun i => (i.zero, i.size, i.bytes)) = some (some (.pointer none), 1, 8) := by kernel_rfl
theorem Tryz.infoB : (Tryz.prog.info? 32).map (fun i => (i.zero, i.size, i.bytes)) = some (some (.slice none 0 0), 1, 24) := by kernel_rfl

/-- append of one value onto a slice of the call's own. -/
theorem app_one {t e : TypeId} {z : Value} {bytes : Nat} (ht : Tryz.prog.underlying t = some (.slice e)) (hinfo : (Tryz.prog.info? e).map (fun i => (i.zero, i.size, i.bytes)) = some (some z, 1, bytes)) (hz : z.cells.size = 1) (hby : bytes ≤ 24)
    (w : World) (B : Nat) (v : Value) (n : Nat) (xs : List Value) (hown : w.ownsRow B e 1 v n xs) (g : Nat) (u : Value) (hc : w.cell? ⟨g, 0, none⟩ = some u) (hu : u.oneCell' = true) (hn : n ≤ 1000000) (hB : B ≤ w.heap.size) :
    ∃ v' w', (Builtin.append_ #[t, t] t #[v, .slice (some ⟨g, 0, none⟩) 1 1]).run Tryz.prog w = .ok v' w' ∧ w'.ownsRow B e 1 v' (n + 1) (xs ++ [u]) ∧ w.grownBy w' v.ownBlock ∧ (v'.ownBlock = v.ownBlock ∨ v'.ownBlock = some w.heap.size) := by
  obtain ⟨i0, hi, hz0, hz1, hz2⟩ := info_parts hinfo
  obtain ⟨v', w', hr, h1, h2, _, h5⟩ := run_append_own_at (P := Tryz.prog) w B t t e i0 z 1 bytes ht hi hz0 hz1 hz2 hz (by decide) v n _ hown ⟨g, 0, none⟩ 1 1 [u] rfl
    (fun j q hq => by
      match j with
      | 0 =>
        have : q = u := by simpa using hq.symm
        rw [this]
        simpa [Addr.add] using hc
      | j + 1 => simp at hq)
    (fun q hq => by
      have : q = u := by simpa using hq
      rw [this]; exact hu)
    (by unfold maxLen; omega) (by have : (n + 1) * bytes ≤ 1000001 * 24 := Nat.mul_le_mul (by omega) hby; omega) hB
  exact ⟨v', w', hr, h1, h2, h5⟩
theorem owns_keep {w w' : World} {B e n : Nat} {v : Value} {xs : List Value} (h : w.ownsRow B e 1 v n xs) (hk : ∀ k, v.ownBlock = some k → w'.heap[k]? = w.heap[k]?) : w'.ownsRow B e 1 v n xs := by
  refine ⟨h.1, ?_⟩
  rcases h.2 with h1 | ⟨g, cap, cur, e, hb, hh, r⟩
  · exact Or.inl h1
  · exact Or.inr ⟨g, cap, cur, e, hb, by rw [hk g (by rw [e]; rfl)]; exact hh, r⟩
theorem range_map_succ {α : Type} (f : Nat → α) (n : Nat) : (List.range (n + 1)).map f = (List.range n).map f ++ [f n] := by
  rw [List.range_succ, List.map_append]; rfl
def put {α : Type} (f : Nat → α) (k : Nat) (x : α) : Nat → α := fun i => if i = k then x else f i
theorem put_at {α : Type} (f : Nat → α) (k : Nat) (x : α) : put f k x k = x := if_pos rfl
theorem put_ne {α : Type} (f : Nat → α) (k : Nat) (x : α) {j : Nat} (h : j ≠ k) : put f k x j = f j := if_neg h
theorem map_put {α : Type} (f : Nat → α) (k n : Nat) (x : α) : (List.range n).map (put f k x) = ((List.range n).map f).set k x := by
  apply List.ext_getElem?
  intro j
  rw [List.getElem?_set]
  by_cases hj : j < n
  · by_cases e : k = j
    · subst e; simp [hj, put_at]
    · have e' : j ≠ k := fun h => e h.symm
      simp [hj, e, put_ne _ _ _ e']
  · simp [hj]
    omega
theorem map_put_ge {α : Type} (f : Nat → α) {k n : Nat} (h : n ≤ k) (x : α) : (List.range n).map (put f k x) = (List.range n).map f := by
  apply List.map_congr_left
  intro j hj
  exact put_ne _ _ _ (by have := List.mem_range.1 hj; omega)

structure Crowd (w0 w : World) (np nw nh : Nat) (P : Nat → Nat) (V H : Nat → Value) (L : Nat → List Nat) (wv hv : Value) : Prop where
  since : w0.Since w0.heap.size w
  pair : ∀ j, j < np → Pair w (P j) w0.heap.size (V j) (H j) (L j) (L j)
  apart : ∀ i j k, i < np → j < np → i ≠ j → Foot (P i) (V i) (H i) k → ¬ Foot (P j) (V j) (H j) k
  ow : w.ownsRow w0.heap.size 93 1 wv nw ((List.range nw).map fun j => .pointer (some ⟨P j, 0, none⟩))
  oh : w.ownsRow w0.heap.size 32 1 hv nh ((List.range nh).map H)
  far : ∀ i k, i < np → Foot (P i) (V i) (H i) k → wv.ownBlock ≠ some k ∧ hv.ownBlock ≠ some k
  ne : ∀ k, wv.ownBlock = some k → hv.ownBlock ≠ some k
theorem Crowd.later {w0 w w' : World} {np nw nh : Nat} {P : Nat → Nat} {V H : Nat → Value} {L : Nat → List Nat} {wv hv : Value} (h : Crowd w0 w np nw nh P V H L wv hv) (hs : w.Since w.heap.size w') : Crowd w0 w' np nw nh P V H L wv hv :=
  ⟨h.since.trans (since_mono hs h.since.size), fun j hj => ((h.pair j hj).since hs).1, h.apart, owns_keep h.ow (fun k e => hs.block k (h.ow.lt k e).2), owns_keep h.oh (fun k e => hs.block k (h.oh.lt k e).2), h.far, h.ne⟩
/-- A WRITER MORE. -/
theorem Crowd.fresh {w0 w w' : World} {n : Nat} {P : Nat → Nat} {V H : Nat → Value} {L : Nat → List Nat} {wv hv : Value} (h : Crowd w0 w n n n P V H L wv hv) (hs : w.Since w.heap.size w') (hc : w'.rowIs w.heap.size 129 1 (fun _ => .slice none 0 0)) :
    Crowd w0 w' (n + 1) n n (put P n w.heap.size) (put V n (.slice none 0 0)) (put H n (.slice none 0 0)) (put L n []) wv hv := by
  have hl := h.later hs
  have hz := h.since.size
  have hlt := hc.lt
  have hft : ∀ k, Foot w.heap.size (.slice none 0 0) (.slice none 0 0) k → k = w.heap.size := fun k hf => by
    rcases hf with e | e | e
    · exact e
    · simp [Value.ownBlock] at e
    · simp [Value.ownBlock] at e
  refine ⟨hl.since, fun j hj => ?_, fun i j k hi hj hij h1 h2 => ?_, ?_, ?_, fun i k hi hf => ?_, h.ne⟩
  · by_cases e : j = n
    · subst e
      simp only [put_at]
      exact ⟨⟨hc, own_nil _ _ _, by simp [Value.ownBlock], by omega⟩, own_nil _ _ _, by simp [Value.ownBlock], fun k e => by simp [Value.ownBlock] at e, hz⟩
    · simp only [put_ne _ _ _ e]
      exact hl.pair j (by omega)
  · by_cases ei : i = n
    · subst ei
      have ej : j ≠ i := fun e => hij e.symm
      simp only [put_at] at h1
      simp only [put_ne _ _ _ ej] at h2
      have e1 := hft k h1
      have := (h.pair j (by omega)).lt k h2
      omega
    · simp only [put_ne _ _ _ ei] at h1
      by_cases ej : j = n
      · subst ej
        simp only [put_at] at h2
        have e1 := hft k h2
        have := (h.pair i (by omega)).lt k h1
        omega
      · simp only [put_ne _ _ _ ej] at h2
        exact h.apart i j k (by omega) (by omega) hij h1 h2
  · have e : ((List.range n).map fun j => Value.pointer (some ⟨put P n w.heap.size j, 0, none⟩)) = (List.range n).map fun j => Value.pointer (some ⟨P j, 0, none⟩) := by
      apply List.map_congr_left
      intro j hj
      rw [put_ne _ _ _ (by have := List.mem_range.1 hj; omega)]
    rw [e]; exact hl.ow
  · rw [map_put_ge H (Nat.le_refl _)]; exact hl.oh
  · by_cases ei : i = n
    · subst ei
      simp only [put_at] at hf
      have e1 := hft k hf
      exact ⟨fun e => by have := (h.ow.lt k e).2; omega, fun e => by have := (h.oh.lt k e).2; omega⟩
    · simp only [put_ne _ _ _ ei] at hf
      exact h.far i k (by omega) hf
theorem Crowd.growW {w0 w w' : World} {np nw nh : Nat} {P : Nat → Nat} {V H : Nat → Value} {L : Nat → List Nat} {wv hv wv' : Value} (h : Crowd w0 w np nw nh P V H L wv hv) (ho : w'.ownsRow w0.heap.size 93 1 wv' (nw + 1) (((List.range nw).map fun j => .pointer (some ⟨P j, 0, none⟩)) ++ [.pointer (some ⟨P nw, 0, none⟩)])) (hg : w.grownBy w' wv.ownBlock) (hl : wv'.ownBlock = wv.ownBlock ∨ wv'.ownBlock = some w.heap.size) :
    Crowd w0 w' np (nw + 1) nh P V H L wv' hv := by
  have hz := h.since.size
  refine ⟨h.since.grown hg hz (fun k e => (h.ow.lt k e).1), fun j hj => (h.pair j hj).keep hg.size (fun k hf => hg.block k ((h.pair j hj).lt k hf) (fun e => (h.far j k hj hf).1 e.symm)), h.apart, ?_, owns_keep h.oh (fun k e => hg.block k (h.oh.lt k e).2 (fun e2 => h.ne k e2.symm e)), fun i k hi hf => ⟨fun e => ?_, (h.far i k hi hf).2⟩, fun k e e2 => ?_⟩
  · rw [range_map_succ]; exact ho
  · rcases hl with e3 | e3
    · rw [e3] at e; exact (h.far i k hi hf).1 e
    · rw [e3] at e; cases e; have := (h.pair i hi).lt _ hf; omega
  · rcases hl with e3 | e3
    · rw [e3] at e; exact h.ne k e e2
    · rw [e3] at e; cases e; have := (h.oh.lt _ e2).2; omega
theorem Crowd.growH {w0 w w' : World} {np nw nh : Nat} {P : Nat → Nat} {V H : Nat → Value} {L : Nat → List Nat} {wv hv hv' : Value} (h : Crowd w0 w np nw nh P V H L wv hv) (ho : w'.ownsRow w0.heap.size 32 1 hv' (nh + 1) ((List.range nh).map H ++ [H nh])) (hg : w.grownBy w' hv.ownBlock) (hl : hv'.ownBlock = hv.ownBlock ∨ hv'.ownBlock = some w.heap.size) :
    Crowd w0 w' np nw (nh + 1) P V H L wv hv' := by
  have hz := h.since.size
  refine ⟨h.since.grown hg hz (fun k e => (h.oh.lt k e).1), fun j hj => (h.pair j hj).keep hg.size (fun k hf => hg.block k ((h.pair j hj).lt k hf) (fun e => (h.far j k hj hf).2 e.symm)), h.apart, owns_keep h.ow (fun k e => hg.block k (h.ow.lt k e).2 (fun e2 => h.ne k e e2.symm)), ?_, fun i k hi hf => ⟨(h.far i k hi hf).1, fun e => ?_⟩, fun k e e2 => ?_⟩
  · rw [range_map_succ]; exact ho
  · rcases hl with e3 | e3
    · rw [e3] at e; exact (h.far i k hi hf).2 e
    · rw [e3] at e; cases e; have := (h.pair i hi).lt _ hf; omega
  · rcases hl with e3 | e3
    · rw [e3] at e2; exact h.ne k e e2
    · rw [e3] at e2; cases e2; have := (h.ow.lt _ e).2; omega
/-- ONE STEP OF THE PAIR k, its list laid back. -/
theorem Crowd.step {w0 w w' : World} {n : Nat} {P : Nat → Nat} {V H : Nat → Value} {L : Nat → List Nat} {wv : Value} {hb hc : Nat} (h : Crowd w0 w n n n P V H L wv (.slice (some ⟨hb, 0, none⟩) n hc)) {k : Nat} (hk : k < n) {v' h' : Value} {l' : List Nat} (hp : Pair w' (P k) w0.heap.size v' h' l' l') (hm : Move (P k) (V k) (H k) v' h' w w') :
    w'.cell? ⟨hb, k, none⟩ = some (H k) ∧ w'.frozen? ⟨hb, k, none⟩ = false ∧ Crowd w0 (w'.setCell ⟨hb, k, none⟩ h') n n n P (put V k v') (put H k h') (put L k l') wv (.slice (some ⟨hb, 0, none⟩) n hc) := by
  have hbo : (Value.slice (some ⟨hb, 0, none⟩) n hc).ownBlock = some hb := rfl
  have hlh := (h.oh.lt hb hbo)
  have hnf : ¬ Foot (P k) (V k) (H k) hb := fun hf => (h.far k hb hk hf).2 hbo
  have hoh : w'.ownsRow w0.heap.size 32 1 (.slice (some ⟨hb, 0, none⟩) n hc) n ((List.range n).map H) := owns_keep h.oh (fun q e => by cases e; exact hm.block hb hlh.2 hnf)
  have hset : ∀ b, b ≠ hb → (w'.setCell ⟨hb, k, none⟩ h').heap[b]? = w'.heap[b]? := fun b hb' => Below.heap_setCell _ _ _ _ hb'
  have hsz : (w'.setCell ⟨hb, k, none⟩ h').heap.size = w'.heap.size := by simp [World.setCell]
  have hfk : ∀ b, Foot (P k) v' h' b → wv.ownBlock ≠ some b ∧ b ≠ hb := fun b hf => by
    rcases hm.foot b hf with e | e
    · exact ⟨(h.far k b hk e).1, fun e2 => (h.far k b hk e).2 (by rw [hbo, e2])⟩
    · exact ⟨fun e2 => by have := (h.ow.lt b e2).2; omega, by omega⟩
  have hst := hoh.stored k h'
  refine ⟨?_, hoh.frozenAt k, ⟨?_, fun i hi => ?_, fun i j b hi hj hij hf hf2 => ?_, owns_keep h.ow (fun q e => ?_), ?_, fun i b hi hf => ?_, h.ne⟩⟩
  · rw [hoh.cellAt k (by omega)]; simp [hk]
  · have h1 : w0.Since w0.heap.size w' := ⟨hm.os.trans h.since.os, hm.tape.trans h.since.tape, hm.output.trans h.since.output, Nat.le_trans h.since.size hm.size, fun q hq => (hm.block q (Nat.lt_of_lt_of_le hq h.since.size) (fun hf => by have := (h.pair k hk).ge q hf; omega)).trans (h.since.block q hq)⟩
    exact h1.setCell (a := ⟨hb, k, none⟩) hlh.1 _
  · by_cases e : i = k
    · subst e
      simp only [put_at]
      exact hp.keep (by omega) (fun b hf => hset b (hfk b hf).2)
    · simp only [put_ne _ _ _ e]
      exact (h.pair i hi).keep (by rw [hsz]; exact hm.size) (fun b hf => (hset b (fun e2 => (h.far i b hi hf).2 (by rw [hbo, e2]))).trans (hm.block b ((h.pair i hi).lt b hf) (h.apart i k b hi hk e hf)))
  · by_cases e : i = k
    · subst e
      have e2 : j ≠ i := fun x => hij x.symm
      simp only [put_at] at hf
      simp only [put_ne _ _ _ e2] at hf2
      rcases hm.foot b hf with e3 | e3
      · exact h.apart i j b hi hj hij e3 hf2
      · have := (h.pair j hj).lt b hf2; omega
    · simp only [put_ne _ _ _ e] at hf
      by_cases e4 : j = k
      · subst e4
        simp only [put_at] at hf2
        rcases hm.foot b hf2 with e3 | e3
        · exact h.apart i j b hi hj hij hf e3
        · have := (h.pair i hi).lt b hf; omega
      · simp only [put_ne _ _ _ e4] at hf2
        exact h.apart i j b hi hj hij hf hf2
  · exact (hset q (fun e2 => h.ne q e (by rw [hbo, e2]))).trans (hm.block q (h.ow.lt q e).2 (fun hf => (h.far k q hk hf).1 e))
  · rw [map_put]; exact hst.1
  · by_cases e : i = k
    · subst e
      simp only [put_at] at hf
      exact ⟨(hfk b hf).1, fun e2 => (hfk b hf).2 (by rw [hbo] at e2; cases e2; rfl)⟩
    · simp only [put_ne _ _ _ e] at hf
      exact h.far i b hi hf
end Go.Proofs.YtonpmabdjngdcaaGreatDoor

/- What a Book is in memory, where it keeps lists of bytes alone; what a step leaves. -/
namespace Go.Proofs.YtonpmabdjngdcaaGreatDoor
open Go.RowKit

theorem Tryz.infoI : (Tryz.prog.info? 3).map (fun i => (i.zero, i.size, i.bytes)) = some (some (.int .i64 0), 1, 8) := by kernel_rfl

/-- The cells of a Book: its lists of bytes, their marks, so many grown; all other lists nil; turn, done, used. -/
def bookCell (bv ov : Value) (at' turn done used : Nat) (i : Nat) : Value :=
  if i = 0 then bv else if i = 1 then ov else if i = 2 then .int .i64 (at' : Nat) else if i = 36 then .int .i64 (turn : Nat) else if i = 37 then .int .i64 (done : Nat) else if i = 38 then .int .i64 (used : Nat) else if i % 3 = 2 then .int .i64 0 else .slice none 0 0
structure BookIs (w : World) (B bk n lo hi : Nat) (A : Nat → Option Addr) (ln C M : Nat → Nat) (bv ov : Value) (at' turn done used : Nat) : Prop where
  row : w.rowIs bk 70 39 (bookCell bv ov at' turn done used)
  ob : w.ownsRow B 32 1 bv n ((List.range n).map fun i => .slice (A i) (ln i) (C i))
  oo : w.ownsRow B 3 1 ov n ((List.range n).map fun i => .int .i64 (M i : Nat))
  byt : ∀ i, i < n → Byt w (A i) (ln i) (mrk (M i))
  own : ∀ i, lo ≤ i → i < hi → Own w B (.slice (A i) (ln i) (C i)) (ln i) (mrk (M i))
  blk : ∀ i a, i < n → A i = some a → B ≤ a.block ∧ a.block < w.heap.size ∧ a.block ≠ bk ∧ bv.ownBlock ≠ some a.block ∧ ov.ownBlock ≠ some a.block
  dis : ∀ i j a a', lo ≤ i → i < hi → j < n → i ≠ j → A i = some a → A j = some a' → a.block ≠ a'.block
  nb : bv.ownBlock ≠ some bk ∧ ov.ownBlock ≠ some bk
  no : ∀ k, bv.ownBlock = some k → ov.ownBlock ≠ some k
  hn : hi ≤ n
  lb : B ≤ bk
  mt : ∀ i, i < n → M i ≤ turn
/-- What of memory is the Book's. -/
def BF (bk n : Nat) (A : Nat → Option Addr) (bv ov : Value) (k : Nat) : Prop := k = bk ∨ bv.ownBlock = some k ∨ ov.ownBlock = some k ∨ ∃ i a, i < n ∧ A i = some a ∧ a.block = k
structure Mv (F F' : Nat → Prop) (w w' : World) : Prop where
  os : w'.os = w.os
  tape : w'.tape = w.tape
  output : w'.output = w.output
  size : w.heap.size ≤ w'.heap.size
  block : ∀ k, k < w.heap.size → ¬ F k → w'.heap[k]? = w.heap[k]?
  foot : ∀ k, F' k → F k ∨ w.heap.size ≤ k
theorem Mv.trans {F F' F'' : Nat → Prop} {a b c : World} (h : Mv F F' a b) (k : Mv F' F'' b c) : Mv F F'' a c :=
  ⟨k.os.trans h.os, k.tape.trans h.tape, k.output.trans h.output, Nat.le_trans h.size k.size, fun q hq hn => (k.block q (Nat.lt_of_lt_of_le hq h.size) (fun hf => by
    rcases h.foot q hf with e | e
    · exact hn e
    · omega)).trans (h.block q hq hn), fun q hf => by
    rcases k.foot q hf with e | e
    · exact h.foot q e
    · exact Or.inr (Nat.le_trans h.size e)⟩
theorem Mv.refl (F : Nat → Prop) (w : World) : Mv F F w w := ⟨rfl, rfl, rfl, Nat.le_refl _, fun _ _ _ => rfl, fun _ h => Or.inl h⟩
theorem Mv.of_since {F : Nat → Prop} {w w' : World} (h : w.Since w.heap.size w') : Mv F F w w' := ⟨h.os, h.tape, h.output, h.size, fun k hk _ => h.block k hk, fun _ hf => Or.inl hf⟩
theorem Mv.widen {F F' G : Nat → Prop} {w w' : World} (h : Mv F F' w w') (hg : ∀ k, F k → G k) : Mv G F' w w' := ⟨h.os, h.tape, h.output, h.size, fun k hk hn => h.block k hk (fun hf => hn (hg k hf)), fun k hf => (h.foot k hf).imp_left (hg k)⟩
theorem Mv.since {F F' : Nat → Prop} {w0 w w' : World} {B : Nat} (h0 : w0.Since B w) (hB : B ≤ w.heap.size) (hF : ∀ k, F k → B ≤ k) (h : Mv F F' w w') : w0.Since B w' :=
  ⟨h.os.trans h0.os, h.tape.trans h0.tape, h.output.trans h0.output, Nat.le_trans h0.size h.size, fun k hk => (h.block k (Nat.lt_of_lt_of_le hk hB) (fun hf => by have := hF k hf; omega)).trans (h0.block k hk)⟩
theorem BookIs.later {w w' : World} {B bk n lo hi : Nat} {A : Nat → Option Addr} {ln C M : Nat → Nat} {bv ov : Value} {at' turn done used : Nat} (h : BookIs w B bk n lo hi A ln C M bv ov at' turn done used) (hz : w.heap.size ≤ w'.heap.size) (hk : ∀ k, BF bk n A bv ov k → w'.heap[k]? = w.heap[k]?) : BookIs w' B bk n lo hi A ln C M bv ov at' turn done used :=
  ⟨h.row.of_block (hk _ (Or.inl rfl)), owns_keep h.ob (fun k e => hk k (Or.inr (Or.inl e))), owns_keep h.oo (fun k e => hk k (Or.inr (Or.inr (Or.inl e)))), fun i hi j hj => by
    obtain ⟨b, off, e, hc⟩ := h.byt i hi j hj
    exact ⟨b, off, e, by rw [World.cell?_of_block (w := w) (hk b (Or.inr (Or.inr (Or.inr ⟨i, _, hi, e, rfl⟩))))]; exact hc⟩, fun i h1 h2 => own_keep (h.own i h1 h2) (fun k e => hk k (Or.inr (Or.inr (Or.inr (by
      match hA : A i, e with
      | some a, e => exact ⟨i, a, Nat.lt_of_lt_of_le h2 h.hn, hA, by simpa [Value.ownBlock] using e⟩
      | none, e => simp [Value.ownBlock] at e))))), fun i a h1 h2 => by have := h.blk i a h1 h2; exact ⟨this.1, by omega, this.2.2⟩, h.dis, h.nb, h.no, h.hn, h.lb, h.mt⟩
theorem BookIs.since {w w' : World} {B bk n lo hi : Nat} {A : Nat → Option Addr} {ln C M : Nat → Nat} {bv ov : Value} {at' turn done used : Nat} (h : BookIs w B bk n lo hi A ln C M bv ov at' turn done used) (hs : w.Since w.heap.size w') : BookIs w' B bk n lo hi A ln C M bv ov at' turn done used :=
  h.later hs.size (fun k hf => hs.block k (by
    rcases hf with e | e | e | ⟨i, a, h1, h2, e⟩
    · rw [e]; exact h.row.lt
    · exact (h.ob.lt k e).2
    · exact (h.oo.lt k e).2
    · rw [← e]; exact (h.blk i a h1 h2).2.1))
theorem BookIs.ge {w : World} {B bk n lo hi : Nat} {A : Nat → Option Addr} {ln C M : Nat → Nat} {bv ov : Value} {at' turn done used : Nat} (h : BookIs w B bk n lo hi A ln C M bv ov at' turn done used) : ∀ k, BF bk n A bv ov k → B ≤ k ∧ k < w.heap.size := fun k hf => by
  rcases hf with e | e | e | ⟨i, a, h1, h2, e⟩
  · rw [e]; exact ⟨h.lb, h.row.lt⟩
  · exact h.ob.lt k e
  · exact h.oo.lt k e
  · rw [← e]; exact ⟨(h.blk i a h1 h2).1, (h.blk i a h1 h2).2.1⟩
/-- A number of the Book's is another one. -/
theorem BookIs.setNum {w : World} {B bk n lo hi : Nat} {A : Nat → Option Addr} {ln C M : Nat → Nat} {bv ov : Value} {at' turn done used at2 turn2 done2 used2 : Nat} (h : BookIs w B bk n lo hi A ln C M bv ov at' turn done used) (c : Nat) (u : Value) (ht : turn ≤ turn2) (hc : ∀ i, i < 39 → bookCell bv ov at2 turn2 done2 used2 i = if i = c then u else bookCell bv ov at' turn done used i) :
    BookIs (w.setCell ⟨bk, c, none⟩ u) B bk n lo hi A ln C M bv ov at2 turn2 done2 used2 ∧ Mv (BF bk n A bv ov) (BF bk n A bv ov) w (w.setCell ⟨bk, c, none⟩ u) := by
  have hset : ∀ b, b ≠ bk → (w.setCell ⟨bk, c, none⟩ u).heap[b]? = w.heap[b]? := fun b hb => Below.heap_setCell _ _ _ _ hb
  have hsz : (w.setCell ⟨bk, c, none⟩ u).heap.size = w.heap.size := by simp [World.setCell]
  refine ⟨⟨(h.row.set c u).congr (fun i hi => (hc i hi).symm), owns_keep h.ob (fun k e => hset k (fun e2 => h.nb.1 (e2 ▸ e))), owns_keep h.oo (fun k e => hset k (fun e2 => h.nb.2 (e2 ▸ e))), fun i hi j hj => ?_, fun i h1 h2 => own_keep (h.own i h1 h2) (fun k e => hset k ?_), fun i a h1 h2 => by rw [hsz]; exact h.blk i a h1 h2, h.dis, h.nb, h.no, h.hn, h.lb, fun i hi => Nat.le_trans (h.mt i hi) ht⟩, rfl, rfl, rfl, by omega, fun k hk hn => hset k (fun e => hn (Or.inl e)), fun k hf => Or.inl hf⟩
  · obtain ⟨b, off, e, hcc⟩ := h.byt i hi j hj
    exact ⟨b, off, e, by rw [World.cell?_of_block (w := w) (hset b (h.blk i _ hi e).2.2.1)]; exact hcc⟩
  · match hA : A i, e with
    | some a, e =>
      have e' : a.block = k := by simpa [Value.ownBlock] using e
      rw [← e']
      exact (h.blk i a (Nat.lt_of_lt_of_le h2 h.hn) hA).2.2.1
    | none, e => simp [Value.ownBlock] at e
end Go.Proofs.YtonpmabdjngdcaaGreatDoor
