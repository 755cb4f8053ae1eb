/- The walks of a Writer's Var, Bytes, fixed, U8, U32, U64: what it holds told as a list. -/
import Derived.Test.YtbmdnlomhnodeabDoorWriter
import Derived.Deep.RegionHeld3
import Derived.Deep.RegionLaw
namespace Go.Proofs.YtbmdnlomhnodeabDoor
open Go.RowKit
set_option maxRecDepth 100000

theorem own_congr {w : World} {B : Nat} {v : Value} {n : Nat} {x y : Nat → Nat} (h : Own w B v n x) (e : ∀ j, j < n → x j = y j) : Own w B v n y := by
  have e2 : cellsOf n x = cellsOf n y := List.map_congr_left (fun j hj => by rw [e j (List.mem_range.1 hj)])
  show w.ownsRow B 5 1 v n (cellsOf n y)
  rw [← e2]; exact h
/-- A Writer that holds this list of bytes. -/
def IsL (w : World) (wb B : Nat) (v : Value) (l : List Nat) : Prop := IsW w wb B v l.length (fun j => l.getD j 0)
theorem isL_add {w : World} {wb B : Nat} {v : Value} {l r : List Nat} {n : Nat} {y : Nat → Nat} (h : IsW w wb B v (l.length + n) (cat (fun j => l.getD j 0) l.length y)) (hr : r.length = n) (e : ∀ j, j < n → y j = r.getD j 0) : IsL w wb B v (l ++ r) := by
  subst hr
  refine ⟨h.cell, ?_, h.ne, h.lo⟩
  rw [List.length_append]
  refine own_congr h.own (fun j hj => ?_)
  unfold cat
  by_cases h1 : j < l.length
  · rw [if_pos h1]
    show l.getD j 0 = (l ++ r).getD j 0
    rw [List.getD_eq_getElem?_getD, List.getD_eq_getElem?_getD, List.getElem?_append_left h1]
  · rw [if_neg h1, e _ (by omega), List.getD_eq_getElem?_getD, List.getD_eq_getElem?_getD, List.getElem?_append_right (by omega)]

theorem raw_l (wb B : Nat) (v : Value) (l : List Nat) (a : Option Addr) (m c : Nat) (y : Nat → Nat) (w : World) (h : IsL w wb B v l) (hb : Byt w a m y) (ha : a = none → m = 0 ∧ c = 0) (hmax : l.length + m ≤ 140737488355328) :
    Calls Tryd.prog 33 #[.pointer (some ⟨wb, 0, none⟩), .slice a m c] w fun e w' => e = .returned (.tuple #[]) ∧ ∃ v', IsL w' wb B v' (l ++ (List.range m).map y) ∧ Ext wb v v' w w' :=
  (raw_w wb B v l.length _ a m c y w h hb ha hmax).mono fun _ _ ⟨he, v', h1, h2⟩ => ⟨he, v', isL_add h1 (by simp) (fun j hj => (getD_range_map y m j hj).symm), h2⟩

/-- A number in its shortest form. -/
def vl : Nat → Nat → List Nat
  | 0, N => [N % 256]
  | f + 1, N => if N < 128 then [N] else (N % 128 + 128) :: vl f (N / 128)
theorem vl_len : ∀ f N, (vl f N).length ≤ f + 1
  | 0, _ => Nat.le_refl _
  | f + 1, N => by
    unfold vl
    split
    · simp
    · have := vl_len f (N / 128); simp; omega
theorem vl_lt : ∀ f N, ∀ c, c ∈ vl f N → c < 256
  | 0, N, c, h => by
    have : c = N % 256 := by simpa [vl] using h
    omega
  | f + 1, N, c, h => by
    unfold vl at h
    split at h
    · have : c = N := by simpa using h
      omega
    · rcases List.mem_cons.1 h with e | e
      · omega
      · exact vl_lt f (N / 128) c e

theorem mask127 (N : Nat) (h : N < 18446744073709551616) : bits .and .u64 (N : Int) 127 = ((N % 128 : Nat) : Int) := by
  have := u64_and_nat N 127 h (by decide); rw [nat_mask7] at this; exact this
theorem or128 (c : Nat) (h : c < 128) : bits .or .u8 (c : Int) 128 = ((c + 128 : Nat) : Int) := by
  have h1 := u8_or_nat c 128 (by omega) (by decide)
  have h2 : c ||| 128 = c + 128 := by
    have := nat_join 7 128 c (by decide) h
    rw [Nat.or_comm]; omega
  rw [h2] at h1; exact h1

set_option maxHeartbeats 1600000 in
set_option maxRecDepth 100000 in
theorem var_l (wb B : Nat) (v : Value) (l : List Nat) (N : Nat) (w : World) (h : IsL w wb B v l) (hN : N < 18446744073709551616) (hmax : l.length + 10 ≤ 140737488355328) :
    Calls Tryd.prog 46 #[.pointer (some ⟨wb, 0, none⟩), .int .u64 N] w fun e w' => e = .returned (.tuple #[]) ∧ ∃ v', IsL w' wb B v' (l ++ vl 9 N) ∧ Ext wb v v' w w' := by
  go_enter Tryd.func46, Tryd.ntmps46
  go_wp2_with fail
  go_loopg [1] 9 (fun f s1 wx => ∃ (M : Nat) (r : List Nat) (v1 : Value), s1 = .int .u64 M ∧ M < 128 ^ (f + 1) ∧ M < 18446744073709551616 ∧ r ++ vl f M = vl 9 N ∧ r.length + f = 9 ∧ IsL wx wb B v1 (l ++ r) ∧ Ext wb v v1 w wx)
  case atStart => exact ⟨N, [], v, rfl, Nat.lt_of_lt_of_le hN (by decide), hN, rfl, rfl, by simpa using h, Ext.refl _ _ _⟩
  case round =>
    obtain ⟨M, r, v1, rfl, hM, hM64, hr, hrf, hI, hE⟩ := hrel
    obtain ⟨n1, hn1⟩ : ∃ n1, (l ++ r).length = n1 := ⟨_, rfl⟩
    have hlen : n1 ≤ l.length + 9 := by rw [← hn1, List.length_append]; omega
    have hW : IsW wr wb B v1 n1 (fun j => (l ++ r).getD j 0) := by rw [← hn1]; exact hI
    have hadd : ∀ (W : World) (v2 : Value) (c : Nat), IsW W wb B v2 (n1 + 1) (cat (fun j => (l ++ r).getD j 0) n1 (fun _ => c)) → IsL W wb B v2 (l ++ (r ++ [c])) := fun W v2 c hh => by
      rw [← List.append_assoc]
      subst hn1
      exact isL_add hh rfl (fun j hj => by
        have e : j = 0 := by omega
        subst e; rfl)
    obtain ⟨va, vc, rfl⟩ := own_form hW.own
    have c0 := hW.cell.cell (i := 0) (by decide)
    clear hI hn1
    by_cases hbig : 127 < M
    · cases gk with
      | zero => exact absurd hM (by simp; omega)
      | succ f =>
        have hr3 : (r ++ [M % 128 + 128]) ++ vl f (M / 128) = vl 9 N := by
          rw [← hr, List.append_assoc]
          show r ++ (M % 128 + 128) :: vl f (M / 128) = r ++ vl (f + 1) M
          rw [show vl (f + 1) M = (M % 128 + 128) :: vl f (M / 128) by rw [vl, if_neg (by omega)]]
        have hM3 : M / 128 < 128 ^ (f + 1) := by rw [Nat.pow_succ] at hM; omega
        have hma : bits .and .u64 (M : Int) 127 = (M : Int) % 128 := by have := mask127 M hM64; rw [this]; omega
        have hor : bits .or .u8 ((M : Int) % 128) 128 = ((M % 128 + 128 : Nat) : Int) := by have := or128 (M % 128) (by omega); rw [← this]; congr 1
        have hC : M % 128 + 128 < 256 := by omega
        generalize M % 128 + 128 = C at *
        have hs1 : wr.Since wr.heap.size (wr.alloc (.cells #[.int .u8 (C : Nat)] 5)) := (World.Since.refl _ _).alloc (Nat.le_refl _) _
        have hb1 : Byt (wr.alloc (.cells #[.int .u8 (C : Nat)] 5)) (some ⟨wr.heap.size, 0, none⟩) 1 (fun _ => C) := fun j hj => ⟨wr.heap.size, 0, rfl, by
          have e : j = 0 := by omega
          subst e; simp⟩
        obtain ⟨v', w', hrun, hI2, hE2, hc2, hf2⟩ := write_step hW hs1 (some ⟨wr.heap.size, 0, none⟩) 1 1 _ hb1 (fun e => by cases e) (by omega)
        obtain ⟨va', vc', rfl⟩ := own_form hI2.own
        have hI3 := hadd _ _ _ hI2
        have hE3 := hE.trans hE2
        have H := hide hrun
        have HM := hide hM3
        have HR := hide hr3
        clear hrun hI2 hE2 hb1 hs1 hW hE hr hM hM3 hr3 hadd
        go_wp2_with (at_builtin; refine wpList_append_eq rfl _ _ 22 rfl _ _ _ (by rfl) (by rfl) (unhide H) ?_)
        go_roundg f
        case measure => go_light; omega
        case rel => go_light; exact ⟨M / 128, r ++ [C], _, by go_num, unhide HM, by omega, unhide HR, by rw [List.length_append]; simp; omega, hI3, hE3⟩
    · have hv9 : vl gk M = [M] := by
        cases gk with
        | zero => show [M % 256] = [M]; rw [Nat.mod_eq_of_lt (by omega)]
        | succ f => rw [vl, if_pos (by omega)]
      have hr3 : r ++ [M] = vl 9 N := by rw [← hr, hv9]
      have hs1 : wr.Since wr.heap.size (wr.alloc (.cells #[.int .u8 (M : Nat)] 5)) := (World.Since.refl _ _).alloc (Nat.le_refl _) _
      have hb1 : Byt (wr.alloc (.cells #[.int .u8 (M : Nat)] 5)) (some ⟨wr.heap.size, 0, none⟩) 1 (fun _ => M) := fun j hj => ⟨wr.heap.size, 0, rfl, by
        have e : j = 0 := by omega
        subst e; simp⟩
      obtain ⟨v', w', hrun, hI2, hE2, hc2, hf2⟩ := write_step hW hs1 (some ⟨wr.heap.size, 0, none⟩) 1 1 _ hb1 (fun e => by cases e) (by omega)
      obtain ⟨va', vc', rfl⟩ := own_form hI2.own
      have hI3 := hadd _ _ _ hI2
      rw [hr3] at hI3
      have hE3 := hE.trans hE2
      have H := hide hrun
      clear hrun hI2 hE2 hb1 hs1 hW hE hr hM hr3 hadd hv9
      go_wp2_with (at_builtin; refine wpList_append_eq rfl _ _ 22 rfl _ _ _ (by rfl) (by rfl) (unhide H) ?_)
      go_end0
      exact ⟨rfl, _, hI3, hE3⟩
/-- Bytes: the length, the bytes. -/
theorem bytes_l (wb B : Nat) (v : Value) (l : List Nat) (a : Option Addr) (m c : Nat) (y : Nat → Nat) (w : World) (h : IsL w wb B v l) (hb : Byt w a m y) (ha : a = none → m = 0 ∧ c = 0) (hmax : l.length + 10 + m ≤ 140737488355328) (hne : ∀ b off, a = some ⟨b, off, none⟩ → b ≠ wb ∧ some b ≠ v.ownBlock) :
    Calls Tryd.prog 31 #[.pointer (some ⟨wb, 0, none⟩), .slice a m c] w fun e w' => e = .returned (.tuple #[]) ∧ ∃ v', IsL w' wb B v' (l ++ vl 9 m ++ (List.range m).map y) ∧ Ext wb v v' w w' := by
  go_enter Tryd.func31, Tryd.ntmps31
  go_wp2_with fail
  refine (var_l wb B v l m w h (by omega) (by omega)).mono ?_
  rintro e w1 ⟨rfl, v1, h1, hE1⟩
  have hb1 : Byt w1 a m y := fun j hj => by
    obtain ⟨b, off, e, hc⟩ := hb j hj
    have hn := hne b off e
    exact ⟨b, off, e, by rw [World.cell?_of_block (w := w) (hE1.block b (World.block_lt_of_cell? _ _ hc) hn.1 hn.2)]; exact hc⟩
  have hl := vl_len 9 m
  go_wp2_with fail
  refine (raw_l wb B v1 (l ++ vl 9 m) a m c y w1 h1 hb1 ha (by rw [List.length_append]; omega)).mono ?_
  rintro e w2 ⟨rfl, v2, h2, hE2⟩
  go_wp2_with fail
  go_end0
  exact ⟨rfl, v2, h2, hE1.trans hE2⟩

/-- A number in so many bytes, the highest first. -/
def fl (width N : Nat) : List Nat := (List.range width).map fun i => N / 256 ^ (width - 1 - i) % 256
/-- append in a region that draws, by its run. -/
theorem step_append_eq {P : Program} {w w' : World} {ops : Array Oper} {o : Oper} {a : Act} {K : Act → World → Prop} {Q : Exit → Act → World → Prop} {E : Prop} (hgd : o.guard = none) (s x : Operand) (t : TypeId)
    (ho : o.op = .call { callee := .builtin .append, args := #[s, x], argTypes := #[t, t] }) (v u v' : Value) (hs : a.eval s = v) (hx : a.eval x = u)
    (hrun : (Builtin.append_ #[t, t] o.type #[v, u]).run P w = .ok v' w') (h : K (a.put o.dst v') w') : if Region.wanted o (yielded ops a.tmps) = true then Oper.wp P o a w K Q else E := by
  have hw : Region.wanted o (yielded ops a.tmps) = true := by simp [Region.wanted, hgd]
  rw [if_pos hw]
  unfold Oper.wp
  simp [execOp, ho, resolve, invoke, builtin, hs, hx, hrun, Result.andThen]
  exact h

set_option maxHeartbeats 1600000 in
set_option maxRecDepth 100000 in
theorem fixed_l (wb B : Nat) (v : Value) (l : List Nat) (k N : Nat) (w : World) (h : IsL w wb B v l) (hk : k ≤ 2) (hw : Wid w) (hmax : l.length + 8 ≤ 140737488355328) :
    Calls Tryd.prog 43 #[.pointer (some ⟨wb, 0, none⟩), .int .i64 k, .int .u64 N] w fun e w' => e = .returned (.tuple #[]) ∧ ∃ v', IsL w' wb B v' (l ++ fl (widthOf k) N) ∧ Ext wb v v' w w' := by
  have hck := hw.at k hk
  have hw8 := widthOf_le k
  have kz : (k : Int) < 3 := by omega
  generalize widthOf k = width at *
  go_enter Tryd.func43, Tryd.ntmps43
  go_wp2_with fail
  go_loopg [12] width (fun q s12 wx => ∃ (i : Nat) (v1 : Value), i ≤ width ∧ q = width - i ∧ s12 = .int .i64 i ∧ IsL wx wb B v1 (l ++ (fl width N).take i) ∧ Ext wb v v1 w wx)
  case atStart => exact ⟨0, v, Nat.zero_le _, rfl, rfl, by simpa using h, Ext.refl _ _ _⟩
  case round =>
    obtain ⟨i, v1, hi, rfl, rfl, hI, hE⟩ := hrel
    have hfl : (fl width N).length = width := by simp [fl]
    by_cases hlt : i < width
    · have htk : (fl width N).take (i + 1) = (fl width N).take i ++ [N / 256 ^ (width - 1 - i) % 256] := by
        rw [List.take_succ_eq_append_getElem (by omega)]; simp [fl]
      obtain ⟨n1, hn1⟩ : ∃ n1, (l ++ (fl width N).take i).length = n1 := ⟨_, rfl⟩
      have hlen : n1 ≤ l.length + 8 := by rw [← hn1, List.length_append, List.length_take]; omega
      have hlen2 : n1 + 1 ≤ 140737488355328 := by rw [← hn1, List.length_append, List.length_take]; omega
      have hW : IsW wr wb B v1 n1 (fun j => (l ++ (fl width N).take i).getD j 0) := by rw [← hn1]; exact hI
      have hadd : ∀ (W : World) (v2 : Value) (c : Nat), IsW W wb B v2 (n1 + 1) (cat (fun j => (l ++ (fl width N).take i).getD j 0) n1 (fun _ => c)) → IsL W wb B v2 (l ++ ((fl width N).take i ++ [c])) := fun W v2 c hh => by
        rw [← List.append_assoc]
        subst hn1
        exact isL_add hh rfl (fun j hj => by
          have e : j = 0 := by omega
          subst e; rfl)
      obtain ⟨va, vc, rfl⟩ := own_form hW.own
      have c0 := hW.cell.cell (i := 0) (by decide)
      clear hI hn1
      obtain ⟨p, hp⟩ : ∃ p : Nat, p = width - 1 := ⟨_, rfl⟩
      obtain ⟨q, hq⟩ : ∃ q : Nat, q = width - 1 - i := ⟨_, rfl⟩
      obtain ⟨sh, hsh⟩ : ∃ sh : Nat, sh = 8 * q := ⟨_, rfl⟩
      obtain ⟨D, hD⟩ : ∃ D : Nat, D = N / 2 ^ sh := ⟨_, rfl⟩
      obtain ⟨C, hC⟩ : ∃ C : Nat, C = D % 256 := ⟨_, rfl⟩
      have u1 : IntKind.i64.wrap ((width : Int) - 1) = (p : Int) := by rw [IntKind.wrap_i64]; omega
      have u2 : IntKind.i64.wrap ((p : Int) - (i : Int)) = (q : Int) := by rw [IntKind.wrap_i64]; omega
      have u3 : IntKind.i64.wrap (8 * (q : Int)) = (sh : Int) := by rw [IntKind.wrap_i64]; omega
      have u4 : (N : Int) / 2 ^ min sh 64 = (D : Int) := by rw [Nat.min_eq_left (by omega), hD]; simp
      have u5 : IntKind.u8.wrap (D : Int) = (C : Int) := by rw [IntKind.wrap_u8']; omega
      have hCe : N / 256 ^ (width - 1 - i) % 256 = C := by
        rw [hC, hD, hsh, ← hq, Nat.pow_mul]
      rw [hCe] at htk
      have hClt : C < 256 := by omega
      clear hp hq hsh hD hC hCe
      have hs1 : wr.Since wr.heap.size (wr.alloc (.cells #[.int .u8 (C : Nat)] 5)).drew := ((World.Since.refl _ _).alloc (Nat.le_refl _) _).drew
      have hb1 : Byt (wr.alloc (.cells #[.int .u8 (C : Nat)] 5)).drew (some ⟨wr.heap.size, 0, none⟩) 1 (fun _ => C) := fun j hj => ⟨wr.heap.size, 0, rfl, by
        have e : j = 0 := by omega
        subst e
        show (wr.alloc _).cell? _ = _
        simp⟩
      have hwlt : wb < wr.heap.size := hW.cell.lt
      obtain ⟨v', w', hrun, hI2, hE2, hc2, hf2⟩ := write_step hW hs1 (some ⟨wr.heap.size, 0, none⟩) 1 1 _ hb1 (fun e => by cases e) (by omega)
      obtain ⟨va', vc', rfl⟩ := own_form hI2.own
      have hI3 := hadd _ _ _ hI2
      rw [← htk] at hI3
      have hE3 := hE.trans hE2
      have H := hide hrun
      have n0 := World.new_ne wr _ c0
      clear hrun hI2 hE2 hb1 hs1 hW hE hadd htk
      go_wp2_with fail
      go_region_law (refine step_append_eq (by rfl) (.tmp 19) (.tmp 28) 22 (by rfl) _ _ _ (by rfl) (by rfl) (unhide H) ?_)
      all_goals
        go_wp2_with fail
        go_roundg (width - (i + 1))
        case measure => go_light; omega
        case rel => go_light; exact ⟨i + 1, _, by omega, rfl, by simp, hI3, hE3⟩
    · obtain rfl : i = width := by omega
      have hfin : IsL wr wb B v1 (l ++ fl i N) := by rw [List.take_of_length_le (by omega)] at hI; exact hI
      clear hI
      go_wp2_with fail
      go_end0
      exact ⟨rfl, v1, hfin, hE⟩

theorem u8_l (wb B : Nat) (v : Value) (l : List Nat) (N : Nat) (w : World) (h : IsL w wb B v l) (hw : Wid w) (_hN : N < 256) (hmax : l.length + 8 ≤ 140737488355328) :
    Calls Tryd.prog 9 #[.pointer (some ⟨wb, 0, none⟩), .int .u8 N] w fun e w' => e = .returned (.tuple #[]) ∧ ∃ v', IsL w' wb B v' (l ++ fl 1 N) ∧ Ext wb v v' w w' := by
  have hf := fixed_l wb B v l 0 N w h (by decide) hw hmax
  go_enter Tryd.func9, Tryd.ntmps9
  go_wp2_with fail
  refine hf.mono ?_
  rintro e w1 ⟨rfl, v1, h1, hE1⟩
  go_wp2_with fail
  go_end0
  exact ⟨rfl, v1, h1, hE1⟩
theorem u32_l (wb B : Nat) (v : Value) (l : List Nat) (N : Nat) (w : World) (h : IsL w wb B v l) (hw : Wid w) (_hN : N < 4294967296) (hmax : l.length + 8 ≤ 140737488355328) :
    Calls Tryd.prog 44 #[.pointer (some ⟨wb, 0, none⟩), .int .u32 N] w fun e w' => e = .returned (.tuple #[]) ∧ ∃ v', IsL w' wb B v' (l ++ fl 4 N) ∧ Ext wb v v' w w' := by
  have hf := fixed_l wb B v l 1 N w h (by decide) hw hmax
  go_enter Tryd.func44, Tryd.ntmps44
  go_wp2_with fail
  refine hf.mono ?_
  rintro e w1 ⟨rfl, v1, h1, hE1⟩
  go_wp2_with fail
  go_end0
  exact ⟨rfl, v1, h1, hE1⟩
theorem u64_l (wb B : Nat) (v : Value) (l : List Nat) (N : Nat) (w : World) (h : IsL w wb B v l) (hw : Wid w) (_hN : N < 18446744073709551616) (hmax : l.length + 8 ≤ 140737488355328) :
    Calls Tryd.prog 45 #[.pointer (some ⟨wb, 0, none⟩), .int .u64 N] w fun e w' => e = .returned (.tuple #[]) ∧ ∃ v', IsL w' wb B v' (l ++ fl 8 N) ∧ Ext wb v v' w w' := by
  have hf := fixed_l wb B v l 2 N w h (by decide) hw hmax
  go_enter Tryd.func45, Tryd.ntmps45
  go_wp2_with fail
  refine hf.mono ?_
  rintro e w1 ⟨rfl, v1, h1, hE1⟩
  go_wp2_with fail
  go_end0
  exact ⟨rfl, v1, h1, hE1⟩
end Go.Proofs.YtbmdnlomhnodeabDoor
