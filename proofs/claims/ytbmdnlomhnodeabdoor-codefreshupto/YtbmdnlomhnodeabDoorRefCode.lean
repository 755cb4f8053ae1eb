/- The walks of the reference's writes: fixed, U8, U32, U64, Var, Text, and of Cmp and Eq. -/
import Derived.Test.YtbmdnlomhnodeabDoorWrites1
import Derived.Test.YtbmdnlomhnodeabDoorOther
namespace Go.Proofs.YtbmdnlomhnodeabDoor
open Go.RowKit
set_option maxRecDepth 100000

/-- A slice of the call's own that holds this list of bytes. -/
def OwnL (w : World) (B : Nat) (v : Value) (l : List Nat) : Prop := Own w B v l.length (fun j => l.getD j 0)
theorem own_since {w w' : World} {B : Nat} {v : Value} {n : Nat} {x : Nat → Nat} (h : Own w B v n x) (hx : w.Since w.heap.size w') : Own w' B v n x := by
  refine ⟨h.1, ?_⟩
  rcases h.2 with h1 | ⟨g, cap, cur, e, hb, hh, r⟩
  · exact Or.inl h1
  · exact Or.inr ⟨g, cap, cur, e, hb, by rw [hx.block g (by
      rcases Nat.lt_or_ge g w.heap.size with h | h
      · exact h
      · rw [Array.getElem?_eq_none h] at hh; cases hh)]; exact hh, r⟩
theorem own_lower {w : World} {B B' : Nat} {v : Value} {n : Nat} {x : Nat → Nat} (h : Own w B v n x) (hB : B' ≤ B) : Own w B' v n x := by
  refine ⟨h.1, ?_⟩
  rcases h.2 with h1 | ⟨g, cap, cur, e, hb, r⟩
  · exact Or.inl h1
  · exact Or.inr ⟨g, cap, cur, e, Nat.le_trans hB hb, r⟩
theorem own_byt {w : World} {B : Nat} {v : Value} {n : Nat} {x : Nat → Nat} (h : Own w B v n x) : ∃ a c, v = .slice a n c ∧ Byt w a n x ∧ (a = none → n = 0 ∧ c = 0) := by
  rcases Nat.eq_zero_or_pos n with rfl | hp
  · rcases h.2 with ⟨rfl, _⟩ | ⟨g, cap, cur, rfl, _⟩
    · exact ⟨none, 0, rfl, fun j hj => by omega, fun _ => ⟨rfl, rfl⟩⟩
    · exact ⟨_, cap, rfl, fun j hj => by omega, fun e => by cases e⟩
  · obtain ⟨g, cap, f, rfl, _, hc, hrow, hf⟩ := own_row h hp
    exact ⟨_, cap, rfl, fun j hj => ⟨g, 0, rfl, by rw [Nat.zero_add, hrow.cell (by omega), hf j hj]⟩, fun e => by cases e⟩
theorem ownL_add {w : World} {B : Nat} {v : Value} {l r : List Nat} {n : Nat} {y : Nat → Nat} (h : Own w B v (l.length + n) (cat (fun j => l.getD j 0) l.length y)) (hr : r.length = n) (e : ∀ j, j < n → y j = r.getD j 0) : OwnL w B v (l ++ r) := by
  subst hr
  show Own w B v (l ++ r).length _
  rw [List.length_append]
  refine own_congr h (fun j hj => ?_)
  unfold cat
  by_cases h1 : j < l.length
  · rw [if_pos h1]
    show l.getD j 0 = (l ++ r).getD j 0
    rw [List.getD_eq_getElem?_getD, List.getD_eq_getElem?_getD, List.getElem?_append_left h1]
  · rw [if_neg h1, e _ (by omega), List.getD_eq_getElem?_getD, List.getD_eq_getElem?_getD, List.getElem?_append_right (by omega)]
/-- append of bytes onto such a slice. -/
theorem app_l {w : World} {B : Nat} {v : Value} {l : List Nat} (h : OwnL w B v l) (a : Option Addr) (m c : Nat) (y : Nat → Nat) (hb : Byt w a m y) (ha : a = none → m = 0 ∧ c = 0) (hmax : l.length + m ≤ 140737488355328) (hB : B ≤ w.heap.size) :
    ∃ v' w', (Builtin.append_ #[22, 22] 22 #[v, .slice a m c]).run Tryd.prog w = .ok v' w' ∧ OwnL w' B v' (l ++ (List.range m).map y) ∧ w.grownBy w' v.ownBlock ∧ (v'.ownBlock = v.ownBlock ∨ v'.ownBlock = some w.heap.size) := by
  obtain ⟨v', w', hr, ho, hg, hl⟩ := app_at w B v _ _ h a m c y hb ha hmax hB
  exact ⟨v', w', hr, ownL_add ho (by simp) (fun j hj => (getD_range_map y m j hj).symm), hg, hl⟩
theorem range_getD (l : List Nat) : (List.range l.length).map (fun j => l.getD j 0) = l := by
  apply List.ext_getElem?
  intro j
  by_cases h : j < l.length
  · simp [h]
  · simp [h]
theorem app_ll {w : World} {B B2 : Nat} {v v2 : Value} {l r : List Nat} (h : OwnL w B v l) (h2 : OwnL w B2 v2 r) (hmax : l.length + r.length ≤ 140737488355328) (hB : B ≤ w.heap.size) :
    ∃ v' w', (Builtin.append_ #[22, 22] 22 #[v, v2]).run Tryd.prog w = .ok v' w' ∧ OwnL w' B v' (l ++ r) ∧ w.grownBy w' v.ownBlock ∧ (v'.ownBlock = v.ownBlock ∨ v'.ownBlock = some w.heap.size) := by
  obtain ⟨a, c, rfl, hb, ha⟩ := own_byt h2
  have := app_l h a _ c _ hb ha hmax hB
  rwa [range_getD] at this
theorem row_one (w : World) (c : Nat) : (w.alloc (.cells #[.int .u8 (c : Nat)] 5)).rowIs w.heap.size 5 1 (fun _ => .int .u8 (c : Nat)) :=
  ⟨#[.int .u8 (c : Nat)], by show (w.heap.push _)[w.heap.size]? = _; simp, rfl, fun i hi => by
    have e : i = 0 := by omega
    subst e; rfl⟩
theorem own_one (w : World) (c : Nat) : OwnL (w.alloc (.cells #[.int .u8 (c : Nat)] 5)) w.heap.size (.slice (some ⟨w.heap.size, 0, none⟩) 1 1) [c] :=
  own_of_row (row_one w c) (Nat.le_refl _) (Nat.le_refl _) (by unfold maxLen; omega) (fun j hj => by
    have e : j = 0 := by simp at hj; omega
    subst e; rfl)

/-- THE LOOP OF THE REFERENCE'S fixed: the bytes from q on are laid. -/
structure Fill (w wr : World) (W N q : Nat) : Prop where
  since : w.Since w.heap.size wr
  row : wr.rowIs w.heap.size 5 W (fun j => if q ≤ j then .int .u8 (N / 256 ^ (W - 1 - j) % 256 : Nat) else .int .u8 0)
theorem fill_step {w wr : World} {W N q : Nat} (h : Fill w wr W N (q + 1)) (C : Nat) (hC : C = N / 256 ^ (W - 1 - q) % 256) : Fill w (wr.setCell ⟨w.heap.size, q, none⟩ (.int .u8 (C : Nat))) W N q :=
  ⟨h.since.setCell (a := ⟨w.heap.size, q, none⟩) (Nat.le_refl _) _, (h.row.set q _).congr (fun j _ => by
    by_cases e : j = q
    · subst e; rw [if_pos rfl, if_pos (Nat.le_refl _), hC]
    · rw [if_neg e]
      by_cases h2 : q + 1 ≤ j
      · rw [if_pos h2, if_pos (by omega)]
      · rw [if_neg h2, if_neg (by omega)])⟩

set_option maxHeartbeats 800000 in
theorem reffixed (N W : Nat) (w : World) (hN : N < 18446744073709551616) (hW : W ≤ 8) :
    Calls Tryd.prog 70 #[.int .u64 N, .int .i64 W] w fun e w' => ∃ v, e = .returned v ∧ w.Since w.heap.size w' ∧ OwnL w' w.heap.size v (fl W N) := by
  have hmk := run_make_row' (P := Tryd.prog) 22 5 (.int .u8 0) 1 Tryd.underlying22 Tryd.info5 rfl .i64 .i64 W (by omega) (by omega) w
  have hF0 : Fill w (w.alloc (.cells (madeCells #[.int .u8 0] W) 5)) W N W := ⟨(World.Since.refl _ _).alloc (Nat.le_refl _) _, (World.rowIs_made w (.int .u8 0) W 5).congr (fun j hj => by rw [if_neg (by omega)])⟩
  generalize w.alloc (.cells (madeCells #[.int .u8 0] W) 5) = W0 at *
  go_enter Tryd.func70, Tryd.ntmps70
  go_wp2_with fail
  go_loopg [0, 6] W (fun q s0 s6 wx => q ≤ W ∧ s6 = .int .i64 ((q : Int) - 1) ∧ ∃ D : Nat, s0 = .int .u64 D ∧ D < 18446744073709551616 ∧ D = N / 256 ^ (W - q) ∧ Fill w wx W N q)
  case atStart => exact ⟨Nat.le_refl _, by go_num, N, rfl, hN, by simp, hF0⟩
  case round =>
    obtain ⟨hq, rfl, D, rfl, hD, hDe, hF⟩ := hrel
    clear hF0 hmk
    cases gk with
    | succ q =>
      rw [show (((q + 1 : Nat) : Int) - 1) = (q : Int) by omega]
      obtain ⟨C, hC⟩ : ∃ C : Nat, C = D % 256 := ⟨_, rfl⟩
      obtain ⟨E, hE⟩ : ∃ E : Nat, E = D / 256 := ⟨_, rfl⟩
      have hst := fill_step hF C (by rw [hC, hDe, show W - (q + 1) = W - 1 - q by omega])
      have hE2 : E = N / 256 ^ (W - q) := by
        rw [hE, hDe, show W - q = W - (q + 1) + 1 by omega, Nat.pow_succ, Nat.div_div_eq_div_mul]
      have u1 : (D : Int) % 256 = (C : Int) := by omega
      have u2 : (D : Int) / 256 = (E : Int) := by omega
      have hClt : C < 256 := by omega
      have hElt : E < 18446744073709551616 := by omega
      have t1 : wr.cell? ⟨w.heap.size, q, none⟩ = some (.int .u8 0) := by rw [hF.row.cell (by omega), if_neg (by omega)]
      have t2 := hF.row.frozen q
      have kz : (q : Int) < (W : Int) := by omega
      have HE := hide hE2
      clear hC hE hE2 hDe hF
      go_wp2_with fail
      go_roundg q
      case measure => go_light; omega
      case rel => go_light; exact ⟨by omega, by go_num, E, rfl, hElt, unhide HE, hst⟩
    | zero =>
      rw [show (((0 : Nat) : Int) - 1) = -1 by decide]
      have hlen : (fl W N).length = W := by simp [fl]
      have hfin : OwnL wr w.heap.size (.slice (some ⟨w.heap.size, 0, none⟩) W W) (fl W N) := by
        show Own _ _ _ (fl W N).length _
        rw [hlen]
        exact own_of_row hF.row (Nat.le_refl _) (Nat.le_refl _) (by unfold maxLen; omega) (fun j hj => by
          rw [if_pos (Nat.zero_le _)]; unfold fl; rw [getD_range_map _ _ _ hj])
      have hs := hF.since
      clear hF hDe
      go_wp2_with fail
      go_ret
      exact ⟨_, rfl, hs, hfin⟩
theorem refu8 (N : Nat) (w : World) (hN : N < 256) : Calls Tryd.prog 60 #[.int .u8 N] w fun e w' => ∃ v, e = .returned v ∧ w.Since w.heap.size w' ∧ OwnL w' w.heap.size v (fl 1 N) := by
  have hf := reffixed N 1 w (by omega) (by decide)
  go_enter Tryd.func60, Tryd.ntmps60
  go_wp2_with fail
  refine hf.mono ?_
  rintro e w1 ⟨v, rfl, h1, h2⟩
  go_wp2_with fail
  go_ret
  exact ⟨_, rfl, h1, h2⟩
theorem refu32 (N : Nat) (w : World) (hN : N < 4294967296) : Calls Tryd.prog 61 #[.int .u32 N] w fun e w' => ∃ v, e = .returned v ∧ w.Since w.heap.size w' ∧ OwnL w' w.heap.size v (fl 4 N) := by
  have hf := reffixed N 4 w (by omega) (by decide)
  go_enter Tryd.func61, Tryd.ntmps61
  go_wp2_with fail
  refine hf.mono ?_
  rintro e w1 ⟨v, rfl, h1, h2⟩
  go_wp2_with fail
  go_ret
  exact ⟨_, rfl, h1, h2⟩
theorem refu64 (N : Nat) (w : World) (hN : N < 18446744073709551616) : Calls Tryd.prog 62 #[.int .u64 N] w fun e w' => ∃ v, e = .returned v ∧ w.Since w.heap.size w' ∧ OwnL w' w.heap.size v (fl 8 N) := by
  have hf := reffixed N 8 w (by omega) (by decide)
  go_enter Tryd.func62, Tryd.ntmps62
  go_wp2_with fail
  refine hf.mono ?_
  rintro e w1 ⟨v, rfl, h1, h2⟩
  go_wp2_with fail
  go_ret
  exact ⟨_, rfl, h1, h2⟩

set_option maxHeartbeats 800000 in
set_option maxRecDepth 100000 in
theorem refvar : ∀ (f N : Nat) (w : World), N < 128 ^ (f + 1) → N < 18446744073709551616 → f ≤ 9 → Calls Tryd.prog 59 #[.int .u64 N] w fun e w' => ∃ v, e = .returned v ∧ w.Since w.heap.size w' ∧ OwnL w' w.heap.size v (vl f N) := by
  intro f
  induction f with
  | zero =>
    intro N w h1 h2 _
    have hlt : N < 128 := by simpa using h1
    have hs : w.Since w.heap.size (w.alloc (.cells #[.int .u8 (N : Nat)] 5)) := (World.Since.refl _ _).alloc (Nat.le_refl _) _
    have ho : OwnL (w.alloc (.cells #[.int .u8 (N : Nat)] 5)) w.heap.size (.slice (some ⟨w.heap.size, 0, none⟩) 1 1) (vl 0 N) := by
      have := own_one w N
      rw [show vl 0 N = [N] by rw [vl, Nat.mod_eq_of_lt (by omega)]]; exact this
    clear h1
    go_enter Tryd.func59, Tryd.ntmps59
    go_wp2_with fail
    go_ret
    exact ⟨_, rfl, hs, ho⟩
  | succ f ih =>
    intro N w h1 h2 h9
    by_cases hlt : N < 128
    · have hs : w.Since w.heap.size (w.alloc (.cells #[.int .u8 (N : Nat)] 5)) := (World.Since.refl _ _).alloc (Nat.le_refl _) _
      have ho : OwnL (w.alloc (.cells #[.int .u8 (N : Nat)] 5)) w.heap.size (.slice (some ⟨w.heap.size, 0, none⟩) 1 1) (vl (f + 1) N) := by
        have := own_one w N
        rw [show vl (f + 1) N = [N] by rw [vl, if_pos hlt]]; exact this
      clear h1 ih
      go_enter Tryd.func59, Tryd.ntmps59
      go_wp2_with fail
      go_ret
      exact ⟨_, rfl, hs, ho⟩
    · obtain ⟨C, hC⟩ : ∃ C : Nat, C = N % 128 + 128 := ⟨_, rfl⟩
      obtain ⟨E, hE⟩ : ∃ E : Nat, E = N / 128 := ⟨_, rfl⟩
      have hv : vl (f + 1) N = [C] ++ vl f E := by rw [vl, if_neg hlt, hC, hE]; rfl
      have hE1 : E < 128 ^ (f + 1) := by rw [hE]; rw [Nat.pow_succ] at h1; omega
      have hlen := vl_len f E
      have u1 : (128 : Int) + (N : Int) % 128 = (C : Int) := by omega
      have u2 : (N : Int) / 128 = (E : Int) := by omega
      have hClt : C < 256 := by omega
      have hElt : E < 18446744073709551616 := by omega
      have hs : w.Since w.heap.size (w.alloc (.cells #[.int .u8 (C : Nat)] 5)) := (World.Since.refl _ _).alloc (Nat.le_refl _) _
      have ho := own_one w C
      have hrec := ih E (w.alloc (.cells #[.int .u8 (C : Nat)] 5)) hE1 hElt (by omega)
      have HV := hide hv
      clear hC hE hE1 h1 ih hv
      go_enter Tryd.func59, Tryd.ntmps59
      go_wp2_with fail
      refine hrec.mono ?_
      rintro e w1 ⟨v1, rfl, hs1, ho1⟩
      obtain ⟨v2, w2, hr2, ho2, hg2, _⟩ := app_ll (own_since ho hs1 : OwnL w1 _ _ _) ho1 (by simp; omega) (by have := hs1.size; have := hs.size; omega)
      have hs2 := grown_since (hs.trans (since_mono hs1 hs.size)) hg2 (by have := hs1.size; have := hs.size; omega) (own_block ho)
      have H2 := hide hr2
      rw [← unhide HV] at ho2
      clear hr2 hg2 ho ho1 hs hs1
      go_wp2_with (at_builtin; refine wpList_append_eq rfl _ _ 22 rfl _ _ _ (by rfl) (by rfl) (unhide H2) ?_)
      go_ret
      exact ⟨_, rfl, hs2, ho2⟩
end Go.Proofs.YtbmdnlomhnodeabDoor
