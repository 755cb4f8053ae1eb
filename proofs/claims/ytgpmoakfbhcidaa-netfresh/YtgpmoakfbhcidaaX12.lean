/- NetExact: the calls one behind the other; the law. -/
import Derived.Test.YtgpmoakfbhcidaaX11
namespace Go.Proofs.Ytgpmoakfbhcidaa
open Go.RowKit
set_option maxRecDepth 100000
set_option maxRecDepth 100000

/-- One call, as it is handed in. -/
structure NOp where
  dd : Int
  wh : Int
  at' : Int
  to' : Int
  ba : Option Addr
  bl : Nat
  bc : Nat
  y : Nat → Nat
def NOp.cells (o : NOp) : List Value := [.int .i64 o.dd, .int .i64 o.wh, .int .i64 o.at', .int .i64 o.to', .slice o.ba o.bl o.bc]
def NOp.ok (W : World) (o : NOp) : Prop := Byt W o.ba o.bl o.y ∧ (o.ba = none → o.bl = 0 ∧ o.bc = 0) ∧ o.bl ≤ 140737488351232 ∧ ∀ j, j < o.bl → o.y j < 256
def NOpsIn (W : World) (a : Option Addr) (L : List NOp) : Prop := ∀ i o, L[i]? = some o → ∃ b off, a = some ⟨b, off, none⟩ ∧ ∀ (j : Nat) (v : Value), o.cells[j]? = some v → W.cell? ⟨b, off + i * 5 + j, none⟩ = some v
theorem NOpsIn.on {W W' : World} {a : Option Addr} {L : List NOp} (h : NOpsIn W a L) (hb : Below W.heap.size W W') : NOpsIn W' a L := fun i o ho => by
  obtain ⟨b, off, e, hc⟩ := h i o ho
  exact ⟨b, off, e, fun j v hj => cel_on hb (hc j v hj)⟩
theorem NOp.ok.on {W W' : World} {o : NOp} (h : o.ok W) (hb : Below W.heap.size W W') : o.ok W' := ⟨h.1.on hb, h.2⟩
theorem row3_alloc (w : World) (a b c : Value) (t : TypeId) : (w.alloc (.cells #[a, b, c] t)).rowIs w.heap.size t 3 (fun i => (#[a, b, c])[i]!) :=
  World.rowIs_alloc w _ _ _ (fun i hi => by rw [getElem!_pos _ i hi, Array.getElem?_eq_getElem hi])
/-- The Book's object, as it is built. -/
def bookZ : Array Value := #[.slice none 0 0, .slice none 0 0, .int .i64 0, .slice none 0 0, .slice none 0 0, .int .i64 0, .slice none 0 0, .slice none 0 0, .int .i64 0, .slice none 0 0, .slice none 0 0, .int .i64 0, .slice none 0 0, .slice none 0 0, .int .i64 0, .slice none 0 0, .slice none 0 0, .int .i64 0, .slice none 0 0, .slice none 0 0, .int .i64 0, .slice none 0 0, .slice none 0 0, .int .i64 0, .slice none 0 0, .slice none 0 0, .int .i64 0, .slice none 0 0, .slice none 0 0, .int .i64 0, .slice none 0 0, .slice none 0 0, .int .i64 0, .slice none 0 0, .slice none 0 0, .int .i64 0, .int .i64 0, .int .i64 0, .int .i64 0]
theorem bookZ_at : ∀ i, i < 39 → bookZ[i]? = some (book0 i)
  | 0, _ => rfl
  | 1, _ => rfl
  | 2, _ => rfl
  | 3, _ => rfl
  | 4, _ => rfl
  | 5, _ => rfl
  | 6, _ => rfl
  | 7, _ => rfl
  | 8, _ => rfl
  | 9, _ => rfl
  | 10, _ => rfl
  | 11, _ => rfl
  | 12, _ => rfl
  | 13, _ => rfl
  | 14, _ => rfl
  | 15, _ => rfl
  | 16, _ => rfl
  | 17, _ => rfl
  | 18, _ => rfl
  | 19, _ => rfl
  | 20, _ => rfl
  | 21, _ => rfl
  | 22, _ => rfl
  | 23, _ => rfl
  | 24, _ => rfl
  | 25, _ => rfl
  | 26, _ => rfl
  | 27, _ => rfl
  | 28, _ => rfl
  | 29, _ => rfl
  | 30, _ => rfl
  | 31, _ => rfl
  | 32, _ => rfl
  | 33, _ => rfl
  | 34, _ => rfl
  | 35, _ => rfl
  | 36, _ => rfl
  | 37, _ => rfl
  | 38, _ => rfl
  | n + 39, h => by omega
theorem book_row (w : World) : (w.alloc (.cells #[.slice none 0 0, .slice none 0 0, .int .i64 0, .slice none 0 0, .slice none 0 0, .int .i64 0, .slice none 0 0, .slice none 0 0, .int .i64 0, .slice none 0 0, .slice none 0 0, .int .i64 0, .slice none 0 0, .slice none 0 0, .int .i64 0, .slice none 0 0, .slice none 0 0, .int .i64 0, .slice none 0 0, .slice none 0 0, .int .i64 0, .slice none 0 0, .slice none 0 0, .int .i64 0, .slice none 0 0, .slice none 0 0, .int .i64 0, .slice none 0 0, .slice none 0 0, .int .i64 0, .slice none 0 0, .slice none 0 0, .int .i64 0, .slice none 0 0, .slice none 0 0, .int .i64 0, .int .i64 0, .int .i64 0, .int .i64 0] 44)).rowIs w.heap.size 44 39 book0 :=
  World.rowIs_alloc w bookZ _ _ (fun i hi => by
    have hi : i < 39 := hi
    exact bookZ_at i hi)
/-- An operation that yields a value in whatever world, by its run. -/
theorem oper_run {P : Program} {o : Oper} {a : Act} {w : World} {K : Act → World → Prop} {Q : Exit → Act → World → Prop} (v : Value) (hrun : (execOp a.eval o).run P w = .ok (.value v) w) (h : K (a.put o.dst v) w) : Oper.wp P o a w K Q := by
  unfold Oper.wp
  rw [hrun]
  exact h
/-- The state of play's loop. -/
structure PlS (W0 w : World) (sb bk L : Nat) : Prop where
  st : ∃ P nv vv F, StIs w W0.heap.size sb bk false P nv vv F ∧ LostLe P L
  bk : w.rowIs bk 44 39 book0
  below : Below W0.heap.size W0 w
theorem PlS.on {W0 w w' : World} {sb bk L : Nat} (h : PlS W0 w sb bk L) (hb : Below w.heap.size w w') : PlS W0 w' sb bk L := by
  obtain ⟨P, nv, vv, F, h1, h2⟩ := h.st
  exact ⟨⟨P, nv, vv, F, h1.on hb, h2⟩, h.bk.of_block (hb.block bk h.bk.lt), h.below.trans (hb.mono h.below.size)⟩
theorem StIs.nbk {w : World} {B sb bk : Nat} {mark : Bool} {P : Nat → Option PM} {nv vv : Nat → Value} {F : Nat → Nat → Prop} (h : StIs w B sb bk mark P nv vv F) {f : Nat → Value} {n : Nat} (hr : w.rowIs bk 44 n f) : ¬ SFt sb F bk := fun e => by
  rcases e with e | ⟨k, hk, e⟩
  · exact rowIs_apart hr h.row (by decide) e
  · exact (h.pair k hk).not hr (by decide) (by decide) (by decide) (by decide) (by decide) e
theorem PlS.turn {W0 w w' : World} {sb bk L : Nat} {P P' : Nat → Option PM} {nv nv' vv vv' : Nat → Value} {F F' : Nat → Nat → Prop} (h : PlS W0 w sb bk L) (hs : StIs w W0.heap.size sb bk false P nv vv F) {L' : Nat} (hs' : StIs w' W0.heap.size sb bk false P' nv' vv' F') (hM : Mv (SFt sb F) (SFt sb F') w w') (hl : LostLe P' L') : PlS W0 w' sb bk L' :=
  ⟨⟨P', nv', vv', F', hs', hl⟩, h.bk.of_block (hM.block bk h.bk.lt (hs.nbk h.bk)), hM.below h.below h.below.size (fun q hq => (hs.ge q hq).1)⟩
theorem PlS.fresh {W0 w : World} {sb bk L : Nat} (h : PlS W0 w sb bk L) (k : Nat) (hk : k < 2) (r : Int) :
    Calls Try.prog 6 #[.pointer (some ⟨sb, 0, none⟩), .int .i64 (k : Nat), .int .i64 r] w fun e w' => e = .returned (.bool true) ∧ PlS W0 w' sb bk L := by
  obtain ⟨P, nv, vv, F, hs, hl⟩ := h.st
  refine (fresh_any hs h.below.size k hk r).mono fun e w' ⟨he, nv', vv', F', h1, h2⟩ => ⟨he, h.turn hs h1 h2 (fun j m hj e => ?_)⟩
  by_cases e2 : j = k
  · rw [e2, upd_at] at e
    unfold newP at e
    split at e
    · rw [← Option.some.inj e]; exact Nat.zero_le _
    · cases e
  · rw [upd_ne _ _ _ e2] at e
    exact hl j m hj e
theorem PlS.plays {W0 w : World} {sb bk L : Nat} (h : PlS W0 w sb bk L) (hl1 : L ≤ 1000) (o : NOp) (ho : o.ok W0) :
    Calls Try.prog 7 #[.pointer (some ⟨sb, 0, none⟩), .agg #[.int .i64 o.dd, .int .i64 o.wh, .int .i64 o.at', .int .i64 o.to', .slice o.ba o.bl o.bc]] w fun e w' => e = .returned (.bool true) ∧ PlS W0 w' sb bk (L + 1) := by
  obtain ⟨P, nv, vv, F, hs, hl⟩ := h.st
  exact (plays_any hs h.below hl hl1 o.dd o.wh o.at' o.to' o.ba o.bl o.bc o.y ho.1 ho.2.1 ho.2.2.1 ho.2.2.2).mono fun e w' ⟨he, P', nv', vv', F', h1, h2, h3⟩ => ⟨he, h.turn hs h1 h2 h3⟩
theorem PlS.look {W0 w : World} {sb bk L : Nat} (h : PlS W0 w sb bk L) :
    Calls Try.prog 8 #[.pointer (some ⟨bk, 0, none⟩)] w fun e w' => e = .returned (.bool true) ∧ PlS W0 w' sb bk L :=
  (book_look0 bk w h.bk).mono fun e w' ⟨he, q, e2⟩ => ⟨he, by rw [e2]; exact h.on (below_dN (Below.refl _ _) q)⟩
theorem PlS.all {W0 w : World} {sb bk L : Nat} (h : PlS W0 w sb bk L) (k : Nat) (hk : k < 2) :
    Calls Try.prog 9 #[.pointer (some ⟨sb, 0, none⟩), .int .i64 (k : Nat)] w fun e w' => e = .returned (.bool true) ∧ PlS W0 w' sb bk L := by
  obtain ⟨P, nv, vv, F, hs, hl⟩ := h.st
  exact (all_any hs k hk).mono fun e w' ⟨he, hb⟩ => ⟨he, h.on hb⟩
theorem PlS.c4 {W0 w : World} {sb bk L : Nat} (h : PlS W0 w sb bk L) : w.cell? ⟨sb, 4, none⟩ = some (.pointer (some ⟨bk, 0, none⟩)) := by
  obtain ⟨P, nv, vv, F, hs, hl⟩ := h.st
  exact hs.row.cell (i := 4) (by decide)
theorem row6_alloc (w : World) (a b c d e f : Value) (t : TypeId) : (w.alloc (.cells #[a, b, c, d, e, f] t)).rowIs w.heap.size t 6 (fun i => (#[a, b, c, d, e, f])[i]!) :=
  World.rowIs_alloc w _ _ _ (fun i hi => by rw [getElem!_pos _ i hi, Array.getElem?_eq_getElem hi])
/-- The stage at its begin. -/
theorem stage_new (W0 W1 : World) (hb : Below W0.heap.size W0 W1) (bk : Nat) (mark : Bool) : StIs (W1.alloc (.cells #[.pointer none, .pointer none, .pointer none, .pointer none, .pointer (some ⟨bk, 0, none⟩), .bool mark] 50)) W0.heap.size W1.heap.size bk mark (fun _ => none) (fun _ => .pointer none) (fun _ => .pointer none) (fun _ _ => False) := by
  refine ⟨(row6_alloc W1 _ _ _ _ _ _ _).congr (fun i hi => ?_), fun k _ => ⟨rfl, rfl, fun _ hf => hf⟩, fun _ _ _ _ _ _ hf => hf.elim, hb.size⟩
  match i, hi with
  | 0, _ => rfl
  | 1, _ => rfl
  | 2, _ => rfl
  | 3, _ => rfl
  | 4, _ => rfl
  | 5, _ => rfl

set_option maxHeartbeats 6400000 in
theorem play_false (r0 r1 : Int) (oa : Option Addr) (oc : Nat) (L : List NOp) (w : World) (hO : NOpsIn w oa L) (hK : ∀ o ∈ L, o.ok w) :
    Calls Try.prog 4 #[.agg #[.int .i64 r0, .int .i64 r1, .slice oa L.length oc], .bool false] w fun e w' => e = .returned (.bool true) ∧ Below w.heap.size w w' := by
  obtain ⟨W0, HW0⟩ : ∃ W, Hid (w.alloc (.cells #[.int .i64 r0, .int .i64 r1, .slice oa L.length oc] 25) = W) := ⟨_, rfl⟩
  have hb0 : Below w.heap.size w W0 := by rw [← HW0.out]; exact (Below.refl _ _).alloc (Nat.le_refl _) _
  have hr0 := row3_alloc w (.int .i64 r0) (.int .i64 r1) (.slice oa L.length oc) 25
  rw [HW0.out] at hr0
  have HB0 : Hid (Below w.heap.size w W0) := hb0
  have HO : Hid (NOpsIn W0 oa L ∧ ∀ o ∈ L, o.ok W0) := ⟨hO.on hb0, fun o ho => (hK o ho).on hb0⟩
  obtain ⟨N, HN⟩ : ∃ N, Hid (L.length = N) := ⟨_, rfl⟩
  rw [HN.out] at hr0 HW0 ⊢
  have HC : Hid (∀ W, Below W0.heap.size W0 W → W.cell? ⟨w.heap.size, 0, none⟩ = some (.int .i64 r0) ∧ W.cell? ⟨w.heap.size, 1, none⟩ = some (.int .i64 r1) ∧ W.cell? ⟨w.heap.size, 2, none⟩ = some (.slice oa N oc)) := fun W hb => by
    have := hr0.of_block (hb.block w.heap.size hr0.lt)
    exact ⟨this.cell (i := 0) (by decide), this.cell (i := 1) (by decide), this.cell (i := 2) (by decide)⟩
  clear hO hK hb0 hr0
  go_enter Try.func4, Try.ntmps4
  go_upto_region 1 with fail
  rw [HW0.out]
  go_wp2_with fail
  refine oper_run (.agg #[.slice none 0 0, .slice none 0 0, .int .i64 0, .slice none 0 0, .slice none 0 0, .int .i64 0, .slice none 0 0, .slice none 0 0, .int .i64 0, .slice none 0 0, .slice none 0 0, .int .i64 0, .slice none 0 0, .slice none 0 0, .int .i64 0, .slice none 0 0, .slice none 0 0, .int .i64 0, .slice none 0 0, .slice none 0 0, .int .i64 0, .slice none 0 0, .slice none 0 0, .int .i64 0, .slice none 0 0, .slice none 0 0, .int .i64 0, .slice none 0 0, .slice none 0 0, .int .i64 0, .slice none 0 0, .slice none 0 0, .int .i64 0, .slice none 0 0, .slice none 0 0, .int .i64 0, .int .i64 0, .int .i64 0, .int .i64 0]) (by kernel_rfl) ?_
  obtain ⟨W1, HW1⟩ : ∃ W, Hid (W0.alloc (.cells #[.slice none 0 0, .slice none 0 0, .int .i64 0, .slice none 0 0, .slice none 0 0, .int .i64 0, .slice none 0 0, .slice none 0 0, .int .i64 0, .slice none 0 0, .slice none 0 0, .int .i64 0, .slice none 0 0, .slice none 0 0, .int .i64 0, .slice none 0 0, .slice none 0 0, .int .i64 0, .slice none 0 0, .slice none 0 0, .int .i64 0, .slice none 0 0, .slice none 0 0, .int .i64 0, .slice none 0 0, .slice none 0 0, .int .i64 0, .slice none 0 0, .slice none 0 0, .int .i64 0, .slice none 0 0, .slice none 0 0, .int .i64 0, .slice none 0 0, .slice none 0 0, .int .i64 0, .int .i64 0, .int .i64 0, .int .i64 0] 44) = W) := ⟨_, rfl⟩
  have hbkr := book_row W0
  rw [HW1.out] at hbkr
  have hb1 : Below W0.heap.size W0 W1 := by rw [← HW1.out]; exact (Below.refl _ _).alloc (Nat.le_refl _) _
  have hst := stage_new W0 W1 hb1 W0.heap.size false
  obtain ⟨W2, HW2⟩ : ∃ W, Hid (W1.alloc (.cells #[.pointer none, .pointer none, .pointer none, .pointer none, .pointer (some ⟨W0.heap.size, 0, none⟩), .bool false] 50) = W) := ⟨_, rfl⟩
  rw [HW2.out] at hst
  have hb2 : Below W1.heap.size W1 W2 := by rw [← HW2.out]; exact (Below.refl _ _).alloc (Nat.le_refl _) _
  have hS2 : PlS W0 W2 W1.heap.size W0.heap.size 0 := ⟨⟨_, _, _, _, hst, fun j m _ e => by cases e⟩, hbkr.of_block (hb2.block _ hbkr.lt), hb1.trans (hb2.mono hb1.size)⟩
  have hz1 : W1.heap.size = W0.heap.size + 1 := by rw [← HW1.out]; simp
  rw [hz1] at hS2
  obtain ⟨sb, Hsb⟩ : ∃ x, Hid (W0.heap.size + 1 = x) := ⟨_, rfl⟩
  obtain ⟨bk, Hbk⟩ : ∃ x, Hid (W0.heap.size = x) := ⟨_, rfl⟩
  clear hbkr hb1 hst hb2 hz1
  go_upto_region 2 with fail
  rw [HW1.out]
  rw [HW2.out]
  rw [Hsb.out, Hbk.out] at hS2
  rw [Hsb.out]
  obtain ⟨x0, x1, x2⟩ := HC.out W2 hS2.below
  have hf0 := hS2.fresh 0 (by decide) r0
  clear hS2
  go_wp2_with fail
  refine hf0.mono ?_
  rintro e w3 ⟨rfl, hS3⟩
  obtain ⟨y0, y1, y2⟩ := HC.out w3 hS3.below
  have hf1 := hS3.fresh 1 (by decide) r1
  clear hf0 hS3 x0 x1 x2
  go_wp2_with fail
  refine hf1.mono ?_
  rintro e w4 ⟨rfl, hS4⟩
  clear hf1 y0 y1 y2
  go_wp2_with fail
  go_loopg [6] 400 (fun q s6 wx => ∃ (i : Nat), i ≤ 400 ∧ q = 400 - i ∧ s6 = .int .i64 (i : Nat) ∧ PlS W0 wx sb bk i)
  case atStart => exact ⟨0, by decide, rfl, rfl, hS4⟩
  case round =>
    clear hS4
    obtain ⟨i, hi, rfl, rfl, hS⟩ := hrel
    obtain ⟨y0, y1, y2⟩ := HC.out wr hS.below
    by_cases hlt : i < N ∧ i < 400
    · have hz1 : (i : Int) < (N : Int) := by omega
      have hz2 : (i : Int) < 400 := by omega
      have hwi : IntKind.i64.wrap ((i : Int) + 1) = (i : Int) + 1 := by rw [IntKind.wrap_i64]; omega
      obtain ⟨o, ho⟩ : ∃ o, L[i]? = some o := ⟨_, List.getElem?_eq_getElem (by rw [HN.out]; omega)⟩
      obtain ⟨b, off, rfl, hc⟩ := (HO.out.1.on hS.below) i o ho
      have q0 : wr.cell? ⟨b, off + i * 5, none⟩ = some (.int .i64 o.dd) := hc 0 _ rfl
      have q1 : wr.cell? ⟨b, off + i * 5 + 1, none⟩ = some (.int .i64 o.wh) := hc 1 _ rfl
      have q2 : wr.cell? ⟨b, off + i * 5 + 2, none⟩ = some (.int .i64 o.at') := hc 2 _ rfl
      have q3 : wr.cell? ⟨b, off + i * 5 + 3, none⟩ = some (.int .i64 o.to') := hc 3 _ rfl
      have q4 : wr.cell? ⟨b, off + i * 5 + 4, none⟩ = some (.slice o.ba o.bl o.bc) := hc 4 _ rfl
      have hpl := hS.plays (by omega) o (HO.out.2 o (List.mem_of_getElem? ho))
      clear hc ho hS y0 y1
      go_wp2_with fail
      refine hpl.mono ?_
      rintro e w5 ⟨rfl, hS5⟩
      have c4 := hS5.c4
      have hlk := hS5.look
      clear hpl hS5 q0 q1 q2 q3 q4 y2
      go_wp2_with fail
      refine hlk.mono ?_
      rintro e w6 ⟨rfl, hS6⟩
      clear hlk c4
      go_wp2_with fail
      go_roundg (400 - (i + 1))
      case measure => go_light; omega
      case rel => go_light; exact ⟨i + 1, by omega, rfl, by simp, hS6⟩
    · have hne : (¬ (i : Int) < (N : Int)) ∨ ((i : Int) < (N : Int) ∧ ¬ (i : Int) < 400) := by omega
      have ha0 := hS.all 0 (by decide)
      clear hS hlt y0 y1
      rcases hne with hz | ⟨hz, hz2⟩
      all_goals
        go_wp2_with fail
        refine ha0.mono ?_
        rintro e w5 ⟨rfl, hS5⟩
        have ha1 := hS5.all 1 (by decide)
        clear hS5 ha0
        go_wp2_with fail
        refine ha1.mono ?_
        rintro e w6 ⟨rfl, hS6⟩
        have hlv := lives_any w6
        have HB6 : Hid (Below W0.heap.size W0 w6) := hS6.below
        clear hS6 ha1
        go_wp2_with fail
        refine hlv.mono ?_
        rintro e w7 ⟨rfl, hb7⟩
        have HE : Hid (Below w.heap.size w w7) := by
          have h1 := HB6.out.trans (hb7.mono HB6.out.size)
          exact HB0.out.trans (h1.mono HB0.out.size)
        clear hlv hb7
        go_wp2_with fail
        go_ret
        exact ⟨rfl, HE.out⟩
end Go.Proofs.Ytgpmoakfbhcidaa
