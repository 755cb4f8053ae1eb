/- play, where all is marked. -/
import Derived.Test.YtgpmoakfbhcidaaX12
import Derived.Test.YtgpmoakfbhcidaaX10M
namespace Go.Proofs.Ytgpmoakfbhcidaa
open Go.RowKit
set_option maxRecDepth 100000
set_option maxRecDepth 100000

/-- The state of play's loop, the Book beside it. -/
structure PlM (W0 w : World) (sb bk L : Nat) : Prop where
  st : ∃ P nv vv F G, StIs w W0.heap.size sb bk true P nv vv F ∧ LostLe P L ∧ BkIs w W0.heap.size bk L G ∧ ∀ q, G q → ¬ SFt sb F q
  below : Below W0.heap.size W0 w
section
variable {W0 w w' : World} {sb bk L : Nat}
theorem PlM.on (h : PlM W0 w sb bk L) (hb : Below w.heap.size w w') : PlM W0 w' sb bk L := by
  obtain ⟨P, nv, vv, F, G, h1, h2, h3, h4⟩ := h.st
  exact ⟨⟨P, nv, vv, F, G, h1.on hb, h2, h3.on hb, h4⟩, h.below.trans (hb.mono h.below.size)⟩
theorem PlM.fresh (h : PlM W0 w sb bk L) (k : Nat) (hk : k < 2) (r : Int) :
    Calls Try.prog 6 #[.pointer (some ⟨sb, 0, none⟩), .int .i64 (k : Nat), .int .i64 r] w fun e w' => e = .returned (.bool true) ∧ PlM W0 w' sb bk L := by
  obtain ⟨P, nv, vv, F, G, hs, hl, hK, hd⟩ := h.st
  refine (fresh_any hs h.below.size k hk r).mono fun e w' ⟨he, nv', vv', F', h1, h2⟩ => ⟨he, ⟨_, nv', vv', F', G, h1, fun j m hj e => ?_, (book_mv hK hd h2).1, (book_mv hK hd h2).2.1⟩, h2.below h.below h.below.size (fun q hq => (hs.ge q hq).1)⟩
  by_cases e2 : j = k
  · rw [e2, upd_at] at e
    unfold newP at e
    split at e
    · rw [← Option.some.inj e]; exact Nat.zero_le _
    · cases e
  · rw [upd_ne _ _ _ e2] at e
    exact hl j m hj e
theorem PlM.plays (h : PlM W0 w sb bk L) (hl1 : L ≤ 1000) (o : NOp) (ho : o.ok W0) :
    Calls Try.prog 7 #[.pointer (some ⟨sb, 0, none⟩), .agg #[.int .i64 o.dd, .int .i64 o.wh, .int .i64 o.at', .int .i64 o.to', .slice o.ba o.bl o.bc]] w fun e w' => e = .returned (.bool true) ∧ PlM W0 w' sb bk (L + 1) := by
  obtain ⟨P, nv, vv, F, G, hs, hl, hK, hd⟩ := h.st
  exact (plays_mark hs h.below hl hl1 hK hd (by omega) o.dd o.wh o.at' o.to' o.ba o.bl o.bc o.y ho.1 ho.2.1 ho.2.2.1 ho.2.2.2).mono fun e w' ⟨he, P', nv', vv', F', G', h1, h2, h3, h4, h5⟩ => ⟨he, ⟨P', nv', vv', F', G', h1, h3, h4, h5⟩, h2.below h.below h.below.size (fun q hq => by
    rcases hq with e | e
    · exact (hs.ge q e).1
    · exact (hK.ge q e).1)⟩
theorem PlM.look (h : PlM W0 w sb bk L) (hl1 : L ≤ 1000) :
    Calls Try.prog 8 #[.pointer (some ⟨bk, 0, none⟩)] w fun e w' => e = .returned (.bool true) ∧ PlM W0 w' sb bk L := by
  obtain ⟨P, nv, vv, F, G, hs, hl, hK, hd⟩ := h.st
  refine (hK.look h.below.size (by omega)).mono fun e w' ⟨he, G', h1, h2⟩ => ⟨he, ⟨P, nv, vv, F, G', hs.later (fun q hq => h2.block q (hs.ge q hq).2 (fun e => hd q e hq)), hl, h1, fun q hq hf => ?_⟩, h2.below h.below h.below.size (fun q hq => (hK.ge q hq).1)⟩
  rcases h2.foot q hq with e | e
  · exact hd q e hf
  · have := (hs.ge q hf).2; omega
theorem PlM.all (h : PlM W0 w sb bk L) (k : Nat) (hk : k < 2) :
    Calls Try.prog 9 #[.pointer (some ⟨sb, 0, none⟩), .int .i64 (k : Nat)] w fun e w' => e = .returned (.bool true) ∧ PlM W0 w' sb bk L := by
  obtain ⟨P, nv, vv, F, G, hs, hl, hK, hd⟩ := h.st
  exact (all_any hs k hk).mono fun e w' ⟨he, hb⟩ => ⟨he, h.on hb⟩
theorem PlM.c4 (h : PlM W0 w sb bk L) : w.cell? ⟨sb, 4, none⟩ = some (.pointer (some ⟨bk, 0, none⟩)) := by
  obtain ⟨P, nv, vv, F, G, hs, hl, hK, hd⟩ := h.st
  exact hs.row.cell (i := 4) (by decide)
end
/-- The Book at its begin. -/
theorem book_new {w : World} {B bk : Nat} (h : w.rowIs bk 44 39 book0) (hB : B ≤ bk) : BkIs w B bk 0 (BF bk 0 (fun _ => none) (.slice none 0 0) (.slice none 0 0)) := by
  refine ⟨0, fun _ => none, fun _ => 0, fun _ => 0, fun _ => 0, .slice none 0 0, .slice none 0 0, 0, 0, 0, 0, ⟨⟨h.congr (fun i hi => ?_), ⟨rfl, .inl ⟨rfl, rfl⟩⟩, ⟨rfl, .inl ⟨rfl, rfl⟩⟩, fun i hi => absurd hi (Nat.not_lt_zero _), fun i _ hi => absurd hi (Nat.not_lt_zero _), fun i a hi => absurd hi (Nat.not_lt_zero _), fun i j a a' _ hi => absurd hi (Nat.not_lt_zero _), ⟨fun e => by simp [Value.ownBlock] at e, fun e => by simp [Value.ownBlock] at e⟩, fun k e => by simp [Value.ownBlock] at e, Nat.le_refl _, hB, fun i hi => absurd hi (Nat.not_lt_zero _)⟩, Nat.le_refl _, by omega, by omega, fun i hi => absurd hi (Nat.not_lt_zero _), fun i _ hi => absurd hi (Nat.not_lt_zero _)⟩, Nat.le_refl _, fun _ => Iff.rfl⟩
  match i, hi with
  | 0, _ => rfl
  | 1, _ => rfl
  | 2, _ => rfl
  | 3, _ => rfl
  | 4, _ => rfl
  | 5, _ => rfl
  | 6, _ => rfl
  | 7, _ => rfl
  | 8, _ => rfl
  | 9, _ => rfl
  | 10, _ => rfl
  | 11, _ => rfl
  | 12, _ => rfl
  | 13, _ => rfl
  | 14, _ => rfl
  | 15, _ => rfl
  | 16, _ => rfl
  | 17, _ => rfl
  | 18, _ => rfl
  | 19, _ => rfl
  | 20, _ => rfl
  | 21, _ => rfl
  | 22, _ => rfl
  | 23, _ => rfl
  | 24, _ => rfl
  | 25, _ => rfl
  | 26, _ => rfl
  | 27, _ => rfl
  | 28, _ => rfl
  | 29, _ => rfl
  | 30, _ => rfl
  | 31, _ => rfl
  | 32, _ => rfl
  | 33, _ => rfl
  | 34, _ => rfl
  | 35, _ => rfl
  | 36, _ => rfl
  | 37, _ => rfl
  | 38, _ => rfl
  | n + 39, h => exact absurd h (by omega)
set_option maxHeartbeats 6400000 in
theorem play_true (r0 r1 : Int) (oa : Option Addr) (oc : Nat) (L : List NOp) (w : World) (hO : NOpsIn w oa L) (hK : ∀ o ∈ L, o.ok w) :
    Calls Try.prog 4 #[.agg #[.int .i64 r0, .int .i64 r1, .slice oa L.length oc], .bool true] w fun e w' => e = .returned (.bool true) ∧ Below w.heap.size w w' := by
  obtain ⟨W0, HW0⟩ : ∃ W, Hid (w.alloc (.cells #[.int .i64 r0, .int .i64 r1, .slice oa L.length oc] 25) = W) := ⟨_, rfl⟩
  have hb0 : Below w.heap.size w W0 := by rw [← HW0.out]; exact (Below.refl _ _).alloc (Nat.le_refl _) _
  have hr0 := row3_alloc w (.int .i64 r0) (.int .i64 r1) (.slice oa L.length oc) 25
  rw [HW0.out] at hr0
  have HB0 : Hid (Below w.heap.size w W0) := hb0
  have HO : Hid (NOpsIn W0 oa L ∧ ∀ o ∈ L, o.ok W0) := ⟨hO.on hb0, fun o ho => (hK o ho).on hb0⟩
  obtain ⟨N, HN⟩ : ∃ N, Hid (L.length = N) := ⟨_, rfl⟩
  rw [HN.out] at hr0 HW0 ⊢
  have HC : Hid (∀ W, Below W0.heap.size W0 W → W.cell? ⟨w.heap.size, 0, none⟩ = some (.int .i64 r0) ∧ W.cell? ⟨w.heap.size, 1, none⟩ = some (.int .i64 r1) ∧ W.cell? ⟨w.heap.size, 2, none⟩ = some (.slice oa N oc)) := fun W hb => by
    have := hr0.of_block (hb.block w.heap.size hr0.lt)
    exact ⟨this.cell (i := 0) (by decide), this.cell (i := 1) (by decide), this.cell (i := 2) (by decide)⟩
  clear hO hK hb0 hr0
  go_enter Try.func4, Try.ntmps4
  go_upto_region 1 with fail
  rw [HW0.out]
  go_wp2_with fail
  refine oper_run (.agg #[.slice none 0 0, .slice none 0 0, .int .i64 0, .slice none 0 0, .slice none 0 0, .int .i64 0, .slice none 0 0, .slice none 0 0, .int .i64 0, .slice none 0 0, .slice none 0 0, .int .i64 0, .slice none 0 0, .slice none 0 0, .int .i64 0, .slice none 0 0, .slice none 0 0, .int .i64 0, .slice none 0 0, .slice none 0 0, .int .i64 0, .slice none 0 0, .slice none 0 0, .int .i64 0, .slice none 0 0, .slice none 0 0, .int .i64 0, .slice none 0 0, .slice none 0 0, .int .i64 0, .slice none 0 0, .slice none 0 0, .int .i64 0, .slice none 0 0, .slice none 0 0, .int .i64 0, .int .i64 0, .int .i64 0, .int .i64 0]) (by kernel_rfl) ?_
  obtain ⟨W1, HW1⟩ : ∃ W, Hid (W0.alloc (.cells #[.slice none 0 0, .slice none 0 0, .int .i64 0, .slice none 0 0, .slice none 0 0, .int .i64 0, .slice none 0 0, .slice none 0 0, .int .i64 0, .slice none 0 0, .slice none 0 0, .int .i64 0, .slice none 0 0, .slice none 0 0, .int .i64 0, .slice none 0 0, .slice none 0 0, .int .i64 0, .slice none 0 0, .slice none 0 0, .int .i64 0, .slice none 0 0, .slice none 0 0, .int .i64 0, .slice none 0 0, .slice none 0 0, .int .i64 0, .slice none 0 0, .slice none 0 0, .int .i64 0, .slice none 0 0, .slice none 0 0, .int .i64 0, .slice none 0 0, .slice none 0 0, .int .i64 0, .int .i64 0, .int .i64 0, .int .i64 0] 44) = W) := ⟨_, rfl⟩
  have hbkr := book_row W0
  rw [HW1.out] at hbkr
  have hb1 : Below W0.heap.size W0 W1 := by rw [← HW1.out]; exact (Below.refl _ _).alloc (Nat.le_refl _) _
  have hst := stage_new W0 W1 hb1 W0.heap.size true
  obtain ⟨W2, HW2⟩ : ∃ W, Hid (W1.alloc (.cells #[.pointer none, .pointer none, .pointer none, .pointer none, .pointer (some ⟨W0.heap.size, 0, none⟩), .bool true] 50) = W) := ⟨_, rfl⟩
  rw [HW2.out] at hst
  have hb2 : Below W1.heap.size W1 W2 := by rw [← HW2.out]; exact (Below.refl _ _).alloc (Nat.le_refl _) _
  have hbkr2 := hbkr.of_block (hb2.block _ hbkr.lt)
  have hS2 : PlM W0 W2 W1.heap.size W0.heap.size 0 := ⟨⟨_, _, _, _, _, hst, (fun j m _ e => by cases e), book_new hbkr2 (Nat.le_refl _), fun q hq hf => by
    rcases hq with e | e | e | ⟨i, a, hi, _⟩
    · subst e
      exact hst.nbk hbkr2 hf
    · simp [Value.ownBlock] at e
    · simp [Value.ownBlock] at e
    · exact absurd hi (Nat.not_lt_zero _)⟩, hb1.trans (hb2.mono hb1.size)⟩
  have hz1 : W1.heap.size = W0.heap.size + 1 := by rw [← HW1.out]; simp
  rw [hz1] at hS2
  obtain ⟨sb, Hsb⟩ : ∃ x, Hid (W0.heap.size + 1 = x) := ⟨_, rfl⟩
  obtain ⟨bk, Hbk⟩ : ∃ x, Hid (W0.heap.size = x) := ⟨_, rfl⟩
  clear hbkr2 hbkr hb1 hst hb2 hz1
  go_upto_region 2 with fail
  rw [HW1.out]
  rw [HW2.out]
  rw [Hsb.out, Hbk.out] at hS2
  rw [Hsb.out]
  obtain ⟨x0, x1, x2⟩ := HC.out W2 hS2.below
  have hf0 := hS2.fresh 0 (by decide) r0
  clear hS2
  go_wp2_with fail
  refine hf0.mono ?_
  rintro e w3 ⟨rfl, hS3⟩
  obtain ⟨y0, y1, y2⟩ := HC.out w3 hS3.below
  have hf1 := hS3.fresh 1 (by decide) r1
  clear hf0 hS3 x0 x1 x2
  go_wp2_with fail
  refine hf1.mono ?_
  rintro e w4 ⟨rfl, hS4⟩
  clear hf1 y0 y1 y2
  go_wp2_with fail
  go_loopg [6] 400 (fun q s6 wx => ∃ (i : Nat), i ≤ 400 ∧ q = 400 - i ∧ s6 = .int .i64 (i : Nat) ∧ PlM W0 wx sb bk i)
  case atStart => exact ⟨0, by decide, rfl, rfl, hS4⟩
  case round =>
    clear hS4
    obtain ⟨i, hi, rfl, rfl, hS⟩ := hrel
    obtain ⟨y0, y1, y2⟩ := HC.out wr hS.below
    by_cases hlt : i < N ∧ i < 400
    · have hz1 : (i : Int) < (N : Int) := by omega
      have hz2 : (i : Int) < 400 := by omega
      have hwi : IntKind.i64.wrap ((i : Int) + 1) = (i : Int) + 1 := by rw [IntKind.wrap_i64]; omega
      obtain ⟨o, ho⟩ : ∃ o, L[i]? = some o := ⟨_, List.getElem?_eq_getElem (by rw [HN.out]; omega)⟩
      obtain ⟨b, off, rfl, hc⟩ := (HO.out.1.on hS.below) i o ho
      have q0 : wr.cell? ⟨b, off + i * 5, none⟩ = some (.int .i64 o.dd) := hc 0 _ rfl
      have q1 : wr.cell? ⟨b, off + i * 5 + 1, none⟩ = some (.int .i64 o.wh) := hc 1 _ rfl
      have q2 : wr.cell? ⟨b, off + i * 5 + 2, none⟩ = some (.int .i64 o.at') := hc 2 _ rfl
      have q3 : wr.cell? ⟨b, off + i * 5 + 3, none⟩ = some (.int .i64 o.to') := hc 3 _ rfl
      have q4 : wr.cell? ⟨b, off + i * 5 + 4, none⟩ = some (.slice o.ba o.bl o.bc) := hc 4 _ rfl
      have hpl := hS.plays (by omega) o (HO.out.2 o (List.mem_of_getElem? ho))
      clear hc ho hS y0 y1
      go_wp2_with fail
      refine hpl.mono ?_
      rintro e w5 ⟨rfl, hS5⟩
      have c4 := hS5.c4
      have hlk := hS5.look (by omega)
      clear hpl hS5 q0 q1 q2 q3 q4 y2
      go_wp2_with fail
      refine hlk.mono ?_
      rintro e w6 ⟨rfl, hS6⟩
      clear hlk c4
      go_wp2_with fail
      go_roundg (400 - (i + 1))
      case measure => go_light; omega
      case rel => go_light; exact ⟨i + 1, by omega, rfl, by simp, hS6⟩
    · have hne : (¬ (i : Int) < (N : Int)) ∨ ((i : Int) < (N : Int) ∧ ¬ (i : Int) < 400) := by omega
      have ha0 := hS.all 0 (by decide)
      clear hS hlt y0 y1
      rcases hne with hz | ⟨hz, hz2⟩
      all_goals
        go_wp2_with fail
        refine ha0.mono ?_
        rintro e w5 ⟨rfl, hS5⟩
        have ha1 := hS5.all 1 (by decide)
        clear hS5 ha0
        go_wp2_with fail
        refine ha1.mono ?_
        rintro e w6 ⟨rfl, hS6⟩
        have hlv := lives_any w6
        have HB6 : Hid (Below W0.heap.size W0 w6) := hS6.below
        clear hS6 ha1
        go_wp2_with fail
        refine hlv.mono ?_
        rintro e w7 ⟨rfl, hb7⟩
        have HE : Hid (Below w.heap.size w w7) := by
          have h1 := HB6.out.trans (hb7.mono HB6.out.size)
          exact HB0.out.trans (h1.mono HB0.out.size)
        clear hlv hb7
        go_wp2_with fail
        go_ret
        exact ⟨rfl, HE.out⟩
end Go.Proofs.Ytgpmoakfbhcidaa
