/- The walk of Shelf.Given over lists of bytes. -/
import Derived.Test.YtgpmoakfbhcidaaYA7
namespace Go.Proofs.Ytgpmoakfbhcidaa
open Go.RowKit
set_option maxRecDepth 100000
set_option maxRecDepth 100000

theorem app_listG {P : Program} {w : World} {K K0 n c bytes : Nat} {a : Option Addr} {v0 z : Value} {xs : List Value} {t ty e : TypeId} (ht : P.underlying t = some (.slice e)) (hinfo : (P.info? e).map (fun i => (i.zero, i.size, i.bytes)) = some (some z, 1, bytes)) (hzc : z.cells.size = 1)
    (h0 : w.ownsRow K0 e 1 v0 0 []) (hl : w.ownsRow K e 1 (.slice a n c) n xs) (hx : ∀ u, u ∈ xs → u.oneCell' = true) (hb : n * bytes ≤ 140737488355328) (hn : n ≤ 140737488355328) (hK : K0 ≤ w.heap.size) :
    ∃ v' w', (Builtin.append_ #[t, t] ty #[v0, .slice a n c]).run P w = .ok v' w' ∧ w'.ownsRow K0 e 1 v' n xs ∧ w.grownBy w' v0.ownBlock := by
  obtain ⟨i0, hi, hz0, hz1, hz2⟩ : ∃ i, P.info? e = some i ∧ i.zero = some z ∧ i.size = 1 ∧ i.bytes = bytes := by
    obtain ⟨i, hi, hh⟩ := Option.map_eq_some_iff.1 hinfo
    simp only [Prod.mk.injEq] at hh
    exact ⟨i, hi, hh.1, hh.2.1, hh.2.2⟩
  have hml : maxLen = 9223372036854775807 := rfl
  have hlen : xs.length = n := by have := hl.1; omega
  rcases hl.2 with ⟨e1, e2⟩ | ⟨g, cap, cur, e1, _⟩
  · cases e1
    obtain rfl : xs = [] := List.eq_nil_of_length_eq_zero hlen
    exact ⟨v0, w, run_append_owned_none w K0 t ty e i0 1 ht hi v0 0 [] h0, h0, ⟨rfl, rfl, rfl, Nat.le_refl _, fun _ _ _ => rfl⟩⟩
  · cases e1
    obtain ⟨v', w', h1, h2, h3, _⟩ := run_append_own_at (P := P) w K0 t ty e i0 z 1 bytes ht hi hz0 hz1 hz2 hzc (by decide) v0 0 [] h0 ⟨g, 0, none⟩ n c xs (by omega) (fun j u hj => by
      have hj1 := (List.getElem?_eq_some_iff.1 hj).1
      have := hl.cellAt j (by omega)
      have ea : (⟨g, 0, none⟩ : Addr).add j = ⟨g, j, none⟩ := by by_cases e : j = 0 <;> simp [Addr.add, e]
      rw [ea, this]; exact hj) hx (by omega) (by simpa using hb) hK
    exact ⟨v', w', h1, by simpa using h2, h3⟩
theorem app_rowsB {w : World} {K n c : Nat} {a : Option Addr} {xs : List Value} (hl : w.ownsRow K 53 1 (.slice a n c) n xs) (hx : ∀ u, u ∈ xs → u.oneCell' = true) (hn : n ≤ 1048576) :
    ∃ v' w', (Builtin.append_ #[30, 30] 30 #[.slice none 0 0, .slice a n c]).run Try.prog w = .ok v' w' ∧ w'.ownsRow w.heap.size 53 1 v' n xs ∧ Below w.heap.size w w' := by
  obtain ⟨v', w', h1, h2, h3⟩ := app_listG (ty := 30) (K0 := w.heap.size) Try.underlying30 Try.infoB rfl (World.ownsRow_nil _ _ _ _) hl hx (by omega) (by omega) (Nat.le_refl _)
  exact ⟨v', w', h1, h2, ⟨h3.os, h3.tape, h3.output, h3.size, fun b hb => h3.block b hb (by simp [Value.ownBlock])⟩⟩
theorem nil_nil {t e : TypeId} (ht : Try.prog.underlying t = some (.slice e)) (hi : (Try.prog.info? e).isSome = true) (w : World) : (Builtin.append_ #[t, t] t #[.slice none 0 0, .slice none 0 0]).run Try.prog w = .ok (.slice none 0 0) w := by
  obtain ⟨i, hi⟩ := Option.isSome_iff_exists.1 hi
  exact run_append_owned_none w 0 t t e i 1 ht hi (.slice none 0 0) 0 [] (World.ownsRow_nil _ _ _ _)
theorem Kp.drewN {S : Nat → Prop} {w w' : World} (h : Kp S w w') (m : Nat) : Kp S w (w'.drewN m) := ⟨h.os, h.tape, h.output, h.size, h.block⟩
theorem Full.drewN {w : World} {yb N : Nat} {kv : Value} {A : Nat → Option Addr} {ln C : Nat → Nat} (h : Full w yb N kv A ln C) (m : Nat) : Full (w.drewN m) yb N kv A ln C := ⟨h.row, h.lst, h.byt⟩
theorem rows_lower {w : World} {K K' n : Nat} {e : TypeId} {v : Value} {xs : List Value} (h : w.ownsRow K e 1 v n xs) (hk : K' ≤ K) : w.ownsRow K' e 1 v n xs := ⟨h.1, h.2.imp_right (fun ⟨g, cap, cur, e, hb, r⟩ => ⟨g, cap, cur, e, Nat.le_trans hk hb, r⟩)⟩
/-- Given, while the spread is filled. -/
structure GvS (S : Nat → Prop) (w0 w : World) (B xb yb sz N : Nat) (kv ov u : Value) (A : Nat → Option Addr) (ln C : Nat → Nat) (X : Nat → Nat → Nat) : Prop where
  xrow : w.rowIs xb 61 11 (shB sz kv ov)
  yrow : w.rowIs yb 101 8 (sprB u)
  lst : w.ownsRow B 53 1 kv N ((List.range N).map (sl A ln C))
  fam : FZ w B N A ln C X
  kp : Kp S w0 w
  yl : w0.heap.size ≤ yb
section
variable {S : Nat → Prop} {w0 w w' : World} {B xb yb sz N : Nat} {kv ov u : Value} {A : Nat → Option Addr} {ln C : Nat → Nat} {X : Nat → Nat → Nat}
theorem GvS.drew (h : GvS S w0 w B xb yb sz N kv ov u A ln C X) : GvS S w0 w.drew B xb yb sz N kv ov u A ln C X := ⟨h.xrow, h.yrow, h.lst, h.fam.keep (fun _ _ _ _ => rfl), h.kp.drew, h.yl⟩
theorem GvS.on (h : GvS S w0 w B xb yb sz N kv ov u A ln C X) (hb : Below w.heap.size w w') : GvS S w0 w' B xb yb sz N kv ov u A ln C X := ⟨h.xrow.of_block (hb.block _ h.xrow.lt), h.yrow.of_block (hb.block _ h.yrow.lt), owns_keep h.lst (fun q e => hb.block q (h.lst.lt q e).2), h.fam.on hb, h.kp.on hb, h.yl⟩
theorem GvS.set (h : GvS S w0 w B xb yb sz N kv ov u A ln C X) {i : Nat} {x u' : Value} (hu : ∀ j, j < 8 → (if j = i then x else sprB u j) = sprB u' j) : GvS S w0 (w.setCell ⟨yb, i, none⟩ x) B xb yb sz N kv ov u' A ln C X := by
  have hset : ∀ b, b ≠ yb → (w.setCell ⟨yb, i, none⟩ x).heap[b]? = w.heap[b]? := fun b hb => Below.heap_setCell _ _ _ _ hb
  refine ⟨h.xrow.of_block (hset xb (fun e => rowIs_apart h.xrow h.yrow (by decide) e)), (h.yrow.set i x).congr hu, owns_keep h.lst (fun q e => hset q (fun e2 => rows_apart h.lst h.yrow (by decide) (e2 ▸ e))), h.fam.keep (fun j g hj e => hset g (fun e2 => ownZ_row_ne (h.fam.own j hj) h.yrow (by decide) (e2 ▸ e))), h.kp.setCell (.inr h.yl) _ _, h.yl⟩
end
set_option maxHeartbeats 8000000 in
theorem ShIs.given {w : World} {B xb T : Nat} {G : Nat → Prop} (h : ShIs w B xb T G) (hB : B ≤ w.heap.size) :
    Calls Try.prog 22 #[.pointer (some ⟨xb, 0, none⟩)] w fun e w' => e = .returned (.bool true) ∧ Kp G w w' := by
  obtain ⟨sz, N, kv, ov, A, A', ln, C, C', X, h1, h2, h3⟩ := h
  have hsame := shelfB_same h1
  have hN := h1.hN
  have hll := h1.ll
  have HB : Hid (∀ w', (Builtin.append_ #[34, 34] 34 #[.slice none 0 0, .slice none 0 0]).run Try.prog w' = .ok (.slice none 0 0) w') := nil_nil Try.underlying34 (by kernel_rfl)
  have HD : Hid (∀ w', (Builtin.append_ #[36, 36] 36 #[.slice none 0 0, .slice none 0 0]).run Try.prog w' = .ok (.slice none 0 0) w') := nil_nil Try.underlying36 (by kernel_rfl)
  have HS : Hid (∀ i a, i < N → A i = some a → G a.block ∨ w.heap.size ≤ a.block) := fun i a hi ha => .inl ((h3 _).2 (.inr (.inr (.inr (.inl ⟨i, a, hi, ha, rfl⟩)))))
  have HG0 : Hid (∀ m W, W = (w.drewN m).alloc (.cells #[.slice none 0 0, .slice none 0 0, .slice none 0 0, .slice none 0 0, .slice none 0 0, .slice none 0 0, .slice none 0 0, .slice none 0 0] 101) → GvS G w W B xb w.heap.size sz N kv ov (.slice none 0 0) A ln C X) := fun m W e => by
    have hb : Below w.heap.size w W := by rw [e]; exact (below_dN (Below.refl _ _) m).alloc (Nat.le_refl _) _
    refine ⟨h1.row.of_block (hb.block _ h1.row.lt), ?_, owns_keep h1.lst (fun q e => hb.block q (h1.lst.lt q e).2), h1.fam.on hb, (Kp.refl G w).on hb, Nat.le_refl _⟩
    rw [e]
    exact World.rowIs_alloc (w.drewN m) _ _ _ (fun i hi => by
      have hi' : i < 8 := hi
      match i, hi' with
      | 0, _ | 1, _ | 2, _ | 3, _ | 4, _ | 5, _ | 6, _ | 7, _ => rfl)
  obtain ⟨ka, kc, rfl, _⟩ := owns_form h1.lst
  clear h1 h2 h3
  go_enter Try.func22, Try.ntmps22
  go_wp2_with fail
  refine hsame.mono ?_
  rintro e W1 ⟨rfl, m1, eW1⟩
  clear hsame
  have hz1 : W1.heap.size = w.heap.size := by rw [eW1]; rfl
  obtain ⟨Y0, HY0⟩ : ∃ Y, Hid (W1.alloc (.cells #[.slice none 0 0, .slice none 0 0, .slice none 0 0, .slice none 0 0, .slice none 0 0, .slice none 0 0, .slice none 0 0, .slice none 0 0] 101) = Y) := ⟨_, rfl⟩
  have g0 := HG0.out m1 Y0 (by rw [← HY0.out, eW1])
  clear eW1
  go_upto_region 4 with fail
  rw [HY0.out]
  try simp only [hz1]
  generalize hyb : w.heap.size = yb at *
  have Hyb := hide hyb
  clear hyb
  have y0 : Y0.cell? ⟨yb, 0, none⟩ = some (.slice none 0 0) := g0.yrow.cell (i := 0) (by decide)
  have x0 : Y0.cell? ⟨xb, 1, none⟩ = some (.slice none 0 0) := g0.xrow.cell (i := 1) (by decide)
  have y0f := g0.yrow.frozen 0
  have g1 : GvS G w (Y0.setCell ⟨yb, 0, none⟩ (.slice none 0 0)).drew B xb yb sz N (.slice ka N kc) ov (.slice none 0 0) A ln C X := (g0.set (fun j _ => by unfold sprB; by_cases e : j = 0 <;> simp [e])).drew
  clear HG0 HY0 hz1 g0
  go_region_law (refine step_apps2 (by rfl) _ _ 34 (by rfl) _ _ _ (by rfl) (by rfl) (HB.out _) ?_)
  all_goals
    clear y0 x0 y0f
    obtain ⟨Y1, hY1⟩ : ∃ W5, W5 = (Y0.setCell ⟨yb, 0, none⟩ (.slice none 0 0)).drew := ⟨_, rfl⟩
    rw [← hY1] at g1 ⊢
    clear hY1
    obtain ⟨kv2, W3, hr3, ho3, b3⟩ := app_rowsB g1.drew.lst (fun u hu => by
      obtain ⟨j, _, rfl⟩ := List.mem_map.1 hu
      rfl) (by omega)
    obtain ⟨k2, kc2, rfl, _⟩ := owns_form ho3
    have g3 := g1.drew.on b3
    have g4 : GvS G w (W3.setCell ⟨yb, 1, none⟩ (.slice k2 N kc2)) B xb yb sz N (.slice ka N kc) ov (.slice k2 N kc2) A ln C X := g3.set (fun j _ => by unfold sprB; by_cases e : j = 1 <;> simp [e])
    have HO4 : Hid ((W3.setCell ⟨yb, 1, none⟩ (.slice k2 N kc2)).ownsRow B 53 1 (.slice k2 N kc2) N ((List.range N).map (sl A ln C))) := by
      have q : W3.ownsRow B 53 1 (.slice k2 N kc2) N ((List.range N).map (sl A ln C)) := rows_lower ho3 (by have := g1.kp.size; have := Hyb.out; show B ≤ Y1.heap.size; omega)
      exact owns_keep q (fun b e => Below.heap_setCell _ _ _ _ (fun e2 => rows_apart q g3.yrow (by decide) (by have e3 : b = yb := e2; rw [← e3]; exact e)))
    have y1 : Y1.cell? ⟨yb, 1, none⟩ = some (.slice none 0 0) := g1.yrow.cell (i := 1) (by decide)
    have x3 : Y1.cell? ⟨xb, 3, none⟩ = some (.slice ka N kc) := g1.xrow.cell (i := 3) (by decide)
    have y3 : W3.cell? ⟨yb, 1, none⟩ = some (.slice none 0 0) := g3.yrow.cell (i := 1) (by decide)
    have y3f := g3.yrow.frozen 1
    have H3 : Hid _ := hr3
    clear hr3 g1 g3 ho3 b3
    go_upto_region 5 with fail
    go_region_law (refine step_apps2 (by rfl) _ _ 30 (by rfl) _ _ _ (by rfl) (by rfl) H3.out ?_)
    all_goals
      clear H3 y1 x3 y3 y3f
      generalize W3.setCell ⟨yb, 1, none⟩ (.slice k2 N kc2) = W4 at *
      have g5 : GvS G w (W4.setCell ⟨yb, 4, none⟩ (.slice none 0 0)).drew B xb yb sz N (.slice ka N kc) ov (.slice k2 N kc2) A ln C X := (g4.set (fun j _ => by unfold sprB; by_cases e : j = 4 <;> simp [e])).drew
      have HO5 : Hid ((W4.setCell ⟨yb, 4, none⟩ (.slice none 0 0)).drew.ownsRow B 53 1 (.slice k2 N kc2) N ((List.range N).map (sl A ln C))) := owns_keep HO4.out (fun b e => Below.heap_setCell _ _ _ _ (fun e2 => rows_apart HO4.out g4.yrow (by decide) (by have e3 : b = yb := e2; rw [← e3]; exact e)))
      have y4 : W4.cell? ⟨yb, 4, none⟩ = some (.slice none 0 0) := g4.yrow.cell (i := 4) (by decide)
      have x7 : W4.cell? ⟨xb, 7, none⟩ = some (.slice none 0 0) := g4.xrow.cell (i := 7) (by decide)
      have y4f := g4.yrow.frozen 4
      clear g4 HO4
      go_upto_region 6 with fail
      go_region_law (refine step_apps2 (by rfl) _ _ 36 (by rfl) _ _ _ (by rfl) (by rfl) (HD.out _) ?_)
      all_goals
        clear y4 x7 y4f
        have hW6 : ∃ W6, W6 = (W4.setCell ⟨yb, 4, none⟩ (.slice none 0 0)).drew := ⟨_, rfl⟩
        obtain ⟨W6, hW6⟩ := hW6
        rw [← hW6] at g5 HO5 ⊢
        clear hW6
        have x5 : W6.cell? ⟨xb, 5, none⟩ = some (.slice none 0 0) := g5.xrow.cell (i := 5) (by decide)
        have x9 : W6.cell? ⟨xb, 9, none⟩ = some (.slice none 0 0) := g5.xrow.cell (i := 9) (by decide)
        have hsp : SpM G w W6 B yb N (.slice k2 N kc2) A ln C X := ⟨g5.yrow, HO5.out, g5.fam, g5.kp, by rw [Hyb.out]; exact HS.out⟩
        have hmk := sprB_mark (by omega) (fun i hi => by have := hll i hi; omega) hsp
        clear g5 hsp HO5
        go_wp2_with fail
        go_loopg [4] 0 (fun q s4 wx => q = 0 ∧ s4 = .int .i64 0 ∧ W6 = wx)
        case atStart => exact ⟨rfl, rfl, rfl⟩
        case round =>
          obtain ⟨rfl, rfl, rfl⟩ := hrel
          go_wp2_with fail
          go_loopg [6] 0 (fun q s6 wx => q = 0 ∧ s6 = .int .i64 0 ∧ W6 = wx)
          case atStart => exact ⟨rfl, rfl, rfl⟩
          case round =>
            obtain ⟨rfl, rfl, rfl⟩ := hrel
            clear x5
            go_wp2_with fail
            refine hmk.mono ?_
            rintro e W7 ⟨rfl, h7⟩
            clear hmk
            have hgr := sprB_grown (by omega) (fun i hi => by have := hll i hi; omega) h7 (by have := h7.kp.size; have := Hyb.out; omega)
            clear h7
            go_wp2_with fail
            refine hgr.mono ?_
            rintro e W8 ⟨zb, zv, A2, C2, rfl, f1, f2, hk⟩
            clear hgr
            have hm1 := sprB_marked (by omega) (fun i hi => by have := hll i hi; omega) f1
            clear f1
            go_wp2_with fail
            refine hm1.mono ?_
            rintro e W9 ⟨rfl, m9, rfl⟩
            have hm2 := sprB_marked (by omega) (fun i hi => by have := hll i hi; omega) (f2.drewN m9)
            have HK : Hid (∀ m, Kp G w (W8.drewN m)) := fun m => hk.drewN m
            clear f2 hk hm1
            go_wp2_with fail
            refine hm2.mono ?_
            rintro e W10 ⟨rfl, m10, rfl⟩
            clear hm2
            go_wp2_with fail
            go_ret
            exact ⟨rfl, HK.out _⟩
end Go.Proofs.Ytgpmoakfbhcidaa
