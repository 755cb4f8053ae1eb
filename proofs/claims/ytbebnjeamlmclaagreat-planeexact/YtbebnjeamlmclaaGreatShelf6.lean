/- The walk of Shelf.Given. -/
import Derived.Test.YtbebnjeamlmclaaGreatShelf5
namespace Go.Proofs.YtbebnjeamlmclaaGreat
open Go.RowKit Go.Shelf Go.Sort
set_option maxRecDepth 100000
set_option maxRecDepth 100000

theorem nil_nil {t e : TypeId} (ht : Tryz.prog.underlying t = some (.slice e)) (hi : (Tryz.prog.info? e).isSome = true) (w : World) : (Builtin.append_ #[t, t] t #[.slice none 0 0, .slice none 0 0]).run Tryz.prog w = .ok (.slice none 0 0) w := by
  obtain ⟨i, hi⟩ := Option.isSome_iff_exists.1 hi
  exact run_append_owned_none w 0 t t e i 1 ht hi (.slice none 0 0) 0 [] (World.ownsRow_nil _ _ _ _)

set_option maxHeartbeats 8000000 in
theorem shelf_given {w W : World} {xb sz N : Nat} {kv ov : Value} {ks os : List Value} (h : Sh w W xb sz N N kv ov ks os) (hN : N ≤ 1000) :
    Calls Tryz.prog 7 #[.pointer (some ⟨xb, 0, none⟩)] W fun e w' => e = .returned (.bool true) ∧ Below w.heap.size w w' := by
  have hsame := shelf_same xb N sz kv ov W hN h.row h.sameL
  have HB : Hid (∀ w', (Builtin.append_ #[25, 25] 25 #[.slice none 0 0, .slice none 0 0]).run Tryz.prog w' = .ok (.slice none 0 0) w') := nil_nil Tryz.underlying25 (by kernel_rfl)
  have HD : Hid (∀ w', (Builtin.append_ #[27, 27] 27 #[.slice none 0 0, .slice none 0 0]).run Tryz.prog w' = .ok (.slice none 0 0) w') := nil_nil Tryz.underlying27 (by kernel_rfl)
  have HS : Hid (Sh w W xb sz N N kv ov ks os) := h
  clear h
  go_enter Tryz.func7, Tryz.ntmps7
  go_wp2_with fail
  refine hsame.mono ?_
  rintro e W1 ⟨rfl, b1⟩
  have h1 := HS.out.on b1
  clear hsame b1 HS
  have h2 := h1.on (Below.alloc (Below.refl W1.heap.size W1) (Nat.le_refl _) (.cells #[.slice none 0 0, .slice none 0 0, .slice none 0 0, .slice none 0 0, .slice none 0 0, .slice none 0 0, .slice none 0 0, .slice none 0 0] 61))
  have hy2 : (W1.alloc (.cells #[.slice none 0 0, .slice none 0 0, .slice none 0 0, .slice none 0 0, .slice none 0 0, .slice none 0 0, .slice none 0 0, .slice none 0 0] 61)).rowIs W1.heap.size 61 8 (sprCell (.slice none 0 0)) :=
    World.rowIs_alloc W1 _ _ _ (fun i hi => by
      have hi' : i < 8 := hi
      match i, hi' with
      | 0, _ | 1, _ | 2, _ | 3, _ | 4, _ | 5, _ | 6, _ | 7, _ => rfl)
  have hxy : xb ≠ W1.heap.size := by have := h1.row.lt; omega
  have hwy : w.heap.size ≤ W1.heap.size := h1.k.below.size
  go_upto_region 4 with fail
  clear h1
  obtain ⟨yb, hyb⟩ : ∃ yb, W1.heap.size = yb := ⟨_, rfl⟩
  rw [hyb] at hy2 hxy hwy
  simp only [hyb]
  generalize W1.alloc (.cells #[.slice none 0 0, .slice none 0 0, .slice none 0 0, .slice none 0 0, .slice none 0 0, .slice none 0 0, .slice none 0 0, .slice none 0 0] 61) = Y0 at *
  obtain ⟨ka, kc, rfl, _, _⟩ := own_slice h2.k.row
  have h3 := h2.on (Below.drew (Below.refl _ _))
  obtain ⟨kv2, W3, hr3, ho3, b3⟩ := app_rows h3.k.row (fun u hu => by
    obtain ⟨j, hj⟩ := List.getElem?_of_mem hu
    obtain ⟨n, xs, _, ho⟩ := h3.k.own j u hj
    obtain ⟨a, c, rfl, _⟩ := own_slice ho
    rfl) (by omega)
  obtain ⟨k2, kc2, rfl, _, _⟩ := own_slice ho3
  have h4 := h3.on b3
  have hy3 : W3.rowIs yb 61 8 (sprCell (.slice none 0 0)) := hy2.of_block (b3.block yb hy2.lt)
  have hK3 : K1 w W3 (.slice k2 N kc2) N ks := ⟨h4.k.below, ho3.mono (Nat.le_trans h2.k.below.size (Nat.le_refl _)), h4.k.own, h4.k.apart⟩
  have hK4 : K1 w (W3.setCell ⟨yb, 0, none⟩ (.slice k2 N kc2)) (.slice k2 N kc2) N ks := hK3.keep ((Below.refl w.heap.size W3).setCell hwy _) (fun e v n xs he ho => set_owns ho hy3 (by rcases he with rfl | rfl <;> decide))
  have hy4 : (W3.setCell ⟨yb, 0, none⟩ (.slice k2 N kc2)).rowIs yb 61 8 (sprCell (.slice k2 N kc2)) := (hy3.set 0 _).congr (fun j _ => by unfold sprCell; by_cases e : j = 0 <;> simp [e])
  have hx4 := h4.row.setOther (a := ⟨yb, 0, none⟩) hxy (.slice k2 N kc2)
  have y0 : Y0.cell? ⟨yb, 0, none⟩ = some (.slice none 0 0) := hy2.cell (i := 0) (by decide)
  have x0 : Y0.cell? ⟨xb, 1, none⟩ = some (.slice ka N kc) := h2.row.cell (i := 1) (by decide)
  have y3 : W3.cell? ⟨yb, 0, none⟩ = some (.slice none 0 0) := hy3.cell (i := 0) (by decide)
  have y3f := hy3.frozen 0
  have H3 : Hid _ := hr3
  clear hr3 h2 h3 h4 ho3 b3 hK3 hy2 hy3
  go_region_law (refine step_apps (by rfl) _ _ 24 (by rfl) _ _ _ (by rfl) (by rfl) H3.out ?_)
  all_goals
    clear H3 y0 x0 y3 y3f
    generalize W3.setCell ⟨yb, 0, none⟩ (.slice k2 N kc2) = W4 at *
    have hK5 : K1 w (W4.setCell ⟨yb, 1, none⟩ (.slice none 0 0)).drew (.slice k2 N kc2) N ks := (hK4.keep ((Below.refl w.heap.size W4).setCell hwy _) (fun e v n xs he ho => set_owns ho hy4 (by rcases he with rfl | rfl <;> decide))).keep (Below.drew (Below.refl _ _)) (fun e v n xs he ho => ho)
    have hy5 : (W4.setCell ⟨yb, 1, none⟩ (.slice none 0 0)).drew.rowIs yb 61 8 (sprCell (.slice k2 N kc2)) := (hy4.set 1 _).drew.congr (fun j _ => by unfold sprCell; by_cases e : j = 1 <;> simp [e])
    have hx5 := (hx4.setOther (a := ⟨yb, 1, none⟩) hxy (.slice none 0 0)).drew
    have y1 : W4.cell? ⟨yb, 1, none⟩ = some (.slice none 0 0) := hy4.cell (i := 1) (by decide)
    have x3 : W4.cell? ⟨xb, 3, none⟩ = some (.slice none 0 0) := hx4.cell (i := 3) (by decide)
    have y1f := hy4.frozen 1
    clear hK4 hy4 hx4
    go_upto_region 5 with fail
    go_region_law (refine step_apps (by rfl) _ _ 25 (by rfl) _ _ _ (by rfl) (by rfl) (HB.out _) ?_)
    all_goals
      clear y1 x3 y1f
      have hW5 : ∃ W5, W5 = (W4.setCell ⟨yb, 1, none⟩ (.slice none 0 0)).drew := ⟨_, rfl⟩
      obtain ⟨W5, hW5⟩ := hW5
      rw [← hW5] at hK5 hy5 hx5 ⊢
      clear hW5
      have hK6 : K1 w (W5.setCell ⟨yb, 4, none⟩ (.slice none 0 0)).drew (.slice k2 N kc2) N ks := (hK5.keep ((Below.refl w.heap.size W5).setCell hwy _) (fun e v n xs he ho => set_owns ho hy5 (by rcases he with rfl | rfl <;> decide))).keep (Below.drew (Below.refl _ _)) (fun e v n xs he ho => ho)
      have hy6 : (W5.setCell ⟨yb, 4, none⟩ (.slice none 0 0)).drew.rowIs yb 61 8 (sprCell (.slice k2 N kc2)) := (hy5.set 4 _).drew.congr (fun j _ => by unfold sprCell; by_cases e : j = 4 <;> simp [e])
      have hx6 := (hx5.setOther (a := ⟨yb, 4, none⟩) hxy (.slice none 0 0)).drew
      have y4 : W5.cell? ⟨yb, 4, none⟩ = some (.slice none 0 0) := hy5.cell (i := 4) (by decide)
      have x7 : W5.cell? ⟨xb, 7, none⟩ = some (.slice none 0 0) := hx5.cell (i := 7) (by decide)
      have y4f := hy5.frozen 4
      clear hK5 hy5 hx5
      go_upto_region 6 with fail
      go_region_law (refine step_apps (by rfl) _ _ 27 (by rfl) _ _ _ (by rfl) (by rfl) (HD.out _) ?_)
      all_goals
        clear y4 x7 y4f
        have hW6 : ∃ W6, W6 = (W5.setCell ⟨yb, 4, none⟩ (.slice none 0 0)).drew := ⟨_, rfl⟩
        obtain ⟨W6, hW6⟩ := hW6
        rw [← hW6] at hK6 hy6 hx6 ⊢
        clear hW6
        have x5 : W6.cell? ⟨xb, 5, none⟩ = some (.slice none 0 0) := hx6.cell (i := 5) (by decide)
        have x9 : W6.cell? ⟨xb, 9, none⟩ = some (.slice none 0 0) := hx6.cell (i := 9) (by decide)
        have hmk := spr_mark yb N _ ks w W6 hN hy6 hK6
        clear hK6 hy6 hx6
        go_wp2_with fail
        go_loopg [4] 0 (fun q s4 wx => q = 0 ∧ s4 = .int .i64 0 ∧ W6 = wx)
        case atStart => exact ⟨rfl, rfl, rfl⟩
        case round =>
          obtain ⟨rfl, rfl, rfl⟩ := hrel
          go_wp2_with fail
          go_loopg [6] 0 (fun q s6 wx => q = 0 ∧ s6 = .int .i64 0 ∧ W6 = wx)
          case atStart => exact ⟨rfl, rfl, rfl⟩
          case round =>
            obtain ⟨rfl, rfl, rfl⟩ := hrel
            clear x5
            go_wp2_with fail
            refine hmk.mono ?_
            rintro e W7 ⟨rfl, hy7, hK7⟩
            clear hmk
            go_wp2_with fail
            refine (spr_grown yb N _ ks w W7 hN hy7 hK7).mono ?_
            rintro e W8 ⟨zb, mv, ms, S0, rfl, hy8, hz8, hK8⟩
            have hL := hK8.looks
            have hB8 := hK8.below
            clear hy7 hK7 hK8
            go_wp2_with fail
            refine (spr_marked yb N _ W8 hN hy8 hL.1).mono ?_
            rintro e W9 ⟨rfl, rfl⟩
            go_wp2_with fail
            refine (spr_marked zb N _ W9 hN hz8 hL.2).mono ?_
            rintro e W10 ⟨rfl, rfl⟩
            go_wp2_with fail
            go_ret
            exact ⟨rfl, hB8⟩
end Go.Proofs.YtbebnjeamlmclaaGreat
