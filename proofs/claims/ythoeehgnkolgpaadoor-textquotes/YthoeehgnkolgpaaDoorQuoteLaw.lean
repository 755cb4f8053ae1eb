/- TextQuotes, walked. -/
import Derived.Test.YthoeehgnkolgpaaDoorQuoteWalk2
import Derived.Test.YthoeehgnkolgpaaDoorFrame2
import Derived.Deep.RegionHeld3
namespace Go.Proofs.YthoeehgnkolgpaaDoor
open Go.RowKit Go.ChangeShapes Go.WideShapes Go.ChangeAt Go.Deep

theorem below_since3 {w w' : World} (h : Below w.heap.size w w') : w.Since w.heap.size w' := ⟨h.os, h.tape, h.output, h.size, h.block⟩
theorem below_cell3 {B : Nat} {w w' : World} {a : Addr} {v : Value} (hb : Below B w w') (ha : a.block < B) (hc : w.cell? a = some v) : w'.cell? a = some v := (hb.cell ha).trans hc
theorem own_below {w w' : World} {K n : Nat} {e : TypeId} {v : Value} {xs : List Value} (h : w.ownsRow K e 1 v n xs) (hb : Below w.heap.size w w') : w'.ownsRow K e 1 v n xs := by
  refine ⟨h.1, ?_⟩
  rcases h.2 with h0 | ⟨g, cap, cur, e1, hK, hg, r⟩
  · exact Or.inl h0
  · exact Or.inr ⟨g, cap, cur, e1, hK, by rw [hb.block g (Array.getElem?_eq_some_iff.1 hg).1]; exact hg, r⟩
theorem two0 (W : World) : (Instr.index 48 (.agg #[.string ⟨#[32]⟩, .string ⟨#[9]⟩]) (.int .i64 0)).run Tryd.prog W = .ok (.string ⟨#[32]⟩) W := by kernel_rfl
theorem two1 (W : World) : (Instr.index 48 (.agg #[.string ⟨#[32]⟩, .string ⟨#[9]⟩]) (.int .i64 1)).run Tryd.prog W = .ok (.string ⟨#[9]⟩) W := by kernel_rfl
theorem strs_more (ws : List (List UInt8)) (w : List UInt8) : strs ws ++ [Value.string ⟨w.toArray⟩] = strs (ws ++ [w]) := by simp [strs]
theorem join_list (a b : ByteArray) : (a ++ b).data.toList = a.data.toList ++ b.data.toList := by simp
theorem join_size (a b : ByteArray) : (a ++ b).size = a.size + b.size := by rw [← list_size, ← list_size, ← list_size, join_list, List.length_append]

set_option maxHeartbeats 12800000 in
set_option maxRecDepth 100000 in
theorem quoteLaw_walk (a : Option Addr) (len cap : Nat) (z : Nat → ByteArray) (a' : Option Addr) (len' cap' : Nat) (z' : Nat → Int) (B : Nat) (m : Int) (W : World) (hT : Tabs m W) (hl : TextsIn W a len z B) (hn : NumsIn .i64 W a' len' z' B) :
    Calls Tryd.prog 6 #[.agg #[.slice a len cap, .slice a' len' cap']] W fun e W' => e = .returned (.bool true) ∧ W.Since W.heap.size W' := by
  have Hl := hide hl
  have Hn := hide hn
  have hlen := hl.ln
  have hlen' := hn.ln
  obtain ⟨W0, hW0⟩ : ∃ W0, W0 = W.alloc (.cells #[.slice a len cap, .slice a' len' cap'] 46) := ⟨_, rfl⟩
  have b0 : Below W.heap.size W W0 := by rw [hW0]; exact (Below.refl _ W).alloc (Nat.le_refl _) _
  have hz0 : W0.heap.size = W.heap.size + 1 := by rw [hW0]; simp
  have x0 : W0.cell? ⟨W.heap.size, 0, none⟩ = some (.slice a len cap) := by rw [hW0]; simp
  have x1 : W0.cell? ⟨W.heap.size, 1, none⟩ = some (.slice a' len' cap') := by rw [hW0]; simp
  have HT : Hid (Tabs m W0) := hide (hT.below b0)
  have HB0 := hide b0
  have Hx0 := hide x0
  have Hx1 := hide x1
  clear hT hl hn b0 x0 x1
  go_enter Tryd.func6, Tryd.ntmps6
  go_wp2_with fail
  rw [← hW0]
  clear hW0
  refine (begun_any m W0 HT.out).mono ?_
  rintro e w1 ⟨rfl, b1⟩
  go_wp2_with fail
  go_loopg [3, 4, 5] 17 (fun q s3 s4 s5 wx => ∃ (i : Nat) (S : ByteArray) (ws : List (List UInt8)) (a4 : Option Addr) (c4 : Nat), i ≤ len ∧ i ≤ 17 ∧ q = 17 - i ∧ s3 = .string S ∧ s4 = .slice a4 i c4 ∧ s5 = .int .i64 i ∧ Below W0.heap.size W0 wx ∧ Hid (wx.ownsRow W0.heap.size 9 1 (.slice a4 i c4) ws.length (strs ws)) ∧ Hid (ws.length = i) ∧ Hid (∀ b ∈ S.data.toList, b.toNat < 128) ∧ Hid (runA (0, [], []) S.data.toList = some (stOf ws)) ∧ S.size ≤ 100 * i)
  case atStart => exact ⟨0, ⟨#[]⟩, [], none, 0, Nat.zero_le _, by omega, rfl, rfl, rfl, rfl, b1, hide (World.ownsRow_nil _ _ _ _), hide rfl, hide (fun b hb => by simp at hb), hide rfl, by decide⟩
  case round =>
    clear b1
    obtain ⟨i, S, ws, a4, c4, hi, hi17, rfl, rfl, rfl, rfl, hbw, hO, hwl, hasc, hrun, hS⟩ := hrel
    have y0 := below_cell3 hbw (show W.heap.size < W0.heap.size by omega) Hx0.out
    by_cases hin : i < len ∧ i < 17
    · have hz : (i : Int) < (len : Int) := by omega
      have hz17 : (i : Int) < 17 := by omega
      obtain ⟨bb, bo, ha, hc⟩ := Hl.out.cell i hin.1
      have hbl := World.block_lt_of_cell? _ _ hc
      have hcr := below_cell3 hbw (show bb < W0.heap.size by have : bb < W.heap.size := hbl; omega) ((HB0.out.cell hbl).trans hc)
      have hsz := Hl.out.sz i hin.1
      have hmay := may_any (z i) wr (by omega)
      have hok := mayM_ok (z i).data.toList
      have hml := mayM_len (z i).data.toList
      generalize z i = Z at *
      generalize mayM Z.data.toList = Wd at *
      subst ha
      have Hok := hide hok
      obtain ⟨WB, hWB⟩ : ∃ x : ByteArray, x = ⟨Wd.toArray⟩ := ⟨_, rfl⟩
      have hWd : WB.data.toList = Wd := by rw [hWB]
      have hWs : WB.size ≤ 40 := by rw [← list_size, hWd]; exact hml
      rw [← hWB] at hmay
      have HWB := hide hWB
      have HWd := hide hWd
      have hquo := fun w => quote_any WB w (by omega)
      rw [hWd] at hquo
      have hql : (quoteM Wd).length ≤ 82 := by
        have := quote_len Wd
        unfold quoteM
        rw [List.length_cons, List.length_append]
        simp only [List.length_cons, List.length_nil]
        omega
      obtain ⟨QB, hQB⟩ : ∃ x : ByteArray, x = ⟨(quoteM Wd).toArray⟩ := ⟨_, rfl⟩
      have hQd : QB.data.toList = quoteM Wd := by rw [hQB]
      have hQs : QB.size ≤ 82 := by rw [← list_size, hQd]; exact hql
      simp only [← hQB] at hquo
      have HQd := hide hQd
      have Hquo := hide hquo
      clear hok hml hWB hWd hquo hql hQB hQd
      go_wp2_with fail
      refine hmay.mono ?_
      rintro e w2 ⟨rfl, b2⟩
      have B2 := hbw.trans (b2.mono hbw.size)
      have hO2 : Hid (w2.ownsRow W0.heap.size 9 1 (.slice a4 i c4) ws.length (strs ws)) := hide (own_below hO.out b2)
      have y1 := below_cell3 B2 (show W.heap.size < W0.heap.size by omega) Hx1.out
      clear hmay hO b2 hbw hcr y0
      by_cases hg : len' = 0
      · subst hg
        go_wp2_with fail
        go_loopg [3, 8] 1 (fun q s3 s8 wx => ∃ (k : Nat) (S : ByteArray), k ≤ 1 ∧ q = 1 - k ∧ s3 = .string S ∧ s8 = .int .i64 k ∧ wx = w2 ∧ Hid (∀ b ∈ S.data.toList, b.toNat < 128) ∧ Hid (runA (0, [], []) S.data.toList = some (if k = 0 then stOf ws else (0, [], ws))) ∧ S.size ≤ 100 * i + k)
        case atStart => exact ⟨0, S, Nat.zero_le _, rfl, rfl, rfl, rfl, hasc, hide (by rw [if_pos rfl]; exact hrun.out), by omega⟩
        case round =>
          clear hasc hrun hS
          obtain ⟨k, S, hk, rfl, rfl, rfl, rfl, hasc, hrun, hS⟩ := hrel
          by_cases hlt : k < 1
          · have hkz : (k : Int) < 1 := by omega
            have hsame : ∀ (b : UInt8), (b = 32 ∨ b = 9) → Hid (∀ x ∈ (S ++ (⟨#[b]⟩ : ByteArray)).data.toList, x.toNat < 128) ∧ Hid (runA (0, [], []) (S ++ (⟨#[b]⟩ : ByteArray)).data.toList = some (if k + 1 = 0 then stOf ws else (0, [], ws))) := fun b hb => by
              constructor
              · intro x hx
                rw [join_list] at hx
                rcases List.mem_append.1 hx with hx | hx
                · exact hasc.out x hx
                · have : x = b := by simpa using hx
                  rw [this]
                  rcases hb with rfl | rfl <;> decide
              · refine hide ?_
                rw [join_list, run_app, hrun.out, show (if k + 1 = 0 then stOf ws else ((0, [], ws) : PSt)) = (0, [], ws) from if_neg (by omega)]
                show runA _ [b] = _
                by_cases h0 : k = 0
                · rw [if_pos h0]; exact run_blank ws b hb
                · rw [if_neg h0]; exact run_blank0 ws b hb
            have i0 := fun W => two0 W
            have i1 := fun W => two1 W
            by_cases hpar : (i + k) % 2 = 0
            · have hp2 : ((i : Int) + (k : Int)) % 2 = 0 := by omega
              have hnx := hsame 32 (Or.inl rfl)
              have hsz1 := join_size S (⟨#[32]⟩ : ByteArray)
              have hone : (⟨#[32]⟩ : ByteArray).size = 1 := rfl
              rw [hone] at hsz1
              have Hsz1 := hide hsz1
              clear hsame hpar hasc hrun hsz1
              go_wp2_with fail
              go_roundg (1 - (k + 1))
              case measure => go_light; omega
              case rel => go_light; exact ⟨k + 1, _, by omega, rfl, rfl, by simp, rfl, hnx.1, hnx.2, by rw [Hsz1.out]; omega⟩
            · have hp2 : ((i : Int) + (k : Int)) % 2 = 1 := by omega
              have hnx := hsame 9 (Or.inr rfl)
              have hsz1 := join_size S (⟨#[9]⟩ : ByteArray)
              have hone : (⟨#[9]⟩ : ByteArray).size = 1 := rfl
              rw [hone] at hsz1
              have Hsz1 := hide hsz1
              clear hsame hpar hasc hrun hsz1
              go_wp2_with fail
              go_roundg (1 - (k + 1))
              case measure => go_light; omega
              case rel => go_light; exact ⟨k + 1, _, by omega, rfl, rfl, by simp, rfl, hnx.1, hnx.2, by rw [Hsz1.out]; omega⟩
          · have hkz : ¬ (k : Int) < 1 := by omega
            have hrun2 : Hid (runA (0, [], []) S.data.toList = some (0, [], ws)) := hide (by rw [hrun.out, if_neg (by omega)])
            have hnew : Hid (∀ x ∈ (S ++ QB).data.toList, x.toNat < 128) ∧ Hid (runA (0, [], []) (S ++ QB).data.toList = some (stOf (ws ++ [Wd]))) := by
              constructor
              · intro x hx
                rw [join_list, HQd.out] at hx
                rcases List.mem_append.1 hx with hx | hx
                · exact hasc.out x hx
                · exact esc_ascii Wd Hok.out x hx
              · refine hide ?_
                rw [join_list, HQd.out, run_app, hrun2.out]
                exact run_quote Wd ws Hok.out
            have hsz2 : Hid ((S ++ QB).size ≤ 100 * (i + 1)) := hide (by rw [join_size]; omega)
            have hSQ : S.size + QB.size ≤ 9223372036854775807 := by omega
            clear hrun hasc hrun2
            go_wp2_with fail
            refine (Hquo.out wr).mono ?_
            rintro e w5 ⟨rfl, b5⟩
            have B5 := B2.trans (b5.mono B2.size)
            have hO5 := own_below hO2.out b5
            obtain ⟨v6, w6, hr6, hown6, hbel6⟩ := app_text hO5 WB (by rw [hwl.out]; omega) B5.size 22
            rw [HWB.out, strs_more] at hown6
            obtain ⟨a6, c6, rfl⟩ := own_form hown6
            have B6 := B5.trans hbel6
            have hO6 : Hid (w6.ownsRow W0.heap.size 9 1 (.slice a6 (i + 1) c6) (ws ++ [Wd]).length (strs (ws ++ [Wd]))) := hide (by
              rw [List.length_append]
              have e1 : ws.length + 1 = i + 1 := by rw [hwl.out]
              rw [show ws.length + [Wd].length = ws.length + 1 from rfl]
              rw [e1] at hown6 ⊢
              exact hown6)
            rw [hwl.out] at hr6
            have H6 := hide hr6
            clear hr6 hown6 hO5 hbel6 b5
            go_wp2_with (at_builtin; refine wpList_append_eq rfl _ _ 22 rfl _ _ _ (by rfl) (by rfl) (unhide H6) ?_)
            go_roundg (17 - (i + 1))
            case measure => go_light; omega
            case rel => go_light; exact ⟨i + 1, _, ws ++ [Wd], a6, c6, by omega, by omega, rfl, rfl, rfl, by simp, B6, hO6, hide (by rw [List.length_append, hwl.out]; rfl), hnew.1, hnew.2, hsz2.out⟩

      · have hgz : (0 : Int) < (len' : Int) := by omega
        obtain ⟨j, hj⟩ : ∃ j, j = i % len' := ⟨_, rfl⟩
        have hjl : j < len' := by rw [hj]; exact Nat.mod_lt _ (by omega)
        have hjz : (i : Int) % (len' : Int) = (j : Int) := by rw [hj]; rfl
        have hjt : (i : Int).tmod (len' : Int) = (j : Int) := by rw [Int.tmod_eq_emod_of_nonneg (by omega)]; exact hjz
        have hjz2 : (j : Int) < (len' : Int) := by omega
        have hnz : ¬ (len' : Int) = 0 := by omega
        obtain ⟨gb, go, ga, gc⟩ := Hn.out.cell j hjl
        have hgbl := World.block_lt_of_cell? _ _ gc
        have gcr := below_cell3 B2 (show gb < W0.heap.size by have : gb < W.heap.size := hgbl; omega) ((HB0.out.cell hgbl).trans gc)
        generalize z' j = g at *
        subst ga
        have hwi := fun W' => within3 g W'
        clear hj
        go_wp2_with fail
        go_region_held3 (fun W' => W'.cell? ⟨W.heap.size, 1, none⟩ = some (.slice (some ⟨gb, go, none⟩) len' cap') ∧ W'.cell? ⟨gb, go + j, none⟩ = some (.int .i64 g))
          (exact ⟨y1, gcr⟩)
          ((first | (go_at_call 20; refine (hwi _).mono ?_; rintro e w9 ⟨rfl, r, hr2, rfl⟩)))
        all_goals
          have hwr : IntKind.i64.wrap (1 + (r : Int)) = 1 + (r : Int) := wr_i64 (by omega) (by omega)
          obtain ⟨G, hG⟩ : ∃ G : Nat, 1 + (r : Int) = (G : Int) := ⟨1 + r, by omega⟩
          rw [hwr, hG]
          have hG1 : 1 ≤ G := by omega
          have hG3 : G ≤ 3 := by omega
          have B3 : Below W0.heap.size W0 w2.drew := below_drewN B2 1
          have hO3 : Hid (w2.drew.ownsRow W0.heap.size 9 1 (.slice a4 i c4) ws.length (strs ws)) := hide (hO2.out.drew)
          clear hwr hG hr2 B2 hO2 y1 gcr hjt hjz
          generalize w2.drew = w3 at *
          go_wp2_with fail
          go_loopg [3, 8] G (fun q s3 s8 wx => ∃ (k : Nat) (S : ByteArray), k ≤ G ∧ q = G - k ∧ s3 = .string S ∧ s8 = .int .i64 k ∧ wx = w3 ∧ Hid (∀ b ∈ S.data.toList, b.toNat < 128) ∧ Hid (runA (0, [], []) S.data.toList = some (if k = 0 then stOf ws else (0, [], ws))) ∧ S.size ≤ 100 * i + k)
          case atStart => exact ⟨0, S, Nat.zero_le _, rfl, rfl, rfl, rfl, hasc, hide (by rw [if_pos rfl]; exact hrun.out), by omega⟩
          case round =>
            clear hasc hrun hS
            obtain ⟨k, S, hk, rfl, rfl, rfl, rfl, hasc, hrun, hS⟩ := hrel
            by_cases hlt : k < G
            · have hkz : (k : Int) < (G : Int) := by omega
              have hsame : ∀ (b : UInt8), (b = 32 ∨ b = 9) → Hid (∀ x ∈ (S ++ (⟨#[b]⟩ : ByteArray)).data.toList, x.toNat < 128) ∧ Hid (runA (0, [], []) (S ++ (⟨#[b]⟩ : ByteArray)).data.toList = some (if k + 1 = 0 then stOf ws else (0, [], ws))) := fun b hb => by
                constructor
                · intro x hx
                  rw [join_list] at hx
                  rcases List.mem_append.1 hx with hx | hx
                  · exact hasc.out x hx
                  · have : x = b := by simpa using hx
                    rw [this]
                    rcases hb with rfl | rfl <;> decide
                · refine hide ?_
                  rw [join_list, run_app, hrun.out, show (if k + 1 = 0 then stOf ws else ((0, [], ws) : PSt)) = (0, [], ws) from if_neg (by omega)]
                  show runA _ [b] = _
                  by_cases h0 : k = 0
                  · rw [if_pos h0]; exact run_blank ws b hb
                  · rw [if_neg h0]; exact run_blank0 ws b hb
              have i0 := fun W => two0 W
              have i1 := fun W => two1 W
              by_cases hpar : (i + k) % 2 = 0
              · have hp2 : ((i : Int) + (k : Int)) % 2 = 0 := by omega
                have hnx := hsame 32 (Or.inl rfl)
                have hsz1 := join_size S (⟨#[32]⟩ : ByteArray)
                have hone : (⟨#[32]⟩ : ByteArray).size = 1 := rfl
                rw [hone] at hsz1
                have Hsz1 := hide hsz1
                clear hsame hpar hasc hrun hsz1
                go_wp2_with fail
                go_roundg (G - (k + 1))
                case measure => go_light; omega
                case rel => go_light; exact ⟨k + 1, _, by omega, rfl, rfl, by simp, rfl, hnx.1, hnx.2, by rw [Hsz1.out]; omega⟩
              · have hp2 : ((i : Int) + (k : Int)) % 2 = 1 := by omega
                have hnx := hsame 9 (Or.inr rfl)
                have hsz1 := join_size S (⟨#[9]⟩ : ByteArray)
                have hone : (⟨#[9]⟩ : ByteArray).size = 1 := rfl
                rw [hone] at hsz1
                have Hsz1 := hide hsz1
                clear hsame hpar hasc hrun hsz1
                go_wp2_with fail
                go_roundg (G - (k + 1))
                case measure => go_light; omega
                case rel => go_light; exact ⟨k + 1, _, by omega, rfl, rfl, by simp, rfl, hnx.1, hnx.2, by rw [Hsz1.out]; omega⟩
            · have hkz : ¬ (k : Int) < (G : Int) := by omega
              have hrun2 : Hid (runA (0, [], []) S.data.toList = some (0, [], ws)) := hide (by rw [hrun.out, if_neg (by omega)])
              have hnew : Hid (∀ x ∈ (S ++ QB).data.toList, x.toNat < 128) ∧ Hid (runA (0, [], []) (S ++ QB).data.toList = some (stOf (ws ++ [Wd]))) := by
                constructor
                · intro x hx
                  rw [join_list, HQd.out] at hx
                  rcases List.mem_append.1 hx with hx | hx
                  · exact hasc.out x hx
                  · exact esc_ascii Wd Hok.out x hx
                · refine hide ?_
                  rw [join_list, HQd.out, run_app, hrun2.out]
                  exact run_quote Wd ws Hok.out
              have hsz2 : Hid ((S ++ QB).size ≤ 100 * (i + 1)) := hide (by rw [join_size]; omega)
              have hSQ : S.size + QB.size ≤ 9223372036854775807 := by omega
              clear hrun hasc hrun2
              go_wp2_with fail
              refine (Hquo.out wr).mono ?_
              rintro e w5 ⟨rfl, b5⟩
              have B5 := B3.trans (b5.mono B3.size)
              have hO5 := own_below hO3.out b5
              obtain ⟨v6, w6, hr6, hown6, hbel6⟩ := app_text hO5 WB (by rw [hwl.out]; omega) B5.size 22
              rw [HWB.out, strs_more] at hown6
              obtain ⟨a6, c6, rfl⟩ := own_form hown6
              have B6 := B5.trans hbel6
              have hO6 : Hid (w6.ownsRow W0.heap.size 9 1 (.slice a6 (i + 1) c6) (ws ++ [Wd]).length (strs (ws ++ [Wd]))) := hide (by
                rw [List.length_append]
                have e1 : ws.length + 1 = i + 1 := by rw [hwl.out]
                rw [show ws.length + [Wd].length = ws.length + 1 from rfl]
                rw [e1] at hown6 ⊢
                exact hown6)
              rw [hwl.out] at hr6
              have H6 := hide hr6
              clear hr6 hown6 hO5 hbel6 b5
              go_wp2_with (at_builtin; refine wpList_append_eq rfl _ _ 22 rfl _ _ _ (by rfl) (by rfl) (unhide H6) ?_)
              go_roundg (17 - (i + 1))
              case measure => go_light; omega
              case rel => go_light; exact ⟨i + 1, _, ws ++ [Wd], a6, c6, by omega, by omega, rfl, rfl, rfl, by simp, B6, hO6, hide (by rw [List.length_append, hwl.out]; rfl), hnew.1, hnew.2, hsz2.out⟩

    · have hcase : (¬ (i : Int) < (len : Int)) ∨ ((i : Int) < (len : Int) ∧ ¬ (i : Int) < 17) := by omega
      have hwm := words_line S.data.toList ws hasc.out hrun.out
      rw [list_size, hwl.out] at hwm
      have hws := words_any S wr (by omega) (HT.out.below hbw).utf
      rw [hwm] at hws
      have hiz : i ≤ 17 := hi17
      obtain ⟨hOn, hOs⟩ := own_strs hO.out
      have Hbw := hide hbw
      have HOs := hide hOs
      clear hwm hasc hrun hin hO hOs hOn
      by_cases hgood : S.size ≤ 1024 ∧ i ≤ 16
      · rw [if_pos hgood] at hws
        have q1 : ¬ (1024 : Int) < (S.size : Int) := by omega
        have q2 : ¬ (16 : Int) < (i : Int) := by omega
        rcases hcase with r1 | ⟨r1, r2⟩
        case' inr => exfalso; omega
        all_goals
          go_wp2_with fail
          refine hws.mono ?_
          rintro e w2 ⟨b2, v, rfl, hown⟩
          obtain ⟨la, lc, rfl⟩ := own_form hown
          have hS2 := (own_strs hown).2
          have hW2 := HOs.out.below b2
          have B2 := Hbw.out.trans (b2.mono Hbw.out.size)
          have heq := eqStrings_same la a4 lc c4 ws w2 hS2 hW2 (by rw [hwl.out]; omega)
          rw [hwl.out] at heq
          rw [hwl.out]
          clear hown hS2 hW2 hws
          go_wp2_with (first | (go_at_call 12; go_in))
          refine heq.mono ?_
          rintro e w3 ⟨rfl, k, rfl⟩
          have B3 := below_drewN B2 k
          go_wp2_with fail
          refine (begun_any m _ (HT.out.below B3)).mono ?_
          rintro e w4 ⟨rfl, b4⟩
          have B4 := B3.trans (b4.mono B3.size)
          go_wp2_with fail
          go_ret
          exact ⟨rfl, below_since3 (HB0.out.trans (B4.mono (by omega)))⟩
      · rw [if_neg hgood] at hws
        have qq : (1024 : Int) < (S.size : Int) ∨ (¬ (1024 : Int) < (S.size : Int) ∧ (16 : Int) < (i : Int)) := by omega
        clear hgood
        rcases hcase with r1 | ⟨r1, r2⟩
        all_goals
          rcases qq with q1 | ⟨q1, q2⟩
          all_goals
            go_wp2_with fail
            refine hws.mono ?_
            rintro e w2 ⟨b2, rfl⟩
            have B2 := Hbw.out.trans (b2.mono Hbw.out.size)
            go_wp2_with (first | (go_at_call 12; go_in))
            go_ret
            exact ⟨rfl, below_since3 (HB0.out.trans (B2.mono (by omega)))⟩
end Go.Proofs.YthoeehgnkolgpaaDoor
