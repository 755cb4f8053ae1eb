/- The reference's Words: what it answers of any line. -/
import Derived.Test.YthoeehgnkolgpaaDoorLineMath
import Derived.Test.YthoeehgnkolgpaaDoorQuoteWalk
import Derived.Test.YthoeehgnkolgpaaDoorRefNames
namespace Go.Proofs.YthoeehgnkolgpaaDoor
open Go.RowKit

theorem app_byte_k {w : World} {K n : Nat} {v : Value} {xs : List Value} (h : w.ownsRow K 5 1 v n xs) (x : Int) (hb : n + 1 ≤ 140737488355328) (hK : K ≤ w.heap.size) (ty : TypeId) {u : Value} {k : Nat} {ys : List Value} (h9 : w.ownsRow K 9 1 u k ys) :
    ∃ v' w', (Builtin.append_ #[40, 40] ty #[v, .slice (some ⟨w.heap.size, 0, none⟩) 1 1]).run Tryd.prog (w.alloc (.cells #[.int .u8 x] 5)) = .ok v' w' ∧ w'.ownsRow K 5 1 v' (n + 1) (xs ++ [.int .u8 x]) ∧ Below K w w' ∧ w'.ownsRow K 9 1 u k ys := by
  obtain ⟨i0, hi, hz0, hz1, hz2⟩ := info_parts info5
  obtain ⟨v', w', h1, h2, h3, _⟩ := run_append_own (P := Tryd.prog) (w := w.alloc (.cells #[.int .u8 x] 5)) K 40 ty 5 i0 (.int .u8 0) 1 1 Tryd.underlying40 hi hz0 hz1 hz2 rfl (by decide) v n xs (h.alloc _) ⟨w.heap.size, 0, none⟩ 1 1 [.int .u8 x] rfl
    (fun j u hj => by
      obtain ⟨hj1, hj2⟩ := List.getElem?_eq_some_iff.1 hj
      have : j = 0 := by simpa using hj1
      subst this
      rw [← hj2]
      simp [Addr.add])
    (fun u hu => by simp at hu; subst hu; rfl) (by have : maxLen = 9223372036854775807 := rfl; omega) (by omega) (by simp; omega)
  refine ⟨v', w', h1, h2, grown_below h hK h3, (h9.alloc _).kept h3 ?_⟩
  have := kinds_apart (h.alloc (.cells #[.int .u8 x] 5)) (h9.alloc _)
  rcases this with e | e
  · rw [e]
    cases hv : u.ownBlock with
    | none => exact Or.inl rfl
    | some q => right; simp
  · right; exact fun e2 => e e2.symm
theorem byte_classes (b : UInt8) : b = 34 ∨ b = 92 ∨ b = 32 ∨ b = 9 ∨ (b.toNat < 32 ∧ b ≠ 9) ∨ b = 127 ∨ (32 < b.toNat ∧ b ≠ 34 ∧ b ≠ 92 ∧ b ≠ 127) := by
  by_cases h1 : b = 34
  · exact Or.inl h1
  by_cases h2 : b = 92
  · exact Or.inr (Or.inl h2)
  by_cases h3 : b = 32
  · exact Or.inr (Or.inr (Or.inl h3))
  by_cases h4 : b = 9
  · exact Or.inr (Or.inr (Or.inr (Or.inl h4)))
  by_cases h5 : b.toNat < 32
  · exact Or.inr (Or.inr (Or.inr (Or.inr (Or.inl ⟨h5, h4⟩))))
  by_cases h6 : b = 127
  · exact Or.inr (Or.inr (Or.inr (Or.inr (Or.inr (Or.inl h6)))))
  · refine Or.inr (Or.inr (Or.inr (Or.inr (Or.inr (Or.inr ⟨?_, h1, h2, h6⟩)))))
    have : b.toNat ≠ 32 := fun e => h3 (UInt8.toNat_inj.1 e)
    omega
theorem ne_toNat {b : UInt8} {n : Nat} (hn : n < 256) (h : b ≠ UInt8.ofNat n) : b.toNat ≠ n := fun e => h (UInt8.toNat_inj.1 (by rw [of_nat n hn]; exact e))
structure LoopI (w wx : World) (ANS : RSt) (l : List UInt8) (i a : Nat) (wd : List UInt8) (ws : List (List UInt8)) (bad : Bool) (vw vo : Value) : Prop where
  bel : Below w.heap.size w wx
  ow : wx.ownsRow w.heap.size 5 1 vw wd.length (Lib.byteCells wd)
  oo : wx.ownsRow w.heap.size 9 1 vo ws.length (strs ws)
  run : rrun (a, wd, ws, bad) (l.drop i) = ANS
  lw : wd.length ≤ i
  lo : ws.length ≤ i
theorem strs_more1 (ws : List (List UInt8)) (w : List UInt8) : strs ws ++ [Value.string ⟨w.toArray⟩] = strs (ws ++ [w]) := by simp [strs]

set_option maxHeartbeats 25600000 in
set_option maxRecDepth 100000 in
theorem refWords_any (s : ByteArray) (w : World) (hmax : s.size ≤ 140737488355328) :
    Calls Tryd.prog 24 #[.string s] w fun e w' => Told w (wordsM s.data.toList) e w' := by
  have hg := good_any s w hmax
  rw [words_ref, list_size]
  go_enter Tryd.func24, Tryd.ntmps24
  by_cases h2 : 1024 < s.size
  · have z2 : (1024 : Int) < (s.size : Int) := by omega
    rw [if_neg (by omega)]
    clear hg
    go_wp2_with fail
    go_ret2
    exact ⟨Below.refl _ _, rfl⟩
  have z2 : ¬ (1024 : Int) < (s.size : Int) := by omega
  cases hv : Lib.validD s.data.toList with
  | false =>
    rw [hv] at hg
    rw [if_neg (fun h => by cases h.2)]
    clear hv
    go_wp2_with (first | (go_at_call 45; refine hg.mono ?_; rintro e w4 ⟨rfl, e4⟩; subst e4))
    go_ret2
    exact ⟨Below.refl _ _, rfl⟩
  | true =>
    rw [hv] at hg
    rw [if_pos ⟨by omega, rfl⟩]
    obtain ⟨ANS, hANS⟩ : ∃ A, A = rrun (0, [], [], false) s.data.toList := ⟨_, rfl⟩
    rw [← hANS]
    have HANS := hide hANS
    clear hANS hv
    obtain ⟨RES, hRES⟩ : ∃ A, A = rfin ANS := ⟨_, rfl⟩
    rw [← hRES]
    have HRES := hide hRES
    clear hRES
    have hs1024 : s.size ≤ 1024 := by omega
    go_wp2_with (first | (go_at_call 45; refine hg.mono ?_; rintro e w4 ⟨rfl, e4⟩; subst e4))
    clear hg z2 h2
    obtain ⟨w, hww⟩ : ∃ w, w = w4 := ⟨_, rfl⟩
    subst hww
    go_loopg [4, 5, 6, 7, 8] s.size (fun q s4 s5 s6 s7 s8 wx => ∃ (i a : Nat) (wd : List UInt8) (ws : List (List UInt8)) (bad : Bool) (aw : Option Addr) (cw : Nat) (ao : Option Addr) (co : Nat), i ≤ s.size ∧ a ≤ 4 ∧ q = s.size - i ∧ s4 = .slice ao ws.length co ∧ s5 = .slice aw wd.length cw ∧ s6 = .int .i64 a ∧ s7 = .bool bad ∧ s8 = .int .i64 i ∧ Hid (LoopI w wx ANS s.data.toList i a wd ws bad (.slice aw wd.length cw) (.slice ao ws.length co)))
    case atStart => exact ⟨0, 0, [], [], false, none, 0, none, 0, Nat.zero_le _, by omega, rfl, rfl, rfl, rfl, rfl, rfl, hide ⟨Below.refl _ _, World.ownsRow_nil _ _ _ _, World.ownsRow_nil _ _ _ _, HANS.out.symm, by simp, by simp⟩⟩
    case round =>
      clear HANS
      obtain ⟨i, a, wd, ws, bad, aw, cw, ao, co, hi, ha4, rfl, rfl, rfl, rfl, rfl, rfl, hI⟩ := hrel
      have hlw := hI.out.lw
      have hlo := hI.out.lo
      have hfive : a = 0 ∨ a = 1 ∨ a = 2 ∨ a = 3 ∨ a = 4 := by omega
      by_cases hlt : i < s.size
      · have hz : (i : Int) < (s.size : Int) := by omega
        obtain ⟨b, hb⟩ : ∃ b, s[i]'hlt = b := ⟨_, rfl⟩
        have hrun : Hid (rrun (rstep (a, wd, ws, bad) b) (s.data.toList.drop (i + 1)) = ANS) := hide (by
          have := hI.out.run
          rw [drop_at s i hlt, hb] at this
          exact this)
        have h256 := b.toNat_lt
        have hcls := byte_classes b
        clear ha4
        rcases hcls with hcl | hcl | hcl | hcl | hcl | hcl | hcl
        · have e32 : ((b.toNat : Int) == 32) = false := by rw [hcl]; rfl
          have e9 : ((b.toNat : Int) == 9) = false := by rw [hcl]; rfl
          have e34 : ((b.toNat : Int) == 34) = true := by rw [hcl]; rfl
          have e92 : ((b.toNat : Int) == 92) = false := by rw [hcl]; rfl
          have e127 : ((b.toNat : Int) == 127) = false := by rw [hcl]; rfl
          have lt32 : ¬ (b.toNat : Int) < 32 := by rw [hcl]; decide
          have n9 : ((b.toNat : Int) != 9) = true := by rw [hcl]; rfl
          have n34 : ((b.toNat : Int) != 34) = false := by rw [hcl]; rfl
          have n92 : ((b.toNat : Int) != 92) = true := by rw [hcl]; rfl
          have hbl : blankR b.toNat = false := by rw [hcl]; rfl
          have hms : mayStandR b.toNat = true := by rw [hcl]; rfl
          have p34 : b = 34 := by exact hcl
          have p92 : ¬ b = 92 := by rw [hcl]; decide
          have Hcl := hide hcl
          clear hcl
          rcases hfive with h5 | h5 | h5 | h5 | h5
          · subst h5
            have hrs : rstep (0, wd, ws, bad) b = (2, wd, ws, bad) := by rw [Hcl.out]; cases bad <;> rfl
            have hrun2 : rrun (2, wd, ws, bad) (s.data.toList.drop (i + 1)) = ANS := by rw [← hrs]; exact hrun.out
            have hI2 : Hid (LoopI w wr ANS s.data.toList (i + 1) 2 wd ws bad (.slice aw wd.length cw) (.slice ao ws.length co)) := hide ⟨hI.out.bel, hI.out.ow, hI.out.oo, hrun2, by omega, by omega⟩
            clear hrun2 hrs hrun hI hms hbl p34 p92
            go_wp2_with fail
            go_roundg (s.size - (i + 1))
            case measure => go_light; omega
            case rel => go_light; exact ⟨i + 1, 2, wd, ws, bad, aw, cw, ao, co, by omega, by omega, rfl, rfl, rfl, rfl, rfl, by simp, hI2⟩
          · subst h5
            have hrs : rstep (1, wd, ws, bad) b = (1, wd, ws, true) := by rw [Hcl.out]; cases bad <;> rfl
            have hrun2 : rrun (1, wd, ws, true) (s.data.toList.drop (i + 1)) = ANS := by rw [← hrs]; exact hrun.out
            have hI2 : Hid (LoopI w wr ANS s.data.toList (i + 1) 1 wd ws true (.slice aw wd.length cw) (.slice ao ws.length co)) := hide ⟨hI.out.bel, hI.out.ow, hI.out.oo, hrun2, by omega, by omega⟩
            clear hrun2 hrs hrun hI hms hbl p34 p92
            go_wp2_with fail
            go_roundg (s.size - (i + 1))
            case measure => go_light; omega
            case rel => go_light; exact ⟨i + 1, 1, wd, ws, true, aw, cw, ao, co, by omega, by omega, rfl, rfl, rfl, rfl, rfl, by simp, hI2⟩
          · subst h5
            have hrs : rstep (2, wd, ws, bad) b = (4, [], (ws ++ [wd]), bad) := by rw [Hcl.out]; cases bad <;> rfl
            have hrun2 : rrun (4, [], (ws ++ [wd]), bad) (s.data.toList.drop (i + 1)) = ANS := by rw [← hrs]; exact hrun.out
            have hbk := back_own hI.out.ow (W := wr) rfl
            obtain ⟨v1, w1, hr1, hown1, hbel1⟩ := app_text hI.out.oo ⟨wd.toArray⟩ (by omega) hI.out.bel.size 22
            rw [strs_more1] at hown1
            obtain ⟨a1, c1, rfl⟩ := own_form hown1
            have hI2 : Hid (LoopI w w1 ANS s.data.toList (i + 1) 4 [] (ws ++ [wd]) bad (.slice none 0 0) (.slice a1 (ws.length + 1) c1)) := hide ⟨hI.out.bel.trans hbel1, World.ownsRow_nil _ _ _ _, by rw [List.length_append]; exact hown1, hrun2, by simp, by rw [List.length_append]; simp; exact hlo⟩
            have H1 := hide hr1
            clear hr1 hown1 hbel1 hrun2 hrs hrun hI hms hbl p34 p92
            go_wp2_with (at_builtin; refine wpList_append_eq rfl _ _ 22 rfl _ _ _ (by rfl) (by rfl) (unhide H1) ?_)
            go_roundg (s.size - (i + 1))
            case measure => go_light; omega
            case rel => go_light; exact ⟨i + 1, 4, [], ws ++ [wd], bad, none, 0, a1, c1, by omega, by omega, rfl, by rw [List.length_append]; rfl, rfl, rfl, rfl, by simp, by rw [List.length_append]; exact hI2⟩
          · subst h5
            cases bad with
            | true =>
              have hrs : rstep (3, wd, ws, true) b = (2, (wd ++ [b]), ws, true) := by rw [Hcl.out]; rfl
              have hrun2 : rrun (2, (wd ++ [b]), ws, true) (s.data.toList.drop (i + 1)) = ANS := by rw [← hrs]; exact hrun.out
              obtain ⟨v1, w1, hr1, hown1, hbel1, hkeep1⟩ := app_byte_k hI.out.ow (b.toNat : Int) (by omega) hI.out.bel.size 40 hI.out.oo
              rw [cells_one] at hown1
              obtain ⟨a1, c1, rfl⟩ := own_form hown1
              have hI2 : Hid (LoopI w w1 ANS s.data.toList (i + 1) 2 (wd ++ [b]) ws true (.slice a1 (wd.length + 1) c1) (.slice ao ws.length co)) := hide ⟨hI.out.bel.trans hbel1, by rw [List.length_append]; exact hown1, hkeep1, hrun2, by rw [List.length_append]; simp; exact hlw, by omega⟩
              have H1 := hide hr1
              clear hr1 hown1 hbel1 hkeep1 hrun2 hrs hrun hI hms hbl p34 p92
              go_wp2_with (at_builtin; refine wpList_append_eq rfl _ _ 40 rfl _ _ _ (by rfl) (by rfl) (unhide H1) ?_)
              go_roundg (s.size - (i + 1))
              case measure => go_light; omega
              case rel => go_light; exact ⟨i + 1, 2, wd ++ [b], ws, true, a1, c1, ao, co, by omega, by omega, rfl, rfl, by rw [List.length_append]; rfl, rfl, rfl, by simp, by rw [List.length_append]; exact hI2⟩
            | false =>
              have hrs : rstep (3, wd, ws, false) b = (2, (wd ++ [b]), ws, false) := by rw [Hcl.out]; rfl
              have hrun2 : rrun (2, (wd ++ [b]), ws, false) (s.data.toList.drop (i + 1)) = ANS := by rw [← hrs]; exact hrun.out
              obtain ⟨v1, w1, hr1, hown1, hbel1, hkeep1⟩ := app_byte_k hI.out.ow (b.toNat : Int) (by omega) hI.out.bel.size 40 hI.out.oo
              rw [cells_one] at hown1
              obtain ⟨a1, c1, rfl⟩ := own_form hown1
              have hI2 : Hid (LoopI w w1 ANS s.data.toList (i + 1) 2 (wd ++ [b]) ws false (.slice a1 (wd.length + 1) c1) (.slice ao ws.length co)) := hide ⟨hI.out.bel.trans hbel1, by rw [List.length_append]; exact hown1, hkeep1, hrun2, by rw [List.length_append]; simp; exact hlw, by omega⟩
              have H1 := hide hr1
              clear hr1 hown1 hbel1 hkeep1 hrun2 hrs hrun hI hms hbl p34 p92
              go_wp2_with (at_builtin; refine wpList_append_eq rfl _ _ 40 rfl _ _ _ (by rfl) (by rfl) (unhide H1) ?_)
              go_roundg (s.size - (i + 1))
              case measure => go_light; omega
              case rel => go_light; exact ⟨i + 1, 2, wd ++ [b], ws, false, a1, c1, ao, co, by omega, by omega, rfl, rfl, by rw [List.length_append]; rfl, rfl, rfl, by simp, by rw [List.length_append]; exact hI2⟩
          · subst h5
            have hrs : rstep (4, wd, ws, bad) b = (4, wd, ws, true) := by rw [Hcl.out]; cases bad <;> rfl
            have hrun2 : rrun (4, wd, ws, true) (s.data.toList.drop (i + 1)) = ANS := by rw [← hrs]; exact hrun.out
            have hI2 : Hid (LoopI w wr ANS s.data.toList (i + 1) 4 wd ws true (.slice aw wd.length cw) (.slice ao ws.length co)) := hide ⟨hI.out.bel, hI.out.ow, hI.out.oo, hrun2, by omega, by omega⟩
            clear hrun2 hrs hrun hI hms hbl p34 p92
            go_wp2_with fail
            go_roundg (s.size - (i + 1))
            case measure => go_light; omega
            case rel => go_light; exact ⟨i + 1, 4, wd, ws, true, aw, cw, ao, co, by omega, by omega, rfl, rfl, rfl, rfl, rfl, by simp, hI2⟩
        · have e32 : ((b.toNat : Int) == 32) = false := by rw [hcl]; rfl
          have e9 : ((b.toNat : Int) == 9) = false := by rw [hcl]; rfl
          have e34 : ((b.toNat : Int) == 34) = false := by rw [hcl]; rfl
          have e92 : ((b.toNat : Int) == 92) = true := by rw [hcl]; rfl
          have e127 : ((b.toNat : Int) == 127) = false := by rw [hcl]; rfl
          have lt32 : ¬ (b.toNat : Int) < 32 := by rw [hcl]; decide
          have n9 : ((b.toNat : Int) != 9) = true := by rw [hcl]; rfl
          have n34 : ((b.toNat : Int) != 34) = true := by rw [hcl]; rfl
          have n92 : ((b.toNat : Int) != 92) = false := by rw [hcl]; rfl
          have hbl : blankR b.toNat = false := by rw [hcl]; rfl
          have hms : mayStandR b.toNat = true := by rw [hcl]; rfl
          have p34 : ¬ b = 34 := by rw [hcl]; decide
          have p92 : b = 92 := by exact hcl
          have Hcl := hide hcl
          clear hcl
          rcases hfive with h5 | h5 | h5 | h5 | h5
          · subst h5
            have hrs : rstep (0, wd, ws, bad) b = (0, wd, ws, true) := by rw [Hcl.out]; cases bad <;> rfl
            have hrun2 : rrun (0, wd, ws, true) (s.data.toList.drop (i + 1)) = ANS := by rw [← hrs]; exact hrun.out
            have hI2 : Hid (LoopI w wr ANS s.data.toList (i + 1) 0 wd ws true (.slice aw wd.length cw) (.slice ao ws.length co)) := hide ⟨hI.out.bel, hI.out.ow, hI.out.oo, hrun2, by omega, by omega⟩
            clear hrun2 hrs hrun hI hms hbl p34 p92
            go_wp2_with fail
            go_roundg (s.size - (i + 1))
            case measure => go_light; omega
            case rel => go_light; exact ⟨i + 1, 0, wd, ws, true, aw, cw, ao, co, by omega, by omega, rfl, rfl, rfl, rfl, rfl, by simp, hI2⟩
          · subst h5
            have hrs : rstep (1, wd, ws, bad) b = (1, wd, ws, true) := by rw [Hcl.out]; cases bad <;> rfl
            have hrun2 : rrun (1, wd, ws, true) (s.data.toList.drop (i + 1)) = ANS := by rw [← hrs]; exact hrun.out
            have hI2 : Hid (LoopI w wr ANS s.data.toList (i + 1) 1 wd ws true (.slice aw wd.length cw) (.slice ao ws.length co)) := hide ⟨hI.out.bel, hI.out.ow, hI.out.oo, hrun2, by omega, by omega⟩
            clear hrun2 hrs hrun hI hms hbl p34 p92
            go_wp2_with fail
            go_roundg (s.size - (i + 1))
            case measure => go_light; omega
            case rel => go_light; exact ⟨i + 1, 1, wd, ws, true, aw, cw, ao, co, by omega, by omega, rfl, rfl, rfl, rfl, rfl, by simp, hI2⟩
          · subst h5
            have hrs : rstep (2, wd, ws, bad) b = (3, wd, ws, bad) := by rw [Hcl.out]; cases bad <;> rfl
            have hrun2 : rrun (3, wd, ws, bad) (s.data.toList.drop (i + 1)) = ANS := by rw [← hrs]; exact hrun.out
            have hI2 : Hid (LoopI w wr ANS s.data.toList (i + 1) 3 wd ws bad (.slice aw wd.length cw) (.slice ao ws.length co)) := hide ⟨hI.out.bel, hI.out.ow, hI.out.oo, hrun2, by omega, by omega⟩
            clear hrun2 hrs hrun hI hms hbl p34 p92
            go_wp2_with fail
            go_roundg (s.size - (i + 1))
            case measure => go_light; omega
            case rel => go_light; exact ⟨i + 1, 3, wd, ws, bad, aw, cw, ao, co, by omega, by omega, rfl, rfl, rfl, rfl, rfl, by simp, hI2⟩
          · subst h5
            cases bad with
            | true =>
              have hrs : rstep (3, wd, ws, true) b = (2, (wd ++ [b]), ws, true) := by rw [Hcl.out]; rfl
              have hrun2 : rrun (2, (wd ++ [b]), ws, true) (s.data.toList.drop (i + 1)) = ANS := by rw [← hrs]; exact hrun.out
              obtain ⟨v1, w1, hr1, hown1, hbel1, hkeep1⟩ := app_byte_k hI.out.ow (b.toNat : Int) (by omega) hI.out.bel.size 40 hI.out.oo
              rw [cells_one] at hown1
              obtain ⟨a1, c1, rfl⟩ := own_form hown1
              have hI2 : Hid (LoopI w w1 ANS s.data.toList (i + 1) 2 (wd ++ [b]) ws true (.slice a1 (wd.length + 1) c1) (.slice ao ws.length co)) := hide ⟨hI.out.bel.trans hbel1, by rw [List.length_append]; exact hown1, hkeep1, hrun2, by rw [List.length_append]; simp; exact hlw, by omega⟩
              have H1 := hide hr1
              clear hr1 hown1 hbel1 hkeep1 hrun2 hrs hrun hI hms hbl p34 p92
              go_wp2_with (at_builtin; refine wpList_append_eq rfl _ _ 40 rfl _ _ _ (by rfl) (by rfl) (unhide H1) ?_)
              go_roundg (s.size - (i + 1))
              case measure => go_light; omega
              case rel => go_light; exact ⟨i + 1, 2, wd ++ [b], ws, true, a1, c1, ao, co, by omega, by omega, rfl, rfl, by rw [List.length_append]; rfl, rfl, rfl, by simp, by rw [List.length_append]; exact hI2⟩
            | false =>
              have hrs : rstep (3, wd, ws, false) b = (2, (wd ++ [b]), ws, false) := by rw [Hcl.out]; rfl
              have hrun2 : rrun (2, (wd ++ [b]), ws, false) (s.data.toList.drop (i + 1)) = ANS := by rw [← hrs]; exact hrun.out
              obtain ⟨v1, w1, hr1, hown1, hbel1, hkeep1⟩ := app_byte_k hI.out.ow (b.toNat : Int) (by omega) hI.out.bel.size 40 hI.out.oo
              rw [cells_one] at hown1
              obtain ⟨a1, c1, rfl⟩ := own_form hown1
              have hI2 : Hid (LoopI w w1 ANS s.data.toList (i + 1) 2 (wd ++ [b]) ws false (.slice a1 (wd.length + 1) c1) (.slice ao ws.length co)) := hide ⟨hI.out.bel.trans hbel1, by rw [List.length_append]; exact hown1, hkeep1, hrun2, by rw [List.length_append]; simp; exact hlw, by omega⟩
              have H1 := hide hr1
              clear hr1 hown1 hbel1 hkeep1 hrun2 hrs hrun hI hms hbl p34 p92
              go_wp2_with (at_builtin; refine wpList_append_eq rfl _ _ 40 rfl _ _ _ (by rfl) (by rfl) (unhide H1) ?_)
              go_roundg (s.size - (i + 1))
              case measure => go_light; omega
              case rel => go_light; exact ⟨i + 1, 2, wd ++ [b], ws, false, a1, c1, ao, co, by omega, by omega, rfl, rfl, by rw [List.length_append]; rfl, rfl, rfl, by simp, by rw [List.length_append]; exact hI2⟩
          · subst h5
            have hrs : rstep (4, wd, ws, bad) b = (4, wd, ws, true) := by rw [Hcl.out]; cases bad <;> rfl
            have hrun2 : rrun (4, wd, ws, true) (s.data.toList.drop (i + 1)) = ANS := by rw [← hrs]; exact hrun.out
            have hI2 : Hid (LoopI w wr ANS s.data.toList (i + 1) 4 wd ws true (.slice aw wd.length cw) (.slice ao ws.length co)) := hide ⟨hI.out.bel, hI.out.ow, hI.out.oo, hrun2, by omega, by omega⟩
            clear hrun2 hrs hrun hI hms hbl p34 p92
            go_wp2_with fail
            go_roundg (s.size - (i + 1))
            case measure => go_light; omega
            case rel => go_light; exact ⟨i + 1, 4, wd, ws, true, aw, cw, ao, co, by omega, by omega, rfl, rfl, rfl, rfl, rfl, by simp, hI2⟩
        · have e32 : ((b.toNat : Int) == 32) = true := by rw [hcl]; rfl
          have e9 : ((b.toNat : Int) == 9) = false := by rw [hcl]; rfl
          have e34 : ((b.toNat : Int) == 34) = false := by rw [hcl]; rfl
          have e92 : ((b.toNat : Int) == 92) = false := by rw [hcl]; rfl
          have e127 : ((b.toNat : Int) == 127) = false := by rw [hcl]; rfl
          have lt32 : ¬ (b.toNat : Int) < 32 := by rw [hcl]; decide
          have n9 : ((b.toNat : Int) != 9) = true := by rw [hcl]; rfl
          have n34 : ((b.toNat : Int) != 34) = true := by rw [hcl]; rfl
          have n92 : ((b.toNat : Int) != 92) = true := by rw [hcl]; rfl
          have hbl : blankR b.toNat = true := by rw [hcl]; rfl
          have hms : mayStandR b.toNat = true := by rw [hcl]; rfl
          have p34 : ¬ b = 34 := by rw [hcl]; decide
          have p92 : ¬ b = 92 := by rw [hcl]; decide
          have Hcl := hide hcl
          clear hcl
          rcases hfive with h5 | h5 | h5 | h5 | h5
          · subst h5
            have hrs : rstep (0, wd, ws, bad) b = (0, wd, ws, bad) := by rw [Hcl.out]; cases bad <;> rfl
            have hrun2 : rrun (0, wd, ws, bad) (s.data.toList.drop (i + 1)) = ANS := by rw [← hrs]; exact hrun.out
            have hI2 : Hid (LoopI w wr ANS s.data.toList (i + 1) 0 wd ws bad (.slice aw wd.length cw) (.slice ao ws.length co)) := hide ⟨hI.out.bel, hI.out.ow, hI.out.oo, hrun2, by omega, by omega⟩
            clear hrun2 hrs hrun hI hms hbl p34 p92
            go_wp2_with fail
            go_roundg (s.size - (i + 1))
            case measure => go_light; omega
            case rel => go_light; exact ⟨i + 1, 0, wd, ws, bad, aw, cw, ao, co, by omega, by omega, rfl, rfl, rfl, rfl, rfl, by simp, hI2⟩
          · subst h5
            have hrs : rstep (1, wd, ws, bad) b = (0, [], (ws ++ [wd]), bad) := by rw [Hcl.out]; cases bad <;> rfl
            have hrun2 : rrun (0, [], (ws ++ [wd]), bad) (s.data.toList.drop (i + 1)) = ANS := by rw [← hrs]; exact hrun.out
            have hbk := back_own hI.out.ow (W := wr) rfl
            obtain ⟨v1, w1, hr1, hown1, hbel1⟩ := app_text hI.out.oo ⟨wd.toArray⟩ (by omega) hI.out.bel.size 22
            rw [strs_more1] at hown1
            obtain ⟨a1, c1, rfl⟩ := own_form hown1
            have hI2 : Hid (LoopI w w1 ANS s.data.toList (i + 1) 0 [] (ws ++ [wd]) bad (.slice none 0 0) (.slice a1 (ws.length + 1) c1)) := hide ⟨hI.out.bel.trans hbel1, World.ownsRow_nil _ _ _ _, by rw [List.length_append]; exact hown1, hrun2, by simp, by rw [List.length_append]; simp; exact hlo⟩
            have H1 := hide hr1
            clear hr1 hown1 hbel1 hrun2 hrs hrun hI hms hbl p34 p92
            go_wp2_with (at_builtin; refine wpList_append_eq rfl _ _ 22 rfl _ _ _ (by rfl) (by rfl) (unhide H1) ?_)
            go_roundg (s.size - (i + 1))
            case measure => go_light; omega
            case rel => go_light; exact ⟨i + 1, 0, [], ws ++ [wd], bad, none, 0, a1, c1, by omega, by omega, rfl, by rw [List.length_append]; rfl, rfl, rfl, rfl, by simp, by rw [List.length_append]; exact hI2⟩
          · subst h5
            have hrs : rstep (2, wd, ws, bad) b = (2, (wd ++ [b]), ws, bad) := by rw [Hcl.out]; cases bad <;> rfl
            have hrun2 : rrun (2, (wd ++ [b]), ws, bad) (s.data.toList.drop (i + 1)) = ANS := by rw [← hrs]; exact hrun.out
            obtain ⟨v1, w1, hr1, hown1, hbel1, hkeep1⟩ := app_byte_k hI.out.ow (b.toNat : Int) (by omega) hI.out.bel.size 40 hI.out.oo
            rw [cells_one] at hown1
            obtain ⟨a1, c1, rfl⟩ := own_form hown1
            have hI2 : Hid (LoopI w w1 ANS s.data.toList (i + 1) 2 (wd ++ [b]) ws bad (.slice a1 (wd.length + 1) c1) (.slice ao ws.length co)) := hide ⟨hI.out.bel.trans hbel1, by rw [List.length_append]; exact hown1, hkeep1, hrun2, by rw [List.length_append]; simp; exact hlw, by omega⟩
            have H1 := hide hr1
            clear hr1 hown1 hbel1 hkeep1 hrun2 hrs hrun hI hms hbl p34 p92
            go_wp2_with (at_builtin; refine wpList_append_eq rfl _ _ 40 rfl _ _ _ (by rfl) (by rfl) (unhide H1) ?_)
            go_roundg (s.size - (i + 1))
            case measure => go_light; omega
            case rel => go_light; exact ⟨i + 1, 2, wd ++ [b], ws, bad, a1, c1, ao, co, by omega, by omega, rfl, rfl, by rw [List.length_append]; rfl, rfl, rfl, by simp, by rw [List.length_append]; exact hI2⟩
          · subst h5
            cases bad with
            | true =>
              have hrs : rstep (3, wd, ws, true) b = (2, (wd ++ [b]), ws, true) := by rw [Hcl.out]; rfl
              have hrun2 : rrun (2, (wd ++ [b]), ws, true) (s.data.toList.drop (i + 1)) = ANS := by rw [← hrs]; exact hrun.out
              obtain ⟨v1, w1, hr1, hown1, hbel1, hkeep1⟩ := app_byte_k hI.out.ow (b.toNat : Int) (by omega) hI.out.bel.size 40 hI.out.oo
              rw [cells_one] at hown1
              obtain ⟨a1, c1, rfl⟩ := own_form hown1
              have hI2 : Hid (LoopI w w1 ANS s.data.toList (i + 1) 2 (wd ++ [b]) ws true (.slice a1 (wd.length + 1) c1) (.slice ao ws.length co)) := hide ⟨hI.out.bel.trans hbel1, by rw [List.length_append]; exact hown1, hkeep1, hrun2, by rw [List.length_append]; simp; exact hlw, by omega⟩
              have H1 := hide hr1
              clear hr1 hown1 hbel1 hkeep1 hrun2 hrs hrun hI hms hbl p34 p92
              go_wp2_with (at_builtin; refine wpList_append_eq rfl _ _ 40 rfl _ _ _ (by rfl) (by rfl) (unhide H1) ?_)
              go_roundg (s.size - (i + 1))
              case measure => go_light; omega
              case rel => go_light; exact ⟨i + 1, 2, wd ++ [b], ws, true, a1, c1, ao, co, by omega, by omega, rfl, rfl, by rw [List.length_append]; rfl, rfl, rfl, by simp, by rw [List.length_append]; exact hI2⟩
            | false =>
              have hrs : rstep (3, wd, ws, false) b = (2, (wd ++ [b]), ws, true) := by rw [Hcl.out]; rfl
              have hrun2 : rrun (2, (wd ++ [b]), ws, true) (s.data.toList.drop (i + 1)) = ANS := by rw [← hrs]; exact hrun.out
              obtain ⟨v1, w1, hr1, hown1, hbel1, hkeep1⟩ := app_byte_k hI.out.ow (b.toNat : Int) (by omega) hI.out.bel.size 40 hI.out.oo
              rw [cells_one] at hown1
              obtain ⟨a1, c1, rfl⟩ := own_form hown1
              have hI2 : Hid (LoopI w w1 ANS s.data.toList (i + 1) 2 (wd ++ [b]) ws true (.slice a1 (wd.length + 1) c1) (.slice ao ws.length co)) := hide ⟨hI.out.bel.trans hbel1, by rw [List.length_append]; exact hown1, hkeep1, hrun2, by rw [List.length_append]; simp; exact hlw, by omega⟩
              have H1 := hide hr1
              clear hr1 hown1 hbel1 hkeep1 hrun2 hrs hrun hI hms hbl p34 p92
              go_wp2_with (at_builtin; refine wpList_append_eq rfl _ _ 40 rfl _ _ _ (by rfl) (by rfl) (unhide H1) ?_)
              go_roundg (s.size - (i + 1))
              case measure => go_light; omega
              case rel => go_light; exact ⟨i + 1, 2, wd ++ [b], ws, true, a1, c1, ao, co, by omega, by omega, rfl, rfl, by rw [List.length_append]; rfl, rfl, rfl, by simp, by rw [List.length_append]; exact hI2⟩
          · subst h5
            have hrs : rstep (4, wd, ws, bad) b = (0, wd, ws, bad) := by rw [Hcl.out]; cases bad <;> rfl
            have hrun2 : rrun (0, wd, ws, bad) (s.data.toList.drop (i + 1)) = ANS := by rw [← hrs]; exact hrun.out
            have hI2 : Hid (LoopI w wr ANS s.data.toList (i + 1) 0 wd ws bad (.slice aw wd.length cw) (.slice ao ws.length co)) := hide ⟨hI.out.bel, hI.out.ow, hI.out.oo, hrun2, by omega, by omega⟩
            clear hrun2 hrs hrun hI hms hbl p34 p92
            go_wp2_with fail
            go_roundg (s.size - (i + 1))
            case measure => go_light; omega
            case rel => go_light; exact ⟨i + 1, 0, wd, ws, bad, aw, cw, ao, co, by omega, by omega, rfl, rfl, rfl, rfl, rfl, by simp, hI2⟩
        · have e32 : ((b.toNat : Int) == 32) = false := by rw [hcl]; rfl
          have e9 : ((b.toNat : Int) == 9) = true := by rw [hcl]; rfl
          have e34 : ((b.toNat : Int) == 34) = false := by rw [hcl]; rfl
          have e92 : ((b.toNat : Int) == 92) = false := by rw [hcl]; rfl
          have e127 : ((b.toNat : Int) == 127) = false := by rw [hcl]; rfl
          have lt32 : (b.toNat : Int) < 32 := by rw [hcl]; decide
          have n9 : ((b.toNat : Int) != 9) = false := by rw [hcl]; rfl
          have n34 : ((b.toNat : Int) != 34) = true := by rw [hcl]; rfl
          have n92 : ((b.toNat : Int) != 92) = true := by rw [hcl]; rfl
          have hbl : blankR b.toNat = true := by rw [hcl]; rfl
          have hms : mayStandR b.toNat = true := by rw [hcl]; rfl
          have p34 : ¬ b = 34 := by rw [hcl]; decide
          have p92 : ¬ b = 92 := by rw [hcl]; decide
          have Hcl := hide hcl
          clear hcl
          rcases hfive with h5 | h5 | h5 | h5 | h5
          · subst h5
            have hrs : rstep (0, wd, ws, bad) b = (0, wd, ws, bad) := by rw [Hcl.out]; cases bad <;> rfl
            have hrun2 : rrun (0, wd, ws, bad) (s.data.toList.drop (i + 1)) = ANS := by rw [← hrs]; exact hrun.out
            have hI2 : Hid (LoopI w wr ANS s.data.toList (i + 1) 0 wd ws bad (.slice aw wd.length cw) (.slice ao ws.length co)) := hide ⟨hI.out.bel, hI.out.ow, hI.out.oo, hrun2, by omega, by omega⟩
            clear hrun2 hrs hrun hI hms hbl p34 p92
            go_wp2_with fail
            go_roundg (s.size - (i + 1))
            case measure => go_light; omega
            case rel => go_light; exact ⟨i + 1, 0, wd, ws, bad, aw, cw, ao, co, by omega, by omega, rfl, rfl, rfl, rfl, rfl, by simp, hI2⟩
          · subst h5
            have hrs : rstep (1, wd, ws, bad) b = (0, [], (ws ++ [wd]), bad) := by rw [Hcl.out]; cases bad <;> rfl
            have hrun2 : rrun (0, [], (ws ++ [wd]), bad) (s.data.toList.drop (i + 1)) = ANS := by rw [← hrs]; exact hrun.out
            have hbk := back_own hI.out.ow (W := wr) rfl
            obtain ⟨v1, w1, hr1, hown1, hbel1⟩ := app_text hI.out.oo ⟨wd.toArray⟩ (by omega) hI.out.bel.size 22
            rw [strs_more1] at hown1
            obtain ⟨a1, c1, rfl⟩ := own_form hown1
            have hI2 : Hid (LoopI w w1 ANS s.data.toList (i + 1) 0 [] (ws ++ [wd]) bad (.slice none 0 0) (.slice a1 (ws.length + 1) c1)) := hide ⟨hI.out.bel.trans hbel1, World.ownsRow_nil _ _ _ _, by rw [List.length_append]; exact hown1, hrun2, by simp, by rw [List.length_append]; simp; exact hlo⟩
            have H1 := hide hr1
            clear hr1 hown1 hbel1 hrun2 hrs hrun hI hms hbl p34 p92
            go_wp2_with (at_builtin; refine wpList_append_eq rfl _ _ 22 rfl _ _ _ (by rfl) (by rfl) (unhide H1) ?_)
            go_roundg (s.size - (i + 1))
            case measure => go_light; omega
            case rel => go_light; exact ⟨i + 1, 0, [], ws ++ [wd], bad, none, 0, a1, c1, by omega, by omega, rfl, by rw [List.length_append]; rfl, rfl, rfl, rfl, by simp, by rw [List.length_append]; exact hI2⟩
          · subst h5
            have hrs : rstep (2, wd, ws, bad) b = (2, (wd ++ [b]), ws, bad) := by rw [Hcl.out]; cases bad <;> rfl
            have hrun2 : rrun (2, (wd ++ [b]), ws, bad) (s.data.toList.drop (i + 1)) = ANS := by rw [← hrs]; exact hrun.out
            obtain ⟨v1, w1, hr1, hown1, hbel1, hkeep1⟩ := app_byte_k hI.out.ow (b.toNat : Int) (by omega) hI.out.bel.size 40 hI.out.oo
            rw [cells_one] at hown1
            obtain ⟨a1, c1, rfl⟩ := own_form hown1
            have hI2 : Hid (LoopI w w1 ANS s.data.toList (i + 1) 2 (wd ++ [b]) ws bad (.slice a1 (wd.length + 1) c1) (.slice ao ws.length co)) := hide ⟨hI.out.bel.trans hbel1, by rw [List.length_append]; exact hown1, hkeep1, hrun2, by rw [List.length_append]; simp; exact hlw, by omega⟩
            have H1 := hide hr1
            clear hr1 hown1 hbel1 hkeep1 hrun2 hrs hrun hI hms hbl p34 p92
            go_wp2_with (at_builtin; refine wpList_append_eq rfl _ _ 40 rfl _ _ _ (by rfl) (by rfl) (unhide H1) ?_)
            go_roundg (s.size - (i + 1))
            case measure => go_light; omega
            case rel => go_light; exact ⟨i + 1, 2, wd ++ [b], ws, bad, a1, c1, ao, co, by omega, by omega, rfl, rfl, by rw [List.length_append]; rfl, rfl, rfl, by simp, by rw [List.length_append]; exact hI2⟩
          · subst h5
            cases bad with
            | true =>
              have hrs : rstep (3, wd, ws, true) b = (2, (wd ++ [b]), ws, true) := by rw [Hcl.out]; rfl
              have hrun2 : rrun (2, (wd ++ [b]), ws, true) (s.data.toList.drop (i + 1)) = ANS := by rw [← hrs]; exact hrun.out
              obtain ⟨v1, w1, hr1, hown1, hbel1, hkeep1⟩ := app_byte_k hI.out.ow (b.toNat : Int) (by omega) hI.out.bel.size 40 hI.out.oo
              rw [cells_one] at hown1
              obtain ⟨a1, c1, rfl⟩ := own_form hown1
              have hI2 : Hid (LoopI w w1 ANS s.data.toList (i + 1) 2 (wd ++ [b]) ws true (.slice a1 (wd.length + 1) c1) (.slice ao ws.length co)) := hide ⟨hI.out.bel.trans hbel1, by rw [List.length_append]; exact hown1, hkeep1, hrun2, by rw [List.length_append]; simp; exact hlw, by omega⟩
              have H1 := hide hr1
              clear hr1 hown1 hbel1 hkeep1 hrun2 hrs hrun hI hms hbl p34 p92
              go_wp2_with (at_builtin; refine wpList_append_eq rfl _ _ 40 rfl _ _ _ (by rfl) (by rfl) (unhide H1) ?_)
              go_roundg (s.size - (i + 1))
              case measure => go_light; omega
              case rel => go_light; exact ⟨i + 1, 2, wd ++ [b], ws, true, a1, c1, ao, co, by omega, by omega, rfl, rfl, by rw [List.length_append]; rfl, rfl, rfl, by simp, by rw [List.length_append]; exact hI2⟩
            | false =>
              have hrs : rstep (3, wd, ws, false) b = (2, (wd ++ [b]), ws, true) := by rw [Hcl.out]; rfl
              have hrun2 : rrun (2, (wd ++ [b]), ws, true) (s.data.toList.drop (i + 1)) = ANS := by rw [← hrs]; exact hrun.out
              obtain ⟨v1, w1, hr1, hown1, hbel1, hkeep1⟩ := app_byte_k hI.out.ow (b.toNat : Int) (by omega) hI.out.bel.size 40 hI.out.oo
              rw [cells_one] at hown1
              obtain ⟨a1, c1, rfl⟩ := own_form hown1
              have hI2 : Hid (LoopI w w1 ANS s.data.toList (i + 1) 2 (wd ++ [b]) ws true (.slice a1 (wd.length + 1) c1) (.slice ao ws.length co)) := hide ⟨hI.out.bel.trans hbel1, by rw [List.length_append]; exact hown1, hkeep1, hrun2, by rw [List.length_append]; simp; exact hlw, by omega⟩
              have H1 := hide hr1
              clear hr1 hown1 hbel1 hkeep1 hrun2 hrs hrun hI hms hbl p34 p92
              go_wp2_with (at_builtin; refine wpList_append_eq rfl _ _ 40 rfl _ _ _ (by rfl) (by rfl) (unhide H1) ?_)
              go_roundg (s.size - (i + 1))
              case measure => go_light; omega
              case rel => go_light; exact ⟨i + 1, 2, wd ++ [b], ws, true, a1, c1, ao, co, by omega, by omega, rfl, rfl, by rw [List.length_append]; rfl, rfl, rfl, by simp, by rw [List.length_append]; exact hI2⟩
          · subst h5
            have hrs : rstep (4, wd, ws, bad) b = (0, wd, ws, bad) := by rw [Hcl.out]; cases bad <;> rfl
            have hrun2 : rrun (0, wd, ws, bad) (s.data.toList.drop (i + 1)) = ANS := by rw [← hrs]; exact hrun.out
            have hI2 : Hid (LoopI w wr ANS s.data.toList (i + 1) 0 wd ws bad (.slice aw wd.length cw) (.slice ao ws.length co)) := hide ⟨hI.out.bel, hI.out.ow, hI.out.oo, hrun2, by omega, by omega⟩
            clear hrun2 hrs hrun hI hms hbl p34 p92
            go_wp2_with fail
            go_roundg (s.size - (i + 1))
            case measure => go_light; omega
            case rel => go_light; exact ⟨i + 1, 0, wd, ws, bad, aw, cw, ao, co, by omega, by omega, rfl, rfl, rfl, rfl, rfl, by simp, hI2⟩
        · obtain ⟨hcl, hc9⟩ := hcl
          have hc9n := ne_toNat (n := 9) (by decide) hc9
          have e32 : ((b.toNat : Int) == 32) = false := beq_eq_false_iff_ne.2 (by omega)
          have e9 : ((b.toNat : Int) == 9) = false := beq_eq_false_iff_ne.2 (by omega)
          have e34 : ((b.toNat : Int) == 34) = false := beq_eq_false_iff_ne.2 (by omega)
          have e92 : ((b.toNat : Int) == 92) = false := beq_eq_false_iff_ne.2 (by omega)
          have e127 : ((b.toNat : Int) == 127) = false := beq_eq_false_iff_ne.2 (by omega)
          have lt32 : (b.toNat : Int) < 32 := by omega
          have n9 : ((b.toNat : Int) != 9) = true := by simp; omega
          have n34 : ((b.toNat : Int) != 34) = true := by simp; omega
          have n92 : ((b.toNat : Int) != 92) = true := by simp; omega
          have hbl : blankR b.toNat = false := by simp [blankR]; omega
          have hms : mayStandR b.toNat = false := by simp [mayStandR]; omega
          have p34 : ¬ b = 34 := by exact fun e => absurd (congrArg UInt8.toNat e) (by show ¬ b.toNat = 34; omega)
          have p92 : ¬ b = 92 := by exact fun e => absurd (congrArg UInt8.toNat e) (by show ¬ b.toNat = 92; omega)
          have Hcl := hide hcl
          clear hcl
          rcases hfive with h5 | h5 | h5 | h5 | h5
          · subst h5
            have hrs : rstep (0, wd, ws, bad) b = (1, (wd ++ [b]), ws, true) := by simp [rstep, hbl, hms, p34, p92]
            have hrun2 : rrun (1, (wd ++ [b]), ws, true) (s.data.toList.drop (i + 1)) = ANS := by rw [← hrs]; exact hrun.out
            obtain ⟨v1, w1, hr1, hown1, hbel1, hkeep1⟩ := app_byte_k hI.out.ow (b.toNat : Int) (by omega) hI.out.bel.size 40 hI.out.oo
            rw [cells_one] at hown1
            obtain ⟨a1, c1, rfl⟩ := own_form hown1
            have hI2 : Hid (LoopI w w1 ANS s.data.toList (i + 1) 1 (wd ++ [b]) ws true (.slice a1 (wd.length + 1) c1) (.slice ao ws.length co)) := hide ⟨hI.out.bel.trans hbel1, by rw [List.length_append]; exact hown1, hkeep1, hrun2, by rw [List.length_append]; simp; exact hlw, by omega⟩
            have H1 := hide hr1
            clear hr1 hown1 hbel1 hkeep1 hrun2 hrs hrun hI hms hbl p34 p92
            go_wp2_with (at_builtin; refine wpList_append_eq rfl _ _ 40 rfl _ _ _ (by rfl) (by rfl) (unhide H1) ?_)
            go_roundg (s.size - (i + 1))
            case measure => go_light; omega
            case rel => go_light; exact ⟨i + 1, 1, wd ++ [b], ws, true, a1, c1, ao, co, by omega, by omega, rfl, rfl, by rw [List.length_append]; rfl, rfl, rfl, by simp, by rw [List.length_append]; exact hI2⟩
          · subst h5
            have hrs : rstep (1, wd, ws, bad) b = (1, (wd ++ [b]), ws, true) := by simp [rstep, hbl, hms, p34, p92]
            have hrun2 : rrun (1, (wd ++ [b]), ws, true) (s.data.toList.drop (i + 1)) = ANS := by rw [← hrs]; exact hrun.out
            obtain ⟨v1, w1, hr1, hown1, hbel1, hkeep1⟩ := app_byte_k hI.out.ow (b.toNat : Int) (by omega) hI.out.bel.size 40 hI.out.oo
            rw [cells_one] at hown1
            obtain ⟨a1, c1, rfl⟩ := own_form hown1
            have hI2 : Hid (LoopI w w1 ANS s.data.toList (i + 1) 1 (wd ++ [b]) ws true (.slice a1 (wd.length + 1) c1) (.slice ao ws.length co)) := hide ⟨hI.out.bel.trans hbel1, by rw [List.length_append]; exact hown1, hkeep1, hrun2, by rw [List.length_append]; simp; exact hlw, by omega⟩
            have H1 := hide hr1
            clear hr1 hown1 hbel1 hkeep1 hrun2 hrs hrun hI hms hbl p34 p92
            go_wp2_with (at_builtin; refine wpList_append_eq rfl _ _ 40 rfl _ _ _ (by rfl) (by rfl) (unhide H1) ?_)
            go_roundg (s.size - (i + 1))
            case measure => go_light; omega
            case rel => go_light; exact ⟨i + 1, 1, wd ++ [b], ws, true, a1, c1, ao, co, by omega, by omega, rfl, rfl, by rw [List.length_append]; rfl, rfl, rfl, by simp, by rw [List.length_append]; exact hI2⟩
          · subst h5
            have hrs : rstep (2, wd, ws, bad) b = (2, (wd ++ [b]), ws, true) := by simp [rstep, hms, p34, p92]
            have hrun2 : rrun (2, (wd ++ [b]), ws, true) (s.data.toList.drop (i + 1)) = ANS := by rw [← hrs]; exact hrun.out
            obtain ⟨v1, w1, hr1, hown1, hbel1, hkeep1⟩ := app_byte_k hI.out.ow (b.toNat : Int) (by omega) hI.out.bel.size 40 hI.out.oo
            rw [cells_one] at hown1
            obtain ⟨a1, c1, rfl⟩ := own_form hown1
            have hI2 : Hid (LoopI w w1 ANS s.data.toList (i + 1) 2 (wd ++ [b]) ws true (.slice a1 (wd.length + 1) c1) (.slice ao ws.length co)) := hide ⟨hI.out.bel.trans hbel1, by rw [List.length_append]; exact hown1, hkeep1, hrun2, by rw [List.length_append]; simp; exact hlw, by omega⟩
            have H1 := hide hr1
            clear hr1 hown1 hbel1 hkeep1 hrun2 hrs hrun hI hms hbl p34 p92
            go_wp2_with (at_builtin; refine wpList_append_eq rfl _ _ 40 rfl _ _ _ (by rfl) (by rfl) (unhide H1) ?_)
            go_roundg (s.size - (i + 1))
            case measure => go_light; omega
            case rel => go_light; exact ⟨i + 1, 2, wd ++ [b], ws, true, a1, c1, ao, co, by omega, by omega, rfl, rfl, by rw [List.length_append]; rfl, rfl, rfl, by simp, by rw [List.length_append]; exact hI2⟩
          · subst h5
            cases bad with
            | true =>
              have hrs : rstep (3, wd, ws, true) b = (2, (wd ++ [b]), ws, true) := by simp [rstep, hms, p34, p92]
              have hrun2 : rrun (2, (wd ++ [b]), ws, true) (s.data.toList.drop (i + 1)) = ANS := by rw [← hrs]; exact hrun.out
              obtain ⟨v1, w1, hr1, hown1, hbel1, hkeep1⟩ := app_byte_k hI.out.ow (b.toNat : Int) (by omega) hI.out.bel.size 40 hI.out.oo
              rw [cells_one] at hown1
              obtain ⟨a1, c1, rfl⟩ := own_form hown1
              have hI2 : Hid (LoopI w w1 ANS s.data.toList (i + 1) 2 (wd ++ [b]) ws true (.slice a1 (wd.length + 1) c1) (.slice ao ws.length co)) := hide ⟨hI.out.bel.trans hbel1, by rw [List.length_append]; exact hown1, hkeep1, hrun2, by rw [List.length_append]; simp; exact hlw, by omega⟩
              have H1 := hide hr1
              clear hr1 hown1 hbel1 hkeep1 hrun2 hrs hrun hI hms hbl p34 p92
              go_wp2_with (at_builtin; refine wpList_append_eq rfl _ _ 40 rfl _ _ _ (by rfl) (by rfl) (unhide H1) ?_)
              go_roundg (s.size - (i + 1))
              case measure => go_light; omega
              case rel => go_light; exact ⟨i + 1, 2, wd ++ [b], ws, true, a1, c1, ao, co, by omega, by omega, rfl, rfl, by rw [List.length_append]; rfl, rfl, rfl, by simp, by rw [List.length_append]; exact hI2⟩
            | false =>
              have hrs : rstep (3, wd, ws, false) b = (2, (wd ++ [b]), ws, true) := by simp [rstep, hms, p34, p92]
              have hrun2 : rrun (2, (wd ++ [b]), ws, true) (s.data.toList.drop (i + 1)) = ANS := by rw [← hrs]; exact hrun.out
              obtain ⟨v1, w1, hr1, hown1, hbel1, hkeep1⟩ := app_byte_k hI.out.ow (b.toNat : Int) (by omega) hI.out.bel.size 40 hI.out.oo
              rw [cells_one] at hown1
              obtain ⟨a1, c1, rfl⟩ := own_form hown1
              have hI2 : Hid (LoopI w w1 ANS s.data.toList (i + 1) 2 (wd ++ [b]) ws true (.slice a1 (wd.length + 1) c1) (.slice ao ws.length co)) := hide ⟨hI.out.bel.trans hbel1, by rw [List.length_append]; exact hown1, hkeep1, hrun2, by rw [List.length_append]; simp; exact hlw, by omega⟩
              have H1 := hide hr1
              clear hr1 hown1 hbel1 hkeep1 hrun2 hrs hrun hI hms hbl p34 p92
              go_wp2_with (at_builtin; refine wpList_append_eq rfl _ _ 40 rfl _ _ _ (by rfl) (by rfl) (unhide H1) ?_)
              go_roundg (s.size - (i + 1))
              case measure => go_light; omega
              case rel => go_light; exact ⟨i + 1, 2, wd ++ [b], ws, true, a1, c1, ao, co, by omega, by omega, rfl, rfl, by rw [List.length_append]; rfl, rfl, rfl, by simp, by rw [List.length_append]; exact hI2⟩
          · subst h5
            have hrs : rstep (4, wd, ws, bad) b = (4, wd, ws, true) := by simp [rstep, hbl, p34, p92]
            have hrun2 : rrun (4, wd, ws, true) (s.data.toList.drop (i + 1)) = ANS := by rw [← hrs]; exact hrun.out
            have hI2 : Hid (LoopI w wr ANS s.data.toList (i + 1) 4 wd ws true (.slice aw wd.length cw) (.slice ao ws.length co)) := hide ⟨hI.out.bel, hI.out.ow, hI.out.oo, hrun2, by omega, by omega⟩
            clear hrun2 hrs hrun hI hms hbl p34 p92
            go_wp2_with fail
            go_roundg (s.size - (i + 1))
            case measure => go_light; omega
            case rel => go_light; exact ⟨i + 1, 4, wd, ws, true, aw, cw, ao, co, by omega, by omega, rfl, rfl, rfl, rfl, rfl, by simp, hI2⟩
        · have e32 : ((b.toNat : Int) == 32) = false := by rw [hcl]; rfl
          have e9 : ((b.toNat : Int) == 9) = false := by rw [hcl]; rfl
          have e34 : ((b.toNat : Int) == 34) = false := by rw [hcl]; rfl
          have e92 : ((b.toNat : Int) == 92) = false := by rw [hcl]; rfl
          have e127 : ((b.toNat : Int) == 127) = true := by rw [hcl]; rfl
          have lt32 : ¬ (b.toNat : Int) < 32 := by rw [hcl]; decide
          have n9 : ((b.toNat : Int) != 9) = true := by rw [hcl]; rfl
          have n34 : ((b.toNat : Int) != 34) = true := by rw [hcl]; rfl
          have n92 : ((b.toNat : Int) != 92) = true := by rw [hcl]; rfl
          have hbl : blankR b.toNat = false := by rw [hcl]; rfl
          have hms : mayStandR b.toNat = false := by rw [hcl]; rfl
          have p34 : ¬ b = 34 := by rw [hcl]; decide
          have p92 : ¬ b = 92 := by rw [hcl]; decide
          have Hcl := hide hcl
          clear hcl
          rcases hfive with h5 | h5 | h5 | h5 | h5
          · subst h5
            have hrs : rstep (0, wd, ws, bad) b = (1, (wd ++ [b]), ws, true) := by rw [Hcl.out]; cases bad <;> rfl
            have hrun2 : rrun (1, (wd ++ [b]), ws, true) (s.data.toList.drop (i + 1)) = ANS := by rw [← hrs]; exact hrun.out
            obtain ⟨v1, w1, hr1, hown1, hbel1, hkeep1⟩ := app_byte_k hI.out.ow (b.toNat : Int) (by omega) hI.out.bel.size 40 hI.out.oo
            rw [cells_one] at hown1
            obtain ⟨a1, c1, rfl⟩ := own_form hown1
            have hI2 : Hid (LoopI w w1 ANS s.data.toList (i + 1) 1 (wd ++ [b]) ws true (.slice a1 (wd.length + 1) c1) (.slice ao ws.length co)) := hide ⟨hI.out.bel.trans hbel1, by rw [List.length_append]; exact hown1, hkeep1, hrun2, by rw [List.length_append]; simp; exact hlw, by omega⟩
            have H1 := hide hr1
            clear hr1 hown1 hbel1 hkeep1 hrun2 hrs hrun hI hms hbl p34 p92
            go_wp2_with (at_builtin; refine wpList_append_eq rfl _ _ 40 rfl _ _ _ (by rfl) (by rfl) (unhide H1) ?_)
            go_roundg (s.size - (i + 1))
            case measure => go_light; omega
            case rel => go_light; exact ⟨i + 1, 1, wd ++ [b], ws, true, a1, c1, ao, co, by omega, by omega, rfl, rfl, by rw [List.length_append]; rfl, rfl, rfl, by simp, by rw [List.length_append]; exact hI2⟩
          · subst h5
            have hrs : rstep (1, wd, ws, bad) b = (1, (wd ++ [b]), ws, true) := by rw [Hcl.out]; cases bad <;> rfl
            have hrun2 : rrun (1, (wd ++ [b]), ws, true) (s.data.toList.drop (i + 1)) = ANS := by rw [← hrs]; exact hrun.out
            obtain ⟨v1, w1, hr1, hown1, hbel1, hkeep1⟩ := app_byte_k hI.out.ow (b.toNat : Int) (by omega) hI.out.bel.size 40 hI.out.oo
            rw [cells_one] at hown1
            obtain ⟨a1, c1, rfl⟩ := own_form hown1
            have hI2 : Hid (LoopI w w1 ANS s.data.toList (i + 1) 1 (wd ++ [b]) ws true (.slice a1 (wd.length + 1) c1) (.slice ao ws.length co)) := hide ⟨hI.out.bel.trans hbel1, by rw [List.length_append]; exact hown1, hkeep1, hrun2, by rw [List.length_append]; simp; exact hlw, by omega⟩
            have H1 := hide hr1
            clear hr1 hown1 hbel1 hkeep1 hrun2 hrs hrun hI hms hbl p34 p92
            go_wp2_with (at_builtin; refine wpList_append_eq rfl _ _ 40 rfl _ _ _ (by rfl) (by rfl) (unhide H1) ?_)
            go_roundg (s.size - (i + 1))
            case measure => go_light; omega
            case rel => go_light; exact ⟨i + 1, 1, wd ++ [b], ws, true, a1, c1, ao, co, by omega, by omega, rfl, rfl, by rw [List.length_append]; rfl, rfl, rfl, by simp, by rw [List.length_append]; exact hI2⟩
          · subst h5
            have hrs : rstep (2, wd, ws, bad) b = (2, (wd ++ [b]), ws, true) := by rw [Hcl.out]; cases bad <;> rfl
            have hrun2 : rrun (2, (wd ++ [b]), ws, true) (s.data.toList.drop (i + 1)) = ANS := by rw [← hrs]; exact hrun.out
            obtain ⟨v1, w1, hr1, hown1, hbel1, hkeep1⟩ := app_byte_k hI.out.ow (b.toNat : Int) (by omega) hI.out.bel.size 40 hI.out.oo
            rw [cells_one] at hown1
            obtain ⟨a1, c1, rfl⟩ := own_form hown1
            have hI2 : Hid (LoopI w w1 ANS s.data.toList (i + 1) 2 (wd ++ [b]) ws true (.slice a1 (wd.length + 1) c1) (.slice ao ws.length co)) := hide ⟨hI.out.bel.trans hbel1, by rw [List.length_append]; exact hown1, hkeep1, hrun2, by rw [List.length_append]; simp; exact hlw, by omega⟩
            have H1 := hide hr1
            clear hr1 hown1 hbel1 hkeep1 hrun2 hrs hrun hI hms hbl p34 p92
            go_wp2_with (at_builtin; refine wpList_append_eq rfl _ _ 40 rfl _ _ _ (by rfl) (by rfl) (unhide H1) ?_)
            go_roundg (s.size - (i + 1))
            case measure => go_light; omega
            case rel => go_light; exact ⟨i + 1, 2, wd ++ [b], ws, true, a1, c1, ao, co, by omega, by omega, rfl, rfl, by rw [List.length_append]; rfl, rfl, rfl, by simp, by rw [List.length_append]; exact hI2⟩
          · subst h5
            cases bad with
            | true =>
              have hrs : rstep (3, wd, ws, true) b = (2, (wd ++ [b]), ws, true) := by rw [Hcl.out]; rfl
              have hrun2 : rrun (2, (wd ++ [b]), ws, true) (s.data.toList.drop (i + 1)) = ANS := by rw [← hrs]; exact hrun.out
              obtain ⟨v1, w1, hr1, hown1, hbel1, hkeep1⟩ := app_byte_k hI.out.ow (b.toNat : Int) (by omega) hI.out.bel.size 40 hI.out.oo
              rw [cells_one] at hown1
              obtain ⟨a1, c1, rfl⟩ := own_form hown1
              have hI2 : Hid (LoopI w w1 ANS s.data.toList (i + 1) 2 (wd ++ [b]) ws true (.slice a1 (wd.length + 1) c1) (.slice ao ws.length co)) := hide ⟨hI.out.bel.trans hbel1, by rw [List.length_append]; exact hown1, hkeep1, hrun2, by rw [List.length_append]; simp; exact hlw, by omega⟩
              have H1 := hide hr1
              clear hr1 hown1 hbel1 hkeep1 hrun2 hrs hrun hI hms hbl p34 p92
              go_wp2_with (at_builtin; refine wpList_append_eq rfl _ _ 40 rfl _ _ _ (by rfl) (by rfl) (unhide H1) ?_)
              go_roundg (s.size - (i + 1))
              case measure => go_light; omega
              case rel => go_light; exact ⟨i + 1, 2, wd ++ [b], ws, true, a1, c1, ao, co, by omega, by omega, rfl, rfl, by rw [List.length_append]; rfl, rfl, rfl, by simp, by rw [List.length_append]; exact hI2⟩
            | false =>
              have hrs : rstep (3, wd, ws, false) b = (2, (wd ++ [b]), ws, true) := by rw [Hcl.out]; rfl
              have hrun2 : rrun (2, (wd ++ [b]), ws, true) (s.data.toList.drop (i + 1)) = ANS := by rw [← hrs]; exact hrun.out
              obtain ⟨v1, w1, hr1, hown1, hbel1, hkeep1⟩ := app_byte_k hI.out.ow (b.toNat : Int) (by omega) hI.out.bel.size 40 hI.out.oo
              rw [cells_one] at hown1
              obtain ⟨a1, c1, rfl⟩ := own_form hown1
              have hI2 : Hid (LoopI w w1 ANS s.data.toList (i + 1) 2 (wd ++ [b]) ws true (.slice a1 (wd.length + 1) c1) (.slice ao ws.length co)) := hide ⟨hI.out.bel.trans hbel1, by rw [List.length_append]; exact hown1, hkeep1, hrun2, by rw [List.length_append]; simp; exact hlw, by omega⟩
              have H1 := hide hr1
              clear hr1 hown1 hbel1 hkeep1 hrun2 hrs hrun hI hms hbl p34 p92
              go_wp2_with (at_builtin; refine wpList_append_eq rfl _ _ 40 rfl _ _ _ (by rfl) (by rfl) (unhide H1) ?_)
              go_roundg (s.size - (i + 1))
              case measure => go_light; omega
              case rel => go_light; exact ⟨i + 1, 2, wd ++ [b], ws, true, a1, c1, ao, co, by omega, by omega, rfl, rfl, by rw [List.length_append]; rfl, rfl, rfl, by simp, by rw [List.length_append]; exact hI2⟩
          · subst h5
            have hrs : rstep (4, wd, ws, bad) b = (4, wd, ws, true) := by rw [Hcl.out]; cases bad <;> rfl
            have hrun2 : rrun (4, wd, ws, true) (s.data.toList.drop (i + 1)) = ANS := by rw [← hrs]; exact hrun.out
            have hI2 : Hid (LoopI w wr ANS s.data.toList (i + 1) 4 wd ws true (.slice aw wd.length cw) (.slice ao ws.length co)) := hide ⟨hI.out.bel, hI.out.ow, hI.out.oo, hrun2, by omega, by omega⟩
            clear hrun2 hrs hrun hI hms hbl p34 p92
            go_wp2_with fail
            go_roundg (s.size - (i + 1))
            case measure => go_light; omega
            case rel => go_light; exact ⟨i + 1, 4, wd, ws, true, aw, cw, ao, co, by omega, by omega, rfl, rfl, rfl, rfl, rfl, by simp, hI2⟩
        · obtain ⟨hcl, q1, q2, q3⟩ := hcl
          have q1n := ne_toNat (n := 34) (by decide) q1
          have q2n := ne_toNat (n := 92) (by decide) q2
          have q3n := ne_toNat (n := 127) (by decide) q3
          have e32 : ((b.toNat : Int) == 32) = false := beq_eq_false_iff_ne.2 (by omega)
          have e9 : ((b.toNat : Int) == 9) = false := beq_eq_false_iff_ne.2 (by omega)
          have e34 : ((b.toNat : Int) == 34) = false := beq_eq_false_iff_ne.2 (by omega)
          have e92 : ((b.toNat : Int) == 92) = false := beq_eq_false_iff_ne.2 (by omega)
          have e127 : ((b.toNat : Int) == 127) = false := beq_eq_false_iff_ne.2 (by omega)
          have lt32 : ¬ (b.toNat : Int) < 32 := by omega
          have n9 : ((b.toNat : Int) != 9) = true := by simp; omega
          have n34 : ((b.toNat : Int) != 34) = true := by simp; omega
          have n92 : ((b.toNat : Int) != 92) = true := by simp; omega
          have hbl : blankR b.toNat = false := by simp [blankR]; omega
          have hms : mayStandR b.toNat = true := by simp [mayStandR]; omega
          have p34 : ¬ b = 34 := by exact fun e => absurd (congrArg UInt8.toNat e) (by show ¬ b.toNat = 34; omega)
          have p92 : ¬ b = 92 := by exact fun e => absurd (congrArg UInt8.toNat e) (by show ¬ b.toNat = 92; omega)
          have Hcl := hide hcl
          clear hcl
          rcases hfive with h5 | h5 | h5 | h5 | h5
          · subst h5
            have hrs : rstep (0, wd, ws, bad) b = (1, (wd ++ [b]), ws, bad) := by simp [rstep, hbl, hms, p34, p92]
            have hrun2 : rrun (1, (wd ++ [b]), ws, bad) (s.data.toList.drop (i + 1)) = ANS := by rw [← hrs]; exact hrun.out
            obtain ⟨v1, w1, hr1, hown1, hbel1, hkeep1⟩ := app_byte_k hI.out.ow (b.toNat : Int) (by omega) hI.out.bel.size 40 hI.out.oo
            rw [cells_one] at hown1
            obtain ⟨a1, c1, rfl⟩ := own_form hown1
            have hI2 : Hid (LoopI w w1 ANS s.data.toList (i + 1) 1 (wd ++ [b]) ws bad (.slice a1 (wd.length + 1) c1) (.slice ao ws.length co)) := hide ⟨hI.out.bel.trans hbel1, by rw [List.length_append]; exact hown1, hkeep1, hrun2, by rw [List.length_append]; simp; exact hlw, by omega⟩
            have H1 := hide hr1
            clear hr1 hown1 hbel1 hkeep1 hrun2 hrs hrun hI hms hbl p34 p92
            go_wp2_with (at_builtin; refine wpList_append_eq rfl _ _ 40 rfl _ _ _ (by rfl) (by rfl) (unhide H1) ?_)
            go_roundg (s.size - (i + 1))
            case measure => go_light; omega
            case rel => go_light; exact ⟨i + 1, 1, wd ++ [b], ws, bad, a1, c1, ao, co, by omega, by omega, rfl, rfl, by rw [List.length_append]; rfl, rfl, rfl, by simp, by rw [List.length_append]; exact hI2⟩
          · subst h5
            have hrs : rstep (1, wd, ws, bad) b = (1, (wd ++ [b]), ws, bad) := by simp [rstep, hbl, hms, p34, p92]
            have hrun2 : rrun (1, (wd ++ [b]), ws, bad) (s.data.toList.drop (i + 1)) = ANS := by rw [← hrs]; exact hrun.out
            obtain ⟨v1, w1, hr1, hown1, hbel1, hkeep1⟩ := app_byte_k hI.out.ow (b.toNat : Int) (by omega) hI.out.bel.size 40 hI.out.oo
            rw [cells_one] at hown1
            obtain ⟨a1, c1, rfl⟩ := own_form hown1
            have hI2 : Hid (LoopI w w1 ANS s.data.toList (i + 1) 1 (wd ++ [b]) ws bad (.slice a1 (wd.length + 1) c1) (.slice ao ws.length co)) := hide ⟨hI.out.bel.trans hbel1, by rw [List.length_append]; exact hown1, hkeep1, hrun2, by rw [List.length_append]; simp; exact hlw, by omega⟩
            have H1 := hide hr1
            clear hr1 hown1 hbel1 hkeep1 hrun2 hrs hrun hI hms hbl p34 p92
            go_wp2_with (at_builtin; refine wpList_append_eq rfl _ _ 40 rfl _ _ _ (by rfl) (by rfl) (unhide H1) ?_)
            go_roundg (s.size - (i + 1))
            case measure => go_light; omega
            case rel => go_light; exact ⟨i + 1, 1, wd ++ [b], ws, bad, a1, c1, ao, co, by omega, by omega, rfl, rfl, by rw [List.length_append]; rfl, rfl, rfl, by simp, by rw [List.length_append]; exact hI2⟩
          · subst h5
            have hrs : rstep (2, wd, ws, bad) b = (2, (wd ++ [b]), ws, bad) := by simp [rstep, hms, p34, p92]
            have hrun2 : rrun (2, (wd ++ [b]), ws, bad) (s.data.toList.drop (i + 1)) = ANS := by rw [← hrs]; exact hrun.out
            obtain ⟨v1, w1, hr1, hown1, hbel1, hkeep1⟩ := app_byte_k hI.out.ow (b.toNat : Int) (by omega) hI.out.bel.size 40 hI.out.oo
            rw [cells_one] at hown1
            obtain ⟨a1, c1, rfl⟩ := own_form hown1
            have hI2 : Hid (LoopI w w1 ANS s.data.toList (i + 1) 2 (wd ++ [b]) ws bad (.slice a1 (wd.length + 1) c1) (.slice ao ws.length co)) := hide ⟨hI.out.bel.trans hbel1, by rw [List.length_append]; exact hown1, hkeep1, hrun2, by rw [List.length_append]; simp; exact hlw, by omega⟩
            have H1 := hide hr1
            clear hr1 hown1 hbel1 hkeep1 hrun2 hrs hrun hI hms hbl p34 p92
            go_wp2_with (at_builtin; refine wpList_append_eq rfl _ _ 40 rfl _ _ _ (by rfl) (by rfl) (unhide H1) ?_)
            go_roundg (s.size - (i + 1))
            case measure => go_light; omega
            case rel => go_light; exact ⟨i + 1, 2, wd ++ [b], ws, bad, a1, c1, ao, co, by omega, by omega, rfl, rfl, by rw [List.length_append]; rfl, rfl, rfl, by simp, by rw [List.length_append]; exact hI2⟩
          · subst h5
            cases bad with
            | true =>
              have hrs : rstep (3, wd, ws, true) b = (2, (wd ++ [b]), ws, true) := by simp [rstep, hms, p34, p92]
              have hrun2 : rrun (2, (wd ++ [b]), ws, true) (s.data.toList.drop (i + 1)) = ANS := by rw [← hrs]; exact hrun.out
              obtain ⟨v1, w1, hr1, hown1, hbel1, hkeep1⟩ := app_byte_k hI.out.ow (b.toNat : Int) (by omega) hI.out.bel.size 40 hI.out.oo
              rw [cells_one] at hown1
              obtain ⟨a1, c1, rfl⟩ := own_form hown1
              have hI2 : Hid (LoopI w w1 ANS s.data.toList (i + 1) 2 (wd ++ [b]) ws true (.slice a1 (wd.length + 1) c1) (.slice ao ws.length co)) := hide ⟨hI.out.bel.trans hbel1, by rw [List.length_append]; exact hown1, hkeep1, hrun2, by rw [List.length_append]; simp; exact hlw, by omega⟩
              have H1 := hide hr1
              clear hr1 hown1 hbel1 hkeep1 hrun2 hrs hrun hI hms hbl p34 p92
              go_wp2_with (at_builtin; refine wpList_append_eq rfl _ _ 40 rfl _ _ _ (by rfl) (by rfl) (unhide H1) ?_)
              go_roundg (s.size - (i + 1))
              case measure => go_light; omega
              case rel => go_light; exact ⟨i + 1, 2, wd ++ [b], ws, true, a1, c1, ao, co, by omega, by omega, rfl, rfl, by rw [List.length_append]; rfl, rfl, rfl, by simp, by rw [List.length_append]; exact hI2⟩
            | false =>
              have hrs : rstep (3, wd, ws, false) b = (2, (wd ++ [b]), ws, true) := by simp [rstep, hms, p34, p92]
              have hrun2 : rrun (2, (wd ++ [b]), ws, true) (s.data.toList.drop (i + 1)) = ANS := by rw [← hrs]; exact hrun.out
              obtain ⟨v1, w1, hr1, hown1, hbel1, hkeep1⟩ := app_byte_k hI.out.ow (b.toNat : Int) (by omega) hI.out.bel.size 40 hI.out.oo
              rw [cells_one] at hown1
              obtain ⟨a1, c1, rfl⟩ := own_form hown1
              have hI2 : Hid (LoopI w w1 ANS s.data.toList (i + 1) 2 (wd ++ [b]) ws true (.slice a1 (wd.length + 1) c1) (.slice ao ws.length co)) := hide ⟨hI.out.bel.trans hbel1, by rw [List.length_append]; exact hown1, hkeep1, hrun2, by rw [List.length_append]; simp; exact hlw, by omega⟩
              have H1 := hide hr1
              clear hr1 hown1 hbel1 hkeep1 hrun2 hrs hrun hI hms hbl p34 p92
              go_wp2_with (at_builtin; refine wpList_append_eq rfl _ _ 40 rfl _ _ _ (by rfl) (by rfl) (unhide H1) ?_)
              go_roundg (s.size - (i + 1))
              case measure => go_light; omega
              case rel => go_light; exact ⟨i + 1, 2, wd ++ [b], ws, true, a1, c1, ao, co, by omega, by omega, rfl, rfl, by rw [List.length_append]; rfl, rfl, rfl, by simp, by rw [List.length_append]; exact hI2⟩
          · subst h5
            have hrs : rstep (4, wd, ws, bad) b = (4, wd, ws, true) := by simp [rstep, hbl, p34, p92]
            have hrun2 : rrun (4, wd, ws, true) (s.data.toList.drop (i + 1)) = ANS := by rw [← hrs]; exact hrun.out
            have hI2 : Hid (LoopI w wr ANS s.data.toList (i + 1) 4 wd ws true (.slice aw wd.length cw) (.slice ao ws.length co)) := hide ⟨hI.out.bel, hI.out.ow, hI.out.oo, hrun2, by omega, by omega⟩
            clear hrun2 hrs hrun hI hms hbl p34 p92
            go_wp2_with fail
            go_roundg (s.size - (i + 1))
            case measure => go_light; omega
            case rel => go_light; exact ⟨i + 1, 4, wd, ws, true, aw, cw, ao, co, by omega, by omega, rfl, rfl, rfl, rfl, rfl, by simp, hI2⟩

      · have hz : ¬ (i : Int) < (s.size : Int) := by omega
        have hA : ANS = (a, wd, ws, bad) := by
          have := hI.out.run
          rw [drop_end s i hlt] at this
          exact this.symm
        have hR := HRES.out
        rw [hA] at hR
        have Hb := hide hI.out.bel
        have Hoo := hide hI.out.oo
        clear hA
        cases bad with
        | true =>
          have hR2 : Hid (RES = none) := hide (by rw [hR]; exact if_pos (Or.inl rfl))
          clear hR
          by_cases h1 : a = 1
          · subst h1
            have hbk := back_own hI.out.ow (W := wr) rfl
            obtain ⟨v1, w1, hr1, hown1, hbel1⟩ := app_text hI.out.oo ⟨wd.toArray⟩ (by omega) hI.out.bel.size 22
            obtain ⟨a1, c1, rfl⟩ := own_form hown1
            have B1 := Hb.out.trans hbel1
            have H1 := hide hr1
            clear hr1 hown1 hbel1 hI hfive
            go_wp2_with (at_builtin; refine wpList_append_eq rfl _ _ 22 rfl _ _ _ (by rfl) (by rfl) (unhide H1) ?_)
            go_ret2
            rw [hR2.out]
            exact ⟨B1, rfl⟩
          · have n1 : ((a : Int) == 1) = false := beq_eq_false_iff_ne.2 (by omega)
            clear hI hfive h1
            go_wp2_with fail
            go_ret2
            rw [hR2.out]
            exact ⟨Hb.out, rfl⟩
        | false =>
          rcases hfive with h5 | h5 | h5 | h5 | h5
          · subst h5
            by_cases h16 : 16 < ws.length
            · have z16 : (16 : Int) < (ws.length : Int) := by omega
              have hR2 : Hid (RES = none) := hide (by rw [hR]; exact if_pos (Or.inr (Or.inr (Or.inr h16))))
              clear hR hI h16
              go_wp2_with fail
              go_ret2
              rw [hR2.out]
              exact ⟨Hb.out, rfl⟩
            · have z16 : ¬ (16 : Int) < (ws.length : Int) := by omega
              have hR2 : Hid (RES = some ws) := hide (by rw [hR]; exact if_neg (fun h => by rcases h with h | h | h | h <;> first | (cases h; done) | exact h16 h))
              clear hR hI h16
              go_wp2_with fail
              go_ret2
              rw [hR2.out]
              exact ⟨Hb.out, _, rfl, Hoo.out⟩
          · subst h5
            have hbk := back_own hI.out.ow (W := wr) rfl
            obtain ⟨v1, w1, hr1, hown1, hbel1⟩ := app_text hI.out.oo ⟨wd.toArray⟩ (by omega) hI.out.bel.size 22
            rw [strs_more1] at hown1
            obtain ⟨a1, c1, rfl⟩ := own_form hown1
            have B1 := hide (Hb.out.trans hbel1)
            have hO1 : Hid (w1.ownsRow w.heap.size 9 1 (.slice a1 (ws.length + 1) c1) (ws ++ [wd]).length (strs (ws ++ [wd]))) := hide (by rw [List.length_append]; exact hown1)
            have H1 := hide hr1
            have hl : (ws ++ [wd]).length = ws.length + 1 := by rw [List.length_append]; rfl
            by_cases h16 : 16 < ws.length + 1
            · have z16 : (16 : Int) < (ws.length : Int) + 1 := by omega
              have hR2 : Hid (RES = none) := hide (by rw [hR]; exact if_pos (Or.inr (Or.inr (Or.inr (by show 16 < (ws ++ [wd]).length; omega)))))
              clear hR hI hr1 hown1 hbel1 h16 hl
              go_wp2_with (at_builtin; refine wpList_append_eq rfl _ _ 22 rfl _ _ _ (by rfl) (by rfl) (unhide H1) ?_)
              go_ret2
              rw [hR2.out]
              exact ⟨B1.out, rfl⟩
            · have z16 : ¬ (16 : Int) < (ws.length : Int) + 1 := by omega
              have hR2 : Hid (RES = some (ws ++ [wd])) := hide (by
                rw [hR]
                exact if_neg (fun h => by
                  rcases h with h | h | h | h
                  · cases h
                  · cases h
                  · cases h
                  · have h' : 16 < (ws ++ [wd]).length := h
                    omega))
              clear hR hI hr1 hown1 hbel1 h16 hl
              go_wp2_with (at_builtin; refine wpList_append_eq rfl _ _ 22 rfl _ _ _ (by rfl) (by rfl) (unhide H1) ?_)
              go_ret2
              rw [hR2.out]
              exact ⟨B1.out, _, rfl, hO1.out⟩
          · subst h5
            have hR2 : Hid (RES = none) := hide (by rw [hR]; exact if_pos (Or.inr (Or.inl rfl)))
            clear hR hI
            go_wp2_with fail
            go_ret2
            rw [hR2.out]
            exact ⟨Hb.out, rfl⟩
          · subst h5
            have hR2 : Hid (RES = none) := hide (by rw [hR]; exact if_pos (Or.inr (Or.inr (Or.inl rfl))))
            clear hR hI
            go_wp2_with fail
            go_ret2
            rw [hR2.out]
            exact ⟨Hb.out, rfl⟩
          · subst h5
            by_cases h16 : 16 < ws.length
            · have z16 : (16 : Int) < (ws.length : Int) := by omega
              have hR2 : Hid (RES = none) := hide (by rw [hR]; exact if_pos (Or.inr (Or.inr (Or.inr h16))))
              clear hR hI h16
              go_wp2_with fail
              go_ret2
              rw [hR2.out]
              exact ⟨Hb.out, rfl⟩
            · have z16 : ¬ (16 : Int) < (ws.length : Int) := by omega
              have hR2 : Hid (RES = some ws) := hide (by rw [hR]; exact if_neg (fun h => by rcases h with h | h | h | h <;> first | (cases h; done) | exact h16 h))
              clear hR hI h16
              go_wp2_with fail
              go_ret2
              rw [hR2.out]
              exact ⟨Hb.out, _, rfl, Hoo.out⟩
end Go.Proofs.YthoeehgnkolgpaaDoor
