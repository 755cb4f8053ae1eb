/- The walk of CodeTurns, whole, where there are more calls than are made. -/
import Derived.Test.YtbmdnlomhnodeabDoorTurns
namespace Go.Proofs.YtbmdnlomhnodeabDoor
open Go.RowKit
set_option maxRecDepth 100000

set_option maxHeartbeats 6400000 in
set_option maxRecDepth 100000 in
theorem turns_walk_b (a0 : Option Addr) (len0 cap0 : Nat) (a1 : Option Addr) (len1 cap1 : Nat) (oa : Option Addr) (ob oo olen ocap : Nat) (F : Nat → OpD) (w : World) (holen : olen ≤ 281474976710656) (hW : Wid w) (hoa : 0 < olen → oa = some ⟨ob, oo, none⟩) (hO : Ops w ob oo olen F) (hmo : 400 < olen) :
    Calls Tryd.prog 3 #[.agg #[.slice a0 len0 cap0, .slice a1 len1 cap1, .slice oa olen ocap]] w fun e w' => e = .returned (.bool true) ∧ w.Since w.heap.size w' := by
  have hs1 : w.Since w.heap.size (w.alloc (.cells #[.slice a0 len0 cap0, .slice a1 len1 cap1, .slice oa olen ocap] 26)) := (World.Since.refl _ _).alloc (Nat.le_refl _) _
  have e0 : (w.alloc (.cells #[.slice a0 len0 cap0, .slice a1 len1 cap1, .slice oa olen ocap] 26)).heap.size = w.heap.size + 1 := by simp
  have box2 : (w.alloc (.cells #[.slice a0 len0 cap0, .slice a1 len1 cap1, .slice oa olen ocap] 26)).cell? ⟨w.heap.size, 2, none⟩ = some (.slice oa olen ocap) := by simp
  go_enter Tryd.func3, Tryd.ntmps3
  go_upto_region 1 with fail
  generalize w.alloc (.cells #[.slice a0 len0 cap0, .slice a1 len1 cap1, .slice oa olen ocap] 26) = w1 at *
  have hfinW : ∀ W, w1.Since w1.heap.size W → w.Since w.heap.size W := fun W h => hs1.trans (since_mono h hs1.size)
  have hO1 := hO.since hs1
  have hW1 := hW.since hs1
  generalize hsb : w.heap.size = sb at *
  have hbx : ∀ W, w1.Since w1.heap.size W → W.cell? ⟨sb, 2, none⟩ = some (.slice oa olen ocap) := fun W h => by
    rw [h.cell (a := ⟨sb, 2, none⟩) (by show sb < w1.heap.size; omega)]; exact box2
  clear hO hW hs1 box2 e0
  obtain ⟨m, hm1, hm2, hm3⟩ : ∃ m, m ≤ olen ∧ m ≤ 400 ∧ (olen ≤ m ∨ 400 ≤ m) := ⟨min olen 400, by omega, by omega, by omega⟩
  have hlen : ∀ i, i ≤ m → (wl F i).length ≤ 1 + i * 1048586 := fun i hi => wl_len F i (fun j hj => hO1.bl j (by omega))
  have hlenm := hlen m (Nat.le_refl _)
  have s11 : w1.Since w1.heap.size w1 := World.Since.refl _ _
  go_wp2_with fail
  refine (new_w w1).mono ?_
  rintro e w2 ⟨rfl, s12, e2, hI⟩
  have hI2 := hI (fun j => ([] : List Nat).getD j 0)
  have h8 := u8_l w1.heap.size w2.heap.size (.slice none 0 0) [] 7 w2 hI2 (hW1.since s12) (by decide) (by decide)
  go_wp2_with fail
  refine h8.mono ?_
  rintro e w3 ⟨rfl, v3, hI3, hE3⟩
  have s13 : w1.Since w1.heap.size w3 := hE3.since s12 (Nat.le_refl _) s12.size (fun k e => by simp [Value.ownBlock] at e)
  have hv3 : ∀ k, v3.ownBlock = some k → w1.heap.size ≤ k := fun k e => by
    rcases hE3.lies with e2 | ⟨q, e2, hq⟩
    · rw [e2] at e; simp [Value.ownBlock] at e
    · rw [e2] at e; cases e; have := s12.size; omega
  replace hI3 : IsL w3 w1.heap.size w2.heap.size v3 (wl F 0) := hI3
  clear h8 hI2 hI hE3 s12 e2
  generalize w2.heap.size = B at *
  generalize hwb : w1.heap.size = wb at *
  go_wp2_with fail
  go_loopg [4] 400 (fun q s4 wx => ∃ (i : Nat) (v : Value), i ≤ m ∧ q = 400 - i ∧ s4 = .int .i64 i ∧ IsL wx wb B v (wl F i) ∧ w1.Since wb wx ∧ ∀ k, v.ownBlock = some k → wb ≤ k)
  case atStart => exact ⟨0, v3, Nat.zero_le _, rfl, rfl, hI3, s13, hv3⟩
  case round =>
    obtain ⟨i, v, hi, rfl, rfl, hIi, hsi, hvi⟩ := hrel
    clear hI3 s13 hv3
    have b2 := hbx wr hsi
    by_cases hlt : i < m
    · have hoa1 := hoa (by omega)
      subst hoa1
      have hOr := hO1.since (hwb ▸ hsi)
      obtain ⟨c0, c1, c2, c3, c4⟩ := hOr.c i (by omega)
      have hz1 : (i : Int) < (olen : Int) := by omega
      have hz2 : (i : Int) < 400 := by omega
      have hl := hlen i (by omega)
      have hcl : Calls Tryd.prog 10 #[.pointer (some ⟨wb, 0, none⟩), .agg #[.int .i64 (F i).K, .int .i64 (F i).WH, .int .i64 (F i).M, .int .u64 (F i).N, .slice (F i).ba (F i).bl (F i).bc]] wr fun e w' => e = .returned (.tuple #[]) ∧ ∃ v', IsL w' wb B v' (wl F (i + 1)) ∧ Ext wb v v' wr w' :=
        lays_walk wb B v (wl F i) (F i).K (F i).WH (F i).M (F i).N (F i).ba (F i).bl (F i).bc (F i).zb wr hIi (hW1.since (hwb ▸ hsi)) (hO1.n i (by omega)) (hOr.byt i (by omega)) (hO1.nil i (by omega)) (by have := hO1.bl i (by omega); omega) (fun hp b off e => by
        have := hO1.low (by omega) hp e
        refine ⟨by omega, fun e2 => ?_⟩
        have := hvi b e2.symm
        omega)
      clear hOr
      generalize (F i).K = K at hcl c0
      generalize (F i).WH = WH at hcl c1
      generalize (F i).M = M at hcl c2
      generalize (F i).N = N at hcl c3
      generalize (F i).ba = ba at hcl c4
      generalize (F i).bl = bl at hcl c4
      generalize (F i).bc = bc at hcl c4
      go_wp2_with fail
      refine hcl.mono ?_
      rintro e w7 ⟨rfl, v7, hI7, hE7⟩
      have hs7 : w1.Since wb w7 := hE7.since hsi (Nat.le_refl _) (hwb ▸ hsi.size) hvi
      have hv7 : ∀ k, v7.ownBlock = some k → wb ≤ k := fun k e => by
        rcases hE7.lies with e2 | ⟨q, e2, hq⟩
        · rw [e2] at e; exact hvi k e
        · rw [e2] at e; cases e; have := hsi.size; omega
      clear hcl c0 c1 c2 c3 c4
      go_wp2_with fail
      go_roundg (400 - (i + 1))
      case measure => go_light; omega
      case rel => go_light; exact ⟨i + 1, v7, by omega, rfl, by simp, hI7, hs7, hv7⟩
    · obtain rfl : i = m := by omega
      have hxi : (i : Int) < (olen : Int) := by omega
      have hyi : ¬ ((i : Int) < 400) := by omega
      have hzb : ∀ j, (wl F i).getD j 0 < 256 := getD_byte (wl_byte F i (fun j hj => hO1.zb j (by omega)))
      have hag : ∀ k, k < i → ∀ n, Agr (fun j => (wl F i).getD j 0) n (wl F k).length (F k).enc := fun k hk n => wl_agr F n hk
      have hah : ∀ n, Agr (fun j => (wl F i).getD j 0) n 0 (fl 1 7) := fun n => wl_head F i n
      have hpos := wl_pos F i
      have hmono : ∀ k, k ≤ i → (wl F k).length ≤ (wl F i).length := fun k hk => wl_mono F hk
      have hout := out_w wb B v (wl F i).length _ wr hIi (by omega)
      go_wp2_with fail
      refine hout.mono ?_
      rintro e w8 ⟨rfl, s8, e8, hrow8⟩
      clear hout
      have hs8 : w1.Since wb w8 := hsi.trans (since_mono s8 (by have := hsi.size; omega))
      have hI8 : IsL w8 wb B v (wl F i) := ⟨row_since hIi.cell s8, own_since hIi.own s8, hIi.ne, Nat.le_trans hIi.lo s8.size⟩
      have hgl := hrow8.lt
      have hg1 : wb ≤ wr.heap.size := by have := hsi.size; omega
      have hlw : ∀ W, w8.Since w8.heap.size W → Calls Tryd.prog 13 #[.pointer (some ⟨wb, 0, none⟩)] W fun e w' => e = .returned (.int .i64 (wl F i).length) ∧ w' = W := fun W h => len_w wb B v (wl F i).length _ W ⟨row_since hI8.cell h, own_since hI8.own h, hI8.ne, Nat.le_trans hI8.lo h.size⟩
      clear hI8 hIi hvi s8 e8 hsi b2
      generalize wr.heap.size = g at *
      generalize hz : (fun j => (wl F i).getD j 0) = z at *
      replace hzb : ∀ j, z j < 256 := by rw [← hz]; exact hzb
      replace hrow8 : w8.rowIs g 5 (wl F i).length (fun j => .int .u8 (z j : Nat)) := by rw [← hz]; exact hrow8
      clear hz
      generalize hn : (wl F i).length = n at *
      obtain ⟨P, hP⟩ : ∃ P, P + 1 = n := ⟨n - 1, by omega⟩
      have hrd := read_any (some ⟨g, 0, none⟩) n n z w8 (by omega) (Byt.of_row hrow8) hzb
      go_wp2_with fail
      refine hrd.mono ?_
      rintro e w9 ⟨rb, rfl, hrb, s9, hR9⟩
      clear hrd
      have hs9 : w1.Since wb w9 := hs8.trans (since_mono s9 (by omega))
      have hrow9 := row_since hrow8 s9
      have hlw9 := hlw w9 s9
      have hfx : fixAns z n 1 0 0 = (7, 1, 0) := by
        rcases fix_res z n 1 7 0 0 (by decide) (by decide) (Or.inr ⟨rfl, hah _, Or.inl (by rw [fl_len]; omega)⟩) with ⟨h, _⟩ | ⟨_, _, h⟩ | ⟨_, h, _⟩
        · exact absurd rfl h
        · exact h
        · omega
      have h8 : Calls Tryd.prog 14 #[.pointer (some ⟨rb, 0, none⟩)] w9 fun e w' => e = .returned (.int .u8 7) ∧ But rb w9 w' ∧ IsR w' rb w8.heap.size n z 1 0 := by
        have h := u8_r rb w8.heap.size n 0 0 z w9 hR9 (hW1.since (hwb ▸ hs9))
        rw [hfx] at h
        exact h
      have hnz : ((n : Int) == 0) = false := by
        have : ¬ ((n : Int) = 0) := by omega
        simpa using this
      clear hfx hlw
      go_wp2_with fail
      refine hlw9.mono ?_
      rintro e w9' ⟨rfl, rfl⟩
      clear hlw9
      go_wp2_with fail
      refine h8.mono ?_
      rintro e w10 ⟨rfl, hb10, hR10⟩
      clear h8 hR9
      have hrbw : wb ≤ rb := by omega
      have hs10 : w1.Since wb w10 := hb10.since hs9 hrbw (by have := hs9.size; omega)
      have hrow10 := hb10.row hrow9 (by omega)
      have hgr : g ≠ rb := by omega
      generalize w8.heap.size = hb at *
      clear hrow9 hs9 hb10 hrow8 hs8 s9
      go_wp2_with fail
      go_loopg [7] 400 (fun q s7 wx => ∃ (k : Nat), k ≤ i ∧ q = 400 - k ∧ s7 = .int .i64 k ∧ IsR wx rb hb n z (wl F k).length 0 ∧ w1.Since wb wx ∧ wx.rowIs g 5 n (fun j => .int .u8 (z j : Nat)))
      case atStart => exact ⟨0, Nat.zero_le _, rfl, rfl, hR10, hs10, hrow10⟩
      case round =>
        obtain ⟨k, hk, rfl, rfl, hRk, hsk, hrowk⟩ := hrel
        clear hR10 hs10 hrow10
        have b2 := hbx wr hsk
        by_cases hlk : k < i
        · have hoa1 := hoa (by omega)
          subst hoa1
          have hOr := hO1.since (hwb ▸ hsk)
          obtain ⟨c0, c1, c2, c3, c4⟩ := hOr.c k (by omega)
          have hz1 : (k : Int) < (olen : Int) := by omega
          have hz2 : (k : Int) < 400 := by omega
          have hcl : Calls Tryd.prog 15 #[.pointer (some ⟨rb, 0, none⟩), .agg #[.int .i64 (F k).K, .int .i64 (F k).WH, .int .i64 (F k).M, .int .u64 (F k).N, .slice (F k).ba (F k).bl (F k).bc]] wr fun e w' => e = .returned (.bool true) ∧ But rb wr w' ∧ IsR w' rb hb n z (wl F (k + 1)).length 0 := by
            have hnx := wl_next F k
            have hmo2 := hmono (k + 1) (by omega)
            refine (back_walk wr rb hb n z (wl F k).length 0 (F k).K (F k).WH (F k).M (F k).N (F k).ba (F k).bl (F k).bc (F k).zb hRk (hW1.since (hwb ▸ hsk)) (hO1.n k (by omega)) (hOr.byt k (by omega)) (by have := hO1.bl k (by omega); omega) (fun hp b off e => by have := hO1.low (by omega) hp e; omega) (Or.inr ⟨rfl, hag k hlk n, Or.inl (by show (wl F k).length + (F k).enc.length ≤ n; omega)⟩)).mono (fun e w' ⟨r, at2, bad2, h1, h2, h3, h4⟩ => ?_)
            rcases h4 with ⟨h, _⟩ | ⟨_, _, h5, h6, h7⟩ | ⟨_, h, _⟩
            · exact absurd rfl h
            · subst h5; subst h7
              refine ⟨h1, h2, ?_⟩
              rw [hnx]
              have h6' : at2 = (wl F k).length + (F k).enc.length := h6
              rw [← h6']; exact h3
            · replace h : (wl F k).length + (F k).enc.length = n + 1 := h
              omega
          clear hOr
          generalize (F k).K = K at hcl c0
          generalize (F k).WH = WH at hcl c1
          generalize (F k).M = M at hcl c2
          generalize (F k).N = N at hcl c3
          generalize (F k).ba = ba at hcl c4
          generalize (F k).bl = bl at hcl c4
          generalize (F k).bc = bc at hcl c4
          go_wp2_with fail
          refine hcl.mono ?_
          rintro e w11 ⟨rfl, hb11, hR11⟩
          have hft : Calls Tryd.prog 17 #[.pointer (some ⟨rb, 0, none⟩)] w11 fun e w' => e = .returned (.int .i64 0) ∧ w' = w11 := fault_any rb hb n _ 0 z w11 hR11
          clear hcl c0 c1 c2 c3 c4
          go_wp2_with fail
          refine hft.mono ?_
          rintro e w12 ⟨rfl, rfl⟩
          clear hft
          go_wp2_with fail
          refine (num_e _ _).mono ?_
          rintro e w13 ⟨rfl, rfl⟩
          have hs13 : w1.Since wb w13 := hb11.since hsk hrbw (by have := hsk.size; omega)
          have hrow13 := hb11.row hrowk hgr
          clear hrowk hsk
          go_wp2_with fail
          go_roundg (400 - (k + 1))
          case measure => go_light; omega
          case rel => go_light; exact ⟨k + 1, by omega, rfl, by simp, hR11, hs13, hrow13⟩
        · obtain rfl : k = i := by omega
          have hxk : (k : Int) < (olen : Int) := by omega
          have hyk : ¬ ((k : Int) < 400) := by omega
          rw [hn] at hRk
          have hend : Calls Tryd.prog 18 #[.pointer (some ⟨rb, 0, none⟩)] wr fun e w' => e = .returned (.int .i64 0) ∧ ∃ m, w' = wr.drewN m := by
            have h := end_r rb hb n n 0 z wr hRk
            rw [if_neg (fun h => absurd h.2 (Nat.lt_irrefl _))] at h
            exact h
          have hlf : ∀ W, wr.Since wr.heap.size W → Calls Tryd.prog 19 #[.pointer (some ⟨rb, 0, none⟩)] W fun e w' => e = .returned (.int .i64 0) ∧ ∃ m, w' = W.drewN m := fun W hs => by
            have h := left_any rb hb n n 0 z W (hRk.since hs)
            rw [Nat.sub_self] at h
            exact h
          have hat : ∀ W, wr.Since wr.heap.size W → Calls Tryd.prog 20 #[.pointer (some ⟨rb, 0, none⟩)] W fun e w' => e = .returned (.int .i64 n) ∧ wr.Since wr.heap.size w' := fun W hs => (at_any rb hb n n 0 z W (hRk.since hs)).mono (fun e w' ⟨h1, h2⟩ => ⟨h1, by rw [h2]; exact hs⟩)
          go_wp2_with fail
          refine hend.mono ?_
          rintro e w14 ⟨rfl, m14, rfl⟩
          go_wp2_with fail
          refine (num_e _ _).mono ?_
          rintro e w15 ⟨rfl, rfl⟩
          go_wp2_with fail
          refine (hlf _ ?_).mono ?_
          · exact ⟨rfl, rfl, rfl, Nat.le_refl _, fun _ _ => rfl⟩
          rintro e w16 ⟨rfl, m16, rfl⟩
          go_wp2_with fail
          refine (hat _ ?_).mono ?_
          · exact ⟨rfl, rfl, rfl, Nat.le_refl _, fun _ _ => rfl⟩
          rintro e w17 ⟨rfl, s17⟩
          have hs17 : w1.Since wb w17 := hsk.trans (since_mono s17 (by have := hsk.size; omega))
          have hrow17 := row_since hrowk s17
          clear hend hlf hat hRk s17 hrowk hsk hlk hk
          have hsub : (n : Int) - 1 = (P : Int) := by omega
          have hwP : IntKind.i64.wrap (P : Int) = (P : Int) := by rw [IntKind.wrap_i64]; omega
          have hP0 : (0 : Int) ≤ (P : Int) := by omega
          have hPn : (P : Int) ≤ (n : Int) := by omega
          have hPn2 : P ≤ n := by omega
          have hrd2 := read_any (some ⟨g, 0, none⟩) P n z w17 (by omega) ((Byt.of_row hrow17).le hPn2) hzb
          go_wp2_with fail
          refine hrd2.mono ?_
          rintro e w18 ⟨tb, rfl, htb, s18, hT18⟩
          have z17 := hs17.size
          have hs18 : w1.Since wb w18 := hs17.trans (since_mono s18 (by omega))
          have htbw : wb ≤ tb := by omega
          generalize w17.heap.size = hb2 at *
          have h8 : Calls Tryd.prog 14 #[.pointer (some ⟨tb, 0, none⟩)] w18 fun e w' => ∃ A : Nat, e = .returned (.int .u8 A) ∧ But tb w18 w' ∧ ∃ at2 bad2, IsR w' tb hb2 P z at2 bad2 ∧ ((bad2 = 0 ∧ at2 = (wl F 0).length ∧ (wl F 0).length ≤ P) ∨ bad2 = 10) := by
            refine (u8_r tb hb2 P 0 0 z w18 hT18 (hW1.since (hwb ▸ hs18))).mono (fun e w' ⟨h1, h2, h3⟩ => ⟨_, h1, h2, _, _, h3, ?_⟩)
            rcases fix_res z P 1 7 0 0 (by decide) (by decide) (Or.inr ⟨rfl, hah _, by rw [fl_len]; omega⟩) with ⟨h, _⟩ | ⟨_, h5, h⟩ | ⟨_, h5, h⟩
            · exact absurd rfl h
            · rw [h]; exact Or.inl ⟨rfl, rfl, by show 1 ≤ P; omega⟩
            · rw [h]; exact Or.inr rfl
          clear hrd2 hT18
          go_wp2_with fail
          refine h8.mono ?_
          rintro e w19 ⟨A8, rfl, hb19, at9, bad9, hT19, hst19⟩
          have hs19 : w1.Since wb w19 := hb19.since hs18 htbw (by have := hs18.size; omega)
          clear h8 hb19 hs18 s18 hs17 hrow17
          go_wp2_with fail
          go_loopg [9] 400 (fun q s9 wx => ∃ (c at' bad : Nat), c ≤ k ∧ q = 400 - c ∧ s9 = .int .i64 c ∧ IsR wx tb hb2 P z at' bad ∧ w1.Since wb wx ∧ ((bad = 0 ∧ at' = (wl F c).length ∧ (wl F c).length ≤ P) ∨ bad = 10))
          case atStart => exact ⟨0, at9, bad9, Nat.zero_le _, rfl, rfl, hT19, hs19, hst19⟩
          case round =>
            obtain ⟨c, at', bad, hc, rfl, rfl, hTc, hsc, hst⟩ := hrel
            clear hT19 hs19 hst19
            have b2 := hbx wr hsc
            by_cases hlc : c < k
            · have hoa1 := hoa (by omega)
              subst hoa1
              have hOr := hO1.since (hwb ▸ hsc)
              obtain ⟨c0, c1, c2, c3, c4⟩ := hOr.c c (by omega)
              have hz1 : (c : Int) < (olen : Int) := by omega
              have hz2 : (c : Int) < 400 := by omega
              have hcl : Calls Tryd.prog 15 #[.pointer (some ⟨tb, 0, none⟩), .agg #[.int .i64 (F c).K, .int .i64 (F c).WH, .int .i64 (F c).M, .int .u64 (F c).N, .slice (F c).ba (F c).bl (F c).bc]] wr fun e w' => ∃ r, e = .returned (.bool r) ∧ But tb wr w' ∧ ∃ at2 bad2, IsR w' tb hb2 P z at2 bad2 ∧ ((bad2 = 0 ∧ at2 = (wl F (c + 1)).length ∧ (wl F (c + 1)).length ≤ P) ∨ bad2 = 10) := by
                have hnx := wl_next F c
                have hmo2 := hmono (c + 1) (by omega)
                have hle := hTc.le
                refine (back_walk wr tb hb2 P z at' bad (F c).K (F c).WH (F c).M (F c).N (F c).ba (F c).bl (F c).bc (F c).zb hTc (hW1.since (hwb ▸ hsc)) (hO1.n c (by omega)) (hOr.byt c (by omega)) (by have := hO1.bl c (by omega); omega) (fun hp b off e => by have := hO1.low (by omega) hp e; omega) ?_).mono (fun e w' ⟨r, at2, bad2, h1, h2, h3, h4⟩ => ⟨r, h1, h2, at2, bad2, h3, ?_⟩)
                · rcases hst with ⟨h1, h2, h3⟩ | h1
                  · subst h1; subst h2
                    refine Or.inr ⟨rfl, hag c hlc P, ?_⟩
                    show (wl F c).length + (F c).enc.length ≤ P ∨ (wl F c).length + (F c).enc.length = P + 1
                    omega
                  · exact Or.inl (by omega)
                · rcases h4 with ⟨h, h5⟩ | ⟨h, h5, _, h6, h7⟩ | ⟨_, _, h⟩
                  · rcases hst with ⟨h1, _, _⟩ | h1
                    · exact absurd h1 h
                    · exact Or.inr (h5.trans h1)
                  · rcases hst with ⟨_, h2, _⟩ | h1
                    · subst h2
                      replace h6 : at2 = (wl F c).length + (F c).enc.length := h6
                      replace h5 : (wl F c).length + (F c).enc.length ≤ P := h5
                      exact Or.inl ⟨h7, by omega, by omega⟩
                    · omega
                  · exact Or.inr h
              clear hOr
              generalize (F c).K = K at hcl c0
              generalize (F c).WH = WH at hcl c1
              generalize (F c).M = M at hcl c2
              generalize (F c).N = N at hcl c3
              generalize (F c).ba = ba at hcl c4
              generalize (F c).bl = bl at hcl c4
              generalize (F c).bc = bc at hcl c4
              go_wp2_with fail
              refine hcl.mono ?_
              rintro e w21 ⟨r21, rfl, hb21, at2, bad2, hT21, hst21⟩
              have hs21 : w1.Since wb w21 := hb21.since hsc htbw (by have := hsc.size; omega)
              clear hcl c0 c1 c2 c3 c4
              go_wp2_with fail
              go_roundg (400 - (c + 1))
              case measure => go_light; omega
              case rel => go_light; exact ⟨c + 1, at2, bad2, by omega, rfl, by simp, hT21, hs21, hst21⟩
            · obtain rfl : c = k := by omega
              have hxc : (c : Int) < (olen : Int) := by omega
              have hyc : ¬ ((c : Int) < 400) := by omega
              have hbad : bad = 10 := by
                rcases hst with ⟨_, _, h⟩ | h
                · omega
                · exact h
              subst hbad
              have hft : Calls Tryd.prog 17 #[.pointer (some ⟨tb, 0, none⟩)] wr fun e w' => e = .returned (.int .i64 10) ∧ w' = wr := fault_any tb hb2 P at' 10 z wr hTc
              have hend : Calls Tryd.prog 18 #[.pointer (some ⟨tb, 0, none⟩)] wr fun e w' => e = .returned (.int .i64 10) ∧ ∃ m, w' = wr.drewN m := by
                have h := end_r tb hb2 P at' 10 z wr hTc
                rw [if_neg (fun h => absurd h.1 (by decide))] at h
                exact h
              go_wp2_with fail
              refine hft.mono ?_
              rintro e w22 ⟨rfl, rfl⟩
              go_wp2_with fail
              refine (num_e _ _).mono ?_
              rintro e w23 ⟨rfl, rfl⟩
              go_wp2_with fail
              refine hend.mono ?_
              rintro e w24 ⟨rfl, m24, rfl⟩
              go_wp2_with fail
              refine (num_e _ _).mono ?_
              rintro e w25 ⟨rfl, rfl⟩
              go_wp2_with fail
              go_ret
              refine ⟨rfl, ?_⟩
              rw [hsb]
              exact hfinW _ (since_drewN' hsc m24)
end Go.Proofs.YtbmdnlomhnodeabDoor
