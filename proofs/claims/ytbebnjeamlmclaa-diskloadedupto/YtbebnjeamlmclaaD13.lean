/- Stage 4's laws: DiskLoaded, where the room is one. -/
import Derived.Test.YtbebnjeamlmclaaD12
namespace Go.Proofs.Ytbebnjeamlmclaa
open Go.RowKit Go.Maps Go.Sort
set_option maxRecDepth 100000
set_option maxRecDepth 100000

set_option maxHeartbeats 12800000 in
theorem loadedIn (fa : Option Addr) (n fc : Nat) (room : Nat) (pa : Option Addr) (pn pc : Nat) (nm : Nat → ByteArray) (dl : Nat → Nat) (dx : Nat → Nat → Nat) (w : World) (hs : Src w fa n nm dl dx) (hp : Picks w pa pn) (hn : n ≤ 1048576) (hsz : ∀ i, i < n → (nm i).size ≤ 1048576) (hsum : sumL dl n ≤ 1048576) (hr : room ≤ 67108864) :
    Calls Try.prog 3 #[.agg #[.slice fa n fc, .int .i64 room, .slice pa pn pc]] w fun e w' => e = .returned (.bool true) ∧ Below w.heap.size w w' := by
  have hbx := box_new w fa n fc room pa pn pc nm dl dx hs hp
  have HD : Hid (∀ i, i < n → dl i ≤ 1048576) := fun i hi => Nat.le_trans (dl_le dl hi) hsum
  have HSZ : Hid (∀ i, i < n → (nm i).size ≤ 1048576) := hsz
  have hb0 : Below w.heap.size w (w.alloc (.cells #[.slice fa n fc, .int .i64 room, .slice pa pn pc] 25)) := (Below.refl _ _).alloc (Nat.le_refl _) _
  have HSU : Hid (∀ i, i ≤ n → sumL dl i ≤ 1048576) := fun i hi => Nat.le_trans (sumL_mono dl hi) hsum
  have hnz : (n : Int) ≤ 1048576 := by omega
  clear hs hp hsz hsum
  go_enter Try.func3, Try.ntmps3
  go_upto_region 1 with fail
  generalize w.alloc (.cells #[.slice fa n fc, .int .i64 room, .slice pa pn pc] 25) = W1 at *
  have HBW : Hid (∀ W, Below W1.heap.size W1 W → Below w.heap.size w W) := fun W hb => hb0.trans (hb.mono hb0.size)
  generalize w.heap.size = tb at hbx ⊢
  clear hb0
  have c1 := hbx.c1
  have hg : (0 : Int) ≤ (room : Int) := by omega
  have hg2 : (room : Int) ≤ 67108864 := by omega
  go_quiet (fail)
  have hbx2 := hbx.drewN nq
  clear hbx c1
  go_wp2_with fail
  go_loopg [3, 4, 6] n (fun q s3 s4 s6 wx => ∃ (i : Nat), i ≤ n ∧ q = n - i ∧ s6 = .int .i64 i ∧ s3 = .int .i64 (sumL dl i : Nat) ∧ s4 = .bool ((List.range i).all (stepB nm)) ∧ Box W1 tb fa n fc room pa pn pc nm dl dx wx)
  case atStart => exact ⟨0, Nat.zero_le _, rfl, rfl, rfl, rfl, hbx2⟩
  case round =>
    obtain ⟨i, hi, rfl, rfl, rfl, rfl, hb⟩ := hrel
    clear hbx2
    have d0 := hb.c0
    have d1 := hb.c1
    by_cases hlt : i < n
    · have hz : (i : Int) < (n : Int) := by omega
      obtain ⟨b, o, rfl, k1, da, dc, k2, _, _⟩ := hb.src i hlt
      obtain ⟨S1, hS1, hS2⟩ : ∃ S1 : Nat, ((sumL dl i : Nat) : Int) + ((dl i : Nat) : Int) = (S1 : Int) ∧ S1 = sumL dl (i + 1) := ⟨sumL dl (i + 1), by show _ = ((sumL dl i + dl i : Nat) : Int); omega, rfl⟩
      have hwS : IntKind.i64.wrap (S1 : Int) = (S1 : Int) := by have := HSU.out (i + 1) (by omega); rw [IntKind.wrap_i64]; omega
      have HSUM : Hid (Value.int .i64 (S1 : Int) = .int .i64 (sumL dl (i + 1) : Nat)) := by rw [hS2]; exact rfl
      clear hS2
      generalize sumL dl i = S0 at *
      go_upto_region 9 with fail
      cases hall : (List.range i).all (stepB nm) with
      | false =>
        have HA : Hid ((List.range (i + 1)).all (stepB nm) = false) := by
          show _ = _
          rw [all_range_succ, hall]; rfl
        go_quiet (fail)
        go_wp2_with fail
        go_roundg (n - (i + 1))
        case measure => go_light; omega
        case rel => go_light; exact ⟨i + 1, by omega, rfl, by simp, HSUM.out, by rw [HA.out], hb.drewN _⟩
      | true =>
        have hin : ∀ W, _ := fun W => isName_any (nm i) W
        cases hok : okN (nm i) with
        | false =>
          have HA : Hid ((List.range (i + 1)).all (stepB nm) = false) := by
            show _ = _
            rw [all_range_succ, hall]; unfold stepB; rw [hok]; rfl
          rw [hok] at hin
          clear hok hall
          generalize nm i = s at *
          go_quiet (exact Calls.quiet_of_same (hin _))
          go_wp2_with fail
          go_roundg (n - (i + 1))
          case measure => go_light; omega
          case rel => go_light; exact ⟨i + 1, by omega, rfl, by simp, HSUM.out, by rw [HA.out], hb.drewN _⟩
        | true =>
          rw [hok] at hin
          by_cases h0 : i = 0
          · subst h0
            have HA : Hid ((List.range (0 + 1)).all (stepB nm) = true) := by
              show _ = _
              rw [all_range_succ, hall]; unfold stepB; rw [hok]; rfl
            have k1' : wr.cell? ⟨b, o, none⟩ = some (.string (nm 0)) := by simpa using k1
            clear hok hall
            generalize nm 0 = s at *
            go_quiet (exact Calls.quiet_of_same (hin _))
            go_wp2_with fail
            go_roundg (n - (0 + 1))
            case measure => go_light; omega
            case rel => go_light; exact ⟨0 + 1, by omega, rfl, by simp, HSUM.out, by rw [HA.out], hb.drewN _⟩
          · obtain ⟨j, hj⟩ : ∃ j : Nat, i = j + 1 := ⟨i - 1, by omega⟩
            subst hj
            obtain ⟨b', o', e', hp', _⟩ := hb.src j (by omega)
            cases e'
            have hie : (((j + 1 : Nat) : Int) == 0) = false := beq_eq_false_iff_ne.2 (by omega)
            have hie2 : ((j : Int) + 1 == 0) = false := beq_eq_false_iff_ne.2 (by omega)
            have hie3 : ¬ ((j : Int) + 1 = 0) := by omega
            have hwj : IntKind.i64.wrap (j : Int) = (j : Int) := by rw [IntKind.wrap_i64]; omega
            have hj2 : (j : Int) < (n : Int) := by omega
            have HST : Hid (stepB nm (j + 1) = Op.bytesLess (nm j).toList (nm (j + 1)).toList) := by
              show _ = _
              unfold stepB
              rw [hok, Nat.add_sub_cancel]; simp
            have HAL : Hid ((List.range (j + 1 + 1)).all (stepB nm) = stepB nm (j + 1)) := by
              show _ = _
              rw [all_range_succ, hall]; rfl
            clear hok hall
            generalize nm (j + 1) = s at *
            generalize nm j = s' at *
            cases hbl : Op.bytesLess s'.toList s.toList with
            | true =>
              have hls : ∀ W, (binOp .lss 9 (.string s') (.string s)).run Try.prog W = .ok (.bool true) W := fun W => by simp [binOp, Op.stringOp, hbl]
              have HA : Hid ((List.range (j + 1 + 1)).all (stepB nm) = true) := by rw [HAL.out, HST.out, hbl]; exact rfl
              go_quiet (exact Calls.quiet_of_same (hin _))
              go_wp2_with fail
              go_roundg (n - (j + 1 + 1))
              case measure => go_light; omega
              case rel => go_light; exact ⟨j + 1 + 1, by omega, rfl, by simp, HSUM.out, by rw [HA.out], hb.drewN _⟩
            | false =>
              have hls : ∀ W, (binOp .lss 9 (.string s') (.string s)).run Try.prog W = .ok (.bool false) W := fun W => by simp [binOp, Op.stringOp, hbl]
              have HA : Hid ((List.range (j + 1 + 1)).all (stepB nm) = false) := by rw [HAL.out, HST.out, hbl]; exact rfl
              go_quiet (exact Calls.quiet_of_same (hin _))
              go_wp2_with fail
              go_roundg (n - (j + 1 + 1))
              case measure => go_light; omega
              case rel => go_light; exact ⟨j + 1 + 1, by omega, rfl, by simp, HSUM.out, by rw [HA.out], hb.drewN _⟩
    · obtain rfl : n = i := by omega
      have HGV : Hid (∀ W, Box W1 tb fa n fc room pa pn pc nm dl dx W → Calls Try.prog 9 #[.slice fa n fc] W fun e w' => ∃ gb cap, e = .returned (.slice (some ⟨gb, 0, none⟩) n cap) ∧ (∃ lg lc fl, Giv w' gb cap n nm dl dx lg lc fl) ∧ Below W.heap.size W w') := fun W h => given_any fa n fc nm dl dx W h.src hn HD.out
      cases hall : (List.range n).all (stepB nm) with
      | false =>
        have hI : imgB n nm = false := by unfold imgB; rw [hall]; simp
        have HLD : Hid (∀ W gb cap, Img W (some ⟨gb, 0, none⟩) n nm dl dx → Calls Try.prog 10 #[.slice (some ⟨gb, 0, none⟩) n cap, .int .i64 room] W fun e w' => e = .returned (.tuple #[.pointer none, .int .i64 46]) ∧ Below W.heap.size W w') := fun W gb cap hi => load_bad _ n cap nm dl dx room W hi (by omega) hr (.inl hI)
        go_wp2_with fail
        refine (HGV.out _ hb).mono ?_
        rintro e w2 ⟨gb, cap, rfl, ⟨lg, lc, fl, hG⟩, hb2⟩
        have hbB := hb.on hb2
        have hld := HLD.out w2 gb cap hG.img
        have e1 := hbB.c1
        clear HGV HLD d0 d1
        go_wp2_with fail
        refine hld.mono ?_
        rintro e w3 ⟨rfl, hb3⟩
        have hbC := hbB.on hb3
        have e0 := hbC.c0
        have hut := untouched_any gb cap n fa fc nm dl dx lg lc fl w3 (hG.on hb3) hbC.src hn HD.out
        clear hld e1 hG
        go_wp2_with fail
        refine hut.mono ?_
        rintro e w4 ⟨rfl, m4, rfl⟩
        have hnm := num_any 46 (w3.drewN m4)
        clear hut e0
        go_wp2_with fail
        refine hnm.mono ?_
        rintro e w5 ⟨rfl, rfl⟩
        go_wp2_with fail
        go_ret
        exact ⟨rfl, HBW.out _ (below_drewN hbC.b _)⟩
      | true =>
        have hsb := HSU.out n (Nat.le_refl _)
        by_cases hsr : sumL dl n ≤ room
        · have hsrz : ((sumL dl n : Nat) : Int) ≤ (room : Int) := by omega
          by_cases h64 : n ≤ 64
          · have h64z : (n : Int) ≤ 64 := by omega
            have hI : imgB n nm = true := by unfold imgB; rw [hall]; simp [h64]
            have HSS : Hid (sumL dl n ≤ room) := hsr
            clear hall
            generalize sumL dl n = SS at hsrz hsb ⊢
            go_wp2_with fail
            refine (HGV.out _ hb).mono ?_
            rintro e w2 ⟨gb, cap, rfl, ⟨lg, lc, fl, hG⟩, hb2⟩
            have hbB := hb.on hb2
            have hld := load_good (some ⟨gb, 0, none⟩) n cap nm dl dx room w2 hG.img hr hI HSS.out HSZ.out HD.out
            have e1 := hbB.c1
            clear HGV d0 d1
            go_wp2_with fail
            refine hld.mono ?_
            rintro e w3 ⟨db, sb, nb, fb, rfl, hDk, hb3⟩
            have hbC := hbB.on hb3
            have e0 := hbC.c0
            have hut := untouched_any gb cap n fa fc nm dl dx lg lc fl w3 (hG.on hb3) hbC.src hn HD.out
            clear hld e1 hG
            go_wp2_with fail
            refine hut.mono ?_
            rintro e w4 ⟨rfl, m4, rfl⟩
            have hbD := hbC.drewN m4
            have hDD := hDk.on (below_drewN (Below.refl _ _) m4)
            have HNU : Hid (∀ e W, Calls Try.prog 12 #[.int .i64 e] W fun r w' => r = .returned (.int .i64 e) ∧ w' = W) := num_any
            generalize w3.drewN m4 = w4 at *
            have g1 := hbD.c1
            have HST : Hid (∀ k, Calls Try.prog 13 #[.pointer (some ⟨db, 0, none⟩)] (w4.drewN k) fun e w' => e = .returned (.int .i64 0) ∧ w' = w4.drewN k) := fun k => strokes_any (hDD.on (below_drewN (Below.refl _ _) k))
            have HRO : Hid (∀ k, Calls Try.prog 14 #[.pointer (some ⟨db, 0, none⟩)] (w4.drewN k) fun e w' => e = .returned (.int .i64 room) ∧ w' = w4.drewN k) := fun k => room_any (hDD.on (below_drewN (Below.refl _ _) k))
            clear hut e0 hDk hbC hbB hb hb2 hb3
            go_wp2_with fail
            go_quiet (first | exact Calls.quiet_of_same (HNU.out _ _) | exact Calls.quiet_of_same (HST.out _) | exact Calls.quiet_of_same (HRO.out _))
            have hbE := hbD.drewN nq
            have hDE := hDD.on (below_drewN (Below.refl _ _) nq)
            clear hbD hDD g1 HST HRO
            generalize w4.drewN nq = w5 at *
            have hli := list_any hDE hI
            go_wp2_with fail
            refine hli.mono ?_
            rintro e w6 ⟨na, nc, rfl, hnames, hb6⟩
            have hbF := hbE.on hb6
            have hDF := hDE.on hb6
            have f0 := hbF.c0
            have HNA : Hid (∀ W, Below w6.heap.size w6 W → ∀ i, i < n → ∃ g, na = some ⟨g, 0, none⟩ ∧ W.cell? ⟨g, i, none⟩ = some (.string (nm i))) := fun W hb i hi => by
              obtain ⟨g, e, hc⟩ := hnames i hi
              exact ⟨g, e, cel_on hb hc⟩
            clear hli hnames hbE hDE
            go_wp2_with (go_at_call 12; refine (HNU.out _ _).mono ?_; rintro e w7 ⟨rfl, rfl⟩)
            go_loopg [12] n (fun q s12 wx => ∃ (i : Nat), i ≤ n ∧ q = n - i ∧ s12 = .int .i64 i ∧ Below w7.heap.size w7 wx)
            case atStart => exact ⟨0, Nat.zero_le _, rfl, rfl, Below.refl _ _⟩
            case round =>
              obtain ⟨i, hi, rfl, rfl, hb7⟩ := hrel
              have hbG := hbF.on hb7
              have hDG := hDF.on hb7
              clear f0
              have f0 := hbG.c0
              by_cases hlt : i < n
              · have hz : (i : Int) < (n : Int) := by omega
                obtain ⟨g, rfl, hcn⟩ := HNA.out wr hb7 i hlt
                have hrd := read_any hDG hI hlt (HSZ.out i hlt) (HD.out i hlt)
                go_wp2_with fail
                refine hrd.mono ?_
                rintro e w8 ⟨g8, rfl, hb8, hby8⟩
                have hcn8 := cel_on hb8 hcn
                have hsi := size_any (hDG.on hb8) hI hlt (HSZ.out i hlt)
                clear hrd hcn
                go_wp2_with fail
                refine hsi.mono ?_
                rintro e w9 ⟨rfl, rfl⟩
                clear hsi
                have hbH := hbG.on hb8
                have k0 := hbH.c0
                obtain ⟨b, o, rfl, k1, da, dc, k2, k3, k4⟩ := hbH.src i hlt
                have HEQ : Hid (∀ k, Calls Try.prog 18 #[.slice (some ⟨g8, 0, none⟩) (dl i) (dl i), .slice da (dl i) dc] (w9.drewN k) fun e w' => e = .returned (.bool true) ∧ ∃ m, w' = (w9.drewN k).drewN m) := fun k => eq_same (some ⟨g8, 0, none⟩) da (dl i) (dl i) dc (dx i) (w9.drewN k) (hby8.drewN k) (k4.drewN k) (by have := HD.out i hlt; omega)
                have hne : ∀ W, (binOp .neq 9 (.string (nm i)) (.string (nm i))).run Try.prog W = .ok (.bool false) W := fun W => by simp [binOp, Op.stringOp]
                have hbW := hb7.trans (hb8.mono hb7.size)
                clear hby8 k3 k4 hbG hDG hb7 hb8 f0
                generalize nm i = s at *
                generalize dl i = d at *
                go_wp2_with fail
                go_quiet (first | exact Calls.quiet_of_same (HNU.out _ _) | exact Calls.quiet_of (HEQ.out _))
                go_wp2_with fail
                go_roundg (n - (i + 1))
                case measure => go_light; omega
                case rel => go_light; exact ⟨i + 1, by omega, rfl, by simp, below_drewN hbW _⟩
              · obtain rfl : n = i := by omega
                have j0 := hbG.c0
                have j2 := hbG.c2
                have HCP : Hid (∀ W, Below wr.heap.size wr W → Calls Try.prog 20 #[.pointer (some ⟨db, 0, none⟩), .slice pa pn pc] W fun e w' => ∃ g, e = .returned (.slice (some ⟨g, 0, none⟩) n n) ∧ Img w' (some ⟨g, 0, none⟩) n nm dl dx ∧ Below wr.heap.size wr w') := fun W hb => (crash_any (hDG.on hb) hI HSZ.out HD.out pa pn pc (hbG.pk.on hb)).mono fun e w' ⟨g, he, hi, hb'⟩ => ⟨g, he, hi, hb.trans (hb'.mono hb.size)⟩
                have HCN : Hid (∀ W, Below wr.heap.size wr W → Calls Try.prog 20 #[.pointer (some ⟨db, 0, none⟩), .slice none 0 0] W fun e w' => ∃ g, e = .returned (.slice (some ⟨g, 0, none⟩) n n) ∧ Img w' (some ⟨g, 0, none⟩) n nm dl dx ∧ Below wr.heap.size wr w') := fun W hb => (crash_any (hDG.on hb) hI HSZ.out HD.out none 0 0 (fun j hj => absurd hj (Nat.not_lt_zero _))).mono fun e w' ⟨g, he, hi, hb'⟩ => ⟨g, he, hi, hb.trans (hb'.mono hb.size)⟩
                have HIM : Hid (∀ W g, Below wr.heap.size wr W → Img W (some ⟨g, 0, none⟩) n nm dl dx → Calls Try.prog 19 #[.slice (some ⟨g, 0, none⟩) n n, .slice fa n fc] W fun e w' => e = .returned (.bool true) ∧ Below wr.heap.size wr w') := fun W g hb hi => (image_same (some ⟨g, 0, none⟩) fa n n fc nm dl dx W hi (hbG.src.on hb).img hn HD.out).mono fun e w' ⟨he, m, hw⟩ => ⟨he, hw ▸ below_drewN hb m⟩
                have hX : Below wr.heap.size wr wr := Below.refl _ _
                have HBG : Hid (∀ W, Below wr.heap.size wr W → Below w.heap.size w W) := fun W hb => HBW.out W (hbG.b.trans (hb.mono hbG.b.size))
                clear hbG hDG hbF hDF hb7 f0
                go_wp2_with fail
                go_region_held3 (fun W => W.cell? ⟨tb, 0, none⟩ = some (.slice fa n fc) ∧ W.cell? ⟨tb, 2, none⟩ = some (.slice pa pn pc))
                  (first | exact ⟨j0, j2⟩ | exact ⟨cel_on hX j0, cel_on hX j2⟩)
                  (first
                    | (go_at_call 20; with_reducible refine (HCP.out _ (by first | exact hX | exact hX.drew)).mono ?_; rintro e wA ⟨gA, rfl, hImg, hX⟩)
                    | (go_at_call 20; with_reducible refine (HCN.out _ (by first | exact hX | exact hX.drew)).mono ?_; rintro e wA ⟨gA, rfl, hImg, hX⟩)
                    | (go_at_call 19; with_reducible refine (HIM.out _ _ (by first | exact hX | exact hX.drew) hImg).mono ?_; rintro e wB ⟨rfl, hX⟩))
                all_goals
                  go_wp2_with fail
                  go_ret
                  exact ⟨rfl, HBG.out _ (by first | exact hX | exact hX.drew)⟩
          · have h64z : ¬ (n : Int) ≤ 64 := by omega
            have hI : imgB n nm = false := by unfold imgB; simp [h64]
            clear hall
            generalize sumL dl n = SS at hsrz hsb ⊢
            have HLD : Hid (∀ W gb cap, Img W (some ⟨gb, 0, none⟩) n nm dl dx → Calls Try.prog 10 #[.slice (some ⟨gb, 0, none⟩) n cap, .int .i64 room] W fun e w' => e = .returned (.tuple #[.pointer none, .int .i64 46]) ∧ Below W.heap.size W w') := fun W gb cap hi => load_bad _ n cap nm dl dx room W hi (by omega) hr (.inl hI)
            go_wp2_with fail
            refine (HGV.out _ hb).mono ?_
            rintro e w2 ⟨gb, cap, rfl, ⟨lg, lc, fl, hG⟩, hb2⟩
            have hbB := hb.on hb2
            have hld := HLD.out w2 gb cap hG.img
            have e1 := hbB.c1
            clear HGV HLD d0 d1
            go_wp2_with fail
            refine hld.mono ?_
            rintro e w3 ⟨rfl, hb3⟩
            have hbC := hbB.on hb3
            have e0 := hbC.c0
            have hut := untouched_any gb cap n fa fc nm dl dx lg lc fl w3 (hG.on hb3) hbC.src hn HD.out
            clear hld e1 hG
            go_wp2_with fail
            refine hut.mono ?_
            rintro e w4 ⟨rfl, m4, rfl⟩
            have hnm := num_any 46 (w3.drewN m4)
            clear hut e0
            go_wp2_with fail
            refine hnm.mono ?_
            rintro e w5 ⟨rfl, rfl⟩
            go_wp2_with fail
            go_ret
            exact ⟨rfl, HBW.out _ (below_drewN hbC.b _)⟩
        · have hsrz : ¬ ((sumL dl n : Nat) : Int) ≤ (room : Int) := by omega
          have hI : imgB n nm = false ∨ (imgB n nm = true ∧ room < sumL dl n) := by
            cases e : imgB n nm with
            | false => exact .inl rfl
            | true => exact .inr ⟨rfl, by omega⟩
          have HII : Hid _ := hI
          clear hall hI
          have HLD : Hid (∀ W gb cap, Img W (some ⟨gb, 0, none⟩) n nm dl dx → Calls Try.prog 10 #[.slice (some ⟨gb, 0, none⟩) n cap, .int .i64 room] W fun e w' => e = .returned (.tuple #[.pointer none, .int .i64 46]) ∧ Below W.heap.size W w') := fun W gb cap hi => load_bad _ n cap nm dl dx room W hi (by omega) hr HII.out
          generalize sumL dl n = SS at hsrz hsb ⊢
          go_wp2_with fail
          refine (HGV.out _ hb).mono ?_
          rintro e w2 ⟨gb, cap, rfl, ⟨lg, lc, fl, hG⟩, hb2⟩
          have hbB := hb.on hb2
          have hld := HLD.out w2 gb cap hG.img
          have e1 := hbB.c1
          clear HGV HLD d0 d1
          go_wp2_with fail
          refine hld.mono ?_
          rintro e w3 ⟨rfl, hb3⟩
          have hbC := hbB.on hb3
          have e0 := hbC.c0
          have hut := untouched_any gb cap n fa fc nm dl dx lg lc fl w3 (hG.on hb3) hbC.src hn HD.out
          clear hld e1 hG
          go_wp2_with fail
          refine hut.mono ?_
          rintro e w4 ⟨rfl, m4, rfl⟩
          have hnm := num_any 46 (w3.drewN m4)
          clear hut e0
          go_wp2_with fail
          refine hnm.mono ?_
          rintro e w5 ⟨rfl, rfl⟩
          go_wp2_with fail
          go_ret
          exact ⟨rfl, HBW.out _ (below_drewN hbC.b _)⟩
end Go.Proofs.Ytbebnjeamlmclaa
