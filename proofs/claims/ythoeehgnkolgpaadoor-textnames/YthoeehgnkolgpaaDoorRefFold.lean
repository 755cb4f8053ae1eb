/- The reference's Fold: what it answers of any name. -/
import Derived.Test.YthoeehgnkolgpaaDoorRefNames
import Derived.Test.YthoeehgnkolgpaaDoorBegun
namespace Go.Proofs.YthoeehgnkolgpaaDoor
open Go.RowKit

theorem below_set {B b : Nat} {w w' : World} (h : Below B w w') (hb : B ≤ b) (o : Nat) (v : Value) : Below B w (w'.setCell ⟨b, o, none⟩ v) :=
  h.trans ⟨rfl, rfl, rfl, by simp [World.setCell], fun k hk => Below.heap_setCell _ _ _ _ (by show k ≠ b; omega)⟩
/-- What Point tells where Fold moves nothing. -/
theorem pt_still (l : List UInt8) (h : movesR (Lib.decodeL l).1 = false) : ∃ C n, ptM l = (C, n) ∧ C ≤ 1114111 ∧ (C < 65 ∨ (91 ≤ C ∧ C < 192) ∨ C = 215 ∨ 223 ≤ C) ∧ ((n = 0 ∧ (Lib.decodeL l).2 = 1) ∨ (n = (Lib.decodeL l).2)) := by
  have hr := Lib.decodeL_rune l
  rcases ptM_cases l with ⟨h1, h2, h3⟩ | ⟨h1, h3⟩
  · exact ⟨0, 0, h3, by omega, Or.inl (by omega), Or.inl ⟨rfl, h2⟩⟩
  · refine ⟨(Lib.decodeL l).1, (Lib.decodeL l).2, h3, hr, ?_, Or.inr rfl⟩
    clear h1 h3 hr
    generalize (Lib.decodeL l).1 = r at *
    simp only [movesR, decide_eq_false_iff_not] at h
    omega

set_option maxHeartbeats 6400000 in
set_option maxRecDepth 100000 in
theorem refFold_any (s : ByteArray) (w : World) (hmax : s.size ≤ 140737488355328) :
    Calls Tryd.prog 27 #[.string s] w fun e w' => e = .returned (.string ⟨(foldM s.data.toList).toArray⟩) ∧ Below w.heap.size w w' := by
  have hcv := Lib.run_convert_string_bytes (P := Tryd.prog) w 9 40 5 s Tryd.underlying9 Tryd.underlying40 Tryd.underlying5
  have hrow := bytes_row w s
  have hbel := bytes_below w s
  generalize grownCap w s.size 0 5 = C at *
  generalize Lib.bytesWorld w 5 s = W1 at *
  obtain ⟨ANS, hANS⟩ : ∃ A, A = foldM s.data.toList := ⟨_, rfl⟩
  rw [← hANS]
  have HANS := hide hANS
  have Hrow := hide hrow
  clear hANS hrow
  go_enter Tryd.func27, Tryd.ntmps27
  go_wp2_with fail
  go_loopg [4] s.size (fun q s4 wx => ∃ (i f : Nat) (pre : List UInt8), i ≤ s.size ∧ q = s.size - i ∧ s4 = .int .i64 i ∧ Below w.heap.size w wx ∧ Hid (Row8 wx w.heap.size (pre ++ s.data.toList.drop i)) ∧ Hid (pre ++ foldF f (s.data.toList.drop i) = ANS) ∧ pre.length = i ∧ s.size ≤ i + f)
  case atStart => exact ⟨0, s.size, [], Nat.zero_le _, rfl, rfl, hbel, Hrow, hide (by rw [HANS.out, foldM, list_size]; rfl), rfl, by omega⟩
  case round =>
    clear hcv hbel Hrow HANS
    obtain ⟨i, f, pre, hi, rfl, rfl, hbw, hR, hr, hpl, hf⟩ := hrel
    by_cases hlt : i < s.size
    · have hz : (i : Int) < (s.size : Int) := by omega
      have hp := point_any s i wr hlt hmax
      have hne : s.data.toList.drop i ≠ [] := by rw [drop_at s i hlt]; simp
      obtain ⟨f', rfl⟩ : ∃ f', f = f' + 1 := ⟨f - 1, by omega⟩
      have hst : Hid (pre ++ ((if movesR (Lib.decodeL (s.data.toList.drop i)).1 = true then Lib.encodeRune (((Lib.decodeL (s.data.toList.drop i)).1 : Int) + 32) else (s.data.toList.drop i).take (Lib.decodeL (s.data.toList.drop i)).2) ++ foldF f' (s.data.toList.drop (i + (Lib.decodeL (s.data.toList.drop i)).2))) = ANS) := hide (by
        rw [← hr.out]
        rw [foldF, if_neg hne, List.drop_drop])
      have hwid : i + (Lib.decodeL (s.data.toList.drop i)).2 ≤ s.size := by rw [Lib.decodeL_drop]; exact decode_within s i hlt
      have hW := Lib.decodeL_width (s.data.toList.drop i)
      unfold ptV at hp
      have hdr := drop_at s i hlt
      clear hr hne
      cases hm : movesR (Lib.decodeL (s.data.toList.drop i)).1 with
      | false =>
        obtain ⟨Cp, n, hpc, hC1, hcl, hn⟩ := pt_still _ hm
        rw [hpc] at hp
        rw [hm] at hst
        clear hm hpc hdr
        generalize (Lib.decodeL (s.data.toList.drop i)).2 = M at *
        simp only at hp
        have hRn : Hid (Row8 wr w.heap.size ((pre ++ (s.data.toList.drop i).take M) ++ s.data.toList.drop (i + M))) := hide (by
          rw [List.append_assoc, ← List.drop_drop, List.take_append_drop]
          exact hR.out)
        have hln : (pre ++ (s.data.toList.drop i).take M).length = i + M := by rw [List.length_append, List.length_take, List.length_drop, list_size, hpl]; omega
        have hfn : Hid ((pre ++ (s.data.toList.drop i).take M) ++ foldF f' (s.data.toList.drop (i + M)) = ANS) := hide (by rw [← hst.out, if_neg (by decide), List.append_assoc])
        clear hst hR
        have Hp := hide hp
        clear hp
        have four : (¬ (65 : Int) ≤ (Cp : Int) ∧ ¬ (192 : Int) ≤ (Cp : Int)) ∨ ((65 : Int) ≤ (Cp : Int) ∧ ¬ (Cp : Int) ≤ 90 ∧ ¬ (192 : Int) ≤ (Cp : Int)) ∨ (Cp : Int) = 215 ∨ ((65 : Int) ≤ (Cp : Int) ∧ ¬ (Cp : Int) ≤ 90 ∧ (192 : Int) ≤ (Cp : Int) ∧ ¬ (Cp : Int) ≤ 222) := by omega
        have Hln := hide hln
        clear hcl hln hC1
        rcases hn with ⟨hn0, hM⟩ | hnM
        · subst hn0
          subst hM
          rcases four with ⟨x1, x2⟩ | ⟨x0, x1, x2⟩ | x1 | ⟨x0, x1, x3, x2⟩
          all_goals
            go_wp2_with fail
            refine Hp.out.mono ?_
            rintro e w4 ⟨rfl, e4⟩
            subst e4
            go_wp2_with fail
            go_roundg (s.size - (i + 1))
            case measure => go_light; omega
            case rel => go_light; exact ⟨i + 1, f', _, hwid, rfl, by simp, hbw, hRn, hfn, Hln.out, by omega⟩
        · subst hnM
          have n0 : ((n : Int) == 0) = false := beq_eq_false_iff_ne.2 (by omega)
          rcases four with ⟨x1, x2⟩ | ⟨x0, x1, x2⟩ | x1 | ⟨x0, x1, x3, x2⟩
          all_goals
            go_wp2_with fail
            refine Hp.out.mono ?_
            rintro e w4 ⟨rfl, e4⟩
            subst e4
            go_wp2_with fail
            go_roundg (s.size - (i + n))
            case measure => go_light; omega
            case rel => go_light; exact ⟨i + n, f', _, hwid, rfl, by simp, hbw, hRn, hfn, Hln.out, by omega⟩
      | true =>
        have hlen : ∀ x : List UInt8, s.data.toList.drop i = x → x.length = s.size - i := fun x e => by rw [← e, List.length_drop, list_size]
        have hways := decode_ways (s[i]'hlt) (s.data.toList.drop (i + 1))
        have hmm := hm
        simp only [movesR, decide_eq_true_eq] at hmm
        rw [← hdr] at hways
        obtain ⟨b, hb⟩ : ∃ b, s[i]'hlt = b := ⟨_, rfl⟩
        rw [hb] at hways hdr
        clear hb
        have hR2 := hR.out
        rcases hways with ⟨hw1, ⟨hb1, hr1⟩ | ⟨hb1, hr1, _⟩⟩ | ⟨hw2, c, t', ht, hc, hb1, hb2, hr1, hr2⟩ | ⟨_, _, _, _, _, _, _, _, hr1⟩ | ⟨_, _, _, _, _, _, _, _, _, _, hr1⟩
        · have hAZ : 65 ≤ b.toNat ∧ b.toNat ≤ 90 := by omega
          have hpc : ptM (s.data.toList.drop i) = (b.toNat, 1) := by
            rcases ptM_cases (s.data.toList.drop i) with ⟨h1, h2, h3⟩ | ⟨h1, h3⟩
            · omega
            · rw [h3, ← hr1, ← hw1]
          rw [hpc] at hp
          rw [hm, hw1, hr1, if_pos rfl, enc_one hAZ.2] at hst
          rw [hdr] at hR2
          have hin : i < (pre ++ ([b] ++ s.data.toList.drop (i + 1))).length := by rw [List.length_append, hpl]; simp
          have hcell : wr.cell? ⟨w.heap.size, i, none⟩ = some (.int .u8 (b.toNat : Int)) := by
            rw [hR2.cell i hin]
            congr 3
            rw [List.getElem_append_right (by omega)]
            simp only [hpl, Nat.sub_self, List.getElem_cons_zero]
          have hfree := hR2.free i hin
          have hput := Row8.put (mid := [b]) hR2 [UInt8.ofNat (b.toNat + 32)] rfl
          rw [hpl] at hput
          have hset : wr.setCells w.heap.size i (Lib.byteCells [UInt8.ofNat (b.toNat + 32)]) = wr.setCell ⟨w.heap.size, i, none⟩ (.int .u8 ((b.toNat : Int) + 32)) := by
            show wr.setCell ⟨w.heap.size, i, none⟩ (.int .u8 ((UInt8.ofNat (b.toNat + 32)).toNat : Int)) = _
            rw [of_nat _ (by omega)]; rfl
          rw [hset] at hput
          have hRn : Hid (Row8 (wr.setCell ⟨w.heap.size, i, none⟩ (.int .u8 ((b.toNat : Int) + 32))) w.heap.size ((pre ++ [UInt8.ofNat (b.toNat + 32)]) ++ s.data.toList.drop (i + 1))) := hide (by rw [List.append_assoc]; exact hput)
          have hfn : Hid ((pre ++ [UInt8.ofNat (b.toNat + 32)]) ++ foldF f' (s.data.toList.drop (i + 1)) = ANS) := hide (by rw [← hst.out, List.append_assoc])
          have hln : Hid ((pre ++ [UInt8.ofNat (b.toNat + 32)]).length = i + 1) := hide (by rw [List.length_append, hpl]; rfl)
          have x1 : (65 : Int) ≤ (b.toNat : Int) := by omega
          have x2 : (b.toNat : Int) ≤ 90 := by omega
          have x3 : ¬ (192 : Int) ≤ (b.toNat : Int) := by omega
          have Hp := hide hp
          clear hp hst hR hR2 hput hset hdr hm hmm hw1 hr1 hpc hin hlen hwid hW
          simp only at Hp
          go_wp2_with fail
          refine Hp.out.mono ?_
          rintro e w4 ⟨rfl, e4⟩
          subst e4
          go_wp2_with fail
          go_roundg (s.size - (i + 1))
          case measure => go_light; omega
          case rel => go_light; exact ⟨i + 1, f', _, by omega, rfl, by simp, below_set hbw (Nat.le_refl _) i _, hRn, hfn, hln.out, by omega⟩
        · exfalso; omega
        · have h195 : b.toNat = 195 := by unfold contB at hc; omega
          have hb195 : b = 195 := UInt8.toNat_inj.1 h195
          subst hb195
          have h195' : (195 : UInt8).toNat = 195 := rfl
          rw [h195'] at hr1
          have hcc : 128 ≤ c.toNat ∧ c.toNat ≤ 158 ∧ c.toNat ≠ 151 := by unfold contB at hc; omega
          have hpc : ptM (s.data.toList.drop i) = (195 % 32 * 64 + c.toNat % 64, 2) := by
            rcases ptM_cases (s.data.toList.drop i) with ⟨h1, h2, h3⟩ | ⟨h1, h3⟩
            · omega
            · rw [h3, ← hr1, ← hw2]
          rw [hpc] at hp
          rw [hm, hw2, hr1, if_pos rfl, enc_two hcc.1 hcc.2.1] at hst
          have hdd : s.data.toList.drop (i + 2) = t' := by rw [← List.drop_drop, hdr, ht]; rfl
          rw [hdr, ht] at hR2
          rw [hdd] at hst
          have hi1 : i + 1 < s.size := by omega
          have hR3 : Row8 wr w.heap.size ((pre ++ [195]) ++ ([c] ++ t')) := by rw [List.append_assoc]; exact hR2
          have hpl1 : (pre ++ [(195 : UInt8)]).length = i + 1 := by rw [List.length_append, hpl]; rfl
          have hin : i + 1 < ((pre ++ [195]) ++ ([c] ++ t')).length := by rw [List.length_append, hpl1]; simp
          have hcell : wr.cell? ⟨w.heap.size, i + 1, none⟩ = some (.int .u8 (c.toNat : Int)) := by
            rw [hR3.cell (i + 1) hin]
            congr 3
            rw [List.getElem_append_right (by omega)]
            simp only [hpl1, Nat.sub_self, List.cons_append, List.getElem_cons_zero]
          have hfree := hR3.free (i + 1) hin
          have hput := Row8.put (mid := [c]) hR3 [UInt8.ofNat (c.toNat + 32)] rfl
          rw [hpl1] at hput
          have hset : wr.setCells w.heap.size (i + 1) (Lib.byteCells [UInt8.ofNat (c.toNat + 32)]) = wr.setCell ⟨w.heap.size, i + 1, none⟩ (.int .u8 ((c.toNat : Int) + 32)) := by
            show wr.setCell ⟨w.heap.size, i + 1, none⟩ (.int .u8 ((UInt8.ofNat (c.toNat + 32)).toNat : Int)) = _
            rw [of_nat _ (by omega)]; rfl
          rw [hset] at hput
          have hRn : Hid (Row8 (wr.setCell ⟨w.heap.size, i + 1, none⟩ (.int .u8 ((c.toNat : Int) + 32))) w.heap.size ((pre ++ [195, UInt8.ofNat (c.toNat + 32)]) ++ s.data.toList.drop (i + 2))) := hide (by rw [hdd]; simpa [List.append_assoc] using hput)
          have hfn : Hid ((pre ++ [195, UInt8.ofNat (c.toNat + 32)]) ++ foldF f' (s.data.toList.drop (i + 2)) = ANS) := hide (by rw [← hst.out, hdd, List.append_assoc])
          have hln : Hid ((pre ++ [(195 : UInt8), UInt8.ofNat (c.toNat + 32)]).length = i + 2) := hide (by rw [List.length_append, hpl]; rfl)
          obtain ⟨V, hV⟩ : ∃ V, V = 195 % 32 * 64 + c.toNat % 64 := ⟨_, rfl⟩
          rw [← hV] at hp
          have hVz : V = c.toNat + 64 := by omega
          have x0 : (65 : Int) ≤ (V : Int) := by omega
          have x1 : ¬ (V : Int) ≤ 90 := by omega
          have x2 : (192 : Int) ≤ (V : Int) := by omega
          have x3 : (V : Int) ≤ 222 := by omega
          have x4 : ((V : Int) != 215) = true := by simp; omega
          have z1 : (i : Int) + 1 < (s.size : Int) := by omega
          have Hp := hide hp
          clear hp hst hR hR2 hR3 hput hset hdr hm hmm hw2 hr1 hr2 hpc hin hlen hwid hW hV hVz hdd ht
          simp only at Hp
          have hc32 : (c.toNat : Int) + 32 < 256 := by omega
          go_wp2_with fail
          refine Hp.out.mono ?_
          rintro e w4 ⟨rfl, e4⟩
          subst e4
          go_wp2_with fail
          go_roundg (s.size - (i + 2))
          case measure => go_light; omega
          case rel => go_light; exact ⟨i + 2, f', _, by omega, rfl, by simp, below_set hbw (Nat.le_refl _) (i + 1) _, hRn, hfn, hln.out, by omega⟩
        · exfalso; omega
        · exfalso; omega
    · have hz : ¬ (i : Int) < (s.size : Int) := by omega
      have hfin : Hid (pre = ANS) := hide (by
        rw [← hr.out, drop_end s i hlt]
        cases f with
        | zero => simp [foldF]
        | succ f => simp [foldF])
      have hRow := hR.out
      rw [drop_end s i hlt, List.append_nil] at hRow
      have hbk := hRow.back (c := C)
      rw [hpl, show i = s.size by omega] at hbk
      clear hr hR
      go_wp2_with fail
      go_ret
      exact ⟨by rw [hfin.out]; rfl, hbw⟩
end Go.Proofs.YthoeehgnkolgpaaDoor
