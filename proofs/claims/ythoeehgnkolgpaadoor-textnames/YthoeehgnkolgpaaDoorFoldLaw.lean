/- TextFolds, walked. -/
import Derived.Test.YthoeehgnkolgpaaDoorHome
import Derived.Test.YthoeehgnkolgpaaDoorFrame2
namespace Go.Proofs.YthoeehgnkolgpaaDoor
open Go.RowKit Go.ChangeShapes Go.WideShapes Go.ChangeAt Go.Deep

theorem below_since2 {w w' : World} (h : Below w.heap.size w w') : w.Since w.heap.size w' := ⟨h.os, h.tape, h.output, h.size, h.block⟩
theorem below_cell2 {B : Nat} {w w' : World} {a : Addr} {v : Value} (hb : Below B w w') (ha : a.block < B) (hc : w.cell? a = some v) : w'.cell? a = some v := (hb.cell ha).trans hc
theorem neq_same (s : ByteArray) : (s.toList != s.toList) = false := by simp
theorem below_setCell {B b : Nat} {w w' : World} (h : Below B w w') (hb : B ≤ b) (o : Nat) (v : Value) : Below B w (w'.setCell ⟨b, o, none⟩ v) :=
  h.trans ⟨rfl, rfl, rfl, by simp [World.setCell], fun k hk => Below.heap_setCell _ _ _ _ (by show k ≠ b; omega)⟩

set_option maxHeartbeats 6400000 in
set_option maxRecDepth 100000 in
theorem foldLaw_walk (a : Option Addr) (len cap : Nat) (z : Nat → ByteArray) (n : Int) (B : Nat) (m : Int) (W : World) (hT : Tabs m W) (hS : SumTab W) (hn0 : -9223372036854775808 ≤ n) (hn1 : n ≤ 9223372036854775807) (hl : TextsIn W a len z B) :
    Calls Tryd.prog 4 #[.agg #[.slice a len cap, .int .i64 n]] W fun e W' => e = .returned (.bool true) ∧ W.Since W.heap.size W' := by
  have HT := hide hT
  have HS := hide hS
  have Hl := hide hl
  have hlen := hl.ln
  clear hT hl hS
  have hbox : Below W.heap.size W (W.alloc (.cells #[.slice a len cap, .int .i64 n] 36)) := (Below.refl _ W).alloc (Nat.le_refl _) _
  have Hbox := hide hbox
  go_enter Tryd.func4, Tryd.ntmps4
  go_wp2_with fail
  go_quiet (fail)
  go_wp2_with fail
  have bq := below_drewN Hbox.out nq
  refine (begun_any m _ (HT.out.below bq)).mono ?_
  rintro e w1 ⟨rfl, bb⟩
  have b1 : Below W.heap.size W w1 := bq.trans (bb.mono bq.size)
  clear bq bb Hbox hbox
  go_wp2_with fail
  go_loopg [5] len (fun q s5 wx => ∃ i : Nat, i ≤ len ∧ q = len - i ∧ s5 = .int .i64 i ∧ Below W.heap.size W wx)
  case atStart => exact ⟨0, Nat.zero_le _, rfl, rfl, b1⟩
  case round =>
    obtain ⟨i, hi, rfl, rfl, hbw⟩ := hrel
    clear b1
    by_cases hlt : i < len
    · obtain ⟨bb, bo, ha', hc⟩ := Hl.out.cell i hlt
      have hbl := World.block_lt_of_cell? _ _ hc
      have hcr := below_cell2 hbw hbl hc
      have hz : (i : Int) < (len : Int) := by omega
      have hsz := Hl.out.sz i hlt
      obtain ⟨s, hs⟩ : ∃ s, s = z i := ⟨_, rfl⟩
      rw [← hs] at hc hcr hsz
      clear hs
      subst ha'
      obtain ⟨F, hFd⟩ : ∃ F : ByteArray, F = ⟨(foldM s.data.toList).toArray⟩ := ⟨_, rfl⟩
      have hFl : F.data.toList = foldM s.data.toList := by rw [hFd]
      have hFs : F.size = s.size := by rw [← list_size, hFl, fold_length, list_size]
      have f1 := fun W' (h : Tabs m W') => fold_any s W' (by omega) h.fold
      have f2 := fun W' (h : Tabs m W') => fold_any F W' (by omega) h.fold
      have g1 := fun W' (h : Tabs m W') (h2 : SumTab W') => home_any s n W' (by omega) hn0 hn1 h.fold h2
      have g2 := fun W' (h : Tabs m W') (h2 : SumTab W') => home_any F n W' (by omega) hn0 hn1 h.fold h2
      have c1 := fun W' (h : Tabs m W') => check_any s W' (by omega) h.utf
      have c2 := fun W' (h : Tabs m W') => check_any F W' (by omega) h.utf
      have f3 := fun W' (h : Tabs m W') => fold_any ⟨(s.data.toList.map upB).toArray⟩ W' (by rw [back_size, List.length_map, list_size]; omega) h.fold
      simp only [hFl, fold_twice, check_fold, ← hFd] at f1 f2 g2 c2
      simp only [fold_upper, ← hFd] at f3
      have hrg := homeM_range (foldM s.data.toList) n
      generalize homeM (foldM s.data.toList) n = Hm at *
      generalize checkM s.data.toList = Ck at *
      have hFF := neq_same F
      have F1 := hide f1
      have F2 := hide f2
      have F3 := hide f3
      have G1 := hide g1
      have G2 := hide g2
      have C1 := hide c1
      have C2 := hide c2
      clear f1 f2 f3 g1 g2 c1 c2 hFd hFl
      have hFz : ((F.size : Int) != (s.size : Int)) = false := by simp; omega
      have HFs := hide hFs
      clear hFs
      have hge0 : ¬ Hm < 0 := by omega
      have hlast : (¬ n ≤ Hm) ∨ (n ≤ Hm ∧ (Hm != 0) = false) := by
        rcases hrg with h | h
        · by_cases h2 : n ≤ Hm
          · right; exact ⟨h2, by simp [h]⟩
          · left; exact h2
        · left; omega
      clear hrg
      rcases hlast with k1 | ⟨k1, k2⟩
      all_goals
        go_wp2_with fail
        refine (F1.out wr (HT.out.below hbw)).mono ?_
        rintro e w2 ⟨rfl, b2⟩
        have B2 := hbw.trans (b2.mono hbw.size)
        clear hcr
        go_wp2_with fail
        refine (G1.out w2 (HT.out.below B2) (HS.out.below B2)).mono ?_
        rintro e w3 ⟨rfl, b3⟩
        have B3 := B2.trans (b3.mono B2.size)
        go_wp2_with fail
        refine (F2.out w3 (HT.out.below B3)).mono ?_
        rintro e w4 ⟨rfl, b4⟩
        have B4 := B3.trans (b4.mono B3.size)
        go_wp2_with fail
        refine (C2.out w4 (HT.out.below B4)).mono ?_
        rintro e w5 ⟨rfl, b5⟩
        have B5 := B4.trans (b5.mono B4.size)
        go_wp2_with fail
        refine (C1.out w5 (HT.out.below B5)).mono ?_
        rintro e w6 ⟨rfl, b6⟩
        have B6 := B5.trans (b6.mono B5.size)
        go_wp2_with fail
        refine (G2.out w6 (HT.out.below B6) (HS.out.below B6)).mono ?_
        rintro e w7 ⟨rfl, b7⟩
        have B7 := B6.trans (b7.mono B6.size)
        clear b2 b3 b4 b5 b6 b7 B2 B3 B4 B5 B6
        have hcv := Lib.run_convert_string_bytes (P := Tryd.prog) w7 9 40 5 s Tryd.underlying9 Tryd.underlying40 Tryd.underlying5
        have hrow := hide (bytes_row w7 s)
        have B8 := B7.trans ((bytes_below w7 s).mono B7.size)
        have hz8 := Lib.bytesWorld_size w7 5 s
        have hC := grownCap_ge w7 s.size 0 5
        generalize grownCap w7 s.size 0 5 = C at *
        generalize Lib.bytesWorld w7 5 s = w8 at *
        have hW7 : W.heap.size ≤ w7.heap.size := B7.size
        clear B7 hFz
        go_wp2_with fail
        clear hcv hC hge0
        go_loopg [10] s.size (fun q s10 wx => ∃ k : Nat, k ≤ s.size ∧ q = s.size - k ∧ s10 = .int .i64 k ∧ Below W.heap.size W wx ∧ Hid (Row8 wx w7.heap.size ((s.data.toList.take k).map upB ++ s.data.toList.drop k)))
        case atStart => exact ⟨0, Nat.zero_le _, rfl, rfl, B8, hrow⟩
        case round =>
          clear hbw hz8 B8 hrow
          obtain ⟨k, hk, rfl, rfl, hbw, hR⟩ := hrel
          by_cases hks : k < s.size
          · have hkz : (k : Int) < (s.size : Int) := by omega
            have hkl : k < s.data.toList.length := by rw [list_size]; exact hks
            obtain ⟨b, hb⟩ : ∃ b, s.data.toList[k]'hkl = b := ⟨_, rfl⟩
            have hd : s.data.toList.drop k = b :: s.data.toList.drop (k + 1) := by rw [List.drop_eq_getElem_cons hkl, hb]
            have ht : s.data.toList.take (k + 1) = s.data.toList.take k ++ [b] := by rw [List.take_succ_eq_append_getElem hkl, hb]
            have hpl : ((s.data.toList.take k).map upB).length = k := by rw [List.length_map, List.length_take, list_size]; omega
            have hR2 := hR.out
            rw [hd] at hR2
            have hin : k < ((s.data.toList.take k).map upB ++ ([b] ++ s.data.toList.drop (k + 1))).length := by rw [List.length_append, hpl]; simp
            have hcell : wr.cell? ⟨w7.heap.size, k, none⟩ = some (.int .u8 (b.toNat : Int)) := by
              have := hR2.cell k hin
              rw [this]
              congr 3
              rw [List.getElem_append_right (by omega)]
              simp only [hpl, Nat.sub_self, List.getElem_cons_zero]
            have hfree := hR2.free k hin
            have hput := Row8.put (mid := [b]) hR2 [upB b] rfl
            rw [hpl] at hput
            have hfin : Hid (Row8 (wr.setCells w7.heap.size k (Lib.byteCells [upB b])) w7.heap.size ((s.data.toList.take (k + 1)).map upB ++ s.data.toList.drop (k + 1))) := hide (by
              rw [ht, List.map_append, List.append_assoc]
              exact hput)
            have hkeep : Hid (upB b = b → Row8 wr w7.heap.size ((s.data.toList.take (k + 1)).map upB ++ s.data.toList.drop (k + 1))) := hide (fun e => by
              rw [ht, List.map_append, List.append_assoc]
              show Row8 wr w7.heap.size ((s.data.toList.take k).map upB ++ ([upB b] ++ _))
              rw [e]
              exact hR2)
            clear hR hR2 hput hin hpl ht hd hb
            have h256 := b.toNat_lt
            by_cases hlo : 97 ≤ b.toNat
            · have zlo : (97 : Int) ≤ (b.toNat : Int) := by omega
              by_cases hhi : b.toNat ≤ 122
              · have zhi : (b.toNat : Int) ≤ 122 := by omega
                have hup : ((upB b).toNat : Int) = (b.toNat : Int) - 32 := by
                  unfold upB
                  rw [if_pos ⟨hlo, hhi⟩, of_nat _ (by omega)]
                  omega
                have hset : wr.setCells w7.heap.size k (Lib.byteCells [upB b]) = wr.setCell ⟨w7.heap.size, k, none⟩ (.int .u8 ((b.toNat : Int) - 32)) := by
                  rw [← hup]; rfl
                rw [hset] at hfin
                clear hset hup hkeep
                go_wp2_with fail
                go_roundg (s.size - (k + 1))
                case measure => go_light; omega
                case rel => go_light; exact ⟨k + 1, by omega, rfl, by simp, below_setCell hbw hW7 k _, hfin⟩
              · have zhi : ¬ (b.toNat : Int) ≤ 122 := by omega
                have hsm := hide (hkeep.out (by unfold upB; rw [if_neg (by omega)]))
                clear hkeep hfin
                go_wp2_with fail
                go_roundg (s.size - (k + 1))
                case measure => go_light; omega
                case rel => go_light; exact ⟨k + 1, by omega, rfl, by simp, hbw, hsm⟩
            · have zlo : ¬ (97 : Int) ≤ (b.toNat : Int) := by omega
              have hsm := hide (hkeep.out (by unfold upB; rw [if_neg (by omega)]))
              clear hkeep hfin
              go_wp2_with fail
              go_roundg (s.size - (k + 1))
              case measure => go_light; omega
              case rel => go_light; exact ⟨k + 1, by omega, rfl, by simp, hbw, hsm⟩
          · have hkz : ¬ (k : Int) < (s.size : Int) := by omega
            have hRow := hR.out
            rw [List.take_of_length_le (by rw [list_size]; omega), List.drop_eq_nil_of_le (by rw [list_size]; omega), List.append_nil] at hRow
            have hbk := hRow.back (c := C)
            rw [List.length_map, list_size] at hbk
            clear hR hRow
            have hf3 := F3.out wr (HT.out.below hbw)
            generalize (⟨(s.data.toList.map upB).toArray⟩ : ByteArray) = U at *
            go_wp2_with fail
            refine hf3.mono ?_
            rintro e w9 ⟨rfl, b9⟩
            have B9 := hbw.trans (b9.mono hbw.size)
            go_wp2_with fail
            go_roundg (len - (i + 1))
            case measure => go_light; omega
            case rel => go_light; exact ⟨i + 1, by omega, rfl, by simp, B9⟩
    · have hz : ¬ (i : Int) < (len : Int) := by omega
      go_wp2_with fail
      refine (begun_any m wr (HT.out.below hbw)).mono ?_
      rintro e w2 ⟨rfl, b2⟩
      go_wp2_with fail
      go_ret
      exact ⟨rfl, below_since2 (hbw.trans (b2.mono hbw.size))⟩
end Go.Proofs.YthoeehgnkolgpaaDoor
