/- The reference's Home; TextNames, walked. -/
import Derived.Test.YthoeehgnkolgpaaDoorRefFold
import Derived.Test.YthoeehgnkolgpaaDoorRefCheck
import Derived.Test.YthoeehgnkolgpaaDoorRefSum2
import Derived.Test.YthoeehgnkolgpaaDoorFoldLaw
namespace Go.Proofs.YthoeehgnkolgpaaDoor
open Go.RowKit Go.ChangeShapes Go.WideShapes Go.ChangeAt Go.Deep

theorem range_nums (l : List UInt8) : (List.range l.length).map (fun j => (nums l).getD j 0) = nums l := by
  apply List.ext_getElem
  · simp [nums]
  · intro i h1 h2
    have h3 : i < l.length := by simpa using h1
    simp only [List.getElem_map, List.getElem_range]
    rw [nums_get l i h3]
    simp [nums]
theorem refsum_row (b c : Nat) (l : List UInt8) (w : World) (hmax : l.length ≤ 281474976710656) (hR : Row8 w b l) :
    Calls Tryd.prog 47 #[.slice (some ⟨b, 0, none⟩) l.length c] w fun e w' => e = .returned (.int .u32 (Crc.sum (nums l) : Nat)) ∧ ∃ m, w' = w.drewN m := by
  have h := refsum_any (some ⟨b, 0, none⟩) l.length c (fun j => (nums l).getD j 0) w hmax (fun j hj => ⟨b, 0, rfl, by rw [Nat.zero_add, hR.cell j hj]; show _ = some (Value.int .u8 (((nums l).getD j 0 : Nat) : Int)); rw [nums_get l j hj]⟩) (nums_lt l)
  rw [range_nums] at h
  exact h

set_option maxHeartbeats 1600000 in
set_option maxRecDepth 100000 in
theorem refHome_any (s : ByteArray) (n : Int) (w : World) (hmax : s.size ≤ 140737488355328) (hn0 : -9223372036854775808 ≤ n) (hn1 : n ≤ 9223372036854775807) :
    Calls Tryd.prog 28 #[.string s, .int .i64 n] w fun e w' => e = .returned (.int .i64 (homeM (foldM s.data.toList) n)) ∧ Below w.heap.size w w' := by
  have hf := refFold_any s w hmax
  have hlen := fold_length s.data.toList
  rw [list_size] at hlen
  unfold homeM
  go_enter Tryd.func28, Tryd.ntmps28
  by_cases h1 : n < 1
  · rw [if_pos h1]
    clear hf
    go_wp2_with fail
    go_ret
    exact ⟨rfl, Below.refl _ _⟩
  · rw [if_neg h1]
    have hlt := sum_lt (foldM s.data.toList)
    obtain ⟨F, hFd⟩ : ∃ F : ByteArray, F = ⟨(foldM s.data.toList).toArray⟩ := ⟨_, rfl⟩
    have hFl : F.data.toList = foldM s.data.toList := by rw [hFd]
    have hFs : F.size = s.size := by rw [← list_size, hFl, hlen]
    rw [← hFd] at hf
    clear hFd
    have HFs := hide hFs
    rw [← hFl] at hlt ⊢
    clear hFl hFs hlen
    obtain ⟨X, hX⟩ : ∃ X, X = Crc.sum (nums F.data.toList) := ⟨_, rfl⟩
    rw [← hX] at hlt ⊢
    have HX := hide hX
    clear hX
    obtain ⟨Q, hQ⟩ : ∃ Q, (X : Int) / n = Q := ⟨_, rfl⟩
    obtain ⟨M, hM⟩ : ∃ M, (X : Int) % n = M := ⟨_, rfl⟩
    have e1 : n * Q + M = (X : Int) := by rw [← hQ, ← hM]; exact Int.mul_ediv_add_emod _ _
    have e2 : 0 ≤ M := by rw [← hM]; exact Int.emod_nonneg _ (by omega)
    have e3 : 0 ≤ Q := by rw [← hQ]; exact Int.ediv_nonneg (by omega) (by omega)
    have e4 : (X : Int).tdiv n = Q := by rw [← hQ]; exact Int.tdiv_eq_ediv_of_nonneg (by omega)
    have e5 : 0 ≤ n * Q := Int.mul_nonneg (by omega) e3
    have e6 : Q ≤ n * Q := by
      have := Int.mul_le_mul_of_nonneg_right (show (1 : Int) ≤ n by omega) e3
      omega
    have e7 : Q * n = n * Q := Int.mul_comm _ _
    obtain ⟨P, hP⟩ : ∃ P, n * Q = P := ⟨_, rfl⟩
    rw [hP] at e1 e5 e6 e7
    rw [hM]
    have w1 : IntKind.i64.wrap Q = Q := wr_i64 (by omega) (by omega)
    have w2 : IntKind.i64.wrap P = P := wr_i64 (by omega) (by omega)
    have w3 : IntKind.i64.wrap ((X : Int) - P) = M := by rw [show (X : Int) - P = M by omega]; exact wr_i64 (by omega) (by omega)
    have w4 : (X : Int) - P = M := by omega
    have w5 : IntKind.i64.wrap M = M := wr_i64 (by omega) (by omega)
    have w7 : ¬ n = 0 := by omega
    clear hP e1 e5 e6 hM
    go_wp2_with fail
    refine hf.mono ?_
    rintro e wa ⟨rfl, ba⟩
    have hcv := Lib.run_convert_string_bytes (P := Tryd.prog) wa 9 40 5 F Tryd.underlying9 Tryd.underlying40 Tryd.underlying5
    have hrow := hide (bytes_row wa F)
    have hbel := bytes_below wa F
    have B1 := ba.trans (hbel.mono ba.size)
    have hsr := refsum_row wa.heap.size (grownCap wa F.size 0 5) F.data.toList (Lib.bytesWorld wa 5 F) (by rw [list_size, HFs.out]; omega) hrow.out
    rw [list_size, ← HX.out] at hsr
    generalize grownCap wa F.size 0 5 = C at *
    generalize Lib.bytesWorld wa 5 F = wb at *
    clear hf
    go_wp2_with fail
    refine hsr.mono ?_
    rintro e wc ⟨rfl, k, rfl⟩
    go_wp2_with fail
    go_ret
    exact ⟨rfl, below_drewN B1 k⟩

set_option maxHeartbeats 3200000 in
set_option maxRecDepth 100000 in
theorem namesLaw_walk (a : Option Addr) (len cap : Nat) (z : Nat → ByteArray) (n : Int) (B : Nat) (m : Int) (W : World) (hT : Tabs m W) (hS : SumTab W) (hn0 : -9223372036854775808 ≤ n) (hn1 : n ≤ 9223372036854775807) (hl : TextsIn W a len z B) :
    Calls Tryd.prog 8 #[.agg #[.slice a len cap, .int .i64 n]] W fun e W' => e = .returned (.bool true) ∧ W.Since W.heap.size W' := by
  have HT := hide hT
  have HS := hide hS
  have Hl := hide hl
  have hlen := hl.ln
  clear hT hl hS
  have hbox : Below W.heap.size W (W.alloc (.cells #[.slice a len cap, .int .i64 n] 36)) := (Below.refl _ W).alloc (Nat.le_refl _) _
  have Hbox := hide hbox
  go_enter Tryd.func8, Tryd.ntmps8
  go_wp2_with fail
  go_quiet (fail)
  go_wp2_with fail
  have bq := below_drewN Hbox.out nq
  refine (begun_any m _ (HT.out.below bq)).mono ?_
  rintro e w1 ⟨rfl, bb⟩
  have b1 : Below W.heap.size W w1 := bq.trans (bb.mono bq.size)
  clear bq bb Hbox hbox
  go_wp2_with fail
  go_loopg [5] len (fun q s5 wx => ∃ i : Nat, i ≤ len ∧ q = len - i ∧ s5 = .int .i64 i ∧ Below W.heap.size W wx)
  case atStart => exact ⟨0, Nat.zero_le _, rfl, rfl, b1⟩
  case round =>
    obtain ⟨i, hi, rfl, rfl, hbw⟩ := hrel
    clear b1
    by_cases hlt : i < len
    · obtain ⟨bb, bo, ha', hc⟩ := Hl.out.cell i hlt
      have hbl := World.block_lt_of_cell? _ _ hc
      have hcr := below_cell2 hbw hbl hc
      have hz : (i : Int) < (len : Int) := by omega
      have hsz := Hl.out.sz i hlt
      obtain ⟨s, hs⟩ : ∃ s, s = z i := ⟨_, rfl⟩
      rw [← hs] at hc hcr hsz
      clear hs
      subst ha'
      have c1 := fun W' (h : Tabs m W') => check_any s W' (by omega) h.utf
      have c2 := fun W' => refCheck_any s W' (by omega)
      have f1 := fun W' (h : Tabs m W') => fold_any s W' (by omega) h.fold
      have f2 := fun W' => refFold_any s W' (by omega)
      have g1 := fun W' (h : Tabs m W') (h2 : SumTab W') => home_any s n W' (by omega) hn0 hn1 h.fold h2
      have g2 := fun W' => refHome_any s n W' (by omega) hn0 hn1
      generalize homeM (foldM s.data.toList) n = Hm at *
      generalize (⟨(foldM s.data.toList).toArray⟩ : ByteArray) = F at *
      generalize checkM s.data.toList = Ck at *
      have hFF := neq_same F
      have C1 := hide c1
      have C2 := hide c2
      have F1 := hide f1
      have F2 := hide f2
      have G1 := hide g1
      have G2 := hide g2
      clear f1 f2 g1 g2 c1 c2
      go_wp2_with fail
      refine (C1.out wr (HT.out.below hbw)).mono ?_
      rintro e w2 ⟨rfl, b2⟩
      have B2 := hbw.trans (b2.mono hbw.size)
      clear hcr
      go_wp2_with (first | (go_at_call 12; go_in))
      refine (C2.out w2).mono ?_
      rintro e w3 ⟨rfl, e3⟩
      subst e3
      go_wp2_with fail
      refine (F1.out w3 (HT.out.below B2)).mono ?_
      rintro e w4 ⟨rfl, b4⟩
      have B4 := B2.trans (b4.mono B2.size)
      go_wp2_with fail
      refine (F2.out w4).mono ?_
      rintro e w5 ⟨rfl, b5⟩
      have B5 := B4.trans (b5.mono B4.size)
      go_wp2_with fail
      refine (G1.out w5 (HT.out.below B5) (HS.out.below B5)).mono ?_
      rintro e w6 ⟨rfl, b6⟩
      have B6 := B5.trans (b6.mono B5.size)
      go_wp2_with fail
      refine (G2.out w6).mono ?_
      rintro e w7 ⟨rfl, b7⟩
      have B7 := B6.trans (b7.mono B6.size)
      go_wp2_with fail
      go_roundg (len - (i + 1))
      case measure => go_light; omega
      case rel => go_light; exact ⟨i + 1, by omega, rfl, by simp, B7⟩
    · have hz : ¬ (i : Int) < (len : Int) := by omega
      go_wp2_with fail
      refine (begun_any m wr (HT.out.below hbw)).mono ?_
      rintro e w2 ⟨rfl, b2⟩
      go_wp2_with fail
      go_ret
      exact ⟨rfl, below_since2 (hbw.trans (b2.mono hbw.size))⟩
end Go.Proofs.YthoeehgnkolgpaaDoor
