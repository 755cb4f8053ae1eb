/- The walk of CodeSums: on any texts it answers true; nothing that was there is turned. -/
import Derived.Test.YtafkkmkjagodfaaDoorOther
import Derived.Test.YtafkkmkjagodfaaDoorRefSum
namespace Go.Proofs.YtafkkmkjagodfaaDoor
open Go.RowKit

theorem sum9 : Crc.sum [49, 50, 51, 52, 53, 54, 55, 56, 57] = 3421780262 := by decide +kernel
theorem sum_none : Crc.sum [] = 0 := by decide +kernel
theorem table_later {w w' : World} (hs : w.Since w.heap.size w') (ht : ∀ i, i < 16 → w.cell? ⟨0, i, none⟩ = some (.int .u32 (Crc.T i : Nat))) : ∀ i, i < 16 → w'.cell? ⟨0, i, none⟩ = some (.int .u32 (Crc.T i : Nat)) := fun i hi => by
  rw [hs.cell (a := ⟨0, i, none⟩) (World.block_lt_of_cell? _ _ (ht i hi))]; exact ht i hi
theorem since_drewN {B : Nat} {w w' : World} (h : w.Since B w') (n : Nat) : w.Since B (w'.drewN n) := ⟨h.os, h.tape, h.output, h.size, h.block⟩
theorem own_byt {w : World} {B : Nat} {v : Value} {n : Nat} {y : Nat → Nat} (h : Own w B v n y) : ∃ a c, v = .slice a n c ∧ Byt w a n y ∧ (a = none → n = 0) ∧ ∀ b off, a = some ⟨b, off, none⟩ → B ≤ b := by
  rcases Nat.eq_zero_or_pos n with rfl | hp
  · rcases h.2 with ⟨rfl, _⟩ | ⟨g, cap, cur, rfl, hb, _⟩
    · exact ⟨none, 0, rfl, fun j hj => absurd hj (Nat.not_lt_zero _), fun _ => rfl, (fun b off e => by cases e)⟩
    · exact ⟨_, cap, rfl, fun j hj => absurd hj (Nat.not_lt_zero _), fun _ => rfl, (fun b off e => by cases e; exact hb)⟩
  · obtain ⟨g, cap, f, rfl, hg, hc, hrow, hf⟩ := own_row h hp
    exact ⟨_, cap, rfl, fun j hj => ⟨g, 0, rfl, by rw [Nat.zero_add, hrow.cell (by omega), hf j hj]⟩, (fun e => by cases e), (fun b off e => by cases e; exact hg)⟩

theorem byt_but {r : Nat} {w w' : World} {a : Option Addr} {n : Nat} {x : Nat → Nat} (h : Byt w a n x) (hb : But r w w') (hne : ∀ b off, a = some ⟨b, off, none⟩ → b ≠ r) : Byt w' a n x := fun j hj => by
  obtain ⟨b, off, e, hc⟩ := h j hj
  exact ⟨b, off, e, by rw [World.cell?_of_block (w := w) (hb.block b (World.block_lt_of_cell? _ _ hc) (hne b off e))]; exact hc⟩

set_option maxHeartbeats 3200000 in
set_option maxRecDepth 100000 in
theorem sums_walk (ga : Option Addr) (gb go G Gc : Nat) (A : Nat → Option Addr) (L C : Nat → Nat) (Z : Nat → Nat → Nat) (w : World) (hga : 0 < G → ga = some ⟨gb, go, none⟩)
    (hG : G ≤ 140737488351232) (hLb : ∀ r, r < G → L r ≤ 140737488351232)
    (hrow : ∀ r, r < G → w.cell? ⟨gb, go + r, none⟩ = some (.slice (A r) (L r) (C r)))
    (hA : ∀ r, r < G → Byt w (A r) (L r) (Z r)) (hN : ∀ r, r < G → A r = none → L r = 0 ∧ C r = 0)
    (hZ : ∀ r c, Z r c < 256)
    (ht : ∀ i, i < 16 → w.cell? ⟨0, i, none⟩ = some (.int .u32 (Crc.T i : Nat))) :
    Calls Tryd.prog 5 #[.agg #[.slice ga G Gc]] w fun e w' => e = .returned (.bool true) ∧ w.Since w.heap.size w' := by
  have hpos : 0 < w.heap.size := World.block_lt_of_cell? _ _ (ht 0 (by decide))
  have hs1 : w.Since w.heap.size (w.alloc (.cells #[.slice ga G Gc] 24)) := (World.Since.refl _ _).alloc (Nat.le_refl _) _
  have e0 : (w.alloc (.cells #[.slice ga G Gc] 24)).heap.size = w.heap.size + 1 := by simp
  have box : (w.alloc (.cells #[.slice ga G Gc] 24)).cell? ⟨w.heap.size, 0, none⟩ = some (.slice ga G Gc) := by simp
  have ht1 := table_later hs1 ht
  have kc := Lib.run_convert_bytes_const (P := Tryd.prog) (w.alloc (.cells #[.slice ga G Gc] 24)) 27 5 #[.int .u8 49, .int .u8 50, .int .u8 51, .int .u8 52, .int .u8 53, .int .u8 54, .int .u8 55, .int .u8 56, .int .u8 57] 9 9 Tryd.underlying27 Tryd.underlying5
  rw [e0] at kc
  have hs2 : (w.alloc (.cells #[.slice ga G Gc] 24)).Since (w.heap.size + 1) ((w.alloc (.cells #[.slice ga G Gc] 24)).alloc (.cells #[.int .u8 49, .int .u8 50, .int .u8 51, .int .u8 52, .int .u8 53, .int .u8 54, .int .u8 55, .int .u8 56, .int .u8 57] 5 (9, 10))) := (World.Since.refl _ _).alloc (by rw [e0]; exact Nat.le_refl _) _
  have s9 := sum_any (w.heap.size + 1) 0 9 9 [49, 50, 51, 52, 53, 54, 55, 56, 57] ((w.alloc (.cells #[.slice ga G Gc] 24)).alloc (.cells #[.int .u8 49, .int .u8 50, .int .u8 51, .int .u8 52, .int .u8 53, .int .u8 54, .int .u8 55, .int .u8 56, .int .u8 57] 5 (9, 10))) rfl (by decide)
    (fun j hj => by
      have hm := World.cell?_alloc_mark (w.alloc (.cells #[.slice ga G Gc] 24)) #[.int .u8 49, .int .u8 50, .int .u8 51, .int .u8 52, .int .u8 53, .int .u8 54, .int .u8 55, .int .u8 56, .int .u8 57] 5 (9, 10) j
      rw [e0] at hm
      rw [Nat.zero_add, hm]
      match j, hj with
      | 0, _ => rfl
      | 1, _ => rfl
      | 2, _ => rfl
      | 3, _ => rfl
      | 4, _ => rfl
      | 5, _ => rfl
      | 6, _ => rfl
      | 7, _ => rfl
      | 8, _ => rfl)
    (fun j => by
      rcases Nat.lt_or_ge j 9 with h | h
      · have : ∀ k : Fin 9, [49, 50, 51, 52, 53, 54, 55, 56, 57].getD k.val 0 < 256 := by decide
        exact this ⟨j, h⟩
      · rw [List.getD_eq_getElem?_getD, List.getElem?_eq_none (by simpa using h)]; decide)
    (table_later (by rw [e0]; exact hs2) ht1)
  rw [sum9] at s9
  go_enter Tryd.func5, Tryd.ntmps5
  go_wp2_with fail
  generalize w.alloc (.cells #[.slice ga G Gc] 24) = w1 at *
  generalize w1.alloc (.cells #[.int .u8 49, .int .u8 50, .int .u8 51, .int .u8 52, .int .u8 53, .int .u8 54, .int .u8 55, .int .u8 56, .int .u8 57] 5 (9, 10)) = w2 at *
  refine s9.mono ?_
  rintro e w' ⟨rfl, rfl⟩
  clear s9 kc
  go_wp2_with fail
  refine (sum_empty _ _ _).mono ?_
  rintro e w' ⟨rfl, rfl⟩
  rw [sum_none]
  rw [← e0] at hs2
  go_wp2_with fail
  go_loopg [3] G (fun q s3 wx => ∃ k : Nat, k ≤ G ∧ q = G - k ∧ s3 = .int .i64 k ∧ w1.Since w1.heap.size wx)
  case atStart => exact ⟨0, Nat.zero_le _, rfl, rfl, hs2⟩
  case round =>
    obtain ⟨k, hk, rfl, rfl, hS⟩ := hrel
    clear hs2
    have bx : ∀ W, w1.Since w1.heap.size W → W.cell? ⟨w.heap.size, 0, none⟩ = some (.slice ga G Gc) := fun W hW => by rw [hW.cell (a := ⟨w.heap.size, 0, none⟩) (by show w.heap.size < w1.heap.size; omega)]; exact box
    have Hbx := hide bx
    clear bx
    by_cases hk1 : k < G
    · obtain rfl := hga (by omega)
      have hgb : gb < w.heap.size := World.block_lt_of_cell? _ _ (hrow k (by omega))
      have up : ∀ W, w1.Since w1.heap.size W → ∀ r, r < G → W.cell? ⟨gb, go + r, none⟩ = some (.slice (A r) (L r) (C r)) := fun W hW r hr => by
        rw [hW.cell (a := ⟨gb, go + r, none⟩) (by show gb < w1.heap.size; omega), hs1.cell (a := ⟨gb, go + r, none⟩) hgb]; exact hrow r hr
      have byt : ∀ W, w1.Since w1.heap.size W → ∀ r, r < G → Byt W (A r) (L r) (Z r) := fun W hW r hr => ((hA r hr).since hs1).since hW
      have Hup := hide up
      have Hbyt := hide byt
      clear up byt
      have b0 := (unhide Hbx) _ hS
      have g0 := (unhide Hup) _ hS k hk1
      have kz : (k : Int) < (G : Int) := by omega
      go_wp2_with fail
      refine (lend_any (A k) (L k) (C k) (Z k) _ (hLb k hk1) ((unhide Hbyt) _ hS k hk1) (hN k hk1)).mono ?_
      rintro e w3 ⟨g, cap', f, rfl, hg, h3, hL⟩
      have hS3 := hS.trans (since_mono h3 hS.size)
      have hgw : w1.heap.size ≤ g := Nat.le_trans hS.size hg
      clear hS h3 hg b0 g0
      obtain ⟨h, hhe, hkh⟩ : ∃ h : Nat, (k : Int) / 2 = (h : Int) ∧ h < G := ⟨k / 2, by omega, by omega⟩
      have b3 := (unhide Hbx) _ hS3
      have r1 := (unhide Hup) _ hS3 k hk1
      have r2 := (unhide Hup) _ hS3 h hkh
      have y1 := (unhide Hbyt) _ hS3 k hk1
      have y2 := (unhide Hbyt) _ hS3 h hkh
      have ht3 := table_later hS3 ht1
      have l1 := hLb k hk1
      have l2 := hLb h hkh
      have n1 := hN k hk1
      have z1 := hZ k
      have z2 := hZ h
      have T9a : ∀ n, Calls Tryd.prog 9 #[.slice (some ⟨g, 0, none⟩) (L k) cap'] (w3.drewN n) fun e w' => e = .returned (.int .u32 (Crc.sum ((List.range (L k)).map (Z k)) : Nat)) ∧ w' = w3.drewN n := fun n => sum_byt _ (L k) cap' (Z k) (w3.drewN n) (by omega) (hL.byt.drewN n) z1 ht3
      have T14a : ∀ n, Calls Tryd.prog 14 #[.slice (A k) (L k) (C k)] (w3.drewN n) fun e w' => e = .returned (.int .u32 (Crc.sum ((List.range (L k)).map (Z k)) : Nat)) ∧ ∃ m, w' = (w3.drewN n).drewN m := fun n => refsum_any _ (L k) (C k) (Z k) (w3.drewN n) (by omega) (y1.drewN n) z1
      have T15 : ∀ n, Calls Tryd.prog 15 #[.slice (some ⟨g, 0, none⟩) (L k) cap', .slice (A k) (L k) (C k)] (w3.drewN n) fun e w' => e = .returned (.bool true) ∧ w' = w3.drewN n := fun n => intact_any g (L k) cap' (Z k) f (A k) (C k) (w3.drewN n) (hL.drewN n) (y1.drewN n) (fun e => (n1 e).1) l1
      have T9h : ∀ n, Calls Tryd.prog 9 #[.slice (A h) (L h) (C h)] (w3.drewN n) fun e w' => e = .returned (.int .u32 (Crc.sum ((List.range (L h)).map (Z h)) : Nat)) ∧ w' = w3.drewN n := fun n => sum_byt _ (L h) (C h) (Z h) (w3.drewN n) (by omega) (y2.drewN n) z2 ht3
      have T14h : ∀ n, Calls Tryd.prog 14 #[.slice (A h) (L h) (C h)] (w3.drewN n) fun e w' => e = .returned (.int .u32 (Crc.sum ((List.range (L h)).map (Z h)) : Nat)) ∧ ∃ m, w' = (w3.drewN n).drewN m := fun n => refsum_any _ (L h) (C h) (Z h) (w3.drewN n) (by omega) (y2.drewN n) z2
      have U9a := hide T9a
      have U14a := hide T14a
      have U15 := hide T15
      have U9h := hide T9h
      have U14h := hide T14h
      have Hy1 := hide y1
      clear T9a T14a T15 T9h T14h y1 y2 ht3
      generalize Crc.sum ((List.range (L k)).map (Z k)) = S0 at *
      generalize Crc.sum ((List.range (L h)).map (Z h)) = Sh at *
      have khz : (h : Int) < (G : Int) := by omega
      go_wp2_with fail
      go_quiet (first
        | (go_at_call 15; exact Calls.quiet_of_same ((unhide U15) _))
        | (go_at_call_of 9 g; exact Calls.quiet_of_same ((unhide U9a) _))
        | (go_at_call_of 14 (A k); exact Calls.quiet_of ((unhide U14a) _))
        | (go_at_call_of 9 (A h); exact Calls.quiet_of_same ((unhide U9h) _))
        | (go_at_call_of 14 (A h); exact Calls.quiet_of ((unhide U14h) _)))
      have hS4 := since_drewN hS3 nq
      have hL4 := hL.drewN nq
      have b4 : (w3.drewN nq).cell? ⟨w.heap.size, 0, none⟩ = some (.slice (some ⟨gb, go, none⟩) G Gc) := b3
      have r4 : (w3.drewN nq).cell? ⟨gb, go + k, none⟩ = some (.slice (A k) (L k) (C k)) := r1
      have y4 := (unhide Hbyt) _ hS4 k hk1
      generalize w3.drewN nq = w4 at *
      clear U9a U14a U15 U9h U14h Hy1 b3 r1 r2 hS3 hL hhe
      have ho := other_any (A k) (L k) (C k) (Z k) w4 l1 y4 z1 (fun e => (n1 e).1)
      have Ho := hide ho
      clear ho
      go_wp2_with fail
      refine (unhide Ho).mono ?_
      rintro e w5 ⟨v, y, rfl, h5, hown, hy⟩
      obtain ⟨a5, c5, rfl, hb5, hn5, hg5⟩ := own_byt hown
      have hglt := hL4.row.lt
      have hne5 : ∀ b off, a5 = some ⟨b, off, none⟩ → b ≠ g := fun b off e => by have := hg5 b off e; omega
      have hL5 := hL4.since h5
      have hS5 := hS4.trans (since_mono h5 hS4.size)
      have hin := into_any g (L k) cap' f a5 (L k) c5 y w5 hL5.row (by have := hL5.room; omega) l1 (Nat.le_refl _) hb5 hne5
      have Hin := hide hin
      clear hin b4 r4 y4 Ho hown hL4 hS4 hg5
      go_wp2_with fail
      refine (unhide Hin).mono ?_
      rintro e w6 ⟨rfl, hO⟩
      have hS6 : w1.Since w1.heap.size w6 := hO.but.since hS5 hgw hS5.size
      have hb6 := byt_but hb5 hO.but hne5
      have hbg : Byt w6 (some ⟨g, 0, none⟩) (L k) y := fun j hj => ⟨g, 0, rfl, by rw [Nat.zero_add, hO.row.cell (by have := hL5.room; omega), if_pos hj]⟩
      have q9 := sum_byt (some ⟨g, 0, none⟩) (L k) cap' y w6 (by omega) hbg hy (table_later hS6 ht1)
      have q14 := refsum_any a5 (L k) c5 y w6 (by omega) hb6 hy
      generalize Crc.sum ((List.range (L k)).map y) = Sy at *
      have Q9 := hide q9
      have Q14 := hide q14
      clear q9 q14 hO hb6 hbg hb5 Hin
      go_wp2_with fail
      refine (unhide Q9).mono ?_
      rintro e w' ⟨rfl, rfl⟩
      go_wp2_with fail
      refine (unhide Q14).mono ?_
      rintro e w' ⟨rfl, m, rfl⟩
      have hS7 := since_drewN hS6 m
      go_wp2_with fail
      go_roundg (G - (k + 1))
      case measure => go_light; omega
      case rel => go_light; exact ⟨k + 1, by omega, rfl, by simp, hS7⟩
    · have b0 := (unhide Hbx) _ hS
      go_wp2_with fail
      go_ret
      exact ⟨rfl, hs1.trans (since_mono hS (by omega))⟩
end Go.Proofs.YtafkkmkjagodfaaDoor
