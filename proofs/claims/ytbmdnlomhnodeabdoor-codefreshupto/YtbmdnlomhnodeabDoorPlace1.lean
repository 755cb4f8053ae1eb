/- The walk of read: a Reader over bytes beside the document's, whole. -/
import Derived.Test.YtbmdnlomhnodeabDoorReadsTwo
import Derived.Deep.RegionHeld3
namespace Go.Proofs.YtbmdnlomhnodeabDoor
open Go.RowKit
set_option maxRecDepth 100000

set_option maxHeartbeats 6400000 in
set_option maxRecDepth 100000 in
theorem read_walk (ia : Option Addr) (n icap : Nat) (ba : Option Addr) (bcap : Nat) (x : Nat → Nat) (oa : Option Addr) (ob oo olen ocap : Nat) (w : World) (hn : n ≤ 140737488351232) (hI : Byt w ia n x) (hB : Byt w ba n x) (hx : ∀ j, x j < 256) (holen : olen ≤ 281474976710656) (hW : Wid w) (hoa : 0 < olen → oa = some ⟨ob, oo, none⟩)
    (hop : ∀ i, i < olen → ∃ (K WH M : Int) (N : Nat) (ba : Option Addr) (bl bc : Nat), w.cell? ⟨ob, oo + i * 5, none⟩ = some (.int .i64 K) ∧ w.cell? ⟨ob, oo + i * 5 + 1, none⟩ = some (.int .i64 WH) ∧ w.cell? ⟨ob, oo + i * 5 + 2, none⟩ = some (.int .i64 M) ∧ w.cell? ⟨ob, oo + i * 5 + 3, none⟩ = some (.int .u64 N) ∧ w.cell? ⟨ob, oo + i * 5 + 4, none⟩ = some (.slice ba bl bc) ∧ M ≤ 9223372036854775807) :
    Calls Tryd.prog 30 #[.slice ia n icap, .slice ba n bcap, .slice oa olen ocap] w fun e w' => e = .returned (.bool true) ∧ w.Since w.heap.size w' := by
  go_enter Tryd.func30, Tryd.ntmps30
  go_wp2_with fail
  refine (read_any ia n icap x w (by omega) hI hx).mono ?_
  rintro e w2 ⟨rb, rfl, hrb, hs2, hR⟩
  go_wp2_with fail
  refine (copy_any ba n bcap x w2 (by omega) (hB.since hs2)).mono ?_
  rintro e w3 ⟨rfl, hs3, e3, hrow3⟩
  have z2 := hs2.size
  have hs03 : w.Since w.heap.size w3 := hs2.trans (since_mono hs3 z2)
  have hlR := hR.rd.lt
  have hlH := hR.row.lt
  have sA : w3.Since w3.heap.size (w3.alloc (.cells #[.slice (some ⟨w2.heap.size, 0, none⟩) n n, .int .i64 0, .int .i64 0] 51)) := (World.Since.refl _ _).alloc (Nat.le_refl _) _
  have hRE : RE (w3.alloc (.cells #[.slice (some ⟨w2.heap.size, 0, none⟩) n n, .int .i64 0, .int .i64 0] 51)) rb w.heap.size (w2.heap.size + 1) w2.heap.size n x 0 0 := by
    rw [← e3]
    have E5 : (w3.alloc (.cells #[.slice (some ⟨w2.heap.size, 0, none⟩) n n, .int .i64 0, .int .i64 0] 51)).rowIs w3.heap.size 51 3 (rdCell w2.heap.size n 0 0) := World.rowIs_alloc w3 #[.slice (some ⟨w2.heap.size, 0, none⟩) n n, .int .i64 0, .int .i64 0] 51 _ (fun i hi => by
      match i, hi with
      | 0, _ => rfl
      | 1, _ => rfl
      | 2, _ => rfl)
    exact ⟨(hR.since hs3).since sA, ⟨E5, row_since hrow3 sA, by omega, hx, Nat.zero_le _, hR.room⟩, by omega, by omega, by omega⟩
  have hsA : w.Since w.heap.size (w3.alloc (.cells #[.slice (some ⟨w2.heap.size, 0, none⟩) n n, .int .i64 0, .int .i64 0] 51)) := hs03.alloc hs03.size _
  go_upto_region 5 with fail
  generalize w3.alloc (.cells #[.slice (some ⟨w2.heap.size, 0, none⟩) n n, .int .i64 0, .int .i64 0] 51) = w4 at *
  clear sA hrow3 hR hlR hlH hs3 hs2 hs03 e3
  generalize hhe : w2.heap.size = he at *
  generalize hhb : w.heap.size = hb at *
  clear hhe w3 w2
  have heb : hb ≤ he + 1 := by omega
  generalize he + 1 = eb at *
  go_wp2_with fail
  go_loopg [9] 400 (fun q s9 wx => ∃ (i at' bad : Nat), i ≤ olen ∧ i ≤ 400 ∧ q = 400 - i ∧ s9 = .int .i64 i ∧ RE wx rb hb eb he n x at' bad ∧ w.Since hb wx)
  case atStart => exact ⟨0, 0, 0, Nat.zero_le _, by omega, rfl, rfl, hRE, hsA⟩
  case round =>
    obtain ⟨i, at', bad, hi, hi4, rfl, rfl, hE, hs⟩ := hrel
    clear hRE hsA
    by_cases hlt : i < olen ∧ i < 400
    · obtain ⟨hlo, hl4⟩ := hlt
      have hoa1 := hoa (by omega)
      subst hoa1
      obtain ⟨K, WH, M, N, ba2, bl, bc, c0, c1, c2, c3, c4, hM⟩ := hop i hlo
      have mv : ∀ {o : Nat} {u : Value}, w.cell? ⟨ob, o, none⟩ = some u → wr.cell? ⟨ob, o, none⟩ = some u := fun {o u} hc => by
        rw [hs.cell (a := ⟨ob, o, none⟩) (by rw [← hhb]; exact World.block_lt_of_cell? _ _ hc)]; exact hc
      have d0 := mv c0
      have d1 := mv c1
      have d2 := mv c2
      have d3 := mv c3
      have d4 := mv c4
      have hz1 : (i : Int) < (olen : Int) := by omega
      have hz2 : (i : Int) < 400 := by omega
      have hWr := hW.since (hhb ▸ hs)
      have hc := reads_walk wr rb hb eb he n x at' bad K WH M N ba2 bl bc hE hWr hn hM
      clear mv c0 c1 c2 c3 c4
      go_wp2_with fail
      refine hc.mono ?_
      rintro e w7 ⟨rfl, at2, bad2, hE2, hb2⟩
      have hs7 : w.Since hb w7 := hb2.since hs (by omega) (by omega) (by have := hs.size; omega)
      clear hc d0 d1 d2 d3 d4
      go_wp2_with fail
      go_roundg (400 - (i + 1))
      case measure => go_light; omega
      case rel => go_light; exact ⟨i + 1, at2, bad2, by omega, by omega, rfl, by simp, hE2, hs7⟩
    · have hl4 : (i : Int) < (olen : Int) → ¬ ((i : Int) < 400) := by omega
      have hfin : ∀ W, wr.Since wr.heap.size W → w.Since w.heap.size W := fun W h => by rw [hhb]; exact hs.trans (since_mono h (by have := hs.size; omega))
      have x5 := hE.ey.c1
      have hle := hE.ey.le
      have hat : ∀ W, wr.Since wr.heap.size W → _ := fun W hs => at_any rb hb n at' bad x W (hE.later hs).rd
      have hlf : ∀ W, wr.Since wr.heap.size W → _ := fun W hs => left_any rb hb n at' bad x W (hE.later hs).rd
      have hend : ∀ W, wr.Since wr.heap.size W → _ := fun W hs => end_r rb hb n at' bad x W (hE.later hs).rd
      have hend2 : ∀ W, wr.Since wr.heap.size W → _ := fun W hs => eyeEnd eb he n at' bad x W (hE.later hs).ey
      generalize (if bad = 0 ∧ at' < n then 13 else bad) = X at *
      have hD : ∃ D : Nat, n - at' = D ∧ (n : Int) - (at' : Int) = (D : Int) ∧ IntKind.i64.wrap (D : Int) = (D : Int) := ⟨n - at', rfl, by omega, by rw [IntKind.wrap_i64]; omega⟩
      obtain ⟨D, hd1, hd2, hd3⟩ := hD
      rw [hd1] at hlf
      clear hE hlt hop hoa hs hW hB hI hx hd1 hle
      by_cases hio : (i : Int) < (olen : Int)
      all_goals
        try have hl5 := hl4 hio
        clear hl4
        go_upto_region 10 with fail
        go_region_held3 (fun W => W.cell? ⟨eb, 1, none⟩ = some (.int .i64 at'))
          (exact x5)
          ((first
            | (go_at_call 20; refine (hat _ ?_).mono ?_; (exact ⟨rfl, rfl, rfl, Nat.le_refl _, fun _ _ => rfl⟩); rintro e w7 ⟨rfl, rfl⟩)
            | (go_at_call 19; refine (hlf _ ?_).mono ?_; (exact ⟨rfl, rfl, rfl, Nat.le_refl _, fun _ _ => rfl⟩); rintro e w7 ⟨rfl, m7, rfl⟩)
            | (go_at_call 16; refine (num_e _ _).mono ?_; rintro e w7 ⟨rfl, rfl⟩)
            | (go_at_call 18; refine (hend _ ?_).mono ?_; (exact ⟨rfl, rfl, rfl, Nat.le_refl _, fun _ _ => rfl⟩); rintro e w7 ⟨rfl, m8, rfl⟩)
            | (go_at_call 28; refine (hend2 _ ?_).mono ?_; (exact ⟨rfl, rfl, rfl, Nat.le_refl _, fun _ _ => rfl⟩); rintro e w8 ⟨rfl, m9, rfl⟩)))
        all_goals
          go_wp2_with fail
          go_ret
          exact ⟨rfl, hfin _ ⟨rfl, rfl, rfl, Nat.le_refl _, fun _ _ => rfl⟩⟩
end Go.Proofs.YtbmdnlomhnodeabDoor
