/- Package disk: Load. -/
import Derived.Test.YtbebnjeamlmclaaD5
namespace Go.Proofs.Ytbebnjeamlmclaa
open Go.RowKit Go.Maps Go.Sort
set_option maxRecDepth 100000
set_option maxRecDepth 100000

def fput (f : Nat → Nat) (k x : Nat) : Nat → Nat := fun i => if i = k then x else f i
theorem nmD_congr (nm : Nat → ByteArray) {fb fb' : Nat → Nat} : ∀ n, (∀ i, i < n → fb i = fb' i) → nmD nm fb n = nmD nm fb' n
  | 0, _ => rfl
  | n + 1, h => by
    show (nmD nm fb n).put _ _ = (nmD nm fb' n).put _ _
    rw [nmD_congr nm n (fun i hi => h i (by omega)), h n (by omega)]
theorem grown_below {B : Nat} {w0 w w' : World} {m : Nat} (h : Below B w0 w) (hz : B ≤ w.heap.size) (hg : w.grownBy w' (some m)) (hB : B ≤ m) : Below B w0 w' :=
  h.grown hg hz (fun j hj => by cases hj; exact hB)

/-- While a disk is loaded. -/
structure Lds (w0 w : World) (db sb nb : Nat) (room : Nat) (n : Nat) (nm : Nat → ByteArray) (fb dl : Nat → Nat) (dx : Nat → Nat → Nat) : Prop where
  d : Disk0 w db sb nb room n nm fb dl dx
  ne : sb ≠ nb
  below : Below w0.heap.size w0 w
  ls : w0.heap.size ≤ sb
  ln : w0.heap.size ≤ nb
theorem Lds.on {w0 w w' : World} {db sb nb : Nat} {room : Nat} {n : Nat} {nm : Nat → ByteArray} {fb dl : Nat → Nat} {dx : Nat → Nat → Nat} (h : Lds w0 w db sb nb room n nm fb dl dx) (hb : Below w.heap.size w w') : Lds w0 w' db sb nb room n nm fb dl dx :=
  ⟨h.d.on hb, h.ne, h.below.trans (hb.mono h.below.size), h.ls, h.ln⟩

theorem lay_load {w0 w : World} {db sb nb : Nat} {room : Nat} {n : Nat} {nm : Nat → ByteArray} {fb dl : Nat → Nat} {dx : Nat → Nat → Nat} (h : Lds w0 w db sb nb room n nm fb dl dx) (hn : n ≤ 1000) (hs : (nm n).size ≤ 1048576) {f : Nat} (hf : File0 w f (dl n) (dx n)) :
    Calls Try.prog 38 #[.pointer (some ⟨db, 1, none⟩), .string (nm n), .pointer (some ⟨f, 0, none⟩)] w fun e w' => e = .returned (.tuple #[]) ∧ Lds w0 w' db sb nb room (n + 1) nm (fput fb n f) dl dx ∧ (∀ b i v, w.cell? ⟨b, i, none⟩ = some v → w'.cell? ⟨b, i, none⟩ = some v) := by
  have c1 : w.cell? ⟨db, 1, none⟩ = some (.map (some sb)) := h.d.row.cell (i := 1) (by decide)
  have c2 : w.cell? ⟨db, 2, none⟩ = some (.map (some nb)) := h.d.row.cell (i := 2) (by decide)
  refine (lay_any c1 c2 h.d.safe h.d.seen h.ne (by omega) (nm n) hs f).mono fun e w' ⟨he, m1, m2, w1, g1, g2, es2, cl2, hm2⟩ => ?_
  obtain ⟨es1, cl1, hm1⟩ : ∃ es cl, w.heap[sb]? = some (.map es cl) := by
    obtain ⟨es, cl, hx, _⟩ := h.d.safe
    exact ⟨es, cl, hx⟩
  have cc : ∀ b i v, w.cell? ⟨b, i, none⟩ = some v → w'.cell? ⟨b, i, none⟩ = some v := fun b i v hc => by
    have n1 := cells_ne hc hm1
    have hc1 : w1.cell? ⟨b, i, none⟩ = some v := by
      rw [World.cell?_of_block (a := ⟨b, i, none⟩) (g1.block b (World.block_lt_of_cell? _ _ hc) (fun e => n1 (Option.some.inj e)))]; exact hc
    have n2 := cells_ne hc1 hm2
    rw [World.cell?_of_block (a := ⟨b, i, none⟩) (g2.block b (World.block_lt_of_cell? _ _ hc1) (fun e => n2 (Option.some.inj e)))]; exact hc1
  have hD : (nmD nm fb n).put (.string (nm n).data.toList) (.held f) = nmD nm (fput fb n f) (n + 1) := by
    show _ = (nmD nm (fput fb n f) n).put _ _
    rw [nmD_congr nm (fb := fb) (fb' := fput fb n f) n (fun i hi => by unfold fput; rw [if_neg (by omega)])]
    congr 2
    unfold fput
    rw [if_pos rfl]
  rw [hD] at m1 m2
  have hdb1 : db ≠ sb := cells_ne c1 hm1
  have hdw1 : w1.cell? ⟨db, 1, none⟩ = some (.map (some sb)) := by
    rw [World.cell?_of_block (a := ⟨db, 1, none⟩) (g1.block db (World.block_lt_of_cell? _ _ c1) (fun e => hdb1 (Option.some.inj e)))]; exact c1
  have hdb2 : db ≠ nb := cells_ne hdw1 hm2
  have hrow : w'.rowIs db 82 10 (dkCell room sb nb) := by
    refine (h.d.row.of_block (w' := w1) (g1.block db h.d.row.lt (fun e => hdb1 (Option.some.inj e)))).of_block (g2.block db ?_ (fun e => hdb2 (Option.some.inj e)))
    exact Nat.lt_of_lt_of_le h.d.row.lt g1.size
  refine ⟨he, ⟨⟨hrow, m1, m2, fun i hi => ?_⟩, h.ne, grown_below (grown_below h.below h.below.size g1 h.ls) (Nat.le_trans h.below.size g1.size) g2 h.ln, h.ls, h.ln⟩, cc⟩
  by_cases e : i = n
  · subst e
    have e2 : fput fb i f i = f := by unfold fput; rw [if_pos rfl]
    rw [e2]
    exact (hf.map hm1 g1).map hm2 g2
  · have e2 : fput fb n f i = fb i := by unfold fput; rw [if_neg e]
    rw [e2]
    exact ((h.d.files i (by omega)).map hm1 g1).map hm2 g2

set_option maxHeartbeats 3200000 in
theorem load_good (a : Option Addr) (n c : Nat) (nm : Nat → ByteArray) (dl : Nat → Nat) (dx : Nat → Nat → Nat) (room : Nat) (w : World) (h : Img w a n nm dl dx) (hr : room ≤ 67108864) (hi : imgB n nm = true) (hf : sumL dl n ≤ room) (hs : ∀ i, i < n → (nm i).size ≤ 1048576) (hd : ∀ i, i < n → dl i ≤ 1048576) :
    Calls Try.prog 10 #[.slice a n c, .int .i64 room] w fun e w' => ∃ db sb nb fb, e = .returned (.tuple #[.pointer (some ⟨db, 0, none⟩), .int .i64 0]) ∧ Disk0 w' db sb nb room n nm fb dl dx ∧ Below w.heap.size w w' := by
  have hn64 : n ≤ 64 := by
    unfold imgB at hi
    simp only [Bool.and_eq_true, decide_eq_true_eq] at hi
    exact hi.1
  have hii := isImage_any a n c nm dl dx w h
  rw [hi] at hii
  have hfi : ∀ W, Below w.heap.size w W → Calls Try.prog 36 #[.slice a n c, .int .i64 room] W fun e w' => e = .returned (.bool true) ∧ Below W.heap.size W w' := fun W hb => by
    have := fits_any a n c nm dl dx room W (h.on hb) (by omega) hr
    rwa [decide_eq_true hf] at this
  have z0 : ¬ (room : Int) < 0 := by omega
  have z1 : ¬ (67108864 : Int) < (room : Int) := by omega
  have HI : Hid (Img w a n nm dl dx) := h
  have HS : Hid (∀ i, i < n → (nm i).size ≤ 1048576) := hs
  have HD : Hid (∀ i, i < n → dl i ≤ 1048576) := hd
  have HF : Hid _ := hfi
  clear hi hf hs hd h hfi
  go_enter Try.func10, Try.ntmps10
  go_wp2_with fail
  refine hii.mono ?_
  rintro e w1 ⟨rfl, hb1⟩
  clear hii
  have hf1 := HF.out w1 hb1
  go_wp2_with fail
  refine hf1.mono ?_
  rintro e w2 ⟨rfl, hb2⟩
  clear hf1 HF
  have hbw2 := hb1.trans (hb2.mono hb1.size)
  go_wp2_with fail
  refine (newNames_any w2).mono ?_
  rintro e w3 ⟨sb, nb, rfl, m1, m2, hne, l1, l2, hb3⟩
  have hbw3 := hbw2.trans (hb3.mono hbw2.size)
  have hL0 : Lds w (w3.alloc (.cells #[.int .i64 room, .map (some sb), .map (some nb), .slice none 0 0, .bool false, .int .i64 0, .int .i64 0, .int .i64 0, .int .i64 0, .int .i64 0] 82)) w3.heap.size sb nb room 0 nm (fun _ => 0) dl dx :=
    ⟨⟨World.rowIs_alloc w3 #[.int .i64 room, .map (some sb), .map (some nb), .slice none 0 0, .bool false, .int .i64 0, .int .i64 0, .int .i64 0, .int .i64 0, .int .i64 0] _ _ (fun i hi => by
      match i, hi with
      | 0, _ => rfl
      | 1, _ => rfl
      | 2, _ => rfl
      | 3, _ => rfl
      | 4, _ => rfl
      | 5, _ => rfl
      | 6, _ => rfl
      | 7, _ => rfl
      | 8, _ => rfl
      | 9, _ => rfl), m1.alloc _, m2.alloc _, fun i hi => absurd hi (Nat.not_lt_zero _)⟩, hne, hbw3.alloc hbw3.size _, Nat.le_trans hbw2.size l1, Nat.le_trans hbw2.size l2⟩
  clear m1 m2 hne l1 l2 hb3 hb1 hb2 hbw2 hbw3
  go_upto_region 6 with fail
  generalize w3.alloc (.cells #[.int .i64 room, .map (some sb), .map (some nb), .slice none 0 0, .bool false, .int .i64 0, .int .i64 0, .int .i64 0, .int .i64 0, .int .i64 0] 82) = W4 at *
  generalize w3.heap.size = db at *
  go_wp2_with fail
  go_loopg [30] n (fun q s30 wx => ∃ (i : Nat) (fb : Nat → Nat), i ≤ n ∧ q = n - i ∧ s30 = .int .i64 i ∧ Lds w wx db sb nb room i nm fb dl dx)
  case atStart => exact ⟨0, _, Nat.zero_le _, rfl, rfl, hL0⟩
  case round =>
    obtain ⟨i, fb, hi, rfl, rfl, hL⟩ := hrel
    clear hL0
    by_cases hlt : i < n
    · have hz : (i : Int) < (n : Int) := by omega
      obtain ⟨b, o, rfl, h1, da, dc, h2, h3⟩ := HI.out.on hL.below i hlt
      have bq : Below wr.heap.size wr (wr.alloc (.cells #[.string (nm i), .slice da (dl i) dc] 28)) := (Below.refl _ _).alloc (Nat.le_refl _) _
      have k0 : (wr.alloc (.cells #[.string (nm i), .slice da (dl i) dc] 28)).cell? ⟨wr.heap.size, 0, none⟩ = some (.string (nm i)) := World.cell?_alloc_at (w := wr) _ _ _ 0 rfl
      have k1 : (wr.alloc (.cells #[.string (nm i), .slice da (dl i) dc] 28)).cell? ⟨wr.heap.size, 1, none⟩ = some (.slice da (dl i) dc) := World.cell?_alloc_at (w := wr) _ _ _ 1 rfl
      have hL2 := hL.on bq
      have h32 := h3.on bq
      go_upto_region 9 with fail
      clear h1 h2 h3 bq hL
      generalize wr.alloc (.cells #[.string (nm i), .slice da (dl i) dc] 28) = W2 at *
      generalize wr.heap.size = ib at *
      have HN : Hid (∀ W, Below W2.heap.size W2 W → Calls Try.prog 39 #[.slice da (dl i) dc] W fun e w' => ∃ f, e = .returned (.pointer (some ⟨f, 0, none⟩)) ∧ Below W.heap.size W w' ∧ File0 w' f (dl i) (dx i)) := fun W hb =>
        (newFile_any da (dl i) dc (dx i) W (by have := HD.out i hlt; omega) (h32.on hb)).mono fun e w' ⟨f, he, _, _, hb', hF⟩ => ⟨f, he, hb', hF⟩
      have HY : Hid (∀ W f, Below W2.heap.size W2 W → File0 W f (dl i) (dx i) → Calls Try.prog 38 #[.pointer (some ⟨db, 1, none⟩), .string (nm i), .pointer (some ⟨f, 0, none⟩)] W fun e w' => e = .returned (.tuple #[]) ∧ Lds w w' db sb nb room (i + 1) nm (fput fb i f) dl dx ∧ (∀ b j v, W.cell? ⟨b, j, none⟩ = some v → w'.cell? ⟨b, j, none⟩ = some v)) := fun W f hb hF =>
        lay_load (hL2.on hb) (by omega) (HS.out i hlt) hF
      have hB2 : Below W2.heap.size W2 W2 := Below.refl _ _
      have hB2d : Below W2.heap.size W2 W2.drew := (Below.refl _ _).drew
      clear hL2 h32
      generalize nm i = s at *
      generalize dl i = d at *
      go_region_held3 (fun W => W.cell? ⟨ib, 0, none⟩ = some (.string s) ∧ W.cell? ⟨ib, 1, none⟩ = some (.slice da d dc))
        (first | exact ⟨k0, k1⟩ | exact ⟨cel_on hbN k0, cel_on hbN k1⟩ | exact ⟨hcc _ _ _ (cel_on hbN k0), hcc _ _ _ (cel_on hbN k1)⟩)
        (first
          | (go_at_call 39; refine (HN.out _ (by first | exact hB2 | exact hB2d)).mono ?_; rintro e w5 ⟨f, rfl, hbN, hFF⟩)
          | (go_at_call 38; refine (HY.out _ _ (by first | exact hbN | exact hB2d.trans (hbN.mono (Nat.le_refl _))) hFF).mono ?_; rintro e w6 ⟨rfl, hL6, hcc⟩))
      all_goals
        go_wp2_with fail
        go_roundg (n - (i + 1))
        case measure => go_light; omega
        case rel => go_light; exact ⟨i + 1, _, by omega, rfl, by simp, hL6⟩
    · obtain rfl : i = n := by omega
      go_wp2_with fail
      go_ret2
      exact ⟨db, sb, nb, fb, rfl, hL.d, hL.below⟩

theorem load_room (a : Option Addr) (n c : Nat) (room : Int) (w : World) (hr : room < 0 ∨ 67108864 < room) :
    Calls Try.prog 10 #[.slice a n c, .int .i64 room] w fun e w' => e = .returned (.tuple #[.pointer none, .int .i64 40]) ∧ Below w.heap.size w w' := by
  rcases hr with hr | hr
  · go_enter Try.func10, Try.ntmps10
    go_wp2_with fail
    go_ret2
    exact ⟨rfl, Below.refl _ _⟩
  · have h0 : ¬ room < 0 := by omega
    go_enter Try.func10, Try.ntmps10
    go_wp2_with fail
    go_ret2
    exact ⟨rfl, Below.refl _ _⟩

set_option maxHeartbeats 1600000 in
theorem load_bad (a : Option Addr) (n c : Nat) (nm : Nat → ByteArray) (dl : Nat → Nat) (dx : Nat → Nat → Nat) (room : Nat) (w : World) (h : Img w a n nm dl dx) (hn : n ≤ 140737488355328) (hr : room ≤ 67108864) (hb : imgB n nm = false ∨ (imgB n nm = true ∧ room < sumL dl n)) :
    Calls Try.prog 10 #[.slice a n c, .int .i64 room] w fun e w' => e = .returned (.tuple #[.pointer none, .int .i64 46]) ∧ Below w.heap.size w w' := by
  have z0 : ¬ (room : Int) < 0 := by omega
  have z1 : ¬ (67108864 : Int) < (room : Int) := by omega
  have hii := isImage_any a n c nm dl dx w h
  rcases hb with hb | ⟨hb, hs⟩
  · rw [hb] at hii
    go_enter Try.func10, Try.ntmps10
    go_wp2_with fail
    refine hii.mono ?_
    rintro e w1 ⟨rfl, hb1⟩
    go_wp2_with fail
    go_ret2
    exact ⟨rfl, hb1⟩
  · rw [hb] at hii
    have HF : Hid (∀ W, Below w.heap.size w W → Calls Try.prog 36 #[.slice a n c, .int .i64 room] W fun e w' => e = .returned (.bool false) ∧ Below W.heap.size W w') := fun W hb => by
      have := fits_any a n c nm dl dx room W (h.on hb) hn hr
      rwa [decide_eq_false (by omega)] at this
    go_enter Try.func10, Try.ntmps10
    go_wp2_with fail
    refine hii.mono ?_
    rintro e w1 ⟨rfl, hb1⟩
    have hf1 := HF.out w1 hb1
    go_wp2_with fail
    refine hf1.mono ?_
    rintro e w2 ⟨rfl, hb2⟩
    go_wp2_with fail
    go_ret2
    exact ⟨rfl, hb1.trans (hb2.mono hb1.size)⟩
end Go.Proofs.Ytbebnjeamlmclaa
