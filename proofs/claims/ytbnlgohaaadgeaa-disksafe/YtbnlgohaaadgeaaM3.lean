/- Own texts, joined: D5, D6, D7, D8, E10, E11, E12, E13. -/
import Derived.Test.YtbnlgohaaadgeaaM2
import Derived.Laws.OwnMore
import Derived.Deep.RegionLaw

/- Package disk: fits, Load. -/
namespace Go.Proofs.Ytbnlgohaaadgeaa
open Go.RowKit Go.Maps Go.Sort
set_option maxRecDepth 100000
set_option maxRecDepth 100000

/-- The first n lengths together. -/
def sumL (dl : Nat → Nat) : Nat → Nat
  | 0 => 0
  | n + 1 => sumL dl n + dl n
theorem sumL_mono (dl : Nat → Nat) {i n : Nat} (h : i ≤ n) : sumL dl i ≤ sumL dl n := by
  induction n with
  | zero => obtain rfl : i = 0 := by omega
            exact Nat.le_refl _
  | succ n ih =>
    by_cases e : i = n + 1
    · subst e; exact Nat.le_refl _
    · have := ih (by omega)
      show _ ≤ sumL dl n + dl n
      omega

set_option maxHeartbeats 1600000 in
theorem fits_any (a : Option Addr) (n c : Nat) (nm : Nat → ByteArray) (dl : Nat → Nat) (dx : Nat → Nat → Nat) (room : Nat) (w : World) (h : Img w a n nm dl dx) (hn : n ≤ 140737488355328) (hr : room ≤ 67108864) :
    Calls Try.prog 44 #[.slice a n c, .int .i64 room] w fun e w' => e = .returned (.bool (decide (sumL dl n ≤ room))) ∧ Below w.heap.size w w' := by
  obtain ⟨R, hR⟩ : ∃ R, R = decide (sumL dl n ≤ room) := ⟨_, rfl⟩
  rw [← hR]
  have HR : Hid (R = decide (sumL dl n ≤ room)) := hR
  have HI : Hid (Img w a n nm dl dx) := h
  clear hR h
  go_enter Try.func44, Try.ntmps44
  go_wp2_with fail
  go_loopg [1, 9] n (fun q s1 s9 wx => ∃ (i r : Nat), i ≤ n ∧ q = n - i ∧ s9 = .int .i64 i ∧ s1 = .int .i64 r ∧ sumL dl i + r = room ∧ Below w.heap.size w wx)
  case atStart => exact ⟨0, room, Nat.zero_le _, rfl, rfl, rfl, by simp [sumL], Below.refl _ _⟩
  case round =>
    obtain ⟨i, r, hi, rfl, rfl, rfl, hsum, hB⟩ := hrel
    by_cases hlt : i < n
    · have hz : (i : Int) < (n : Int) := by omega
      obtain ⟨b, o, rfl, h1, da, dc, h2, h3⟩ := HI.out.on hB i hlt
      have HM : Hid (sumL dl (i + 1) ≤ sumL dl n ∧ sumL dl (i + 1) = sumL dl i + dl i) := ⟨sumL_mono dl (by omega), rfl⟩
      have HB2 := hB.alloc hB.size (.cells #[.string (nm i), .slice da (dl i) dc] 51)
      have k1 : (wr.alloc (.cells #[.string (nm i), .slice da (dl i) dc] 51)).cell? ⟨wr.heap.size, 1, none⟩ = some (.slice da (dl i) dc) := World.cell?_alloc_at (w := wr) _ _ _ 1 rfl
      go_upto_region 4 with fail
      clear h1 h2 h3
      generalize wr.alloc (.cells #[.string (nm i), .slice da (dl i) dc] 51) = W2 at *
      generalize wr.heap.size = fb at *
      by_cases hle : dl i ≤ r
      · have hz2 : ¬ (r : Int) < ((dl i : Nat) : Int) := by omega
        obtain ⟨r', hr'⟩ : ∃ r' : Nat, (r : Int) - ((dl i : Nat) : Int) = (r' : Int) ∧ dl i + r' = r := ⟨r - dl i, by omega, by omega⟩
        obtain ⟨hr1, hr2⟩ := hr'
        have hw : IntKind.i64.wrap (r' : Int) = (r' : Int) := by rw [IntKind.wrap_i64]; omega
        have HS : Hid (sumL dl (i + 1) + r' = room) := by
          have := HM.out.2
          show _ = _
          omega
        clear hr2 hle hsum
        generalize dl i = d at *
        go_wp2_with fail
        go_roundg (n - (i + 1))
        case measure => go_light; omega
        case rel => go_light; exact ⟨i + 1, r', by omega, rfl, by simp, rfl, HS.out, HB2⟩
      · have hz2 : (r : Int) < ((dl i : Nat) : Int) := by omega
        have HE : Hid (R = false) := by
          have e : decide (sumL dl n ≤ room) = false := by
            have h1 := HM.out.1
            have h2 := HM.out.2
            exact decide_eq_false (by omega)
          show _ = _
          rw [HR.out, e]
        clear hle hsum
        generalize dl i = d at *
        go_wp2_with fail
        go_ret
        exact ⟨by rw [HE.out]; rfl, HB2⟩
    · obtain rfl : i = n := by omega
      have HE : Hid (R = true) := by
        have e : decide (sumL dl i ≤ room) = true := decide_eq_true (by omega)
        show _ = _
        rw [HR.out, e]
      clear hsum
      go_wp2_with fail
      go_ret
      exact ⟨by rw [HE.out]; rfl, hB⟩

/-- A disk that was just loaded. -/
structure Disk0 (w : World) (db sb nb : Nat) (room : Nat) (n : Nat) (nm : Nat → ByteArray) (fb dl : Nat → Nat) (dx : Nat → Nat → Nat) : Prop where
  row : w.rowIs db 81 10 (dkCell room sb nb)
  safe : w.ownsMap Try.prog 9 Rf sb n (nmD nm fb n)
  seen : w.ownsMap Try.prog 9 Rf nb n (nmD nm fb n)
  files : ∀ i, i < n → File0 w (fb i) (dl i) (dx i)
theorem map_on {w w' : World} {b n : Nat} {D : DataW Nat} (h : w.ownsMap Try.prog 9 Rf b n D) (hb : Below w.heap.size w w') : w'.ownsMap Try.prog 9 Rf b n D := by
  have hlt := h.lt
  obtain ⟨es, clock, hx, F, hs, hD⟩ := h
  exact ⟨es, clock, (hb.block b hlt).trans hx, F, hs, hD⟩
theorem Disk0.on {w w' : World} {db sb nb : Nat} {room : Nat} {n : Nat} {nm : Nat → ByteArray} {fb dl : Nat → Nat} {dx : Nat → Nat → Nat} (h : Disk0 w db sb nb room n nm fb dl dx) (hb : Below w.heap.size w w') : Disk0 w' db sb nb room n nm fb dl dx :=
  ⟨h.row.of_block (hb.block _ h.row.lt), map_on h.safe hb, map_on h.seen hb, fun i hi => (h.files i hi).on hb⟩
end Go.Proofs.Ytbnlgohaaadgeaa

/- Package disk: Load. -/
namespace Go.Proofs.Ytbnlgohaaadgeaa
open Go.RowKit Go.Maps Go.Sort
set_option maxRecDepth 100000
set_option maxRecDepth 100000

def fput (f : Nat → Nat) (k x : Nat) : Nat → Nat := fun i => if i = k then x else f i
theorem nmD_congr (nm : Nat → ByteArray) {fb fb' : Nat → Nat} : ∀ n, (∀ i, i < n → fb i = fb' i) → nmD nm fb n = nmD nm fb' n
  | 0, _ => rfl
  | n + 1, h => by
    show (nmD nm fb n).put _ _ = (nmD nm fb' n).put _ _
    rw [nmD_congr nm n (fun i hi => h i (by omega)), h n (by omega)]
theorem grown_below {B : Nat} {w0 w w' : World} {m : Nat} (h : Below B w0 w) (hz : B ≤ w.heap.size) (hg : w.grownBy w' (some m)) (hB : B ≤ m) : Below B w0 w' :=
  h.grown hg hz (fun j hj => by cases hj; exact hB)

/-- While a disk is loaded. -/
structure Lds (w0 w : World) (db sb nb : Nat) (room : Nat) (n : Nat) (nm : Nat → ByteArray) (fb dl : Nat → Nat) (dx : Nat → Nat → Nat) : Prop where
  d : Disk0 w db sb nb room n nm fb dl dx
  ne : sb ≠ nb
  below : Below w0.heap.size w0 w
  ls : w0.heap.size ≤ sb
  ln : w0.heap.size ≤ nb
theorem Lds.on {w0 w w' : World} {db sb nb : Nat} {room : Nat} {n : Nat} {nm : Nat → ByteArray} {fb dl : Nat → Nat} {dx : Nat → Nat → Nat} (h : Lds w0 w db sb nb room n nm fb dl dx) (hb : Below w.heap.size w w') : Lds w0 w' db sb nb room n nm fb dl dx :=
  ⟨h.d.on hb, h.ne, h.below.trans (hb.mono h.below.size), h.ls, h.ln⟩

theorem lay_load {w0 w : World} {db sb nb : Nat} {room : Nat} {n : Nat} {nm : Nat → ByteArray} {fb dl : Nat → Nat} {dx : Nat → Nat → Nat} (h : Lds w0 w db sb nb room n nm fb dl dx) (hn : n ≤ 1000) (hs : (nm n).size ≤ 1048576) {f : Nat} (hf : File0 w f (dl n) (dx n)) :
    Calls Try.prog 46 #[.pointer (some ⟨db, 1, none⟩), .string (nm n), .pointer (some ⟨f, 0, none⟩)] w fun e w' => e = .returned (.tuple #[]) ∧ Lds w0 w' db sb nb room (n + 1) nm (fput fb n f) dl dx ∧ (∀ b i v, w.cell? ⟨b, i, none⟩ = some v → w'.cell? ⟨b, i, none⟩ = some v) := by
  have c1 : w.cell? ⟨db, 1, none⟩ = some (.map (some sb)) := h.d.row.cell (i := 1) (by decide)
  have c2 : w.cell? ⟨db, 2, none⟩ = some (.map (some nb)) := h.d.row.cell (i := 2) (by decide)
  refine (lay_any c1 c2 h.d.safe h.d.seen h.ne (by omega) (nm n) hs f).mono fun e w' ⟨he, m1, m2, w1, g1, g2, es2, cl2, hm2⟩ => ?_
  obtain ⟨es1, cl1, hm1⟩ : ∃ es cl, w.heap[sb]? = some (.map es cl) := by
    obtain ⟨es, cl, hx, _⟩ := h.d.safe
    exact ⟨es, cl, hx⟩
  have cc : ∀ b i v, w.cell? ⟨b, i, none⟩ = some v → w'.cell? ⟨b, i, none⟩ = some v := fun b i v hc => by
    have n1 := cells_ne hc hm1
    have hc1 : w1.cell? ⟨b, i, none⟩ = some v := by
      rw [World.cell?_of_block (a := ⟨b, i, none⟩) (g1.block b (World.block_lt_of_cell? _ _ hc) (fun e => n1 (Option.some.inj e)))]; exact hc
    have n2 := cells_ne hc1 hm2
    rw [World.cell?_of_block (a := ⟨b, i, none⟩) (g2.block b (World.block_lt_of_cell? _ _ hc1) (fun e => n2 (Option.some.inj e)))]; exact hc1
  have hD : (nmD nm fb n).put (.string (nm n).data.toList) (.held f) = nmD nm (fput fb n f) (n + 1) := by
    show _ = (nmD nm (fput fb n f) n).put _ _
    rw [nmD_congr nm (fb := fb) (fb' := fput fb n f) n (fun i hi => by unfold fput; rw [if_neg (by omega)])]
    congr 2
    unfold fput
    rw [if_pos rfl]
  rw [hD] at m1 m2
  have hdb1 : db ≠ sb := cells_ne c1 hm1
  have hdw1 : w1.cell? ⟨db, 1, none⟩ = some (.map (some sb)) := by
    rw [World.cell?_of_block (a := ⟨db, 1, none⟩) (g1.block db (World.block_lt_of_cell? _ _ c1) (fun e => hdb1 (Option.some.inj e)))]; exact c1
  have hdb2 : db ≠ nb := cells_ne hdw1 hm2
  have hrow : w'.rowIs db 81 10 (dkCell room sb nb) := by
    refine (h.d.row.of_block (w' := w1) (g1.block db h.d.row.lt (fun e => hdb1 (Option.some.inj e)))).of_block (g2.block db ?_ (fun e => hdb2 (Option.some.inj e)))
    exact Nat.lt_of_lt_of_le h.d.row.lt g1.size
  refine ⟨he, ⟨⟨hrow, m1, m2, fun i hi => ?_⟩, h.ne, grown_below (grown_below h.below h.below.size g1 h.ls) (Nat.le_trans h.below.size g1.size) g2 h.ln, h.ls, h.ln⟩, cc⟩
  by_cases e : i = n
  · subst e
    have e2 : fput fb i f i = f := by unfold fput; rw [if_pos rfl]
    rw [e2]
    exact (hf.map hm1 g1).map hm2 g2
  · have e2 : fput fb n f i = fb i := by unfold fput; rw [if_neg e]
    rw [e2]
    exact ((h.d.files i (by omega)).map hm1 g1).map hm2 g2

set_option maxHeartbeats 3200000 in
theorem load_good (a : Option Addr) (n c : Nat) (nm : Nat → ByteArray) (dl : Nat → Nat) (dx : Nat → Nat → Nat) (room : Nat) (w : World) (h : Img w a n nm dl dx) (hr : room ≤ 67108864) (hi : imgB n nm = true) (hf : sumL dl n ≤ room) (hs : ∀ i, i < n → (nm i).size ≤ 1048576) (hd : ∀ i, i < n → dl i ≤ 1048576) :
    Calls Try.prog 13 #[.slice a n c, .int .i64 room] w fun e w' => ∃ db sb nb fb, e = .returned (.tuple #[.pointer (some ⟨db, 0, none⟩), .int .i64 0]) ∧ Disk0 w' db sb nb room n nm fb dl dx ∧ Below w.heap.size w w' := by
  have hn64 : n ≤ 64 := by
    unfold imgB at hi
    simp only [Bool.and_eq_true, decide_eq_true_eq] at hi
    exact hi.1
  have hii := isImage_any a n c nm dl dx w h
  rw [hi] at hii
  have hfi : ∀ W, Below w.heap.size w W → Calls Try.prog 44 #[.slice a n c, .int .i64 room] W fun e w' => e = .returned (.bool true) ∧ Below W.heap.size W w' := fun W hb => by
    have := fits_any a n c nm dl dx room W (h.on hb) (by omega) hr
    rwa [decide_eq_true hf] at this
  have z0 : ¬ (room : Int) < 0 := by omega
  have z1 : ¬ (67108864 : Int) < (room : Int) := by omega
  have HI : Hid (Img w a n nm dl dx) := h
  have HS : Hid (∀ i, i < n → (nm i).size ≤ 1048576) := hs
  have HD : Hid (∀ i, i < n → dl i ≤ 1048576) := hd
  have HF : Hid _ := hfi
  clear hi hf hs hd h hfi
  go_enter Try.func13, Try.ntmps13
  go_wp2_with fail
  refine hii.mono ?_
  rintro e w1 ⟨rfl, hb1⟩
  clear hii
  have hf1 := HF.out w1 hb1
  go_wp2_with fail
  refine hf1.mono ?_
  rintro e w2 ⟨rfl, hb2⟩
  clear hf1 HF
  have hbw2 := hb1.trans (hb2.mono hb1.size)
  go_wp2_with fail
  refine (newNames_any w2).mono ?_
  rintro e w3 ⟨sb, nb, rfl, m1, m2, hne, l1, l2, hb3⟩
  have hbw3 := hbw2.trans (hb3.mono hbw2.size)
  have hL0 : Lds w (w3.alloc (.cells #[.int .i64 room, .map (some sb), .map (some nb), .slice none 0 0, .bool false, .int .i64 0, .int .i64 0, .int .i64 0, .int .i64 0, .int .i64 0] 81)) w3.heap.size sb nb room 0 nm (fun _ => 0) dl dx :=
    ⟨⟨World.rowIs_alloc w3 #[.int .i64 room, .map (some sb), .map (some nb), .slice none 0 0, .bool false, .int .i64 0, .int .i64 0, .int .i64 0, .int .i64 0, .int .i64 0] _ _ (fun i hi => by
      match i, hi with
      | 0, _ => rfl
      | 1, _ => rfl
      | 2, _ => rfl
      | 3, _ => rfl
      | 4, _ => rfl
      | 5, _ => rfl
      | 6, _ => rfl
      | 7, _ => rfl
      | 8, _ => rfl
      | 9, _ => rfl), m1.alloc _, m2.alloc _, fun i hi => absurd hi (Nat.not_lt_zero _)⟩, hne, hbw3.alloc hbw3.size _, Nat.le_trans hbw2.size l1, Nat.le_trans hbw2.size l2⟩
  clear m1 m2 hne l1 l2 hb3 hb1 hb2 hbw2 hbw3
  go_upto_region 6 with fail
  generalize w3.alloc (.cells #[.int .i64 room, .map (some sb), .map (some nb), .slice none 0 0, .bool false, .int .i64 0, .int .i64 0, .int .i64 0, .int .i64 0, .int .i64 0] 81) = W4 at *
  generalize w3.heap.size = db at *
  go_wp2_with fail
  go_loopg [30] n (fun q s30 wx => ∃ (i : Nat) (fb : Nat → Nat), i ≤ n ∧ q = n - i ∧ s30 = .int .i64 i ∧ Lds w wx db sb nb room i nm fb dl dx)
  case atStart => exact ⟨0, _, Nat.zero_le _, rfl, rfl, hL0⟩
  case round =>
    obtain ⟨i, fb, hi, rfl, rfl, hL⟩ := hrel
    clear hL0
    by_cases hlt : i < n
    · have hz : (i : Int) < (n : Int) := by omega
      obtain ⟨b, o, rfl, h1, da, dc, h2, h3⟩ := HI.out.on hL.below i hlt
      have bq : Below wr.heap.size wr (wr.alloc (.cells #[.string (nm i), .slice da (dl i) dc] 51)) := (Below.refl _ _).alloc (Nat.le_refl _) _
      have k0 : (wr.alloc (.cells #[.string (nm i), .slice da (dl i) dc] 51)).cell? ⟨wr.heap.size, 0, none⟩ = some (.string (nm i)) := World.cell?_alloc_at (w := wr) _ _ _ 0 rfl
      have k1 : (wr.alloc (.cells #[.string (nm i), .slice da (dl i) dc] 51)).cell? ⟨wr.heap.size, 1, none⟩ = some (.slice da (dl i) dc) := World.cell?_alloc_at (w := wr) _ _ _ 1 rfl
      have hL2 := hL.on bq
      have h32 := h3.on bq
      go_upto_region 9 with fail
      clear h1 h2 h3 bq hL
      generalize wr.alloc (.cells #[.string (nm i), .slice da (dl i) dc] 51) = W2 at *
      generalize wr.heap.size = ib at *
      have HN : Hid (∀ W, Below W2.heap.size W2 W → Calls Try.prog 47 #[.slice da (dl i) dc] W fun e w' => ∃ f, e = .returned (.pointer (some ⟨f, 0, none⟩)) ∧ Below W.heap.size W w' ∧ File0 w' f (dl i) (dx i)) := fun W hb =>
        (newFile_any da (dl i) dc (dx i) W (by have := HD.out i hlt; omega) (h32.on hb)).mono fun e w' ⟨f, he, _, _, hb', hF⟩ => ⟨f, he, hb', hF⟩
      have HY : Hid (∀ W f, Below W2.heap.size W2 W → File0 W f (dl i) (dx i) → Calls Try.prog 46 #[.pointer (some ⟨db, 1, none⟩), .string (nm i), .pointer (some ⟨f, 0, none⟩)] W fun e w' => e = .returned (.tuple #[]) ∧ Lds w w' db sb nb room (i + 1) nm (fput fb i f) dl dx ∧ (∀ b j v, W.cell? ⟨b, j, none⟩ = some v → w'.cell? ⟨b, j, none⟩ = some v)) := fun W f hb hF =>
        lay_load (hL2.on hb) (by omega) (HS.out i hlt) hF
      have hB2 : Below W2.heap.size W2 W2 := Below.refl _ _
      have hB2d : Below W2.heap.size W2 W2.drew := (Below.refl _ _).drew
      clear hL2 h32
      generalize nm i = s at *
      generalize dl i = d at *
      go_region_held3 (fun W => W.cell? ⟨ib, 0, none⟩ = some (.string s) ∧ W.cell? ⟨ib, 1, none⟩ = some (.slice da d dc))
        (first | exact ⟨k0, k1⟩ | exact ⟨cel_on hbN k0, cel_on hbN k1⟩ | exact ⟨hcc _ _ _ (cel_on hbN k0), hcc _ _ _ (cel_on hbN k1)⟩)
        (first
          | (go_at_call 47; refine (HN.out _ (by first | exact hB2 | exact hB2d)).mono ?_; rintro e w5 ⟨f, rfl, hbN, hFF⟩)
          | (go_at_call 46; refine (HY.out _ _ (by first | exact hbN | exact hB2d.trans (hbN.mono (Nat.le_refl _))) hFF).mono ?_; rintro e w6 ⟨rfl, hL6, hcc⟩))
      all_goals
        go_wp2_with fail
        go_roundg (n - (i + 1))
        case measure => go_light; omega
        case rel => go_light; exact ⟨i + 1, _, by omega, rfl, by simp, hL6⟩
    · obtain rfl : i = n := by omega
      go_wp2_with fail
      go_ret2
      exact ⟨db, sb, nb, fb, rfl, hL.d, hL.below⟩

theorem load_room (a : Option Addr) (n c : Nat) (room : Int) (w : World) (hr : room < 0 ∨ 67108864 < room) :
    Calls Try.prog 13 #[.slice a n c, .int .i64 room] w fun e w' => e = .returned (.tuple #[.pointer none, .int .i64 40]) ∧ Below w.heap.size w w' := by
  rcases hr with hr | hr
  · go_enter Try.func13, Try.ntmps13
    go_wp2_with fail
    go_ret2
    exact ⟨rfl, Below.refl _ _⟩
  · have h0 : ¬ room < 0 := by omega
    go_enter Try.func13, Try.ntmps13
    go_wp2_with fail
    go_ret2
    exact ⟨rfl, Below.refl _ _⟩

set_option maxHeartbeats 1600000 in
theorem load_bad (a : Option Addr) (n c : Nat) (nm : Nat → ByteArray) (dl : Nat → Nat) (dx : Nat → Nat → Nat) (room : Nat) (w : World) (h : Img w a n nm dl dx) (hn : n ≤ 140737488355328) (hr : room ≤ 67108864) (hb : imgB n nm = false ∨ (imgB n nm = true ∧ room < sumL dl n)) :
    Calls Try.prog 13 #[.slice a n c, .int .i64 room] w fun e w' => e = .returned (.tuple #[.pointer none, .int .i64 46]) ∧ Below w.heap.size w w' := by
  have z0 : ¬ (room : Int) < 0 := by omega
  have z1 : ¬ (67108864 : Int) < (room : Int) := by omega
  have hii := isImage_any a n c nm dl dx w h
  rcases hb with hb | ⟨hb, hs⟩
  · rw [hb] at hii
    go_enter Try.func13, Try.ntmps13
    go_wp2_with fail
    refine hii.mono ?_
    rintro e w1 ⟨rfl, hb1⟩
    go_wp2_with fail
    go_ret2
    exact ⟨rfl, hb1⟩
  · rw [hb] at hii
    have HF : Hid (∀ W, Below w.heap.size w W → Calls Try.prog 44 #[.slice a n c, .int .i64 room] W fun e w' => e = .returned (.bool false) ∧ Below W.heap.size W w') := fun W hb => by
      have := fits_any a n c nm dl dx room W (h.on hb) hn hr
      rwa [decide_eq_false (by omega)] at this
    go_enter Try.func13, Try.ntmps13
    go_wp2_with fail
    refine hii.mono ?_
    rintro e w1 ⟨rfl, hb1⟩
    have hf1 := HF.out w1 hb1
    go_wp2_with fail
    refine hf1.mono ?_
    rintro e w2 ⟨rfl, hb2⟩
    go_wp2_with fail
    go_ret2
    exact ⟨rfl, hb1.trans (hb2.mono hb1.size)⟩
end Go.Proofs.Ytbnlgohaaadgeaa

/- Package disk: what a loaded disk tells: find, Read, Size, Strokes, Room, List. -/
namespace Go.Proofs.Ytbnlgohaaadgeaa
open Go.RowKit Go.Maps Go.Sort
set_option maxRecDepth 100000
set_option maxRecDepth 100000

theorem list_size (s : ByteArray) : s.data.toList.length = s.size := rfl
theorem toList_data (s : ByteArray) : s.toList = s.data.toList := ByteArray.toList_eq s

/-- Names that stand in order are all different. -/
theorem img_lt {n : Nat} {nm : Nat → ByteArray} (h : imgB n nm = true) : ∀ a b, a < b → b < n → (nm a).data.toList < (nm b).data.toList := by
  unfold imgB at h
  simp only [Bool.and_eq_true, List.all_eq_true, List.mem_range] at h
  intro a b
  induction b with
  | zero => intro hab; omega
  | succ b ih =>
    intro hab hb
    have hs := h.2 (b + 1) hb
    unfold stepB at hs
    simp only [Bool.and_eq_true, Bool.or_eq_true, decide_eq_true_eq, Nat.add_sub_cancel] at hs
    have hl : (nm b).data.toList < (nm (b + 1)).data.toList := by
      rcases hs.2 with e | e
      · omega
      · rw [bytesLess_eq, toList_data, toList_data] at e
        exact of_decide_eq_true e
    by_cases e : a = b
    · subst e; exact hl
    · exact List.lt_trans (ih (by omega) (by omega)) hl
theorem img_inj {n : Nat} {nm : Nat → ByteArray} (h : imgB n nm = true) : ∀ a b, a < n → b < n → (nm a).data.toList = (nm b).data.toList → a = b := fun a b ha hb e => by
  rcases Nat.lt_trichotomy a b with l | l | l
  · have := img_lt h a b l hb
    rw [e] at this
    exact absurd this (List.lt_irrefl _)
  · exact l
  · have := img_lt h b a l ha
    rw [e] at this
    exact absurd this (List.lt_irrefl _)
theorem img_ok {n : Nat} {nm : Nat → ByteArray} (h : imgB n nm = true) {i : Nat} (hi : i < n) : okN (nm i) = true := by
  unfold imgB at h
  simp only [Bool.and_eq_true, List.all_eq_true, List.mem_range] at h
  have hs := h.2 i hi
  unfold stepB at hs
  simp only [Bool.and_eq_true] at hs
  exact hs.1
theorem img_64 {n : Nat} {nm : Nat → ByteArray} (h : imgB n nm = true) : n ≤ 64 := by
  unfold imgB at h
  simp only [Bool.and_eq_true, decide_eq_true_eq] at h
  exact h.1

/-- A name in a map of names. -/
theorem look_at {w : World} {mb m n : Nat} {nm : Nat → ByteArray} {fb : Nat → Nat} (h : w.ownsMap Try.prog 9 Rf mb m (nmD nm fb n)) (hinj : ∀ a b, a < n → b < n → (nm a).data.toList = (nm b).data.toList → a = b) {i : Nat} (hi : i < n) (hs : (nm i).size ≤ 1048576) :
    (Instr.lookup 74 (.map (some mb)) (.string (nm i)) false).run Try.prog w = .ok (.pointer (some ⟨fb i, 0, none⟩)) w := by
  obtain ⟨v, ps, hrun, hR⟩ := h.lookup strK Try.underlying74 (z := .pointer none) (Try.zeroValue85 w) (zd := .nil) (zp := []) rfl (key_str (nm i) hs)
  rw [nmD_at nm fb .nil n i hinj hi] at hR
  rw [Rf_inv hR] at hrun
  exact hrun

theorem find_any {w : World} {db sb nb room n : Nat} {nm : Nat → ByteArray} {fb dl : Nat → Nat} {dx : Nat → Nat → Nat} (h : Disk0 w db sb nb room n nm fb dl dx) (hI : imgB n nm = true) {i : Nat} (hi : i < n) (hs : (nm i).size ≤ 1048576) :
    Calls Try.prog 50 #[.pointer (some ⟨db, 0, none⟩), .string (nm i)] w fun e w' => e = .returned (.tuple #[.pointer (some ⟨fb i, 0, none⟩), .int .i64 0]) ∧ w' = w := by
  have c4 : w.cell? ⟨db, 4, none⟩ = some (.bool false) := h.row.cell (i := 4) (by decide)
  have c2 : w.cell? ⟨db, 2, none⟩ = some (.map (some nb)) := h.row.cell (i := 2) (by decide)
  have hfn := fun W => fileName_any (nm i) W
  rw [img_ok hI hi] at hfn
  have hlk := look_at h.seen (img_inj hI) hi hs
  clear h
  generalize nm i = s at *
  generalize fb i = f at *
  go_enter Try.func50, Try.ntmps50
  go_wp2_with (go_at_call 60; refine (hfn _).mono ?_; rintro e w1 ⟨rfl, rfl⟩)
  go_ret2
  exact ⟨rfl, rfl⟩

theorem read_any {w : World} {db sb nb room n : Nat} {nm : Nat → ByteArray} {fb dl : Nat → Nat} {dx : Nat → Nat → Nat} (h : Disk0 w db sb nb room n nm fb dl dx) (hI : imgB n nm = true) {i : Nat} (hi : i < n) (hs : (nm i).size ≤ 1048576) (hd : dl i ≤ 1048576) :
    Calls Try.prog 28 #[.pointer (some ⟨db, 0, none⟩), .string (nm i)] w fun e w' => ∃ g, e = .returned (.tuple #[.slice (some ⟨g, 0, none⟩) (dl i) (dl i), .int .i64 0]) ∧ Below w.heap.size w w' ∧ Byt w' (some ⟨g, 0, none⟩) (dl i) (dx i) := by
  have hf := find_any h hI hi hs
  have hF := h.files i hi
  have hu := units0_any hF
  have ha := after0_any hF (by omega) 0
  clear h hF
  generalize nm i = s at *
  generalize fb i = f at *
  generalize dl i = d at *
  go_enter Try.func28, Try.ntmps28
  go_wp2_with fail
  refine hf.mono ?_
  rintro e w1 ⟨rfl, rfl⟩
  go_wp2_with fail
  refine hu.mono ?_
  rintro e w2 ⟨rfl, rfl⟩
  go_wp2_with fail
  refine ha.mono ?_
  rintro e w3 ⟨g, rfl, _, hb, hr⟩
  go_wp2_with fail
  go_ret2
  exact ⟨g, rfl, hb, Byt.of_row hr⟩

theorem size_any {w : World} {db sb nb room n : Nat} {nm : Nat → ByteArray} {fb dl : Nat → Nat} {dx : Nat → Nat → Nat} (h : Disk0 w db sb nb room n nm fb dl dx) (hI : imgB n nm = true) {i : Nat} (hi : i < n) (hs : (nm i).size ≤ 1048576) :
    Calls Try.prog 30 #[.pointer (some ⟨db, 0, none⟩), .string (nm i)] w fun e w' => e = .returned (.tuple #[.int .i64 (dl i : Nat), .int .i64 0]) ∧ w' = w := by
  have hf := find_any h hI hi hs
  have c2 := (h.files i hi).size
  clear h
  generalize nm i = s at *
  generalize fb i = f at *
  generalize dl i = d at *
  go_enter Try.func30, Try.ntmps30
  go_wp2_with fail
  refine hf.mono ?_
  rintro e w1 ⟨rfl, rfl⟩
  go_wp2_with fail
  go_ret2
  exact ⟨rfl, rfl⟩
theorem strokes_any {w : World} {db sb nb room n : Nat} {nm : Nat → ByteArray} {fb dl : Nat → Nat} {dx : Nat → Nat → Nat} (h : Disk0 w db sb nb room n nm fb dl dx) :
    Calls Try.prog 27 #[.pointer (some ⟨db, 0, none⟩)] w fun e w' => e = .returned (.int .i64 0) ∧ w' = w := by
  have c5 : w.cell? ⟨db, 5, none⟩ = some (.int .i64 0) := h.row.cell (i := 5) (by decide)
  clear h
  go_enter Try.func27, Try.ntmps27
  go_wp2_with fail
  go_ret
  exact ⟨rfl, rfl⟩
theorem room_any {w : World} {db sb nb room n : Nat} {nm : Nat → ByteArray} {fb dl : Nat → Nat} {dx : Nat → Nat → Nat} (h : Disk0 w db sb nb room n nm fb dl dx) :
    Calls Try.prog 19 #[.pointer (some ⟨db, 0, none⟩)] w fun e w' => e = .returned (.int .i64 room) ∧ w' = w := by
  have c0 : w.cell? ⟨db, 0, none⟩ = some (.int .i64 room) := h.row.cell (i := 0) (by decide)
  clear h
  go_enter Try.func19, Try.ntmps19
  go_wp2_with fail
  go_ret
  exact ⟨rfl, rfl⟩

/-- The names in order: what sorted tells of such a map. -/
def nmL (nm : Nat → ByteArray) (n : Nat) : List (List UInt8) := (List.range n).map fun i => (nm i).data.toList
theorem nmL_get {nm : Nat → ByteArray} {n i : Nat} (h : i < n) : (nmL nm n)[i]? = some (nm i).data.toList := by unfold nmL; simp [h]
theorem nmL_perm {w : World} {mb m n : Nat} {nm : Nat → ByteArray} {fb : Nat → Nat} (h : w.ownsMap Try.prog 9 Rf mb m (nmD nm fb n)) (hI : imgB n nm = true) : (nmL nm n).Perm (strKeys (nmD nm fb n)) := by
  obtain ⟨es, hD, hpw, _⟩ := h.entries strK
  obtain ⟨es', hD', hko⟩ := h.keysOf
  obtain rfl : es = es' := by rw [hD] at hD'; simpa using hD'
  have hh := fun x => nmD_has nm fb x n
  rw [hD] at hh ⊢
  refine perm_strKeys hpw (fun p hp => by obtain ⟨v, hv⟩ := hko p hp; obtain ⟨x, _, hx, _⟩ := Maps.keyOf_str Try.underlying9 hv; exact ⟨x, hx⟩) ?_ (fun x => ?_)
  · unfold nmL
    rw [List.nodup_iff_pairwise_ne, List.pairwise_map]
    refine List.Pairwise.imp_of_mem ?_ List.nodup_range
    intro a b ha hb hne e
    exact hne (img_inj hI a b (List.mem_range.1 ha) (List.mem_range.1 hb) e)
  · rw [hh x]
    unfold nmL
    simp only [List.mem_map, List.mem_range]
theorem nmL_sorted {nm : Nat → ByteArray} {n : Nat} (hI : imgB n nm = true) : (nmL nm n).mergeSort (fun x y => decide (x ≤ y)) = nmL nm n := by
  refine List.mergeSort_of_pairwise ?_
  unfold nmL
  rw [List.pairwise_map]
  refine List.Pairwise.imp_of_mem ?_ (List.pairwise_lt_range)
  intro a b _ hb hlt
  exact decide_eq_true (List.le_of_lt (img_lt hI a b hlt (List.mem_range.1 hb)))
theorem enc_str (s : ByteArray) : encStr s.data.toList = .string s := by unfold encStr; cases s; simp

/-- disk.sorted of such a map. -/
theorem sorted_names {w : World} {mb m n : Nat} {nm : Nat → ByteArray} {fb : Nat → Nat} (h : w.ownsMap Try.prog 9 Rf mb m (nmD nm fb n)) (hI : imgB n nm = true) :
    Calls Try.prog 40 #[.map (some mb)] w fun e w' => ∃ a c, e = .returned (.slice a n c) ∧ (∀ i, i < n → ∃ g, a = some ⟨g, 0, none⟩ ∧ w'.cell? ⟨g, i, none⟩ = some (.string (nm i)) ∧ w.heap.size ≤ g) ∧ Below w.heap.size w w' := by
  have h64 := img_64 hI
  refine (sorted_any mb m _ Rf w h (by rw [nmD_size nm fb n (img_inj hI)]; omega)).mono fun e w' ⟨v, ss, he, hp, ho, _, hb⟩ => ?_
  have hperm : ss.Perm (nmL nm n) := hp.trans (nmL_perm h hI).symm
  have hsort : ss.mergeSort (fun x y => decide (x ≤ y)) = nmL nm n := (mergeSort_of_perm hperm).trans (nmL_sorted hI)
  have hlen : ss.length = n := by rw [hperm.length_eq]; unfold nmL; simp
  rw [hsort, hlen] at ho
  rcases ho.2 with ⟨rfl, h0⟩ | ⟨g, c, cur, rfl, hbase, _⟩
  · exact ⟨none, 0, by rw [he, ← h0], fun i hi => by omega, hb⟩
  · refine ⟨_, c, he, fun i hi => ⟨g, rfl, ?_, hbase⟩, hb⟩
    rw [World.ownsRow.cellAt ho i (by omega), List.getElem?_map, nmL_get hi, Option.map_some, enc_str]

theorem list_any {w : World} {db sb nb room n : Nat} {nm : Nat → ByteArray} {fb dl : Nat → Nat} {dx : Nat → Nat → Nat} (h : Disk0 w db sb nb room n nm fb dl dx) (hI : imgB n nm = true) :
    Calls Try.prog 29 #[.pointer (some ⟨db, 0, none⟩)] w fun e w' => ∃ a c, e = .returned (.tuple #[.slice a n c, .int .i64 0]) ∧ (∀ i, i < n → ∃ g, a = some ⟨g, 0, none⟩ ∧ w'.cell? ⟨g, i, none⟩ = some (.string (nm i))) ∧ Below w.heap.size w w' := by
  have c4 : w.cell? ⟨db, 4, none⟩ = some (.bool false) := h.row.cell (i := 4) (by decide)
  have c2 : w.cell? ⟨db, 2, none⟩ = some (.map (some nb)) := h.row.cell (i := 2) (by decide)
  have hs := sorted_names h.seen hI
  clear h
  go_enter Try.func29, Try.ntmps29
  go_wp2_with fail
  refine hs.mono ?_
  rintro e w1 ⟨a, c, rfl, hc, hb⟩
  have HC : Hid _ := hc
  clear hs hc
  go_wp2_with fail
  go_ret2
  exact ⟨a, c, rfl, fun i hi => by obtain ⟨g, e, hx, _⟩ := HC.out i hi; exact ⟨g, e, hx⟩, hb⟩
end Go.Proofs.Ytbnlgohaaadgeaa

/- Package disk: Crash of a loaded disk. -/
namespace Go.Proofs.Ytbnlgohaaadgeaa
open Go.RowKit Go.Maps Go.Sort Go.Shelf
set_option maxRecDepth 100000
set_option maxRecDepth 100000

/-- A list of numbers, as it lies in memory. -/
def Picks (w : World) (a : Option Addr) (n : Nat) : Prop := ∀ j, j < n → ∃ b o, a = some ⟨b, o, none⟩ ∧ ∃ p : Int, w.cell? ⟨b, o + j, none⟩ = some (.int .i64 p)
theorem Picks.on {w w' : World} {a : Option Addr} {n : Nat} (h : Picks w a n) (hb : Below w.heap.size w w') : Picks w' a n := fun j hj => by
  obtain ⟨b, o, e, p, hc⟩ := h j hj
  exact ⟨b, o, e, p, cel_on hb hc⟩

theorem pick0_any (a : Option Addr) (n c i : Nat) (w : World) (h : Picks w a n) :
    Calls Try.prog 39 #[.slice a n c, .int .i64 i, .int .i64 0] w fun e w' => e = .returned (.int .i64 0) ∧ w' = w := by
  by_cases hlt : n ≤ i
  · have hz : (n : Int) ≤ (i : Int) := by omega
    go_enter Try.func39, Try.ntmps39
    go_wp2_with fail
    go_ret
    exact ⟨rfl, rfl⟩
  · obtain ⟨b, o, rfl, p, hc⟩ := h i (by omega)
    have hz : ¬ (n : Int) ≤ (i : Int) := by omega
    have hz2 : (i : Int) < (n : Int) := by omega
    have hm : p.tmod 1 = 0 := by simp
    clear h
    go_enter Try.func39, Try.ntmps39
    go_wp2_with fail
    go_ret
    exact ⟨rfl, rfl⟩

theorem namesAfter_any {w : World} {db sb nb room n : Nat} {nm : Nat → ByteArray} {fb dl : Nat → Nat} {dx : Nat → Nat → Nat} (h : Disk0 w db sb nb room n nm fb dl dx) :
    Calls Try.prog 38 #[.pointer (some ⟨db, 1, none⟩), .int .i64 0] w fun e w' => ∃ cb, e = .returned (.map (some cb)) ∧ w'.ownsMap Try.prog 9 Rf cb n (nmD nm fb n) ∧ w.heap.size ≤ cb ∧ Below w.heap.size w w' := by
  have c1 : w.cell? ⟨db, 1, none⟩ = some (.map (some sb)) := h.row.cell (i := 1) (by decide)
  have c3 : w.cell? ⟨db, 3, none⟩ = some (.slice none 0 0) := h.row.cell (i := 3) (by decide)
  have hcl := AnyW.maps_Clone_owns cloneL 9 Rf sb n (nmD nm fb n) w h.safe
  have HC : Hid (Calls Try.prog 61 #[.map (some sb)] w fun e w' => e = .returned (.map (some w.heap.size)) ∧ w'.ownsMap Try.prog 9 Rf w.heap.size n (nmD nm fb n) ∧ w'.ownsMap Try.prog 9 Rf sb n (nmD nm fb n) ∧ Below w.heap.size w w') := hcl
  clear h hcl
  go_enter Try.func38, Try.ntmps38
  go_wp2_with fail
  refine HC.out.mono ?_
  rintro e w1 ⟨rfl, hm, _, hb⟩
  have d3 := cel_on hb c3
  clear HC c1 c3
  go_wp2_with fail
  go_loopg [20] 0 (fun q s20 wx => q = 0 ∧ s20 = .int .i64 0 ∧ w1 = wx)
  case atStart => exact ⟨rfl, rfl, rfl⟩
  case round =>
    obtain ⟨rfl, rfl, rfl⟩ := hrel
    go_wp2_with fail
    go_ret
    exact ⟨w.heap.size, rfl, hm, Nat.le_refl _, hb⟩

theorem infoFB : (Try.prog.info? 51).map (fun i => (i.zero, i.size, i.bytes)) = some (some (.agg #[.string ByteArray.empty, .slice none 0 0]), 2, 40) := by kernel_rfl
theorem made_fb (w : World) (n : Nat) (hn : n ≤ 1000) : ∃ W, (∀ kl kc, (Instr.makeSlice 35 (.int kl (n : Int)) (.int kc (n : Int))).run Try.prog w = .ok (.slice (some ⟨w.heap.size, 0, none⟩) n n) W) ∧ Below w.heap.size w W ∧ (∃ F, W.rowIs w.heap.size 51 (n * 2) F) ∧ W.heap.size = w.heap.size + 1 := by
  obtain ⟨i0, hi, hh⟩ := Option.map_eq_some_iff.1 infoFB
  simp only [Prod.mk.injEq] at hh
  obtain ⟨hz, hs, hb⟩ := hh
  refine ⟨w.alloc (.cells (madeCells (Value.agg #[.string ByteArray.empty, .slice none 0 0]).cells (n * 2)) 51), fun kl kc => ?_, (Below.refl _ _).alloc (Nat.le_refl _) _, ⟨fun j => ((madeCells (Value.agg #[.string ByteArray.empty, .slice none 0 0]).cells (n * 2))[j]?).getD undef, ?_⟩, by simp⟩
  · have hr := run_make (P := Try.prog) w 35 51 i0 _ Try.underlying35 hi hz kl kc n n (by omega) (Int.le_refl _) (by rw [hb]; omega) (by omega)
    simp only [Int.toNat_natCast, hs] at hr
    exact hr
  · have hr := World.rowIs_alloc w (madeCells (Value.agg #[.string ByteArray.empty, .slice none 0 0]).cells (n * 2)) 51 (fun j => ((madeCells (Value.agg #[.string ByteArray.empty, .slice none 0 0]).cells (n * 2))[j]?).getD undef) (fun j hj => by rw [Array.getElem?_eq_getElem hj]; rfl)
    rwa [size_madeCells] at hr

/-- The image as it grows. -/
structure Cr (w wx : World) (gb cb n i : Nat) (nm : Nat → ByteArray) (fb dl : Nat → Nat) (dx : Nat → Nat → Nat) : Prop where
  below : Below w.heap.size w wx
  map : wx.ownsMap Try.prog 9 Rf cb n (nmD nm fb n)
  row : ∃ F, wx.rowIs gb 51 (n * 2) F
  done : ∀ k, k < i → wx.cell? ⟨gb, k * 2, none⟩ = some (.string (nm k)) ∧ ∃ g, wx.cell? ⟨gb, k * 2 + 1, none⟩ = some (.slice (some ⟨g, 0, none⟩) (dl k) (dl k)) ∧ g ≠ gb ∧ Byt wx (some ⟨g, 0, none⟩) (dl k) (dx k)
theorem Cr.on {w wx wy : World} {gb cb n i : Nat} {nm : Nat → ByteArray} {fb dl : Nat → Nat} {dx : Nat → Nat → Nat} (h : Cr w wx gb cb n i nm fb dl dx) (hb : Below wx.heap.size wx wy) : Cr w wy gb cb n i nm fb dl dx := by
  obtain ⟨F, hF⟩ := h.row
  refine ⟨h.below.trans (hb.mono h.below.size), map_on h.map hb, ⟨F, hF.of_block (hb.block _ hF.lt)⟩, fun k hk => ?_⟩
  obtain ⟨h1, g, h2, h3, h4⟩ := h.done k hk
  exact ⟨cel_on hb h1, g, cel_on hb h2, h3, h4.on hb⟩
/-- File i is laid. -/
theorem Cr.store {w wx : World} {gb cb n i : Nat} {nm : Nat → ByteArray} {fb dl : Nat → Nat} {dx : Nat → Nat → Nat} (h : Cr w wx gb cb n i nm fb dl dx) (hgb : w.heap.size ≤ gb) {g : Nat} (hg : g ≠ gb) (hb : Byt wx (some ⟨g, 0, none⟩) (dl i) (dx i)) (hi : i < n) :
    Cr w ((wx.setCell ⟨gb, i * 2, none⟩ (.string (nm i))).setCell ⟨gb, i * 2 + 1, none⟩ (.slice (some ⟨g, 0, none⟩) (dl i) (dl i))) gb cb n (i + 1) nm fb dl dx := by
  obtain ⟨F, hF⟩ := h.row
  have r1 := hF.set (i * 2) (.string (nm i))
  have r2 := r1.set (i * 2 + 1) (.slice (some ⟨g, 0, none⟩) (dl i) (dl i))
  have hset : ∀ b, b ≠ gb → ((wx.setCell ⟨gb, i * 2, none⟩ (.string (nm i))).setCell ⟨gb, i * 2 + 1, none⟩ (.slice (some ⟨g, 0, none⟩) (dl i) (dl i))).heap[b]? = wx.heap[b]? := fun b hb => (Below.heap_setCell _ _ _ _ hb).trans (Below.heap_setCell _ _ _ _ hb)
  have hby : ∀ g' m x, g' ≠ gb → Byt wx (some ⟨g', 0, none⟩) m x → Byt ((wx.setCell ⟨gb, i * 2, none⟩ (.string (nm i))).setCell ⟨gb, i * 2 + 1, none⟩ (.slice (some ⟨g, 0, none⟩) (dl i) (dl i))) (some ⟨g', 0, none⟩) m x := fun g' m x hne hx j hj => by
    obtain ⟨b, o, e, hc⟩ := hx j hj
    cases e
    exact ⟨g', 0, rfl, by rw [World.cell?_of_block (a := ⟨g', 0 + j, none⟩) (hset g' hne)]; exact hc⟩
  refine ⟨(h.below.setCell hgb _).setCell hgb _, ?_, ⟨_, r2⟩, fun k hk => ?_⟩
  · have hm := h.map
    obtain ⟨es, clock, hx, Ft, hs, hD⟩ := hm
    have hne : cb ≠ gb := by
      rintro rfl
      obtain ⟨c, hc, _⟩ := hF
      rw [hx] at hc
      cases hc
    exact ⟨es, clock, (hset cb hne).trans hx, Ft, hs, hD⟩
  · by_cases e : k = i
    · subst e
      refine ⟨?_, g, ?_, hg, hby g _ _ hg hb⟩
      · rw [r2.cell (i := k * 2) (by omega)]
        simp
      · rw [r2.cell (i := k * 2 + 1) (by omega)]
        simp
    · obtain ⟨h1, g', h2, h3, h4⟩ := h.done k (by omega)
      rw [hF.cell (i := k * 2) (by omega)] at h1
      rw [hF.cell (i := k * 2 + 1) (by omega)] at h2
      refine ⟨?_, g', ?_, h3, hby g' _ _ h3 h4⟩
      · rw [r2.cell (i := k * 2) (by omega), if_neg (by omega), if_neg (by omega)]
        exact h1
      · rw [r2.cell (i := k * 2 + 1) (by omega), if_neg (by omega), if_neg (by omega)]
        exact h2

set_option maxHeartbeats 3200000 in
theorem crash_any {w : World} {db sb nb room n : Nat} {nm : Nat → ByteArray} {fb dl : Nat → Nat} {dx : Nat → Nat → Nat} (h : Disk0 w db sb nb room n nm fb dl dx) (hI : imgB n nm = true) (hs : ∀ i, i < n → (nm i).size ≤ 1048576) (hd : ∀ i, i < n → dl i ≤ 1048576) (pa : Option Addr) (pn pc : Nat) (hp : Picks w pa pn) :
    Calls Try.prog 12 #[.pointer (some ⟨db, 0, none⟩), .slice pa pn pc] w fun e w' => ∃ g, e = .returned (.slice (some ⟨g, 0, none⟩) n n) ∧ Img w' (some ⟨g, 0, none⟩) n nm dl dx ∧ Below w.heap.size w w' := by
  have h64 := img_64 hI
  have c3 : w.cell? ⟨db, 3, none⟩ = some (.slice none 0 0) := h.row.cell (i := 3) (by decide)
  have HP : Hid (∀ W i, Below w.heap.size w W → Calls Try.prog 39 #[.slice pa pn pc, .int .i64 ((i : Nat) : Int), .int .i64 0] W fun e w' => e = .returned (.int .i64 0) ∧ w' = W) := fun W i hb => pick0_any pa pn pc i W (hp.on hb)
  have HP0 : Hid (∀ W, Below w.heap.size w W → Calls Try.prog 39 #[.slice pa pn pc, .int .i64 0, .int .i64 0] W fun e w' => e = .returned (.int .i64 0) ∧ w' = W) := fun W hb => pick0_any pa pn pc 0 W (hp.on hb)
  have HA : Hid (∀ W, Below w.heap.size w W → Calls Try.prog 38 #[.pointer (some ⟨db, 1, none⟩), .int .i64 0] W fun e w' => ∃ cb, e = .returned (.map (some cb)) ∧ w'.ownsMap Try.prog 9 Rf cb n (nmD nm fb n) ∧ Below W.heap.size W w') := fun W hb => (namesAfter_any (h.on hb)).mono fun e w' ⟨cb, he, hm, _, hbb⟩ => ⟨cb, he, hm, hbb⟩
  have HD : Hid (∀ W, Below w.heap.size w W → Disk0 W db sb nb room n nm fb dl dx) := fun W hb => h.on hb
  have HS : Hid _ := hs
  have HL : Hid _ := hd
  have HI : Hid (imgB n nm = true) := hI
  clear hs hd h hp hI
  have b0 : Below w.heap.size w w := Below.refl _ _
  have b0d : Below w.heap.size w w.drew := (Below.refl _ _).drew
  go_enter Try.func12, Try.ntmps12
  go_upto_region 1 with fail
  go_region_held3 (fun W => W.cell? ⟨db, 3, none⟩ = some (.slice none 0 0))
    (first | exact c3 | exact cel_on hbA c3)
    (first
      | (go_at_call 39; refine (HP0.out _ (by first | exact b0 | exact b0d)).mono ?_; rintro e w1 ⟨rfl, rfl⟩)
      | (go_at_call 38; refine (HA.out _ (by first | exact b0 | exact b0d)).mono ?_; rintro e w2 ⟨cb, rfl, hmp, hbA⟩))
  all_goals
    have hb2 : Below w.heap.size w w2 := b0d.trans hbA
    have hsz := nmD_size nm fb n (img_inj HI.out)
    have hlen := hmp.len Try.underlying74 3
    rw [hsz] at hlen
    obtain ⟨W3, hmk, hb3, hrow, hz3⟩ := made_fb w2 n (by omega)
    have hmk' := hmk .i64 .i64
    have hmp3 := map_on hmp hb3
    have HSO : Hid (Calls Try.prog 40 #[.map (some cb)] W3 fun e w' => ∃ a c, e = .returned (.slice a n c) ∧ (∀ i, i < n → ∃ g, a = some ⟨g, 0, none⟩ ∧ w'.cell? ⟨g, i, none⟩ = some (.string (nm i)) ∧ W3.heap.size ≤ g) ∧ Below W3.heap.size W3 w') := sorted_names hmp3 HI.out
    have hC0 : Cr w W3 w2.heap.size cb n 0 nm fb dl dx := ⟨hb2.trans (hb3.mono hb2.size), hmp3, hrow, fun k hk => absurd hk (Nat.not_lt_zero _)⟩
    have HG : Hid (w.heap.size ≤ w2.heap.size ∧ w2.heap.size < W3.heap.size) := ⟨hb2.size, by omega⟩
    clear hmk hmp hmp3 hrow hz3 hb3 hsz hb2 hbA c3
    go_wp2_with fail
    refine HSO.out.mono ?_
    rintro e w4 ⟨a, c, rfl, hnames, hb4⟩
    have hC4 := hC0.on hb4
    have HG4 : Hid (w.heap.size ≤ w2.heap.size ∧ w2.heap.size < w4.heap.size) := ⟨HG.out.1, Nat.lt_of_lt_of_le HG.out.2 hb4.size⟩
    have HN : Hid (∀ i, i < n → ∃ g, a = some ⟨g, 0, none⟩ ∧ w4.cell? ⟨g, i, none⟩ = some (.string (nm i)) ∧ g ≠ w2.heap.size) := fun i hi => by
      obtain ⟨g, e, hc, hge⟩ := hnames i hi
      exact ⟨g, e, hc, by have := HG.out.2; omega⟩
    clear HSO hC0 hnames HG hmk' hlen
    generalize w2.heap.size = gb at *
    go_wp2_with fail
    go_loopg [28] n (fun q s28 wx => ∃ (i : Nat), i ≤ n ∧ q = n - i ∧ s28 = .int .i64 i ∧ Cr w wx gb cb n i nm fb dl dx ∧ gb < wx.heap.size ∧ ∀ i, i < n → ∃ g, a = some ⟨g, 0, none⟩ ∧ wx.cell? ⟨g, i, none⟩ = some (.string (nm i)) ∧ g ≠ gb)
    case atStart => exact ⟨0, Nat.zero_le _, rfl, rfl, hC4, HG4.out.2, HN.out⟩
    case round =>
      obtain ⟨i, hi, rfl, rfl, hC, hgl, hnm⟩ := hrel
      have HNM : Hid _ := hnm
      have hgb := HG4.out.1
      clear hnm hC4 HN HG4
      by_cases hlt : i < n
      · have hz : (i : Int) < (n : Int) := by omega
        obtain ⟨g, rfl, hcn, hgn⟩ := HNM.out i hlt
        have hD := HD.out wr hC.below
        have hF := hD.files i hlt
        have hlk := look_at hC.map (img_inj HI.out) hlt (HS.out i hlt)
        have hu := units0_any hF
        have hpk := HP.out wr (i + 1) hC.below
        have haf := after0_any hF (by have := HL.out i hlt; omega) 0
        obtain ⟨F, hF2⟩ := hC.row
        clear hD hF
        have hcast : ((i + 1 : Nat) : Int) = (i : Int) + 1 := by omega
        rw [hcast] at hpk
        clear hcast
        go_wp2_with fail
        refine hu.mono ?_
        rintro e w5 ⟨rfl, rfl⟩
        clear hu hlk
        go_wp2_with fail
        refine hpk.mono ?_
        rintro e w5 ⟨rfl, rfl⟩
        clear hpk
        go_wp2_with fail
        refine haf.mono ?_
        rintro e w6 ⟨g6, rfl, hge6, hb6, hr6⟩
        clear haf hcn
        have hC6 := hC.on hb6
        have hst := hC6.store hgb (g := g6) (by omega) (Byt.of_row hr6) hlt
        have hF6 := hF2.of_block (hb6.block _ hF2.lt)
        have k0 := hF6.cell (i := i * 2) (by omega)
        have f0 := hF6.frozen (i * 2)
        have hF7 := hF6.set (i * 2) (.string (nm i))
        have k1 := hF7.cell (i := i * 2 + 1) (by omega)
        have f1 := hF7.frozen (i * 2 + 1)
        rw [if_neg (by omega)] at k1
        have hgl6 : gb < w6.heap.size := Nat.lt_of_lt_of_le hgl hb6.size
        have HNM6 : Hid (∀ j, j < n → ∃ g', (some ⟨g, 0, none⟩ : Option Addr) = some ⟨g', 0, none⟩ ∧ ((w6.setCell ⟨gb, i * 2, none⟩ (.string (nm i))).setCell ⟨gb, i * 2 + 1, none⟩ (.slice (some ⟨g6, 0, none⟩) (dl i) (dl i))).cell? ⟨g', j, none⟩ = some (.string (nm j)) ∧ g' ≠ gb) := fun j hj => by
          obtain ⟨g', e, hc', hne⟩ := HNM.out j hj
          refine ⟨g', e, ?_, hne⟩
          rw [World.cell?_of_block (a := ⟨g', j, none⟩) ((Below.heap_setCell _ _ _ _ hne).trans (Below.heap_setCell _ _ _ _ hne))]
          exact cel_on hb6 hc'
        clear HNM hC6 hC hb6 hr6 hF2 hF6 hF7 hge6
        generalize nm i = s at *
        generalize dl i = d at *
        go_wp2_with fail
        go_roundg (n - (i + 1))
        case measure => go_light; omega
        case rel => go_light; exact ⟨i + 1, by omega, rfl, by simp, hst, by simpa [World.setCell] using hgl6, HNM6.out⟩
      · obtain rfl : i = n := by omega
        go_wp2_with fail
        go_ret
        refine ⟨gb, rfl, fun k hk => ?_, hC.below⟩
        obtain ⟨h1, g, h2, _, h4⟩ := hC.done k hk
        exact ⟨gb, 0, rfl, by rw [Nat.zero_add]; exact h1, _, _, by rw [Nat.zero_add]; exact h2, h4⟩
end Go.Proofs.Ytbnlgohaaadgeaa

/- Package disk: a move of names, carried out on a map. -/
namespace Go.Proofs.Ytbnlgohaaadgeaa
open Go.RowKit Go.Maps Go.Sort
set_option maxRecDepth 100000
set_option maxRecDepth 100000

structure Mov where
  f : Option Nat
  fr : ByteArray
  tt : ByteArray
def Mov.v (m : Mov) : Value := .agg #[.pointer (m.f.map (fun b => ⟨b, 0, none⟩)), .string m.fr, .string m.tt]
def Mov.on (m : Mov) (D : DataW Nat) : DataW Nat := if m.tt.size = 0 then D.del (.string m.fr.data.toList) else (D.del (.string m.fr.data.toList)).put (.string m.tt.data.toList) (.held (m.f.getD 0))
def Mov.ok (m : Mov) : Prop := m.fr.size ≤ 64 ∧ m.tt.size ≤ 64 ∧ (m.tt.size ≠ 0 → ∃ b, m.f = some b)

set_option maxHeartbeats 1600000 in
theorem onto_names {w : World} {b n : Nat} {D : DataW Nat} (h : w.ownsMap Try.prog 9 Rf b n D) (hn : n ≤ 1099511627776) (m : Mov) (hm : m.ok) :
    Calls Try.prog 62 #[m.v, .map (some b)] w fun e w' => e = .returned (.tuple #[]) ∧ w'.ownsMap Try.prog 9 Rf b (n + 1) (m.on D) ∧ Mv (fun k => k = b) (fun k => k = b) w w' := by
  have hml : maxLen = 9223372036854775807 := rfl
  obtain ⟨f, fr, tt⟩ := m
  obtain ⟨h1, h2, h3⟩ := hm
  have k1 := key_str fr (by show fr.size ≤ _; have : fr.size ≤ 64 := h1; omega)
  have k2 := key_str tt (by show tt.size ≤ _; have : tt.size ≤ 64 := h2; omega)
  have hblt : b < w.heap.size := h.lt
  obtain ⟨pv, HP⟩ : ∃ pv, Hid (pv = f.map (fun b => (⟨b, 0, none⟩ : Addr))) := ⟨_, rfl⟩
  show Calls _ _ #[.agg #[.pointer (f.map (fun b => ⟨b, 0, none⟩)), .string fr, .string tt], .map (some b)] w _
  rw [← HP.out]
  have a0 : (w.alloc (.cells #[.pointer pv, .string fr, .string tt] 103)).cell? ⟨w.heap.size, 0, none⟩ = some (.pointer pv) := World.cell?_alloc_at (w := w) _ _ _ 0 rfl
  have a1 : (w.alloc (.cells #[.pointer pv, .string fr, .string tt] 103)).cell? ⟨w.heap.size, 1, none⟩ = some (.string fr) := World.cell?_alloc_at (w := w) _ _ _ 1 rfl
  have a2 : (w.alloc (.cells #[.pointer pv, .string fr, .string tt] 103)).cell? ⟨w.heap.size, 2, none⟩ = some (.string tt) := World.cell?_alloc_at (w := w) _ _ _ 2 rfl
  have HB : Hid (Below w.heap.size w (w.alloc (.cells #[.pointer pv, .string fr, .string tt] 103))) := (Below.refl _ _).alloc (Nat.le_refl _) _
  have hA : (w.alloc (.cells #[.pointer pv, .string fr, .string tt] 103)).ownsMap Try.prog 9 Rf b n D := map_on h HB.out
  obtain ⟨W, HW⟩ : ∃ W, Hid (w.alloc (.cells #[.pointer pv, .string fr, .string tt] 103) = W) := ⟨_, rfl⟩
  rw [HW.out] at a0 a1 a2 hA HB
  have HT : Hid (∀ w1, W.grownBy w1 (some b) → w1.cell? ⟨w.heap.size, 0, none⟩ = some (.pointer pv) ∧ w1.cell? ⟨w.heap.size, 2, none⟩ = some (.string tt)) := fun w1 hg => by
    have hne : w.heap.size ≠ b := by omega
    have q := fun (i : Nat) (x : Value) (hx : W.cell? ⟨w.heap.size, i, none⟩ = some x) => (show w1.cell? ⟨w.heap.size, i, none⟩ = some x by
      rw [World.cell?_of_block (a := ⟨w.heap.size, i, none⟩) (hg.block _ (World.block_lt_of_cell? _ _ hx) (fun e => hne (Option.some.inj e)))]; exact hx)
    exact ⟨q 0 _ a0, q 2 _ a2⟩
  have HG : Hid (∀ w1, W.grownBy w1 (some b) → Mv (fun k => k = b) (fun k => k = b) w w1) := fun w1 hg => ⟨hg.os.trans HB.out.os, hg.tape.trans HB.out.tape, hg.output.trans HB.out.output, Nat.le_trans HB.out.size hg.size, fun k hk hn => (hg.block k (Nat.lt_of_lt_of_le hk HB.out.size) (fun e => hn (Option.some.inj e))).trans (HB.out.block k hk), fun k hk => .inl hk⟩
  have HGM : Hid (∀ w1 w2, W.grownBy w1 (some b) → w1.grownBy w2 (some b) → Mv (fun k => k = b) (fun k => k = b) w w2) := fun w1 w2 hg hg2 => (HG.out w1 hg).trans ⟨hg2.os, hg2.tape, hg2.output, hg2.size, fun k hk hn => hg2.block k hk (fun e => hn (Option.some.inj e)), fun k hk => .inl hk⟩
  by_cases h0 : tt.size = 0
  · have htt : tt = ⟨#[]⟩ := by
      cases tt with
      | mk d =>
        have : d = #[] := Array.eq_empty_of_size_eq_zero h0
        rw [this]
    have eOn : (Mov.mk f fr tt).on D = D.del (.string fr.data.toList) := if_pos h0
    rw [eOn]
    clear eOn h1 h2 h3 k2 h0 HB h
    subst htt
    have hne : ∀ W, (binOp .neq 9 (.string ⟨#[]⟩) (.string ⟨#[]⟩)).run Try.prog W = .ok (.bool false) W := fun W => by simp [binOp, Op.stringOp]
    go_enter Try.func62, Try.ntmps62
    go_upto_region 1 with fail
    rw [HW.out]
    go_wp2_with (first
      | (at_delete; refine wpList_delete_own _ rfl _ _ 74 9 rfl 85 strK Try.underlying74 Rf b n D rfl hA _ _ rfl k1 ?_
         intro w1 hown1 ht1
         have hg1 := ht1.grown
         obtain ⟨e0, e2⟩ := HT.out w1 hg1
         clear hA a0 a1 a2 ht1
         go_frame)
      | go_in)
    go_end0
    refine ⟨rfl, ?_, HG.out w1 hg1⟩
    obtain ⟨es', clock', q1, q2, q3, q4⟩ := hown1
    exact ⟨es', clock', q1, q2, by omega, q4⟩
  · obtain ⟨fb, hf⟩ := h3 h0
    have hf : f = some fb := hf
    subst hf
    have eOn : (Mov.mk (some fb) fr tt).on D = (D.del (.string fr.data.toList)).put (.string tt.data.toList) (.held fb) := if_neg h0
    rw [eOn]
    have hpv : pv = some ⟨fb, 0, none⟩ := HP.out
    subst hpv
    have hv : Rf (.pointer (some ⟨fb, 0, none⟩)) = some (.held fb, []) := rfl
    have hnl : ¬ tt.toList = [] := fun e => by
      rw [toList_data] at e
      apply h0
      show tt.data.size = 0
      rw [← Array.length_toList, e]
      rfl
    have hne : ∀ W, (binOp .neq 9 (.string tt) (.string ⟨#[]⟩)).run Try.prog W = .ok (.bool true) W := fun W => by
      simp [binOp, Op.stringOp]
      exact hnl
    have hni : tt.toList.isEmpty = false := by
      cases h : tt.toList with
      | nil => exact absurd h hnl
      | cons x xs => rfl
    clear hne
    clear eOn h1 h2 h3 h0 HB h HP
    go_enter Try.func62, Try.ntmps62
    go_upto_region 1 with fail
    rw [HW.out]
    go_wp2_with (first
      | (at_delete; refine wpList_delete_own _ rfl _ _ 74 9 rfl 85 strK Try.underlying74 Rf b n D rfl hA _ _ rfl k1 ?_
         intro w1 hown1 ht1
         have hg1 := ht1.grown
         obtain ⟨e0, e2⟩ := HT.out w1 hg1
         clear hA a0 a1 a2 ht1
         go_frame)
      | (at_mapUpdate; refine wpList_mapUpdate_own _ rfl _ _ _ 74 rfl 9 85 strK Try.underlying74 Rf b n _ rfl hown1 (by omega) _ _ _ rfl rfl k2 _ [] hv ?_
         intro w2 hown2 hg2
         go_frame)
      | go_in)
    go_end0
    exact ⟨rfl, hown2, HGM.out w1 w2 hg1 hg2⟩
end Go.Proofs.Ytbnlgohaaadgeaa

/- Package disk: the list of moves: append, clear; names.change. -/
namespace Go.Proofs.Ytbnlgohaaadgeaa
open Go.RowKit Go.Maps Go.Sort
set_option maxRecDepth 100000
set_option maxRecDepth 100000

theorem infoMV : (Try.prog.info? 103).map (fun i => (i.zero, i.size, i.bytes)) = some (some (.agg #[.pointer none, .string ⟨#[]⟩, .string ⟨#[]⟩]), 3, 40) := by kernel_rfl
def Mov.cells (m : Mov) : List Value := [.pointer (m.f.map (fun b => ⟨b, 0, none⟩)), .string m.fr, .string m.tt]
def mvCells : List Mov → List Value
  | [] => []
  | m :: ms => m.cells ++ mvCells ms
theorem mvCells_snoc (m : Mov) : ∀ ms, mvCells (ms ++ [m]) = mvCells ms ++ m.cells
  | [] => by simp [mvCells]
  | d :: ms => by simp only [List.cons_append, mvCells, mvCells_snoc m ms, List.append_assoc]
theorem mvCells_len : ∀ ms, (mvCells ms).length = ms.length * 3
  | [] => rfl
  | d :: ms => by simp only [mvCells, List.length_append, mvCells_len ms, List.length_cons]; show 3 + _ = _; omega
theorem app_mv {w : World} {K n : Nat} {v : Value} {xs : List Value} (h : w.ownsRow K 103 3 v n xs) (x y z : Value) (hx : x.oneCell' = true) (hy : y.oneCell' = true) (hz : z.oneCell' = true) (hn : n ≤ 1099511627776) (hK : K ≤ w.heap.size) :
    ∃ v' w', (Builtin.append_ #[75, 75] 75 #[v, .slice (some ⟨w.heap.size, 0, none⟩) 1 1]).run Try.prog (w.alloc (.cells #[x, y, z] 103)) = .ok v' w' ∧ w'.ownsRow K 103 3 v' (n + 1) (xs ++ [x, y, z]) ∧ w.grownBy w' v.ownBlock ∧ (∀ k, v'.ownBlock = some k → v.ownBlock = some k ∨ w.heap.size ≤ k) := by
  obtain ⟨i0, hi, hh⟩ := Option.map_eq_some_iff.1 infoMV
  simp only [Prod.mk.injEq] at hh
  obtain ⟨hz0, hz1, hz2⟩ := hh
  have hnews : ∀ j u, [x, y, z][j]? = some u → (w.alloc (.cells #[x, y, z] 103)).cell? ((⟨w.heap.size, 0, none⟩ : Addr).add j) = some u := fun j u hj => by
    match j with
    | 0 => simp at hj; subst hj; simp [Addr.add]
    | 1 => simp at hj; subst hj; simp [Addr.add]
    | 2 => simp at hj; subst hj; simp [Addr.add]
    | j + 3 => simp at hj
  have hml : maxLen = 9223372036854775807 := rfl
  obtain ⟨v', w', h1, h2, h3, _, h5⟩ := run_append_own_at (P := Try.prog) (w.alloc (.cells #[x, y, z] 103)) K 75 75 103 i0 _ 3 40 Try.underlying75 hi hz0 hz1 hz2 rfl (by decide) v n xs (h.alloc _) ⟨w.heap.size, 0, none⟩ 1 1 [x, y, z] rfl hnews (fun u hu => by
    simp only [List.mem_cons, List.not_mem_nil, or_false] at hu
    rcases hu with e | e | e
    · rw [e]; exact hx
    · rw [e]; exact hy
    · rw [e]; exact hz) (by omega) (by omega) (by simp; omega)
  have hsz : (w.alloc (.cells #[x, y, z] 103)).heap.size = w.heap.size + 1 := by simp
  refine ⟨v', w', h1, h2, ⟨h3.os, h3.tape, h3.output, by have := h3.size; omega, fun b hb hne => (h3.block b (by omega) hne).trans (Below.heap_alloc _ _ _ hb)⟩, fun k e => ?_⟩
  rcases h5 with e5 | e5
  · exact .inl (e5 ▸ e)
  · rw [e5] at e
    exact .inr (by have := Option.some.inj e; omega)
/-- clear of a list of moves, and its first none. -/
theorem clear_mv {w : World} {B n : Nat} {v : Value} {xs : List Value} (h : w.ownsRow B 103 3 v n xs) :
    ∃ w1 ca cc, v = .slice ca n cc ∧ ((ca = none ∧ cc = 0 ∧ n = 0) ∨ ∃ g, ca = some ⟨g, 0, none⟩) ∧ (∀ ty, (Builtin.clear_ #[75] ty #[v]).run Try.prog w = .ok (.tuple #[]) w1) ∧ w1.ownsRow B 103 3 (.slice ca 0 cc) 0 [] ∧ w1.os = w.os ∧ w1.tape = w.tape ∧ w1.output = w.output ∧ w1.heap.size = w.heap.size ∧ ∀ k, v.ownBlock ≠ some k → w1.heap[k]? = w.heap[k]? := by
  rcases h.2 with ⟨e, h0⟩ | ⟨g, cap, cur, e, hB, hq, hc, hm, hcs, ht⟩
  · refine ⟨w, none, 0, by rw [e, h0], .inl ⟨rfl, rfl, h0⟩, fun ty => ?_, ⟨rfl, .inl ⟨rfl, rfl⟩⟩, rfl, rfl, rfl, rfl, fun _ _ => rfl⟩
    rw [e]
    simp [Builtin.clear_, run_underlying Try.underlying75]
  · by_cases h0 : n = 0
    · subst h0
      refine ⟨w, _, cap, e, Or.inr ⟨g, rfl⟩, fun ty => ?_, ⟨rfl, .inr ⟨g, cap, cur, rfl, hB, hq, hc, hm, hcs, by simp⟩⟩, rfl, rfl, rfl, rfl, fun _ _ => rfl⟩
      rw [e]
      simp [Builtin.clear_, run_underlying Try.underlying75]
    · have hz : ∀ w, (zeroValue 103).run Try.prog w = .ok (.agg #[.pointer none, .string ⟨#[]⟩, .string ⟨#[]⟩]) w := fun w => by kernel_rfl
      obtain ⟨vs, hvs⟩ : ∃ vs, vs = (Builtin.zeroCells (Value.agg #[.pointer none, .string ⟨#[]⟩, .string ⟨#[]⟩]).cells n).toList := ⟨_, rfl⟩
      have hcl : (Value.agg #[.pointer none, .string ⟨#[]⟩, .string ⟨#[]⟩]).cells = #[.pointer none, .string ⟨#[]⟩, .string ⟨#[]⟩] := by rfl
      have hlen : vs.length = n * 3 := by rw [hvs, hcl]; simp [Builtin.zeroCells]
      have hone : ∀ v ∈ vs, v.oneCell' = true := fun v hv => by
        rw [hvs, hcl] at hv
        simp only [Builtin.zeroCells, Array.toList_map, List.mem_map] at hv
        obtain ⟨i, _, rfl⟩ := hv
        have : i % 3 < 3 := Nat.mod_lt _ (by decide)
        show ((#[.pointer none, .string ⟨#[]⟩, .string ⟨#[]⟩] : Array Value)[i % 3]!).oneCell' = true
        generalize i % 3 = k at *
        match k, this with
        | 0, _ => rfl
        | 1, _ => rfl
        | 2, _ => rfl
      have hle : n * 3 ≤ cap * 3 := Nat.mul_le_mul_right 3 hc
      have hst := run_storeCells_at (P := Try.prog) g 0 103 vs 0 cur w hq (by rw [hlen, hcs]; omega) hone
      refine ⟨w.setRow g (cur.toList.take (0 + 0) ++ vs ++ cur.toList.drop (0 + 0 + vs.length)).toArray, _, cap, e, Or.inr ⟨g, rfl⟩, fun ty => ?_, ⟨rfl, .inr ⟨g, cap, _, rfl, hB, setRow_heap w g cur _ _ _ hq, Nat.zero_le _, hm, ?_, by simp⟩⟩, rfl, rfl, rfl, size_setRow _ _ _, fun k hk => setRow_other w g k _ (fun e2 => hk (by rw [e, e2]; rfl))⟩
      · rw [e]
        obtain ⟨m, rfl⟩ : ∃ m, n = m + 1 := ⟨n - 1, by omega⟩
        rw [hvs] at hst ⊢
        simp [Builtin.clear_, run_underlying Try.underlying75, hz, hst]
      · simp [hlen]; omega
end Go.Proofs.Ytbnlgohaaadgeaa

/- Package disk: names.change. -/
namespace Go.Proofs.Ytbnlgohaaadgeaa
open Go.RowKit Go.Maps Go.Sort
set_option maxRecDepth 100000
set_option maxRecDepth 100000

/-- What of memory names.change may turn. -/
def NF (db nb : Nat) (mv : Value) (k : Nat) : Prop := k = db ∨ mv.ownBlock = some k ∨ k = nb
set_option maxHeartbeats 3200000 in
theorem change_any {w : World} {B db nb n N k : Nat} {t : TypeId} {F : Nat → Value} {mv : Value} {xs : List Value} {D : DataW Nat} (hr : w.rowIs db t n F) (hn : 3 < n) (ht : t ≠ 103) (h2 : F 2 = .map (some nb)) (h3 : F 3 = mv) (hmv : w.ownsRow B 103 3 mv k xs) (hD : w.ownsMap Try.prog 9 Rf nb N D) (hN : N ≤ 1099511627776) (hk : k ≤ 1099511627776) (hB : B ≤ w.heap.size) (m : Mov) (hm : m.ok) :
    Calls Try.prog 55 #[.pointer (some ⟨db, 1, none⟩), m.v] w fun e w' => e = .returned (.tuple #[]) ∧ ∃ mv', w'.rowIs db t n (fun i => if i = 3 then mv' else F i) ∧ w'.ownsRow B 103 3 mv' (k + 1) (xs ++ m.cells) ∧ w'.ownsMap Try.prog 9 Rf nb (N + 1) (m.on D) ∧ Mv (NF db nb mv) (NF db nb mv') w w' := by
  obtain ⟨f, fr, tt⟩ := m
  obtain ⟨pv, HP⟩ : ∃ pv, Hid (pv = f.map (fun b => (⟨b, 0, none⟩ : Addr))) := ⟨_, rfl⟩
  have ecs : (Mov.mk f fr tt).cells = [.pointer pv, .string fr, .string tt] := by rw [HP.out]; rfl
  have ev : (Mov.mk f fr tt).v = .agg #[.pointer pv, .string fr, .string tt] := by rw [HP.out]; rfl
  rw [ecs]
  have hdn : db ≠ nb := by
    obtain ⟨es, clock, hb, _⟩ := hD
    obtain ⟨cs, hcs, _⟩ := hr
    intro e; rw [e, hb] at hcs; cases hcs
  have hmn : mv.ownBlock ≠ some nb := fun e => by
    obtain ⟨es, clock, hb, _⟩ := hD
    rcases hmv.2 with ⟨e', _⟩ | ⟨g, cap, cur, e', _, hq, _⟩
    · rw [e'] at e; cases e
    · rw [e'] at e; have e := Option.some.inj e; have e : g = nb := e; rw [e, hb] at hq; cases hq
  have hmd : mv.ownBlock ≠ some db := fun e => rows_apart hmv hr ht e
  obtain ⟨W0, HW0⟩ : ∃ W, Hid (w.alloc (.cells #[.pointer pv, .string fr, .string tt] 103) = W) := ⟨_, rfl⟩
  have hb0 : Below w.heap.size w W0 := by rw [← HW0.out]; exact (Below.refl _ _).alloc (Nat.le_refl _) _
  have hz0 : W0.heap.size = w.heap.size + 1 := by rw [← HW0.out]; simp
  have b0 : W0.cell? ⟨w.heap.size, 0, none⟩ = some (.pointer pv) := by rw [← HW0.out]; exact World.cell?_alloc_at (w := w) _ _ _ 0 rfl
  have b1 : W0.cell? ⟨w.heap.size, 1, none⟩ = some (.string fr) := by rw [← HW0.out]; exact World.cell?_alloc_at (w := w) _ _ _ 1 rfl
  have b2 : W0.cell? ⟨w.heap.size, 2, none⟩ = some (.string tt) := by rw [← HW0.out]; exact World.cell?_alloc_at (w := w) _ _ _ 2 rfl
  have hr0 : W0.drew.rowIs db t n F := hr.of_block (hb0.block _ hr.lt)
  have hmv0 : W0.drew.ownsRow B 103 3 mv k xs := rows_keep hmv (fun q e => hb0.block q (rows_lt hmv q e).2)
  have c3 : W0.drew.cell? ⟨db, 3, none⟩ = some mv := h3 ▸ hr0.cell (i := 3) hn
  obtain ⟨mv', w3, hrun, ho3, hg3, hl3⟩ := app_mv hmv0 (.pointer pv) (.string fr) (.string tt) rfl rfl rfl hk (by show B ≤ W0.heap.size; omega)
  obtain ⟨ca, cc, emv⟩ : ∃ ca cc, mv' = .slice ca (k + 1) cc := by
    rcases ho3.2 with ⟨_, h0⟩ | ⟨g, cap, cur, e, _⟩
    · omega
    · exact ⟨_, cap, e⟩
  subst emv
  have hr3 : w3.rowIs db t n F := hr0.of_block (hg3.block db hr0.lt (fun e => hmd e.symm))
  have p3 : w3.cell? ⟨db, 3, none⟩ = some mv := h3 ▸ hr3.cell (i := 3) hn
  have f3 : w3.frozen? ⟨db, 3, none⟩ = false := hr3.frozen 3
  obtain ⟨W4, HW4⟩ : ∃ W, Hid (w3.setCell ⟨db, 3, none⟩ (.slice ca (k + 1) cc) = W) := ⟨_, rfl⟩
  have hset : ∀ b, b ≠ db → W4.heap[b]? = w3.heap[b]? := fun b hb => by rw [← HW4.out]; exact Below.heap_setCell _ _ _ _ hb
  have hz4 : W4.heap.size = w3.heap.size := by rw [← HW4.out]; simp [World.setCell]
  have hr4 : W4.rowIs db t n (fun i => if i = 3 then (.slice ca (k + 1) cc) else F i) := by rw [← HW4.out]; exact hr3.set 3 (.slice ca (k + 1) cc)
  have hmd' : (Value.slice ca (k + 1) cc).ownBlock ≠ some db := fun e => rows_apart ho3 hr3 ht e
  have ho4 : W4.ownsRow B 103 3 (.slice ca (k + 1) cc) (k + 1) (xs ++ [.pointer pv, .string fr, .string tt]) := rows_keep ho3 (fun q e => hset q (fun e2 => hmd' (e2 ▸ e)))
  have hbw : w.heap.size ≠ db := Nat.ne_of_gt hr.lt
  have hbm : mv.ownBlock ≠ some w.heap.size := fun e => Nat.lt_irrefl _ (rows_lt hmv _ e).2
  have hszd : W0.drew.heap.size = w.heap.size + 1 := hz0
  have blk4 : ∀ q, q < w.heap.size + 1 → q ≠ db → mv.ownBlock ≠ some q → W4.heap[q]? = W0.heap[q]? := fun q hq hq1 hq2 => (hset q hq1).trans (hg3.block q (by omega) (fun e => hq2 e.symm))
  have d0 : W4.drew.cell? ⟨w.heap.size, 0, none⟩ = some (.pointer pv) := by show W4.cell? _ = _; rw [World.cell?_of_block (a := ⟨w.heap.size, 0, none⟩) (blk4 _ (by show w.heap.size < _; omega) hbw hbm)]; exact b0
  have d1 : W4.drew.cell? ⟨w.heap.size, 1, none⟩ = some (.string fr) := by show W4.cell? _ = _; rw [World.cell?_of_block (a := ⟨w.heap.size, 1, none⟩) (blk4 _ (by show w.heap.size < _; omega) hbw hbm)]; exact b1
  have d2 : W4.drew.cell? ⟨w.heap.size, 2, none⟩ = some (.string tt) := by show W4.cell? _ = _; rw [World.cell?_of_block (a := ⟨w.heap.size, 2, none⟩) (blk4 _ (by show w.heap.size < _; omega) hbw hbm)]; exact b2
  have g2 : W4.drew.cell? ⟨db, 2, none⟩ = some (.map (some nb)) := by have := hr4.cell (i := 2) (by omega); simpa [h2] using this
  have hnl := hD.lt
  have hD4 : W4.drew.ownsMap Try.prog 9 Rf nb N D := by
    obtain ⟨es, clock, hb, q⟩ := hD
    exact ⟨es, clock, ((blk4 nb (by omega) (fun e => hdn e.symm) hmn).trans (hb0.block nb hnl)).trans hb, q⟩
  have HON : Hid (Calls Try.prog 62 #[.agg #[.pointer pv, .string fr, .string tt], .map (some nb)] W4.drew fun e w' => e = .returned (.tuple #[]) ∧ ∃ mv', w'.rowIs db t n (fun i => if i = 3 then mv' else F i) ∧ w'.ownsRow B 103 3 mv' (k + 1) (xs ++ [.pointer pv, .string fr, .string tt]) ∧ w'.ownsMap Try.prog 9 Rf nb (N + 1) ((Mov.mk f fr tt).on D) ∧ Mv (NF db nb mv) (NF db nb mv') w w') := by
    have q := onto_names hD4 hN (Mov.mk f fr tt) hm
    rw [ev] at q
    refine q.mono fun e w' ⟨he, hD', hM⟩ => ⟨he, (.slice ca (k + 1) cc), hr4.of_block (hM.block db (by show db < W4.heap.size; have := hr4.lt; omega) hdn), rows_keep ho4 (fun x e => hM.block x (rows_lt ho4 x e).2 (fun e2 => ?_)), hD', ?_⟩
    · obtain ⟨es, clock, hb, _⟩ := hD4
      have hb : W4.heap[nb]? = _ := hb
      rcases ho4.2 with ⟨e', _⟩ | ⟨g, cap, cur, e', _, hq, _⟩
      · rw [e'] at e; cases e
      · rw [e'] at e; have e := Option.some.inj e; have e : g = x := e; rw [e, e2, hb] at hq; cases hq
    · have hs4 : W4.heap.size ≤ w'.heap.size := hM.size
      have hs3 : W0.heap.size ≤ w3.heap.size := hg3.size
      refine ⟨?_, ?_, ?_, by omega, fun x hx hnf => ?_, fun x hf => ?_⟩
      · rw [hM.os]; show W4.os = w.os; rw [← HW4.out]; show w3.os = _; rw [hg3.os]; exact hb0.os
      · rw [hM.tape]; show W4.tape = w.tape; rw [← HW4.out]; show w3.tape = _; rw [hg3.tape]; exact hb0.tape
      · rw [hM.output]; show W4.output = w.output; rw [← HW4.out]; show w3.output = _; rw [hg3.output]; exact hb0.output
      · refine (hM.block x (by show x < W4.heap.size; omega) (fun e => hnf (.inr (.inr e)))).trans ?_
        exact (blk4 x (by omega) (fun e => hnf (.inl e)) (fun e => hnf (.inr (.inl e)))).trans (hb0.block x hx)
      · rcases hf with e | e | e
        · exact .inl (.inl e)
        · rcases hl3 x e with q | q
          · exact .inl (.inr (.inl q))
          · exact .inr (by have : W0.drew.heap.size ≤ x := q; omega)
        · exact .inl (.inr (.inr e))
  have HR : Hid _ := hrun
  rw [ev]
  have b0d : W0.drew.cell? ⟨w.heap.size, 0, none⟩ = some (.pointer pv) := b0
  have b1d : W0.drew.cell? ⟨w.heap.size, 1, none⟩ = some (.string fr) := b1
  have b2d : W0.drew.cell? ⟨w.heap.size, 2, none⟩ = some (.string tt) := b2
  have c3n : W0.cell? ⟨db, 3, none⟩ = some mv := c3
  have c3a : ∀ o, (W0.alloc o).cell? ⟨db, 3, none⟩ = some mv := fun o => by rw [World.cell?_alloc_some _ _ _ (by rw [c3n]; rfl)]; exact c3n
  clear hrun hr hmv hD hdn hmn hmd hb0 hr0 hmv0 ho3 hg3 hl3 hr3 hset hr4 hmd' ho4 hbw hbm blk4 hD4 hz0 hz4 hszd hnl ecs ev h2 h3 hN hk hB b0 b1 b2 hm HP
  go_enter Try.func55, Try.ntmps55
  go_upto_region 1 with fail
  rw [HW0.out]
  go_region_law (first
    | (refine step_apps2 (by rfl) _ _ 75 (by rfl) _ _ _ (by rfl) (by rfl) HR.out ?_))
  all_goals
    go_upto_region 2 with fail
    rw [HW4.out]
    go_region_law (first
      | (go_simp; go_at_call 62; refine HON.out.mono ?_; rintro e w6 ⟨rfl, hFM⟩))
    all_goals
      go_end0
      exact ⟨rfl, hFM⟩
end Go.Proofs.Ytbnlgohaaadgeaa

/- Package disk: names.makeSafe. -/
namespace Go.Proofs.Ytbnlgohaaadgeaa
open Go.RowKit Go.Maps Go.Sort
set_option maxRecDepth 100000
set_option maxRecDepth 100000

def movesOn (D : DataW Nat) (ms : List Mov) : DataW Nat := ms.foldl (fun D m => m.on D) D
theorem mvCells_at : ∀ (ms : List Mov) (i : Nat) (m : Mov), ms[i]? = some m → (mvCells ms)[i * 3]? = some (.pointer (m.f.map (fun b => ⟨b, 0, none⟩))) ∧ (mvCells ms)[i * 3 + 1]? = some (.string m.fr) ∧ (mvCells ms)[i * 3 + 2]? = some (.string m.tt)
  | [], i, m, h => by simp at h
  | d :: ms, 0, m, h => by
    have : d = m := by simpa using h
    subst this
    exact ⟨rfl, rfl, rfl⟩
  | d :: ms, i + 1, m, h => by
    have q := mvCells_at ms i m (by simpa using h)
    have e : (i + 1) * 3 = i * 3 + 1 + 1 + 1 := by omega
    have c : ∀ j, (mvCells (d :: ms))[j + 1 + 1 + 1]? = (mvCells ms)[j]? := fun j => by
      show (_ :: _ :: _ :: mvCells ms)[j + 1 + 1 + 1]? = _
      simp
    refine ⟨?_, ?_, ?_⟩
    · rw [e, c]; exact q.1
    · rw [show (i + 1) * 3 + 1 = (i * 3 + 1) + 1 + 1 + 1 by omega, c]; exact q.2.1
    · rw [show (i + 1) * 3 + 2 = (i * 3 + 2) + 1 + 1 + 1 by omega, c]; exact q.2.2
theorem rows_map {w : World} {K n s b N : Nat} {e : TypeId} {v : Value} {xs : List Value} {D : DataW Nat} (h : w.ownsRow K e s v n xs) (hD : w.ownsMap Try.prog 9 Rf b N D) : v.ownBlock ≠ some b := fun e => by
  obtain ⟨es, clock, hb, _⟩ := hD
  rcases h.2 with ⟨e', _⟩ | ⟨g, cap, cur, e', _, hq, _⟩
  · rw [e'] at e; cases e
  · rw [e'] at e; have e := Option.some.inj e; have e : g = b := e; rw [e, hb] at hq; cases hq
theorem row_map {w : World} {b c n t N : Nat} {F : Nat → Value} {D : DataW Nat} (hr : w.rowIs c t n F) (hD : w.ownsMap Try.prog 9 Rf b N D) : c ≠ b := by
  obtain ⟨es, clock, hb, _⟩ := hD
  obtain ⟨cs, hcs, _⟩ := hr
  intro e; rw [e, hb] at hcs; cases hcs

set_option maxHeartbeats 3200000 in
theorem makeSafeN_any {w : World} {B db sb n N : Nat} {t : TypeId} {F : Nat → Value} {mv : Value} {ms : List Mov} {D : DataW Nat} (hr : w.rowIs db t n F) (hn : 3 < n) (ht : t ≠ 103) (h1 : F 1 = .map (some sb)) (h3 : F 3 = mv) (hmv : w.ownsRow B 103 3 mv ms.length (mvCells ms)) (hD : w.ownsMap Try.prog 9 Rf sb N D) (hN : N + ms.length ≤ 1099511627776) (hok : ∀ (i : Nat) (m : Mov), ms[i]? = some m → m.ok) :
    Calls Try.prog 59 #[.pointer (some ⟨db, 1, none⟩)] w fun e w' => e = .returned (.tuple #[]) ∧ ∃ mv', w'.rowIs db t n (fun i => if i = 3 then mv' else F i) ∧ w'.ownsRow B 103 3 mv' 0 [] ∧ w'.ownsMap Try.prog 9 Rf sb (N + ms.length) (movesOn D ms) ∧ Mv (NF db sb mv) (NF db sb mv') w w' := by
  have c3 : w.cell? ⟨db, 3, none⟩ = some mv := h3 ▸ hr.cell (i := 3) hn
  obtain ⟨mva, mvc, ecv⟩ : ∃ a c, mv = .slice a ms.length c := by
    rcases hmv.2 with ⟨e, h0⟩ | ⟨g, cc, cur, e, _⟩
    · exact ⟨none, 0, by rw [e, ← h0]⟩
    · exact ⟨_, cc, e⟩
  subst ecv
  have HR : Hid (w.rowIs db t n F) := hr
  have HM : Hid (w.ownsRow B 103 3 (.slice mva ms.length mvc) ms.length (mvCells ms)) := hmv
  have HD : Hid (w.ownsMap Try.prog 9 Rf sb N D) := hD
  have HK : Hid (∀ (i : Nat) (m : Mov), ms[i]? = some m → m.ok) := hok
  have H1 : Hid (F 1 = .map (some sb)) := h1
  have H3 : Hid (F 3 = .slice mva ms.length mvc) := h3
  clear hr hmv hD hok h1 h3
  go_enter Try.func59, Try.ntmps59
  go_wp2_with fail
  go_loopg [9] ms.length (fun q s9 wx => ∃ (i : Nat) (D' : DataW Nat), i ≤ ms.length ∧ q = ms.length - i ∧ s9 = .int .i64 i ∧ movesOn D' (ms.drop i) = movesOn D ms ∧ wx.ownsMap Try.prog 9 Rf sb (N + i) D' ∧ Mv (fun k => k = sb) (fun k => k = sb) w wx)
  case atStart =>
    exact ⟨0, D, Nat.zero_le _, rfl, rfl, rfl, HD.out, Mv.refl _ _⟩
  case round =>
    obtain ⟨i, D', hi, rfl, rfl, haf, hD', hM⟩ := hrel
    clear c3
    have hdb := row_map HR.out HD.out
    have hrx : wr.rowIs db t n F := HR.out.of_block (hM.block db HR.out.lt hdb)
    have hmx : wr.ownsRow B 103 3 (.slice mva ms.length mvc) ms.length (mvCells ms) := rows_keep HM.out (fun q e => hM.block q (rows_lt HM.out q e).2 (fun e2 => rows_map HM.out HD.out (e2 ▸ e)))
    have l1 : wr.cell? ⟨db, 1, none⟩ = some (.map (some sb)) := H1.out ▸ hrx.cell (i := 1) (by omega)
    by_cases hlt : i < ms.length
    · have hwi : IntKind.i64.wrap ((i : Int) + 1) = (i : Int) + 1 := by rw [IntKind.wrap_i64]; omega
      have hz : (i : Int) < (ms.length : Int) := by omega
      obtain ⟨m, hm⟩ : ∃ m, ms[i]? = some m := ⟨_, List.getElem?_eq_getElem hlt⟩
      have hdc := List.drop_eq_getElem_cons hlt
      have hme : ms[i] = m := by have := List.getElem?_eq_getElem hlt; rw [hm] at this; exact (Option.some.inj this).symm
      rw [hme] at hdc
      rw [hdc] at haf
      have HAF : Hid (movesOn (m.on D') (ms.drop (i + 1)) = movesOn D ms) := haf
      obtain ⟨g, eg⟩ : ∃ g, mva = some ⟨g, 0, none⟩ := by
        rcases hmx.2 with ⟨e', h0⟩ | ⟨g, cap, cur, e', _⟩
        · omega
        · injection e' with e1; exact ⟨g, e1⟩
      subst eg
      obtain ⟨Fr, hFr, hle, hat⟩ := rows_row hmx
      obtain ⟨q0, q1, q2⟩ := mvCells_at ms i m hm
      have hl3 : ms.length * 3 ≤ mvc * 3 := Nat.mul_le_mul_right 3 hle
      obtain ⟨f, fr, tt⟩ := m
      obtain ⟨pv, HP⟩ : ∃ pv, Hid (pv = f.map (fun b => (⟨b, 0, none⟩ : Addr))) := ⟨_, rfl⟩
      have x0 : wr.cell? ⟨g, i * 3, none⟩ = some (.pointer pv) := by rw [hFr.cell (i := i * 3) (by omega), ← hat _ (by omega), q0, HP.out]
      have x1 : wr.cell? ⟨g, i * 3 + 1, none⟩ = some (.string fr) := by rw [hFr.cell (i := i * 3 + 1) (by omega), ← hat _ (by omega), q1]
      have x2 : wr.cell? ⟨g, i * 3 + 2, none⟩ = some (.string tt) := by rw [hFr.cell (i := i * 3 + 2) (by omega), ← hat _ (by omega), q2]
      obtain ⟨W4, HW4⟩ : ∃ W, Hid (wr.alloc (.cells #[.pointer pv, .string fr, .string tt] 103) = W) := ⟨_, rfl⟩
      have bq : Below wr.heap.size wr W4 := by rw [← HW4.out]; exact (Below.refl _ _).alloc (Nat.le_refl _) _
      have n0 : W4.drew.cell? ⟨wr.heap.size, 0, none⟩ = some (.pointer pv) := by rw [← HW4.out]; exact World.cell?_alloc_at (w := wr) _ _ _ 0 rfl
      have n1 : W4.drew.cell? ⟨wr.heap.size, 1, none⟩ = some (.string fr) := by rw [← HW4.out]; exact World.cell?_alloc_at (w := wr) _ _ _ 1 rfl
      have n2 : W4.drew.cell? ⟨wr.heap.size, 2, none⟩ = some (.string tt) := by rw [← HW4.out]; exact World.cell?_alloc_at (w := wr) _ _ _ 2 rfl
      have l1d : W4.drew.cell? ⟨db, 1, none⟩ = some (.map (some sb)) := cel_on bq.drew l1
      have HON : Hid (Calls Try.prog 62 #[.agg #[.pointer pv, .string fr, .string tt], .map (some sb)] W4.drew fun e w' => e = .returned (.tuple #[]) ∧ w'.ownsMap Try.prog 9 Rf sb (N + (i + 1)) ((Mov.mk f fr tt).on D') ∧ Mv (fun k => k = sb) (fun k => k = sb) w w') := by
        have q := onto_names (map_on hD' bq.drew) (by omega) (Mov.mk f fr tt) (HK.out i _ hm)
        have ev : (Mov.mk f fr tt).v = .agg #[.pointer pv, .string fr, .string tt] := by rw [HP.out]; rfl
        rw [ev] at q
        exact q.mono fun e w' ⟨he, h2, hM'⟩ => ⟨he, h2, hM.trans ((Mv.of_below bq.drew).trans hM')⟩
      clear haf hdc hme hm hat hFr q0 q1 q2 hle hl3 hD' hM hrx hmx l1 bq hdb HP
      generalize (Mov.mk f fr tt).on D' = D2 at *
      go_upto_region 3 with fail
      rw [HW4.out]
      clear x0 x1 x2
      go_region_law (first
        | (go_simp; go_at_call 62; refine HON.out.mono ?_; rintro e w6 ⟨rfl, hD6, hM6⟩))
      all_goals
        go_wp2_with fail
        go_roundg (ms.length - (i + 1))
        case measure => go_light; omega
        case rel => go_light; exact ⟨i + 1, D2, by omega, rfl, by simp, HAF.out, hD6, hM6⟩
    · obtain rfl : i = ms.length := by omega
      have e : ms.drop ms.length = [] := List.drop_eq_nil_of_le (Nat.le_refl _)
      rw [e] at haf
      have hz : ¬ ((ms.length : Int) < (ms.length : Int)) := by omega
      have haf : D' = movesOn D ms := haf
      obtain ⟨w1, ca, cc, ev, hca, hcl, hw1, ho, htp, hp, hsz, hbk⟩ := clear_mv hmx
      have e1 : mva = ca := by injection ev
      have e2 : mvc = cc := by injection ev
      subst e1 e2
      have l3 : wr.cell? ⟨db, 3, none⟩ = some (.slice mva ms.length mvc) := H3.out ▸ hrx.cell (i := 3) hn
      have hmd := rows_apart hmx hrx ht
      have hfb : w1.heap[db]? = wr.heap[db]? := hbk db hmd
      have hr1 : w1.rowIs db t n F := hrx.of_block hfb
      have l4 : w1.cell? ⟨db, 3, none⟩ = some (.slice mva ms.length mvc) := H3.out ▸ hr1.cell (i := 3) hn
      have l5 : w1.frozen? ⟨db, 3, none⟩ = false := hr1.frozen 3
      have eob : (Value.slice mva 0 mvc).ownBlock = (Value.slice mva ms.length mvc).ownBlock := by cases mva <;> rfl
      have hset : ∀ b, b ≠ db → (w1.setCell ⟨db, 3, none⟩ (.slice mva 0 mvc)).heap[b]? = w1.heap[b]? := fun b hb => Below.heap_setCell _ _ _ _ hb
      have HFN : Hid (∃ mv', (w1.setCell ⟨db, 3, none⟩ (.slice mva 0 mvc)).rowIs db t n (fun i => if i = 3 then mv' else F i) ∧ (w1.setCell ⟨db, 3, none⟩ (.slice mva 0 mvc)).ownsRow B 103 3 mv' 0 [] ∧ (w1.setCell ⟨db, 3, none⟩ (.slice mva 0 mvc)).ownsMap Try.prog 9 Rf sb (N + ms.length) (movesOn D ms) ∧ Mv (NF db sb (.slice mva ms.length mvc)) (NF db sb mv') w (w1.setCell ⟨db, 3, none⟩ (.slice mva 0 mvc))) := by
        refine ⟨_, hr1.set 3 _, rows_keep hw1 (fun q e => hset q (fun e2 => hmd (by rw [← eob, ← e2]; exact e))), ?_, ?_⟩
        · have hms := rows_map hmx hD'
          obtain ⟨es, clock, hb, q⟩ := hD'
          rw [← haf]
          exact ⟨es, clock, ((hset sb (fun e => hdb e.symm)).trans (hbk sb hms)).trans hb, q⟩
        · refine ⟨ho.trans hM.os, htp.trans hM.tape, hp.trans hM.output, ?_, fun x hx hnf => ?_, fun x hf => ?_⟩
          · have := hM.size
            show w.heap.size ≤ (w1.setCell _ _).heap.size
            rw [show (w1.setCell ⟨db, 3, none⟩ (.slice mva 0 mvc)).heap.size = w1.heap.size by simp [World.setCell], hsz]
            exact this
          · exact ((hset x (fun e => hnf (.inl e))).trans (hbk x (fun e => hnf (.inr (.inl e))))).trans (hM.block x hx (fun e => hnf (.inr (.inr e))))
          · rcases hf with e | e | e
            · exact .inl (.inl e)
            · exact .inl (.inr (.inl (eob ▸ e)))
            · exact .inl (.inr (.inr e))
      clear haf hD' hM hrx hmx hw1 ho htp hp hsz hbk hmd hfb hr1 eob hset e ev l1 hdb HR HM HD HK H1 H3
      generalize hLL : ms.length = L at *
      have HLL : Hid (ms.length = L) := hLL
      clear hLL hN hi hlt
      rcases hca with ⟨rfl, rfl, hL0⟩ | ⟨g, rfl⟩
      · subst hL0
        go_wp2_with fail
        go_end0
        exact ⟨rfl, by rw [HLL.out]; exact HFN.out⟩
      · have hcc0 : (0 : Int) ≤ (mvc : Int) := by omega
        go_wp2_with fail
        go_end0
        exact ⟨rfl, by rw [HLL.out]; exact HFN.out⟩
end Go.Proofs.Ytbnlgohaaadgeaa
