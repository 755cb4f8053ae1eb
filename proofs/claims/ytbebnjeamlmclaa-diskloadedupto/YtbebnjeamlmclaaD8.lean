/- Package disk: Crash of a loaded disk. -/
import Derived.Test.YtbebnjeamlmclaaD7
import Derived.Laws.OwnMore
namespace Go.Proofs.Ytbebnjeamlmclaa
open Go.RowKit Go.Maps Go.Sort Go.Shelf
set_option maxRecDepth 100000
set_option maxRecDepth 100000

/-- A list of numbers, as it lies in memory. -/
def Picks (w : World) (a : Option Addr) (n : Nat) : Prop := ∀ j, j < n → ∃ b o, a = some ⟨b, o, none⟩ ∧ ∃ p : Int, w.cell? ⟨b, o + j, none⟩ = some (.int .i64 p)
theorem Picks.on {w w' : World} {a : Option Addr} {n : Nat} (h : Picks w a n) (hb : Below w.heap.size w w') : Picks w' a n := fun j hj => by
  obtain ⟨b, o, e, p, hc⟩ := h j hj
  exact ⟨b, o, e, p, cel_on hb hc⟩

theorem pick0_any (a : Option Addr) (n c i : Nat) (w : World) (h : Picks w a n) :
    Calls Try.prog 48 #[.slice a n c, .int .i64 i, .int .i64 0] w fun e w' => e = .returned (.int .i64 0) ∧ w' = w := by
  by_cases hlt : n ≤ i
  · have hz : (n : Int) ≤ (i : Int) := by omega
    go_enter Try.func48, Try.ntmps48
    go_wp2_with fail
    go_ret
    exact ⟨rfl, rfl⟩
  · obtain ⟨b, o, rfl, p, hc⟩ := h i (by omega)
    have hz : ¬ (n : Int) ≤ (i : Int) := by omega
    have hz2 : (i : Int) < (n : Int) := by omega
    have hm : p.tmod 1 = 0 := by simp
    clear h
    go_enter Try.func48, Try.ntmps48
    go_wp2_with fail
    go_ret
    exact ⟨rfl, rfl⟩

theorem namesAfter_any {w : World} {db sb nb room n : Nat} {nm : Nat → ByteArray} {fb dl : Nat → Nat} {dx : Nat → Nat → Nat} (h : Disk0 w db sb nb room n nm fb dl dx) :
    Calls Try.prog 47 #[.pointer (some ⟨db, 1, none⟩), .int .i64 0] w fun e w' => ∃ cb, e = .returned (.map (some cb)) ∧ w'.ownsMap Try.prog 9 Rf cb n (nmD nm fb n) ∧ w.heap.size ≤ cb ∧ Below w.heap.size w w' := by
  have c1 : w.cell? ⟨db, 1, none⟩ = some (.map (some sb)) := h.row.cell (i := 1) (by decide)
  have c3 : w.cell? ⟨db, 3, none⟩ = some (.slice none 0 0) := h.row.cell (i := 3) (by decide)
  have hcl := AnyW.maps_Clone_owns cloneL 9 Rf sb n (nmD nm fb n) w h.safe
  have HC : Hid (Calls Try.prog 61 #[.map (some sb)] w fun e w' => e = .returned (.map (some w.heap.size)) ∧ w'.ownsMap Try.prog 9 Rf w.heap.size n (nmD nm fb n) ∧ w'.ownsMap Try.prog 9 Rf sb n (nmD nm fb n) ∧ Below w.heap.size w w') := hcl
  clear h hcl
  go_enter Try.func47, Try.ntmps47
  go_wp2_with fail
  refine HC.out.mono ?_
  rintro e w1 ⟨rfl, hm, _, hb⟩
  have d3 := cel_on hb c3
  clear HC c1 c3
  go_wp2_with fail
  go_loopg [20] 0 (fun q s20 wx => q = 0 ∧ s20 = .int .i64 0 ∧ w1 = wx)
  case atStart => exact ⟨rfl, rfl, rfl⟩
  case round =>
    obtain ⟨rfl, rfl, rfl⟩ := hrel
    go_wp2_with fail
    go_ret
    exact ⟨w.heap.size, rfl, hm, Nat.le_refl _, hb⟩

theorem infoFB : (Try.prog.info? 28).map (fun i => (i.zero, i.size, i.bytes)) = some (some (.agg #[.string ByteArray.empty, .slice none 0 0]), 2, 40) := by kernel_rfl
theorem made_fb (w : World) (n : Nat) (hn : n ≤ 1000) : ∃ W, (∀ kl kc, (Instr.makeSlice 22 (.int kl (n : Int)) (.int kc (n : Int))).run Try.prog w = .ok (.slice (some ⟨w.heap.size, 0, none⟩) n n) W) ∧ Below w.heap.size w W ∧ (∃ F, W.rowIs w.heap.size 28 (n * 2) F) ∧ W.heap.size = w.heap.size + 1 := by
  obtain ⟨i0, hi, hh⟩ := Option.map_eq_some_iff.1 infoFB
  simp only [Prod.mk.injEq] at hh
  obtain ⟨hz, hs, hb⟩ := hh
  refine ⟨w.alloc (.cells (madeCells (Value.agg #[.string ByteArray.empty, .slice none 0 0]).cells (n * 2)) 28), fun kl kc => ?_, (Below.refl _ _).alloc (Nat.le_refl _) _, ⟨fun j => ((madeCells (Value.agg #[.string ByteArray.empty, .slice none 0 0]).cells (n * 2))[j]?).getD undef, ?_⟩, by simp⟩
  · have hr := run_make (P := Try.prog) w 22 28 i0 _ Try.underlying22 hi hz kl kc n n (by omega) (Int.le_refl _) (by rw [hb]; omega) (by omega)
    simp only [Int.toNat_natCast, hs] at hr
    exact hr
  · have hr := World.rowIs_alloc w (madeCells (Value.agg #[.string ByteArray.empty, .slice none 0 0]).cells (n * 2)) 28 (fun j => ((madeCells (Value.agg #[.string ByteArray.empty, .slice none 0 0]).cells (n * 2))[j]?).getD undef) (fun j hj => by rw [Array.getElem?_eq_getElem hj]; rfl)
    rwa [size_madeCells] at hr

/-- The image as it grows. -/
structure Cr (w wx : World) (gb cb n i : Nat) (nm : Nat → ByteArray) (fb dl : Nat → Nat) (dx : Nat → Nat → Nat) : Prop where
  below : Below w.heap.size w wx
  map : wx.ownsMap Try.prog 9 Rf cb n (nmD nm fb n)
  row : ∃ F, wx.rowIs gb 28 (n * 2) F
  done : ∀ k, k < i → wx.cell? ⟨gb, k * 2, none⟩ = some (.string (nm k)) ∧ ∃ g, wx.cell? ⟨gb, k * 2 + 1, none⟩ = some (.slice (some ⟨g, 0, none⟩) (dl k) (dl k)) ∧ g ≠ gb ∧ Byt wx (some ⟨g, 0, none⟩) (dl k) (dx k)
theorem Cr.on {w wx wy : World} {gb cb n i : Nat} {nm : Nat → ByteArray} {fb dl : Nat → Nat} {dx : Nat → Nat → Nat} (h : Cr w wx gb cb n i nm fb dl dx) (hb : Below wx.heap.size wx wy) : Cr w wy gb cb n i nm fb dl dx := by
  obtain ⟨F, hF⟩ := h.row
  refine ⟨h.below.trans (hb.mono h.below.size), map_on h.map hb, ⟨F, hF.of_block (hb.block _ hF.lt)⟩, fun k hk => ?_⟩
  obtain ⟨h1, g, h2, h3, h4⟩ := h.done k hk
  exact ⟨cel_on hb h1, g, cel_on hb h2, h3, h4.on hb⟩
/-- File i is laid. -/
theorem Cr.store {w wx : World} {gb cb n i : Nat} {nm : Nat → ByteArray} {fb dl : Nat → Nat} {dx : Nat → Nat → Nat} (h : Cr w wx gb cb n i nm fb dl dx) (hgb : w.heap.size ≤ gb) {g : Nat} (hg : g ≠ gb) (hb : Byt wx (some ⟨g, 0, none⟩) (dl i) (dx i)) (hi : i < n) :
    Cr w ((wx.setCell ⟨gb, i * 2, none⟩ (.string (nm i))).setCell ⟨gb, i * 2 + 1, none⟩ (.slice (some ⟨g, 0, none⟩) (dl i) (dl i))) gb cb n (i + 1) nm fb dl dx := by
  obtain ⟨F, hF⟩ := h.row
  have r1 := hF.set (i * 2) (.string (nm i))
  have r2 := r1.set (i * 2 + 1) (.slice (some ⟨g, 0, none⟩) (dl i) (dl i))
  have hset : ∀ b, b ≠ gb → ((wx.setCell ⟨gb, i * 2, none⟩ (.string (nm i))).setCell ⟨gb, i * 2 + 1, none⟩ (.slice (some ⟨g, 0, none⟩) (dl i) (dl i))).heap[b]? = wx.heap[b]? := fun b hb => (Below.heap_setCell _ _ _ _ hb).trans (Below.heap_setCell _ _ _ _ hb)
  have hby : ∀ g' m x, g' ≠ gb → Byt wx (some ⟨g', 0, none⟩) m x → Byt ((wx.setCell ⟨gb, i * 2, none⟩ (.string (nm i))).setCell ⟨gb, i * 2 + 1, none⟩ (.slice (some ⟨g, 0, none⟩) (dl i) (dl i))) (some ⟨g', 0, none⟩) m x := fun g' m x hne hx j hj => by
    obtain ⟨b, o, e, hc⟩ := hx j hj
    cases e
    exact ⟨g', 0, rfl, by rw [World.cell?_of_block (a := ⟨g', 0 + j, none⟩) (hset g' hne)]; exact hc⟩
  refine ⟨(h.below.setCell hgb _).setCell hgb _, ?_, ⟨_, r2⟩, fun k hk => ?_⟩
  · have hm := h.map
    obtain ⟨es, clock, hx, Ft, hs, hD⟩ := hm
    have hne : cb ≠ gb := by
      rintro rfl
      obtain ⟨c, hc, _⟩ := hF
      rw [hx] at hc
      cases hc
    exact ⟨es, clock, (hset cb hne).trans hx, Ft, hs, hD⟩
  · by_cases e : k = i
    · subst e
      refine ⟨?_, g, ?_, hg, hby g _ _ hg hb⟩
      · rw [r2.cell (i := k * 2) (by omega)]
        simp
      · rw [r2.cell (i := k * 2 + 1) (by omega)]
        simp
    · obtain ⟨h1, g', h2, h3, h4⟩ := h.done k (by omega)
      rw [hF.cell (i := k * 2) (by omega)] at h1
      rw [hF.cell (i := k * 2 + 1) (by omega)] at h2
      refine ⟨?_, g', ?_, h3, hby g' _ _ h3 h4⟩
      · rw [r2.cell (i := k * 2) (by omega), if_neg (by omega), if_neg (by omega)]
        exact h1
      · rw [r2.cell (i := k * 2 + 1) (by omega), if_neg (by omega), if_neg (by omega)]
        exact h2

set_option maxHeartbeats 3200000 in
theorem crash_any {w : World} {db sb nb room n : Nat} {nm : Nat → ByteArray} {fb dl : Nat → Nat} {dx : Nat → Nat → Nat} (h : Disk0 w db sb nb room n nm fb dl dx) (hI : imgB n nm = true) (hs : ∀ i, i < n → (nm i).size ≤ 1048576) (hd : ∀ i, i < n → dl i ≤ 1048576) (pa : Option Addr) (pn pc : Nat) (hp : Picks w pa pn) :
    Calls Try.prog 20 #[.pointer (some ⟨db, 0, none⟩), .slice pa pn pc] w fun e w' => ∃ g, e = .returned (.slice (some ⟨g, 0, none⟩) n n) ∧ Img w' (some ⟨g, 0, none⟩) n nm dl dx ∧ Below w.heap.size w w' := by
  have h64 := img_64 hI
  have c3 : w.cell? ⟨db, 3, none⟩ = some (.slice none 0 0) := h.row.cell (i := 3) (by decide)
  have HP : Hid (∀ W i, Below w.heap.size w W → Calls Try.prog 48 #[.slice pa pn pc, .int .i64 ((i : Nat) : Int), .int .i64 0] W fun e w' => e = .returned (.int .i64 0) ∧ w' = W) := fun W i hb => pick0_any pa pn pc i W (hp.on hb)
  have HP0 : Hid (∀ W, Below w.heap.size w W → Calls Try.prog 48 #[.slice pa pn pc, .int .i64 0, .int .i64 0] W fun e w' => e = .returned (.int .i64 0) ∧ w' = W) := fun W hb => pick0_any pa pn pc 0 W (hp.on hb)
  have HA : Hid (∀ W, Below w.heap.size w W → Calls Try.prog 47 #[.pointer (some ⟨db, 1, none⟩), .int .i64 0] W fun e w' => ∃ cb, e = .returned (.map (some cb)) ∧ w'.ownsMap Try.prog 9 Rf cb n (nmD nm fb n) ∧ Below W.heap.size W w') := fun W hb => (namesAfter_any (h.on hb)).mono fun e w' ⟨cb, he, hm, _, hbb⟩ => ⟨cb, he, hm, hbb⟩
  have HD : Hid (∀ W, Below w.heap.size w W → Disk0 W db sb nb room n nm fb dl dx) := fun W hb => h.on hb
  have HS : Hid _ := hs
  have HL : Hid _ := hd
  have HI : Hid (imgB n nm = true) := hI
  clear hs hd h hp hI
  have b0 : Below w.heap.size w w := Below.refl _ _
  have b0d : Below w.heap.size w w.drew := (Below.refl _ _).drew
  go_enter Try.func20, Try.ntmps20
  go_upto_region 1 with fail
  go_region_held3 (fun W => W.cell? ⟨db, 3, none⟩ = some (.slice none 0 0))
    (first | exact c3 | exact cel_on hbA c3)
    (first
      | (go_at_call 48; refine (HP0.out _ (by first | exact b0 | exact b0d)).mono ?_; rintro e w1 ⟨rfl, rfl⟩)
      | (go_at_call 47; refine (HA.out _ (by first | exact b0 | exact b0d)).mono ?_; rintro e w2 ⟨cb, rfl, hmp, hbA⟩))
  all_goals
    have hb2 : Below w.heap.size w w2 := b0d.trans hbA
    have hsz := nmD_size nm fb n (img_inj HI.out)
    have hlen := hmp.len Try.underlying74 3
    rw [hsz] at hlen
    obtain ⟨W3, hmk, hb3, hrow, hz3⟩ := made_fb w2 n (by omega)
    have hmk' := hmk .i64 .i64
    have hmp3 := map_on hmp hb3
    have HSO : Hid (Calls Try.prog 41 #[.map (some cb)] W3 fun e w' => ∃ a c, e = .returned (.slice a n c) ∧ (∀ i, i < n → ∃ g, a = some ⟨g, 0, none⟩ ∧ w'.cell? ⟨g, i, none⟩ = some (.string (nm i)) ∧ W3.heap.size ≤ g) ∧ Below W3.heap.size W3 w') := sorted_names hmp3 HI.out
    have hC0 : Cr w W3 w2.heap.size cb n 0 nm fb dl dx := ⟨hb2.trans (hb3.mono hb2.size), hmp3, hrow, fun k hk => absurd hk (Nat.not_lt_zero _)⟩
    have HG : Hid (w.heap.size ≤ w2.heap.size ∧ w2.heap.size < W3.heap.size) := ⟨hb2.size, by omega⟩
    clear hmk hmp hmp3 hrow hz3 hb3 hsz hb2 hbA c3
    go_wp2_with fail
    refine HSO.out.mono ?_
    rintro e w4 ⟨a, c, rfl, hnames, hb4⟩
    have hC4 := hC0.on hb4
    have HG4 : Hid (w.heap.size ≤ w2.heap.size ∧ w2.heap.size < w4.heap.size) := ⟨HG.out.1, Nat.lt_of_lt_of_le HG.out.2 hb4.size⟩
    have HN : Hid (∀ i, i < n → ∃ g, a = some ⟨g, 0, none⟩ ∧ w4.cell? ⟨g, i, none⟩ = some (.string (nm i)) ∧ g ≠ w2.heap.size) := fun i hi => by
      obtain ⟨g, e, hc, hge⟩ := hnames i hi
      exact ⟨g, e, hc, by have := HG.out.2; omega⟩
    clear HSO hC0 hnames HG hmk' hlen
    generalize w2.heap.size = gb at *
    go_wp2_with fail
    go_loopg [28] n (fun q s28 wx => ∃ (i : Nat), i ≤ n ∧ q = n - i ∧ s28 = .int .i64 i ∧ Cr w wx gb cb n i nm fb dl dx ∧ gb < wx.heap.size ∧ ∀ i, i < n → ∃ g, a = some ⟨g, 0, none⟩ ∧ wx.cell? ⟨g, i, none⟩ = some (.string (nm i)) ∧ g ≠ gb)
    case atStart => exact ⟨0, Nat.zero_le _, rfl, rfl, hC4, HG4.out.2, HN.out⟩
    case round =>
      obtain ⟨i, hi, rfl, rfl, hC, hgl, hnm⟩ := hrel
      have HNM : Hid _ := hnm
      have hgb := HG4.out.1
      clear hnm hC4 HN HG4
      by_cases hlt : i < n
      · have hz : (i : Int) < (n : Int) := by omega
        obtain ⟨g, rfl, hcn, hgn⟩ := HNM.out i hlt
        have hD := HD.out wr hC.below
        have hF := hD.files i hlt
        have hlk := look_at hC.map (img_inj HI.out) hlt (HS.out i hlt)
        have hu := units0_any hF
        have hpk := HP.out wr (i + 1) hC.below
        have haf := after0_any hF (by have := HL.out i hlt; omega) 0
        obtain ⟨F, hF2⟩ := hC.row
        clear hD hF
        have hcast : ((i + 1 : Nat) : Int) = (i : Int) + 1 := by omega
        rw [hcast] at hpk
        clear hcast
        go_wp2_with fail
        refine hu.mono ?_
        rintro e w5 ⟨rfl, rfl⟩
        clear hu hlk
        go_wp2_with fail
        refine hpk.mono ?_
        rintro e w5 ⟨rfl, rfl⟩
        clear hpk
        go_wp2_with fail
        refine haf.mono ?_
        rintro e w6 ⟨g6, rfl, hge6, hb6, hr6⟩
        clear haf hcn
        have hC6 := hC.on hb6
        have hst := hC6.store hgb (g := g6) (by omega) (Byt.of_row hr6) hlt
        have hF6 := hF2.of_block (hb6.block _ hF2.lt)
        have k0 := hF6.cell (i := i * 2) (by omega)
        have f0 := hF6.frozen (i * 2)
        have hF7 := hF6.set (i * 2) (.string (nm i))
        have k1 := hF7.cell (i := i * 2 + 1) (by omega)
        have f1 := hF7.frozen (i * 2 + 1)
        rw [if_neg (by omega)] at k1
        have hgl6 : gb < w6.heap.size := Nat.lt_of_lt_of_le hgl hb6.size
        have HNM6 : Hid (∀ j, j < n → ∃ g', (some ⟨g, 0, none⟩ : Option Addr) = some ⟨g', 0, none⟩ ∧ ((w6.setCell ⟨gb, i * 2, none⟩ (.string (nm i))).setCell ⟨gb, i * 2 + 1, none⟩ (.slice (some ⟨g6, 0, none⟩) (dl i) (dl i))).cell? ⟨g', j, none⟩ = some (.string (nm j)) ∧ g' ≠ gb) := fun j hj => by
          obtain ⟨g', e, hc', hne⟩ := HNM.out j hj
          refine ⟨g', e, ?_, hne⟩
          rw [World.cell?_of_block (a := ⟨g', j, none⟩) ((Below.heap_setCell _ _ _ _ hne).trans (Below.heap_setCell _ _ _ _ hne))]
          exact cel_on hb6 hc'
        clear HNM hC6 hC hb6 hr6 hF2 hF6 hF7 hge6
        generalize nm i = s at *
        generalize dl i = d at *
        go_wp2_with fail
        go_roundg (n - (i + 1))
        case measure => go_light; omega
        case rel => go_light; exact ⟨i + 1, by omega, rfl, by simp, hst, by simpa [World.setCell] using hgl6, HNM6.out⟩
      · obtain rfl : i = n := by omega
        go_wp2_with fail
        go_ret
        refine ⟨gb, rfl, fun k hk => ?_, hC.below⟩
        obtain ⟨h1, g, h2, _, h4⟩ := hC.done k hk
        exact ⟨gb, 0, rfl, by rw [Nat.zero_add]; exact h1, _, _, by rw [Nat.zero_add]; exact h2, h4⟩
end Go.Proofs.Ytbebnjeamlmclaa
