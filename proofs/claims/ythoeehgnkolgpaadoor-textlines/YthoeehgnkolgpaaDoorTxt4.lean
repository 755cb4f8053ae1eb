/- What Amount answers of any text. -/
import Derived.Test.YthoeehgnkolgpaaDoorTxt3
namespace Go.Proofs.YthoeehgnkolgpaaDoor
open Go.RowKit

theorem isWhole_c (f : List UInt8) (m : Int) (w : World) (hs : f.length < 4294967281) (hm : w.cell? ⟨5, 0, none⟩ = some (.int .i64 m)) :
    Calls Tryd.prog 33 #[.string ⟨f.toArray⟩] w fun e w' => e = .returned (.bool (wholeM f)) ∧ Below w.heap.size w w' :=
  isWhole_any ⟨f.toArray⟩ m w (by rw [back_size]; exact hs) hm
theorem isPart_c (f : List UInt8) (w : World) :
    Calls Tryd.prog 34 #[.string ⟨f.toArray⟩] w fun e w' => e = .returned (.bool (isPartM f)) ∧ Below w.heap.size w w' := isPart_any ⟨f.toArray⟩ w
theorem append_data (a b : List UInt8) : ((⟨a.toArray⟩ : ByteArray) ++ (⟨b.toArray⟩ : ByteArray)).data.toList = a ++ b := by
  simp
theorem number_c (f g : List UInt8) (w : World) (hf : figures (f ++ g)) :
    Calls Tryd.prog 35 #[.string ((⟨f.toArray⟩ : ByteArray) ++ (⟨g.toArray⟩ : ByteArray))] w fun e w' => e = .returned (numberV (f ++ g)) ∧ Below w.heap.size w w' := by
  have h := number_any ((⟨f.toArray⟩ : ByteArray) ++ (⟨g.toArray⟩ : ByteArray)) w (by rw [append_data]; exact hf)
  rw [append_data] at h
  exact h
def amountV (l : List UInt8) : Value := .tuple #[.int .u64 ((amountM l).1 : Nat), .int .i64 ((amountM l).2 : Nat)]

set_option maxHeartbeats 3200000 in
set_option maxRecDepth 100000 in
theorem amount_any (s : ByteArray) (m : Int) (w : World) (hs : s.size < 4294967281) (hm : w.cell? ⟨5, 0, none⟩ = some (.int .i64 m)) :
    Calls Tryd.prog 11 #[.string s] w fun e w' => e = .returned (amountV s.data.toList) ∧ Below w.heap.size w w' := by
  have hcut := cut_call s 46 m w hs hm
  have hle := cut1_fst_le 46 s.data.toList
  rw [list_size] at hle
  unfold amountV amountM
  obtain ⟨f, hf⟩ : ∃ f, f = (cut1 46 s.data.toList).1 := ⟨_, rfl⟩
  obtain ⟨r, hr⟩ : ∃ r, r = (cut1 46 s.data.toList).2.1 := ⟨_, rfl⟩
  obtain ⟨g, hg⟩ : ∃ g, g = (cut1 46 s.data.toList).2.2 := ⟨_, rfl⟩
  rw [← hf, ← hr, ← hg] at hcut
  rw [← hf, ← hr] at hle
  rw [← hf, ← hr, ← hg]
  clear hf hr hg
  have hmm := World.block_lt_of_cell? _ _ hm
  have hw := fun n => isWhole_c f m (w.drewN n) (by omega) hm
  have hp := isPart_c r
  obtain ⟨WH, hWH⟩ : ∃ x, x = wholeM f := ⟨_, rfl⟩
  obtain ⟨PA, hPA⟩ : ∃ x, x = isPartM r := ⟨_, rfl⟩
  rw [← hWH] at hw
  rw [← hPA] at hp
  rw [← hWH, ← hPA]
  have fig0 : WH = true → g = false → figures (f ++ [48, 48]) := fun h _ => figures_app (whole_figures (by rw [← hWH]; exact h)) (fun b hb => by simp at hb; subst hb; right; decide)
  have fig1 : WH = true → PA = true → figures (f ++ r) := fun h h2 => figures_app (whole_figures (by rw [← hWH]; exact h)) (allD_figures (by rw [hPA] at h2; exact (Bool.and_eq_true_iff.1 h2).2))
  have Fig0 := hide fig0
  have Fig1 := hide fig1
  have Hw := hide hw
  have Hp := hide hp
  clear fig0 fig1 hWH hPA hw hp
  go_enter Tryd.func11, Tryd.ntmps11
  cases WH with
  | false =>
    go_wp2_with (first
      | (go_at_call 32; refine hcut.mono ?_; rintro e w' ⟨rfl, n, rfl⟩)
      | (go_at_call 33; refine (Hw.out _).mono ?_; rintro e w2 ⟨rfl, hb2⟩))
    go_ret2
    exact ⟨rfl, (below_drewN (Below.refl _ _) _).trans hb2⟩
  | true =>
    cases g with
    | false =>
      have hn := fun W => number_c f [48, 48] W (Fig0.out rfl rfl)
      rw [show (if false = true then r else [48, 48]) = [48, 48] from rfl]
      unfold numberV at hn
      generalize valFrom 0 (f ++ [48, 48]) = V at *
      have Hn := hide hn
      clear hn
      by_cases hV : V ≤ 9007199254740992
      · simp only [if_pos hV] at Hn ⊢
        go_wp2_with (first
          | (go_at_call 32; refine hcut.mono ?_; rintro e w' ⟨rfl, n, rfl⟩)
          | (go_at_call 33; refine (Hw.out _).mono ?_; rintro e w2 ⟨rfl, hb2⟩)
          | (go_at_call 35; refine (Hn.out _).mono ?_; rintro e w3 ⟨rfl, hb3⟩))
        go_ret2
        exact ⟨rfl, ((below_drewN (Below.refl _ _) _).trans hb2).trans (hb3.mono hb2.size)⟩
      · simp only [if_neg hV] at Hn ⊢
        go_wp2_with (first
          | (go_at_call 32; refine hcut.mono ?_; rintro e w' ⟨rfl, n, rfl⟩)
          | (go_at_call 33; refine (Hw.out _).mono ?_; rintro e w2 ⟨rfl, hb2⟩)
          | (go_at_call 35; refine (Hn.out _).mono ?_; rintro e w3 ⟨rfl, hb3⟩))
        go_ret2
        exact ⟨rfl, ((below_drewN (Below.refl _ _) _).trans hb2).trans (hb3.mono hb2.size)⟩
    | true =>
      cases PA with
      | false =>
        go_wp2_with (first
          | (go_at_call 32; refine hcut.mono ?_; rintro e w' ⟨rfl, n, rfl⟩)
          | (go_at_call 33; refine (Hw.out _).mono ?_; rintro e w2 ⟨rfl, hb2⟩)
          | (go_at_call 34; refine (Hp.out _).mono ?_; rintro e w3 ⟨rfl, hb3⟩))
        go_ret2
        exact ⟨rfl, ((below_drewN (Below.refl _ _) _).trans hb2).trans (hb3.mono hb2.size)⟩
      | true =>
        have hn := fun W => number_c f r W (Fig1.out rfl rfl)
        rw [show (if true = true then r else [48, 48]) = r from rfl]
        unfold numberV at hn
        generalize valFrom 0 (f ++ r) = V at *
        have Hn := hide hn
        clear hn
        by_cases hV : V ≤ 9007199254740992
        · simp only [if_pos hV] at Hn ⊢
          go_wp2_with (first
            | (go_at_call 32; refine hcut.mono ?_; rintro e w' ⟨rfl, n, rfl⟩)
            | (go_at_call 33; refine (Hw.out _).mono ?_; rintro e w2 ⟨rfl, hb2⟩)
            | (go_at_call 34; refine (Hp.out _).mono ?_; rintro e w3 ⟨rfl, hb3⟩)
            | (go_at_call 35; refine (Hn.out _).mono ?_; rintro e w4 ⟨rfl, hb4⟩))
          go_ret2
          exact ⟨rfl, (((below_drewN (Below.refl _ _) _).trans hb2).trans (hb3.mono hb2.size)).trans (hb4.mono (Nat.le_trans hb2.size hb3.size))⟩
        · simp only [if_neg hV] at Hn ⊢
          go_wp2_with (first
            | (go_at_call 32; refine hcut.mono ?_; rintro e w' ⟨rfl, n, rfl⟩)
            | (go_at_call 33; refine (Hw.out _).mono ?_; rintro e w2 ⟨rfl, hb2⟩)
            | (go_at_call 34; refine (Hp.out _).mono ?_; rintro e w3 ⟨rfl, hb3⟩)
            | (go_at_call 35; refine (Hn.out _).mono ?_; rintro e w4 ⟨rfl, hb4⟩))
          go_ret2
          exact ⟨rfl, (((below_drewN (Below.refl _ _) _).trans hb2).trans (hb3.mono hb2.size)).trans (hb4.mono (Nat.le_trans hb2.size hb3.size))⟩
end Go.Proofs.YthoeehgnkolgpaaDoor
