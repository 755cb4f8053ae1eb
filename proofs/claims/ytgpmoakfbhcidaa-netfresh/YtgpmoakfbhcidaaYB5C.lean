/- Look into a variable, with what is kept. -/
import Derived.Test.YtgpmoakfbhcidaaYB5B
namespace Go.Proofs.Ytgpmoakfbhcidaa
open Go.RowKit
set_option maxRecDepth 100000
set_option maxRecDepth 100000
section
variable {W0 w w' : World} {sb bk xb pb L T lo m : Nat} {ov : Value} {P : Nat → Option PM} {nv vv : Nat → Value} {F : Nat → Nat → Prop} {fam : Nat → Nat → Prop}
theorem HdS.look3 (h : HdS W0 w sb bk xb pb L T lo m ov P nv vv F fam) {k : Nat} (hk : k < 2) {mm : PM} (hP : P k = some mm) :
    ∃ nb rb, nv k = .pointer (some ⟨nb, 0, none⟩) ∧ vv k = .pointer (some ⟨rb, 0, none⟩) ∧ ∀ W, Below w.heap.size w W → W.cell? ⟨sb, k, none⟩ = some (.pointer (some ⟨nb, 0, none⟩)) ∧ W.cell? ⟨sb, 2 + k, none⟩ = some (.pointer (some ⟨rb, 0, none⟩)) ∧
      Hid (∀ W', Below W.heap.size W W' → Calls Try.prog 16 #[.pointer (some ⟨rb, 0, none⟩)] W' fun e w' => e = .returned (.int .i64 (mm.ms.length : Nat)) ∧ w' = W') ∧ Hid (mm.ms.length ≤ 8192) ∧
      Hid (∀ i : Int, Calls Try.prog 15 #[.pointer (some ⟨nb, 0, none⟩), .int .i64 i] (W.alloc (.cells #[.int .i64 0, .slice none 0 0] 70)).drew fun e w4 => ∃ (x : Int) (fa : Option Addr) (n fc : Nat) (ok : Bool), e = .returned (.tuple #[.agg #[.int .i64 x, .slice fa n fc], .bool ok]) ∧ w4.cell? ⟨W.heap.size, 0, none⟩ = some (.int .i64 0) ∧ w4.cell? ⟨W.heap.size, 1, none⟩ = some (.slice none 0 0) ∧ w4.frozen? ⟨W.heap.size, 0, none⟩ = false ∧ w4.frozen? ⟨W.heap.size, 1, none⟩ = false ∧ Hid (Below W.heap.size W w4) ∧
        Hid (Fl W ((w4.setCell ⟨W.heap.size, 0, none⟩ (.int .i64 x)).setCell ⟨W.heap.size, 1, none⟩ (.slice fa n fc)) W0.heap.size W.heap.size fa n fc)) ∧
      Hid (∀ i : Int, Calls Try.prog 15 #[.pointer (some ⟨nb, 0, none⟩), .int .i64 i] W.drew fun e w4 => ∃ (x : Int) (fa : Option Addr) (n fc : Nat) (ok : Bool), e = .returned (.tuple #[.agg #[.int .i64 x, .slice fa n fc], .bool ok]) ∧ Hid (Below W.heap.size W w4) ∧
        Hid (Fl W (w4.alloc (.cells #[.int .i64 x, .slice fa n fc] 70)) W0.heap.size w4.heap.size fa n fc)) := by
  obtain ⟨nb, rb, en, ev, hlk⟩ := h.st.look hk hP
  refine ⟨nb, rb, en, ev, fun W hW => ?_⟩
  have hWS := h.on hW
  refine ⟨by rw [← en]; exact hWS.st.cn hk, by rw [← ev]; exact hWS.st.cv hk, fun W' hW' => ?_, ?_, fun i => ?_, fun i => ?_⟩
  · obtain ⟨nb', rb', en', ev', _, hl, _⟩ := (hWS.on hW').st.count hk hP
    obtain rfl : rb = rb' := by rw [ev] at ev'; simpa using ev'
    exact hl.out
  · have hp := h.st.pair k hk
    rw [hP] at hp
    obtain ⟨nb, mv, rb, fv, xs, _, _, hN, _⟩ := hp.go
    have := hN.le
    have := hN.rm
    show mm.ms.length ≤ 8192
    omega
  · have hba : Below W.heap.size W (W.alloc (.cells #[.int .i64 0, .slice none 0 0] 70)).drew := ((Below.refl _ _).alloc (Nat.le_refl _) _).drew
    have hraw : (W.alloc (.cells #[.int .i64 0, .slice none 0 0] 70)).drew.rowIs W.heap.size 70 2 (fun i => (#[Value.int .i64 0, .slice none 0 0])[i]!) := flZ_row W
    have hza : (W.alloc (.cells #[.int .i64 0, .slice none 0 0] 70)).drew.heap.size = W.heap.size + 1 := by simp
    generalize (W.alloc (.cells #[.int .i64 0, .slice none 0 0] 70)).drew = Wa at *
    refine (hlk i Wa (hW.trans (hba.mono hW.size))).mono fun e w4 ⟨x, fa, n, fc, ok, y, he, hO, _, hn, hfa, hb4, _⟩ => ?_
    have hr4 := hraw.of_block (hb4.block _ (by omega))
    refine ⟨x, fa, n, fc, ok, he, hr4.cell (i := 0) (by decide), hr4.cell (i := 1) (by decide), hr4.frozen 0, hr4.frozen 1, hba.trans (hb4.mono (by omega)), x, y, ?_, Nat.le_refl _, ?_, ?_, hn, fun q e => by have := (hfa q e).1; omega⟩
    · have z := hb4.size
      exact ((hba.trans (hb4.mono (by omega))).setCell (Nat.le_refl _) _).setCell (Nat.le_refl _) _
    · refine ((hr4.set 0 (.int .i64 x)).set 1 (.slice fa n fc)).congr (fun i hi => ?_)
      match i, hi with
      | 0, _ => rfl
      | 1, _ => rfl
    · refine ownZ_keep hO (fun q e => ?_)
      have hne : q ≠ W.heap.size := fun e2 => ownZ_row_ne hO hr4 (by decide) (e2 ▸ e)
      exact (Below.heap_setCell _ _ _ _ hne).trans (Below.heap_setCell _ _ _ _ hne)
  · have hbd : Below W.heap.size W W.drew := (Below.refl _ _).drew
    refine (hlk i W.drew (hW.trans (hbd.mono hW.size))).mono fun e w4 ⟨x, fa, n, fc, ok, y, he, hO, _, hn, hfa, hb4, _⟩ => ?_
    have hb4' : Below W.heap.size W w4 := hbd.trans hb4
    refine ⟨x, fa, n, fc, ok, he, hb4', x, y, hb4'.trans (((Below.refl _ _).alloc (Nat.le_refl _) _).mono hb4'.size), hb4'.size, row2_alloc w4 _ _ _, ownZ_keep hO (fun q e => Below.heap_alloc _ _ _ (ownZ_lt hO q e)), hn, fun q e => (hfa q e).1⟩
end
end Go.Proofs.Ytgpmoakfbhcidaa
