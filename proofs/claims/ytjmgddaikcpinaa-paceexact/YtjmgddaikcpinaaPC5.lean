/- The laws PaceBounded and PaceAnew. -/
import Derived.Test.YtjmgddaikcpinaaPC4
namespace Go.Proofs.Ytjmgddaikcpinaa
open Go.RowKit
set_option maxRecDepth 100000
set_option maxRecDepth 100000

/-- A list of numbers, handed in. -/
def IntsIn (W : World) (a : Option Addr) (l : List Int) : Prop := ∀ i x, l[i]? = some x → ∃ b o, a = some ⟨b, o, none⟩ ∧ W.cell? ⟨b, o + i, none⟩ = some (.int .i64 x)
theorem cel_on {W W' : World} {B b o : Nat} {v : Value} (h : Below B W W') (hB : b < B) (hc : W.cell? ⟨b, o, none⟩ = some v) : W'.cell? ⟨b, o, none⟩ = some v := by
  rw [World.cell?_of_block (a := ⟨b, o, none⟩) (h.block b hB)]; exact hc
theorem cel_lt {W : World} {b o : Nat} {v : Value} (hc : W.cell? ⟨b, o, none⟩ = some v) : b < W.heap.size := by
  by_cases h : b < W.heap.size
  · exact h
  · have : W.heap[b]? = none := by simp; omega
    simp [World.cell?, this] at hc
theorem IntsIn.on {W W' : World} {a : Option Addr} {l : List Int} (h : IntsIn W a l) (hb : Below W.heap.size W W') : IntsIn W' a l := fun i x hx => by
  obtain ⟨b, o, e, hc⟩ := h i x hx
  exact ⟨b, o, e, cel_on hb (cel_lt hc) hc⟩

theorem into_one (K : Int) (m : Nat) (hm : 0 < m) (hm2 : m ≤ 1000000) (w : World) : Calls Try.prog 6 #[.int .i64 K, .int .i64 (m : Nat)] w fun e w' => w = w' ∧ ∃ k n : Nat, e = .returned (.int .i64 (k : Nat)) ∧ 1 + (k : Int) = (n : Int) ∧ IntKind.i64.wrap (n : Int) = (n : Int) ∧ Hid (1 ≤ n ∧ n ≤ m) :=
  (into_any K m hm hm2 w).mono fun e w' ⟨h1, k, hk, he⟩ => ⟨h1, k, 1 + k, he, by omega, by rw [IntKind.wrap_i64]; omega, by omega, by omega⟩

set_option maxHeartbeats 4000000 in
theorem boundedLaw (C T : Int) (a : Option Addr) (c : Nat) (rs : List Int) (w : World) (hR : IntsIn w a rs) :
    Calls Try.prog 4 #[.agg #[.int .i64 C, .slice a rs.length c, .int .i64 T]] w fun e w' => e = .returned (.bool true) ∧ Below w.heap.size w w' := by
  obtain ⟨W0, HW0⟩ : ∃ W, Hid (w.alloc (.cells #[.int .i64 C, .slice a rs.length c, .int .i64 T] 24) = W) := ⟨_, rfl⟩
  have hb0 : Below w.heap.size w W0 := by rw [← HW0.out]; exact (Below.refl _ _).alloc (Nat.le_refl _) _
  have k0 : W0.cell? ⟨w.heap.size, 0, none⟩ = some (.int .i64 C) := by rw [← HW0.out]; exact World.cell?_alloc_at (w := w) _ _ _ 0 rfl
  have k1 : W0.cell? ⟨w.heap.size, 1, none⟩ = some (.slice a rs.length c) := by rw [← HW0.out]; exact World.cell?_alloc_at (w := w) _ _ _ 1 rfl
  have k2 : W0.cell? ⟨w.heap.size, 2, none⟩ = some (.int .i64 T) := by rw [← HW0.out]; exact World.cell?_alloc_at (w := w) _ _ _ 2 rfl
  have hlt := cel_lt k0
  have HR : Hid (IntsIn W0 a rs) := hR.on hb0
  have HB0 : Hid (Below w.heap.size w W0) := hb0
  have HI1 : Hid (Calls Try.prog 6 #[.int .i64 C, .int .i64 64] W0 fun e w' => W0 = w' ∧ ∃ k n : Nat, e = .returned (.int .i64 (k : Nat)) ∧ 1 + (k : Int) = (n : Int) ∧ IntKind.i64.wrap (n : Int) = (n : Int) ∧ Hid (1 ≤ n ∧ n ≤ 64)) := into_one C 64 (by decide) (by decide) W0
  have HN : Hid (∀ m : Nat, Hid (1 ≤ m ∧ m ≤ 64) → Calls Try.prog 7 #[.int .i64 (m : Nat)] W0 fun e w' => e = .returned (.tuple #[.pointer (some ⟨W0.heap.size, 0, none⟩), .int .i64 0]) ∧ Hid (PcIs w' W0.heap.size 0 1 m ∧ Below W0.heap.size W0 w')) := fun m hm => (new_any m hm.out.1 hm.out.2 W0).mono fun e w' ⟨h1, h2, h3, _⟩ => ⟨h1, h2, h3⟩
  clear hR hb0
  generalize hsb : w.heap.size = sb at *
  go_enter Try.func4, Try.ntmps4
  go_upto_region 1 with fail
  rw [HW0.out]
  clear hsb HW0
  go_wp2_with (first
    | (go_at_call 6; refine HI1.out.mono ?_; rintro e w2 ⟨rfl, k, m, rfl, hm, wm, HM⟩)
    | (go_at_call 7; refine (HN.out m HM).mono ?_; rintro e w3 ⟨rfl, HP⟩))
  go_loopg [6] 30 (fun q s6 wx => ∃ i : Nat, i ≤ 30 ∧ i ≤ rs.length ∧ q = 30 - i ∧ s6 = .int .i64 (i : Nat) ∧ PcIs wx W0.heap.size 0 1 m ∧ Below W0.heap.size W0 wx)
  case atStart => exact ⟨0, by omega, Nat.zero_le _, rfl, rfl, HP.out⟩
  case round =>
    obtain ⟨i, hi, hil, rfl, rfl, hP, hB⟩ := hrel
    have c1 : wr.cell? ⟨sb, 1, none⟩ = some (.slice a rs.length c) := cel_on hB hlt k1
    have c2 : wr.cell? ⟨sb, 2, none⟩ = some (.int .i64 T) := cel_on hB hlt k2
    have hBsz := hB.size
    clear HN HI1 k0 k1 k2 HP
    by_cases hgo : i < rs.length ∧ i < 30
    · obtain ⟨hg1, hg2⟩ := hgo
      obtain ⟨b, o, rfl, hx⟩ := HR.out i rs[i] (List.getElem?_eq_getElem hg1)
      have hx2 : wr.cell? ⟨b, o + i, none⟩ = some (.int .i64 rs[i]) := cel_on hB (cel_lt hx) hx
      have z1 : (i : Int) < (rs.length : Int) := by omega
      have z2 : (i : Int) < 30 := by omega
      have z0 : (0 : Int) ≤ (i : Int) := by omega
      have wi1 : IntKind.i64.wrap ((i : Int) + 1) = (i : Int) + 1 := by rw [IntKind.wrap_i64]; omega
      have HI : Hid (Calls Try.prog 6 #[.int .i64 rs[i], .int .i64 500] wr fun e w' => wr = w' ∧ ∃ k n : Nat, e = .returned (.int .i64 (k : Nat)) ∧ 1 + (k : Int) = (n : Int) ∧ IntKind.i64.wrap (n : Int) = (n : Int) ∧ Hid (1 ≤ n ∧ n ≤ 500)) := into_one _ 500 (by decide) (by decide) wr
      have HBD : Hid (∀ n : Nat, Hid (1 ≤ n ∧ n ≤ 500) → Calls Try.prog 11 #[.pointer (some ⟨W0.heap.size, 0, none⟩), .int .i64 (m : Nat), .int .i64 (n : Nat)] wr fun e w' => e = .returned (.bool true) ∧ Hid (Calls Try.prog 9 #[.pointer (some ⟨W0.heap.size, 0, none⟩)] w' fun e w'' => e = .returned (.tuple #[]) ∧ Hid (PcIs w'' W0.heap.size 0 1 m ∧ Below W0.heap.size W0 w''))) := fun n hn =>
        (bounded_any hP (by have := hn.out; omega)).mono fun e w' ⟨he, ⟨l, g, hp⟩, hv⟩ => ⟨he, (reset_any hp).mono fun e w'' ⟨he2, hp2, hv2⟩ => ⟨he2, hp2, (hv.trans hv2).below hB hBsz (fun k hk => by omega)⟩⟩
      generalize rs[i] = X at *
      have hmm : 30 - (i + 1) < 30 - i := by omega
      have HL : Hid (i + 1 ≤ 30 ∧ i + 1 ≤ rs.length) := ⟨by omega, by omega⟩
      generalize rs.length = L at *
      clear hP hB hx hBsz hi hil hg1 hg2 c2
      generalize W0.heap.size = pb at *
      go_wp2_with (first
        | (go_at_call 6; refine HI.out.mono ?_; rintro e w2 ⟨rfl, k2, n2, rfl, hn2, wn2, HM2⟩)
        | (go_at_call 11; refine (HBD.out n2 HM2).mono ?_; rintro e w3 ⟨rfl, HRS⟩)
        | (go_at_call 9; refine HRS.out.mono ?_; rintro e w4 ⟨rfl, HK⟩))
      go_roundg (30 - (i + 1))
      case measure => go_light; exact hmm
      case rel => go_light; exact ⟨i + 1, HL.out.1, HL.out.2, rfl, rfl, HK.out⟩
    · have HI : Hid (Calls Try.prog 6 #[.int .i64 T, .int .i64 2000] wr fun e w' => wr = w' ∧ ∃ k n : Nat, e = .returned (.int .i64 (k : Nat)) ∧ 1 + (k : Int) = (n : Int) ∧ IntKind.i64.wrap (n : Int) = (n : Int) ∧ Hid (1 ≤ n ∧ n ≤ 2000)) := into_one _ 2000 (by decide) (by decide) wr
      have HBD : Hid (∀ n : Nat, Hid (1 ≤ n ∧ n ≤ 2000) → Calls Try.prog 11 #[.pointer (some ⟨W0.heap.size, 0, none⟩), .int .i64 (m : Nat), .int .i64 (n : Nat)] wr fun e w' => e = .returned (.bool true) ∧ Hid (Below sb w w')) := fun n hn =>
        (bounded_any hP (by have := hn.out; omega)).mono fun e w' ⟨he, _, hv⟩ => ⟨he, HB0.out.trans ((hv.below hB hBsz (fun k hk => by omega)).mono (by omega))⟩
      by_cases hg1 : i < rs.length
      · have z1 : (i : Int) < (rs.length : Int) := by omega
        have z2 : ¬ (i : Int) < 30 := by omega
        generalize rs.length = L at *
        clear hP hB hBsz hi hil hgo
        generalize W0.heap.size = pb at *
        go_wp2_with (first
          | (go_at_call 6; refine HI.out.mono ?_; rintro e w2 ⟨rfl, k2, n2, rfl, hn2, wn2, HM2⟩)
          | (go_at_call 11; refine (HBD.out n2 HM2).mono ?_; rintro e w3 ⟨rfl, HK⟩))
        go_ret
        exact ⟨rfl, HK.out⟩
      · have z1 : ¬ (i : Int) < (rs.length : Int) := by omega
        generalize rs.length = L at *
        clear hP hB hBsz hi hil hgo
        generalize W0.heap.size = pb at *
        go_wp2_with (first
          | (go_at_call 6; refine HI.out.mono ?_; rintro e w2 ⟨rfl, k2, n2, rfl, hn2, wn2, HM2⟩)
          | (go_at_call 11; refine (HBD.out n2 HM2).mono ?_; rintro e w3 ⟨rfl, HK⟩))
        go_ret
        exact ⟨rfl, HK.out⟩
end Go.Proofs.Ytjmgddaikcpinaa
