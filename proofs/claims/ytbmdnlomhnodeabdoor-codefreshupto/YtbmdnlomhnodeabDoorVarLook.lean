/- What stands at the front of bytes as a number in its shortest form; the walk of package code's lookVar. -/
import Derived.Test.YtbmdnlomhnodeabDoorReads
namespace Go.Proofs.YtbmdnlomhnodeabDoor
open Go.RowKit
set_option maxRecDepth 100000

/-- What the first i bytes say, the lowest first. -/
def vs (z : Nat → Nat) : Nat → Nat
  | 0 => 0
  | i + 1 => vs z i + z i % 128 * 128 ^ i
theorem vs_lt (z : Nat → Nat) : ∀ i, vs z i < 128 ^ i
  | 0 => by show 0 < 1; decide
  | i + 1 => by
    have h1 := vs_lt z i
    show vs z i + z i % 128 * 128 ^ i < 128 ^ (i + 1)
    rw [Nat.pow_succ]
    have h2 : z i % 128 * 128 ^ i ≤ 127 * 128 ^ i := Nat.mul_le_mul_right _ (by omega)
    omega
/-- A number, how many bytes it takes, its fault. -/
def vres (z : Nat → Nat) (m most : Nat) : Nat → Nat → Nat × Nat × Nat
  | 0, _ => (0, 0, 11)
  | f + 1, i => if i = m then (0, 0, 10) else if i = 9 ∧ 1 < z i then (0, 0, 11) else if 128 ≤ z i then vres z m most f (i + 1) else if z i = 0 ∧ 0 < i then (0, 0, 11) else if most < vs z (i + 1) then (0, 0, 12) else (vs z (i + 1), i + 1, 0)
def vlook (z : Nat → Nat) (m most : Nat) : Nat × Nat × Nat := vres z m most 10 0

theorem and127 (c : Nat) (h : c < 256) : bits .and .u8 (c : Int) 127 = ((c % 128 : Nat) : Int) := by
  have := u8_and_nat c 127 h (by decide); rw [nat_mask7] at this; exact this
theorem and128 (c : Nat) (h : c < 256) : bits .and .u8 (c : Int) 128 = if 128 ≤ c then 128 else 0 := by
  have : ∀ c : Fin 256, bits .and .u8 ((c.val : Nat) : Int) 128 = if 128 ≤ c.val then 128 else 0 := by decide +kernel
  exact this ⟨c, h⟩
theorem vs_or (z : Nat → Nat) (i : Nat) (hb : vs z (i + 1) < 18446744073709551616) : bits .or .u64 (vs z i : Int) ((z i % 128 * 128 ^ i : Nat) : Int) = ((vs z (i + 1) : Nat) : Int) := by
  have h1 := vs_lt z i
  have e : vs z (i + 1) = vs z i + z i % 128 * 128 ^ i := rfl
  have e2 : (128 : Nat) ^ i = 2 ^ (7 * i) := by rw [Nat.pow_mul]
  have := u64_or_nat (vs z i) (z i % 128 * 128 ^ i) (by omega) (by omega)
  rw [this, Nat.or_comm, e]
  have hj := nat_join (7 * i) (z i % 128 * 128 ^ i) (vs z i) (by rw [e2]; simp [Nat.mul_mod_left]) (by rw [← e2]; exact h1)
  rw [hj, Nat.add_comm]

set_option maxHeartbeats 3200000 in
theorem lookVar_walk (a : Option Addr) (m cap most : Nat) (z : Nat → Nat) (w : World) (N size bd : Nat) (hmax : m ≤ 281474976710656) (hc : Byt w a m z) (hz : ∀ j, z j < 256) (hres : vlook z m most = (N, size, bd)) :
    Calls Tryd.prog 89 #[.slice a m cap, .int .u64 most] w fun e w' => e = .returned (.tuple #[.agg #[.int .u64 N, .slice none 0 0, .int .i64 size], .int .i64 bd]) ∧ w.Since w.heap.size w' := by
  have hs0 : w.Since w.heap.size (w.alloc (.cells #[.int .u64 0, .slice none 0 0, .int .i64 0] 91)) := (World.Since.refl _ _).alloc (Nat.le_refl _) _
  have hr0 := item_row w 0 none 0 0
  go_enter Tryd.func89, Tryd.ntmps89
  go_wp2_with fail
  generalize w.alloc (.cells #[.int .u64 0, .slice none 0 0, .int .i64 0] 91) = w0 at *
  go_loopg [6, 8] 10 (fun g s6 s8 wx => ∃ i : Nat, i ≤ 10 ∧ i ≤ m ∧ g = 10 - i ∧ s6 = .int .u64 (vs z i : Nat) ∧ s8 = .int .i64 i ∧ vres z m most (10 - i) i = (N, size, bd) ∧ w.Since w.heap.size wx ∧ wx.rowIs w.heap.size 91 3 (itemCell 0 none 0 0))
  case atStart => exact ⟨0, by omega, by omega, rfl, rfl, rfl, hres, hs0, hr0⟩
  case round =>
    obtain ⟨i, hi, him, rfl, rfl, rfl, hv, hsn, hrw⟩ := hrel
    clear hs0 hr0 hres
    have o0 : wr.cell? ⟨w.heap.size, 0, none⟩ = some (.int .u64 0) := hrw.cell (by decide)
    have o1 : wr.cell? ⟨w.heap.size, 1, none⟩ = some (.slice none 0 0) := hrw.cell (by decide)
    have o2 : wr.cell? ⟨w.heap.size, 2, none⟩ = some (.int .i64 0) := hrw.cell (by decide)
    have p0 := hrw.frozen 0
    have p1 := hrw.frozen 1
    have p2 := hrw.frozen 2
    have fin : ∀ u0 u1 u2, w.Since w.heap.size (((wr.setCell ⟨w.heap.size, 0, none⟩ u0).setCell ⟨w.heap.size, 1, none⟩ u1).setCell ⟨w.heap.size, 2, none⟩ u2) := fun u0 u1 u2 =>
      ((hsn.setCell (a := ⟨w.heap.size, 0, none⟩) (Nat.le_refl _) _).setCell (a := ⟨w.heap.size, 1, none⟩) (Nat.le_refl _) _).setCell (a := ⟨w.heap.size, 2, none⟩) (Nat.le_refl _) _
    by_cases h10 : i = 10
    · subst h10
      have hv' : ((0, 0, 11) : Nat × Nat × Nat) = (N, size, bd) := hv
      cases hv'
      clear hv
      go_wp2_with fail
      refine bodyPost_ret (v := .tuple #[item0, .int .i64 11]) (by simp [results, Tryd.results89, go_sem, o0, o1, o2]) rfl ⟨rfl, fin _ _ _⟩
    · obtain ⟨f, hf⟩ : ∃ f, 10 - i = f + 1 := ⟨9 - i, by omega⟩
      rw [hf] at hv
      unfold vres at hv
      have hi10 : (i : Int) < 10 := by omega
      by_cases hie : i = m
      · rw [if_pos hie] at hv
        cases hv
        subst hie
        clear hf
        go_wp2_with fail
        refine bodyPost_ret (v := .tuple #[item0, .int .i64 10]) (by simp [results, Tryd.results89, go_sem, o0, o1, o2]) rfl ⟨rfl, fin _ _ _⟩
      · rw [if_neg hie] at hv
        have hlt : i < m := by omega
        obtain ⟨b, off, rfl, hcell⟩ := hc i hlt
        have t0 : wr.cell? ⟨b, off + i, none⟩ = some (.int .u8 (z i : Nat)) := by rw [hsn.cell (a := ⟨b, off + i, none⟩) (World.block_lt_of_cell? _ _ hcell)]; exact hcell
        have him' : ((i : Int) == (m : Int)) = false := by simp; omega
        have hiz : (i : Int) < (m : Int) := by omega
        have hzi := hz i
        clear hc hcell
        by_cases h9 : i = 9 ∧ 1 < z i
        · rw [if_pos h9] at hv
          cases hv
          obtain ⟨rfl, h9b⟩ := h9
          have h9c : (1 : Int) < (z 9 : Int) := by omega
          clear hf
          go_wp2_with fail
          refine bodyPost_ret (v := .tuple #[item0, .int .i64 11]) (by simp [results, Tryd.results89, go_sem, o0, o1, o2]) rfl ⟨rfl, fin _ _ _⟩
        · rw [if_neg h9] at hv
          have hvb : vs z (i + 1) < 18446744073709551616 := by
            have e : vs z (i + 1) = vs z i + z i % 128 * 128 ^ i := rfl
            by_cases e9 : i = 9
            · subst e9
              have := vs_lt z 9
              have h1 : z 9 ≤ 1 := by omega
              have h2 : z 9 % 128 ≤ 1 := by omega
              have h3 : z 9 % 128 * 128 ^ 9 ≤ 1 * 128 ^ 9 := Nat.mul_le_mul_right _ h2
              omega
            · have h1 := vs_lt z (i + 1)
              have h2 : 128 ^ (i + 1) ≤ 128 ^ 9 := Nat.pow_le_pow_right (by decide) (by omega)
              omega
          have hor : bits .or .u64 (vs z i : Int) (IntKind.u64.wrap ((z i : Int) % 128 * 2 ^ (7 * i))) = ((vs z (i + 1) : Nat) : Int) := by
            rw [← vs_or z i hvb]
            congr 1
            have e2 : (128 : Nat) ^ i = 2 ^ (7 * i) := by rw [Nat.pow_mul]
            have h1 : z i % 128 * 128 ^ i < 18446744073709551616 := by
              have e : vs z (i + 1) = vs z i + z i % 128 * 128 ^ i := rfl
              omega
            rw [e2] at h1 ⊢
            have h3 : ((z i : Int) % 128 * 2 ^ (7 * i)) = ((z i % 128 * 2 ^ (7 * i) : Nat) : Int) := by simp
            rw [h3]
            generalize z i % 128 * 2 ^ (7 * i) = q at *
            rw [IntKind.wrap_u64]; omega
          have ha7 := and127 (z i) hzi
          have ha8 := and128 (z i) hzi
          have g9 : i = 9 → ¬ ((1 : Int) < (z i : Int)) := fun e => by omega
          have hf' : f = 9 - i := by omega
          by_cases hge : 128 ≤ z i
          · rw [if_pos hge] at hv ha8
            have q9 : ((i : Int) == 9) = false := by simp; omega
            clear h9 hf g9
            go_wp2_with fail
            go_roundg (10 - (i + 1))
            case measure => go_light; omega
            case rel =>
              go_light
              refine ⟨i + 1, by omega, by omega, rfl, rfl, by simp, ?_, hsn, hrw⟩
              rw [show 10 - (i + 1) = 9 - i by omega, ← hf']; exact hv
          · rw [if_neg hge] at hv ha8
            have hzlt : z i < 128 := by omega
            by_cases hz0 : z i = 0 ∧ 0 < i
            · rw [if_pos hz0] at hv
              cases hv
              obtain ⟨hz0, hip⟩ := hz0
              have hip' : (0 : Int) < (i : Int) := by omega
              rw [hz0] at t0 ha7 ha8 hor
              by_cases e9 : i = 9
              · subst e9
                clear h9 hf g9 hf'
                go_wp2_with fail
                refine bodyPost_ret (v := .tuple #[item0, .int .i64 11]) (by simp [results, Tryd.results89, go_sem, o0, o1, o2]) rfl ⟨rfl, fin _ _ _⟩
              · have q9 : ((i : Int) == 9) = false := by simp; omega
                clear h9 hf g9 hf'
                go_wp2_with fail
                refine bodyPost_ret (v := .tuple #[item0, .int .i64 11]) (by simp [results, Tryd.results89, go_sem, o0, o1, o2]) rfl ⟨rfl, fin _ _ _⟩
            · rw [if_neg hz0] at hv
              have hcs : ((z i = 0 ∧ i = 0) ∨ z i ≠ 0) := by omega
              rcases hcs with ⟨hz1, hi0⟩ | hz1
              · have q9 : ((i : Int) == 9) = false := by simp; omega
                have hip' : ¬ ((0 : Int) < (i : Int)) := by omega
                have zq : ((z i : Int) == 0) = true := by simp; omega
                clear h9 hf g9 hz0 hi0 hz1
                by_cases hmo : most < vs z (i + 1)
                · rw [if_pos hmo] at hv
                  cases hv
                  have hmo' : (most : Int) < (vs z (i + 1) : Int) := by omega
                  clear hf'
                  go_wp2_with fail
                  refine bodyPost_ret (v := .tuple #[item0, .int .i64 12]) (by simp [results, Tryd.results89, go_sem, o0, o1, o2]) rfl ⟨rfl, fin _ _ _⟩
                · rw [if_neg hmo] at hv
                  cases hv
                  have hmo' : ¬ ((most : Int) < (vs z (i + 1) : Int)) := by omega
                  clear hf'
                  go_wp2_with fail
                  refine bodyPost_ret (v := .tuple #[.agg #[.int .u64 (vs z (i + 1) : Nat), .slice none 0 0, .int .i64 ((i + 1 : Nat) : Int)], .int .i64 0]) (by simp [results, Tryd.results89, go_sem, o0, o1, o2]) rfl ⟨rfl, fin _ _ _⟩
              · have zq : ((z i : Int) == 0) = false := by simp; omega
                by_cases e9 : i = 9
                · have g9' := g9 e9
                  have q9 : ((i : Int) == 9) = true := by simp; omega
                  clear h9 hf g9 hz0 e9
                  by_cases hmo : most < vs z (i + 1)
                  · rw [if_pos hmo] at hv
                    cases hv
                    have hmo' : (most : Int) < (vs z (i + 1) : Int) := by omega
                    clear hf'
                    go_wp2_with fail
                    refine bodyPost_ret (v := .tuple #[item0, .int .i64 12]) (by simp [results, Tryd.results89, go_sem, o0, o1, o2]) rfl ⟨rfl, fin _ _ _⟩
                  · rw [if_neg hmo] at hv
                    cases hv
                    have hmo' : ¬ ((most : Int) < (vs z (i + 1) : Int)) := by omega
                    clear hf'
                    go_wp2_with fail
                    refine bodyPost_ret (v := .tuple #[.agg #[.int .u64 (vs z (i + 1) : Nat), .slice none 0 0, .int .i64 ((i + 1 : Nat) : Int)], .int .i64 0]) (by simp [results, Tryd.results89, go_sem, o0, o1, o2]) rfl ⟨rfl, fin _ _ _⟩
                · have q9 : ((i : Int) == 9) = false := by simp; omega
                  clear h9 hf g9 hz0
                  by_cases hmo : most < vs z (i + 1)
                  · rw [if_pos hmo] at hv
                    cases hv
                    have hmo' : (most : Int) < (vs z (i + 1) : Int) := by omega
                    clear hf'
                    go_wp2_with fail
                    refine bodyPost_ret (v := .tuple #[item0, .int .i64 12]) (by simp [results, Tryd.results89, go_sem, o0, o1, o2]) rfl ⟨rfl, fin _ _ _⟩
                  · rw [if_neg hmo] at hv
                    cases hv
                    have hmo' : ¬ ((most : Int) < (vs z (i + 1) : Int)) := by omega
                    clear hf'
                    go_wp2_with fail
                    refine bodyPost_ret (v := .tuple #[.agg #[.int .u64 (vs z (i + 1) : Nat), .slice none 0 0, .int .i64 ((i + 1 : Nat) : Int)], .int .i64 0]) (by simp [results, Tryd.results89, go_sem, o0, o1, o2]) rfl ⟨rfl, fin _ _ _⟩

theorem lookVar_any (a : Option Addr) (m cap most : Nat) (z : Nat → Nat) (w : World) (hmax : m ≤ 281474976710656) (hc : Byt w a m z) (hz : ∀ j, z j < 256) :
    Calls Tryd.prog 89 #[.slice a m cap, .int .u64 most] w fun e w' => e = .returned (.tuple #[.agg #[.int .u64 ((vlook z m most).1 : Nat), .slice none 0 0, .int .i64 ((vlook z m most).2.1 : Nat)], .int .i64 ((vlook z m most).2.2 : Nat)]) ∧ w.Since w.heap.size w' :=
  lookVar_walk a m cap most z w _ _ _ hmax hc hz rfl
end Go.Proofs.YtbmdnlomhnodeabDoor
