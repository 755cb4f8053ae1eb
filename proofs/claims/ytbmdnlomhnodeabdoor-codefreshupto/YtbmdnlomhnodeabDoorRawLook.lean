/- The walks of package code's lookRaw, lookBytes and of look for the kinds Var, Bytes and Raw. -/
import Derived.Test.YtbmdnlomhnodeabDoorVarLook
namespace Go.Proofs.YtbmdnlomhnodeabDoor
open Go.RowKit
set_option maxRecDepth 100000

/-- Three cells of a result, written anew. -/
theorem since_item {w wr : World} (hsn : w.Since w.heap.size wr) (u0 u1 u2 : Value) : w.Since w.heap.size (((wr.setCell ⟨w.heap.size, 0, none⟩ u0).setCell ⟨w.heap.size, 1, none⟩ u1).setCell ⟨w.heap.size, 2, none⟩ u2) :=
  ((hsn.setCell (a := ⟨w.heap.size, 0, none⟩) (Nat.le_refl _) _).setCell (a := ⟨w.heap.size, 1, none⟩) (Nat.le_refl _) _).setCell (a := ⟨w.heap.size, 2, none⟩) (Nat.le_refl _) _
theorem txt_item {w wr : World} {ta : Option Addr} {l : Nat} {tx : Nat → Nat} (h : Txt (w.heap.size + 1) wr ta l tx) (u0 u1 u2 : Value) : Txt w.heap.size (((wr.setCell ⟨w.heap.size, 0, none⟩ u0).setCell ⟨w.heap.size, 1, none⟩ u1).setCell ⟨w.heap.size, 2, none⟩ u2) ta l tx := by
  rcases h with h | ⟨t, e, hb, hr⟩
  · exact Or.inl h
  · have q3 : ∀ i, t ≠ (⟨w.heap.size, i, none⟩ : Addr).block := fun i => by show t ≠ w.heap.size; omega
    exact Or.inr ⟨t, e, by omega, ((hr.setOther (q3 0) _).setOther (q3 1) _).setOther (q3 2) _⟩

theorem lookRaw_short (a : Option Addr) (m cap n : Nat) (w : World) (hmax : m ≤ 281474976710656) (hs : m < n) :
    Calls Tryd.prog 91 #[.slice a m cap, .int .u64 n] w fun e w' => e = .returned (.tuple #[item0, .int .i64 10]) ∧ w.Since w.heap.size w' := by
  have hz : (m : Int) < (n : Int) := by omega
  go_enter Tryd.func91, Tryd.ntmps91
  go_wp2
  exact bodyPost_ret (v := .tuple #[item0, .int .i64 10]) (by simp [results, Tryd.results91, go_sem]) rfl ⟨rfl, (World.Since.refl _ _).alloc (Nat.le_refl _) _⟩

set_option maxHeartbeats 800000 in
theorem lookRaw_ok (b off m cap n : Nat) (z : Nat → Nat) (w : World) (hmax : m ≤ 281474976710656) (hcap : m ≤ cap) (hs : n ≤ m) (hc : Byt w (some ⟨b, off, none⟩) m z) :
    Calls Tryd.prog 91 #[.slice (some ⟨b, off, none⟩) m cap, .int .u64 n] w fun e w' => (∃ ta, e = .returned (.tuple #[.agg #[.int .u64 0, .slice ta n n, .int .i64 n], .int .i64 0]) ∧ Txt w.heap.size w' ta n z) ∧ w.Since w.heap.size w' := by
  have hz : ¬ ((m : Int) < (n : Int)) := by omega
  have hz1 : (n : Int) ≤ (cap : Int) := by omega
  have hs0 : w.Since w.heap.size (w.alloc (.cells #[.int .u64 0, .slice none 0 0, .int .i64 0] 91)) := (World.Since.refl _ _).alloc (Nat.le_refl _) _
  have hr0 := item_row w 0 none 0 0
  have e0 : (w.alloc (.cells #[.int .u64 0, .slice none 0 0, .int .i64 0] 91)).heap.size = w.heap.size + 1 := by simp
  have hc1 := (hc.le hs).since hs0
  go_enter Tryd.func91, Tryd.ntmps91
  go_wp2_with fail
  generalize w.alloc (.cells #[.int .u64 0, .slice none 0 0, .int .i64 0] 91) = w0 at *
  refine (copied_any _ n _ z w0 (by omega) hc1).mono ?_
  rintro e w1 ⟨rfl, h1, z1, r1⟩
  have hrw := row_since hr0 h1
  have o0 : w1.cell? ⟨w.heap.size, 0, none⟩ = some (.int .u64 0) := hrw.cell (by decide)
  have o1 : w1.cell? ⟨w.heap.size, 1, none⟩ = some (.slice none 0 0) := hrw.cell (by decide)
  have o2 : w1.cell? ⟨w.heap.size, 2, none⟩ = some (.int .i64 0) := hrw.cell (by decide)
  have p0 := hrw.frozen 0
  have p1 := hrw.frozen 1
  have p2 := hrw.frozen 2
  have hsn : w.Since w.heap.size w1 := hs0.trans (since_mono h1 (by omega))
  have htx : Txt (w.heap.size + 1) w1 (some ⟨w.heap.size + 1, 0, none⟩) n z := by rw [e0] at r1; exact Or.inr ⟨w.heap.size + 1, rfl, Nat.le_refl _, r1⟩
  rw [e0]
  clear hrw h1 r1 hs0 hr0 hc1 hc
  go_wp2_with fail
  refine bodyPost_ret (v := .tuple #[.agg #[.int .u64 0, .slice (some ⟨w.heap.size + 1, 0, none⟩) n n, .int .i64 n], .int .i64 0]) (by simp [results, Tryd.results91, go_sem, o0, o1, o2]) rfl ⟨⟨_, rfl, txt_item htx _ _ _⟩, since_item hsn _ _ _⟩

/-- A text with its length ahead: its length, how many bytes it takes, its fault. -/
def blook (z : Nat → Nat) (m most : Nat) : Nat × Nat × Nat :=
  if (vlook z m most).2.2 ≠ 0 then (0, 0, (vlook z m most).2.2) else if m - (vlook z m most).2.1 < (vlook z m most).1 then (0, 0, 10) else ((vlook z m most).1, (vlook z m most).2.1 + (vlook z m most).1, 0)

theorem vres_size (z : Nat → Nat) (m most : Nat) : ∀ f i, i ≤ m → (vres z m most f i).2.2 = 0 → (vres z m most f i).2.1 ≤ m ∧ i < (vres z m most f i).2.1 ∧ (vres z m most f i).1 = vs z (vres z m most f i).2.1 ∧ (vres z m most f i).1 ≤ most
  | 0, i, _, h => by simp [vres] at h
  | f + 1, i, him, h => by
    unfold vres at h ⊢
    split at h
    · simp at h
    · next h1 =>
      rw [if_neg h1]
      split at h
      · simp at h
      · next h2 =>
        rw [if_neg h2]
        split at h
        · next h3 =>
          rw [if_pos h3]
          have := vres_size z m most f (i + 1) (by omega) h
          exact ⟨this.1, by omega, this.2.2⟩
        · next h3 =>
          rw [if_neg h3]
          split at h
          · simp at h
          · next h4 =>
            rw [if_neg h4]
            split at h
            · simp at h
            · next h5 =>
              rw [if_neg h5]
              exact ⟨by show i + 1 ≤ m; omega, by show i < i + 1; omega, rfl, by show vs z (i + 1) ≤ most; omega⟩
theorem vlook_size (z : Nat → Nat) (m most : Nat) (h : (vlook z m most).2.2 = 0) : (vlook z m most).2.1 ≤ m ∧ 0 < (vlook z m most).2.1 ∧ (vlook z m most).1 = vs z (vlook z m most).2.1 ∧ (vlook z m most).1 ≤ most :=
  vres_size z m most 10 0 (Nat.zero_le _) h
theorem vres_bad (z : Nat → Nat) (m most : Nat) : ∀ f i, (vres z m most f i).2.2 ≠ 0 → (vres z m most f i).1 = 0 ∧ (vres z m most f i).2.1 = 0
  | 0, i, _ => ⟨rfl, rfl⟩
  | f + 1, i, h => by
    unfold vres at h ⊢
    split
    · exact ⟨rfl, rfl⟩
    · next h1 =>
      rw [if_neg h1] at h
      split
      · exact ⟨rfl, rfl⟩
      · next h2 =>
        rw [if_neg h2] at h
        split
        · next h3 => rw [if_pos h3] at h; exact vres_bad z m most f (i + 1) h
        · next h3 =>
          rw [if_neg h3] at h
          split
          · exact ⟨rfl, rfl⟩
          · next h4 =>
            rw [if_neg h4] at h
            split
            · exact ⟨rfl, rfl⟩
            · next h5 => rw [if_neg h5] at h; exact absurd rfl h
theorem vlook_bad (z : Nat → Nat) (m most : Nat) (h : (vlook z m most).2.2 ≠ 0) : (vlook z m most).1 = 0 ∧ (vlook z m most).2.1 = 0 := vres_bad z m most 10 0 h
end Go.Proofs.YtbmdnlomhnodeabDoor
