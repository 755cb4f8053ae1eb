/- look for the kinds Var, Bytes and Raw, at a Reader's place. -/
import Derived.Test.YtbmdnlomhnodeabDoorBytesLook
namespace Go.Proofs.YtbmdnlomhnodeabDoor
open Go.RowKit
set_option maxRecDepth 100000

theorem lookBytes_any (b off m cap most : Nat) (z : Nat → Nat) (w : World) (hmax : m ≤ 281474976710656) (hcap : m ≤ cap) (hc : Byt w (some ⟨b, off, none⟩) m z) (hz : ∀ j, z j < 256) :
    Calls Tryd.prog 90 #[.slice (some ⟨b, off, none⟩) m cap, .int .u64 most] w fun e w' =>
      (∃ ta, e = .returned (.tuple #[.agg #[.int .u64 (0 : Nat), .slice ta (blook z m most).1 (blook z m most).1, .int .i64 ((blook z m most).2.1 : Nat)], .int .i64 ((blook z m most).2.2 : Nat)]) ∧ Txt w.heap.size w' ta (blook z m most).1 (fun j => z ((vlook z m most).2.1 + j))) ∧ w.Since w.heap.size w' := by
  obtain ⟨N, s, bv, hv⟩ : ∃ N s bv, vlook z m most = (N, s, bv) := ⟨_, _, _, rfl⟩
  unfold blook
  rw [hv]
  by_cases hbv : bv = 0
  · subst hbv
    rw [if_neg (by simp)]
    by_cases hN : m - s < N
    · simp only [hN, if_true]
      refine (lookBytes_walk b off m cap most z w N s 0 0 0 10 hmax hcap hc hz hv (fun _ => Or.inl ⟨hN, rfl, rfl, rfl⟩)).mono fun e w' ⟨h, hs⟩ => ⟨?_, hs⟩
      rcases h with ⟨h, _⟩ | ⟨_, _, he⟩ | ⟨_, h, _⟩
      · exact absurd rfl h
      · exact ⟨none, he, Or.inl ⟨rfl, rfl⟩⟩
      · exact absurd h (by decide)
    · simp only [hN, if_false]
      refine (lookBytes_walk b off m cap most z w N s 0 N N 0 hmax hcap hc hz hv (fun _ => Or.inr ⟨by omega, rfl, rfl, rfl⟩)).mono fun e w' ⟨h, hs⟩ => ⟨?_, hs⟩
      rcases h with ⟨h, _⟩ | ⟨_, h, _⟩ | ⟨_, _, h⟩
      · exact absurd rfl h
      · exact absurd rfl h
      · exact h
  · rw [if_pos hbv]
    refine (lookBytes_walk b off m cap most z w N s bv 0 0 0 hmax hcap hc hz hv (fun h => absurd h hbv)).mono fun e w' ⟨h, hs⟩ => ⟨?_, hs⟩
    rcases h with ⟨_, he⟩ | ⟨h, _⟩ | ⟨h, _⟩
    · exact ⟨none, he, Or.inl ⟨rfl, rfl⟩⟩
    · exact absurd h hbv
    · exact absurd h hbv

/-- So many bytes: how many, how many are taken, the fault. -/
def rlook (n m : Nat) : Nat × Nat × Nat := if m < n then (0, 0, 10) else (n, n, 0)
theorem lookRaw_any (b off m cap n : Nat) (z : Nat → Nat) (w : World) (hmax : m ≤ 281474976710656) (hcap : m ≤ cap) (hc : Byt w (some ⟨b, off, none⟩) m z) :
    Calls Tryd.prog 91 #[.slice (some ⟨b, off, none⟩) m cap, .int .u64 n] w fun e w' =>
      (∃ ta, e = .returned (.tuple #[.agg #[.int .u64 (0 : Nat), .slice ta (rlook n m).1 (rlook n m).1, .int .i64 ((rlook n m).2.1 : Nat)], .int .i64 ((rlook n m).2.2 : Nat)]) ∧ Txt w.heap.size w' ta (rlook n m).1 z) ∧ w.Since w.heap.size w' := by
  unfold rlook
  by_cases h : m < n
  · rw [if_pos h]
    exact (lookRaw_short _ m cap n w hmax h).mono fun e w' ⟨he, hs⟩ => ⟨⟨none, he, Or.inl ⟨rfl, rfl⟩⟩, hs⟩
  · rw [if_neg h]
    exact lookRaw_ok b off m cap n z w hmax hcap (by omega) hc

set_option maxHeartbeats 800000 in
theorem look_3 (sa : Option Addr) (m cap : Nat) (bound : Int) (N l size bd : Nat) (tx : Nat → Nat) (w : World)
    (hcall : ∀ W, w.Since w.heap.size W → Calls Tryd.prog 89 #[.slice sa m cap, .int .u64 bound] W fun e w' => (∃ ta, e = .returned (.tuple #[.agg #[.int .u64 N, .slice ta l l, .int .i64 size], .int .i64 bd]) ∧ Txt W.heap.size w' ta l tx) ∧ W.Since W.heap.size w') :
    Calls Tryd.prog 67 #[.int .i64 3, .slice sa m cap, .int .u64 bound] w fun e w' => (∃ ta, e = .returned (.tuple #[.agg #[.int .u64 N, .slice ta l l, .int .i64 size], .int .i64 bd]) ∧ Txt w.heap.size w' ta l tx) ∧ w.Since w.heap.size w' := by
  have hs0 : w.Since w.heap.size (w.alloc (.cells #[.int .u64 0, .slice none 0 0, .int .i64 0] 91)) := (World.Since.refl _ _).alloc (Nat.le_refl _) _
  have hr0 := item_row w 0 none 0 0
  have e0 : (w.alloc (.cells #[.int .u64 0, .slice none 0 0, .int .i64 0] 91)).heap.size = w.heap.size + 1 := by simp
  have H := hide (hcall _ hs0)
  clear hcall
  go_enter Tryd.func67, Tryd.ntmps67
  go_wp2_with fail
  generalize w.alloc (.cells #[.int .u64 0, .slice none 0 0, .int .i64 0] 91) = w0 at *
  refine (unhide H).mono ?_
  rintro e w1 ⟨⟨ta, rfl, htx⟩, h1⟩
  have hrw := row_since hr0 h1
  have o0 : w1.cell? ⟨w.heap.size, 0, none⟩ = some (.int .u64 0) := hrw.cell (by decide)
  have o1 : w1.cell? ⟨w.heap.size, 1, none⟩ = some (.slice none 0 0) := hrw.cell (by decide)
  have o2 : w1.cell? ⟨w.heap.size, 2, none⟩ = some (.int .i64 0) := hrw.cell (by decide)
  have p0 := hrw.frozen 0
  have p1 := hrw.frozen 1
  have p2 := hrw.frozen 2
  have hsn : w.Since w.heap.size w1 := hs0.trans (since_mono h1 (by omega))
  rw [e0] at htx
  clear hrw h1 hs0 hr0 H
  go_wp2_with fail
  refine bodyPost_ret (v := .tuple #[.agg #[.int .u64 N, .slice ta l l, .int .i64 size], .int .i64 bd]) (by simp [results, Tryd.results67, go_sem, o0, o1, o2]) rfl ⟨⟨ta, rfl, txt_item htx _ _ _⟩, since_item hsn _ _ _⟩

set_option maxHeartbeats 800000 in
theorem look_4 (sa : Option Addr) (m cap : Nat) (bound : Int) (N l size bd : Nat) (tx : Nat → Nat) (w : World)
    (hcall : ∀ W, w.Since w.heap.size W → Calls Tryd.prog 90 #[.slice sa m cap, .int .u64 bound] W fun e w' => (∃ ta, e = .returned (.tuple #[.agg #[.int .u64 N, .slice ta l l, .int .i64 size], .int .i64 bd]) ∧ Txt W.heap.size w' ta l tx) ∧ W.Since W.heap.size w') :
    Calls Tryd.prog 67 #[.int .i64 4, .slice sa m cap, .int .u64 bound] w fun e w' => (∃ ta, e = .returned (.tuple #[.agg #[.int .u64 N, .slice ta l l, .int .i64 size], .int .i64 bd]) ∧ Txt w.heap.size w' ta l tx) ∧ w.Since w.heap.size w' := by
  have hs0 : w.Since w.heap.size (w.alloc (.cells #[.int .u64 0, .slice none 0 0, .int .i64 0] 91)) := (World.Since.refl _ _).alloc (Nat.le_refl _) _
  have hr0 := item_row w 0 none 0 0
  have e0 : (w.alloc (.cells #[.int .u64 0, .slice none 0 0, .int .i64 0] 91)).heap.size = w.heap.size + 1 := by simp
  have H := hide (hcall _ hs0)
  clear hcall
  go_enter Tryd.func67, Tryd.ntmps67
  go_wp2_with fail
  generalize w.alloc (.cells #[.int .u64 0, .slice none 0 0, .int .i64 0] 91) = w0 at *
  refine (unhide H).mono ?_
  rintro e w1 ⟨⟨ta, rfl, htx⟩, h1⟩
  have hrw := row_since hr0 h1
  have o0 : w1.cell? ⟨w.heap.size, 0, none⟩ = some (.int .u64 0) := hrw.cell (by decide)
  have o1 : w1.cell? ⟨w.heap.size, 1, none⟩ = some (.slice none 0 0) := hrw.cell (by decide)
  have o2 : w1.cell? ⟨w.heap.size, 2, none⟩ = some (.int .i64 0) := hrw.cell (by decide)
  have p0 := hrw.frozen 0
  have p1 := hrw.frozen 1
  have p2 := hrw.frozen 2
  have hsn : w.Since w.heap.size w1 := hs0.trans (since_mono h1 (by omega))
  rw [e0] at htx
  clear hrw h1 hs0 hr0 H
  go_wp2_with fail
  refine bodyPost_ret (v := .tuple #[.agg #[.int .u64 N, .slice ta l l, .int .i64 size], .int .i64 bd]) (by simp [results, Tryd.results67, go_sem, o0, o1, o2]) rfl ⟨⟨ta, rfl, txt_item htx _ _ _⟩, since_item hsn _ _ _⟩

set_option maxHeartbeats 800000 in
theorem look_5 (sa : Option Addr) (m cap : Nat) (bound : Int) (N l size bd : Nat) (tx : Nat → Nat) (w : World)
    (hcall : ∀ W, w.Since w.heap.size W → Calls Tryd.prog 91 #[.slice sa m cap, .int .u64 bound] W fun e w' => (∃ ta, e = .returned (.tuple #[.agg #[.int .u64 N, .slice ta l l, .int .i64 size], .int .i64 bd]) ∧ Txt W.heap.size w' ta l tx) ∧ W.Since W.heap.size w') :
    Calls Tryd.prog 67 #[.int .i64 5, .slice sa m cap, .int .u64 bound] w fun e w' => (∃ ta, e = .returned (.tuple #[.agg #[.int .u64 N, .slice ta l l, .int .i64 size], .int .i64 bd]) ∧ Txt w.heap.size w' ta l tx) ∧ w.Since w.heap.size w' := by
  have hs0 : w.Since w.heap.size (w.alloc (.cells #[.int .u64 0, .slice none 0 0, .int .i64 0] 91)) := (World.Since.refl _ _).alloc (Nat.le_refl _) _
  have hr0 := item_row w 0 none 0 0
  have e0 : (w.alloc (.cells #[.int .u64 0, .slice none 0 0, .int .i64 0] 91)).heap.size = w.heap.size + 1 := by simp
  have H := hide (hcall _ hs0)
  clear hcall
  go_enter Tryd.func67, Tryd.ntmps67
  go_wp2_with fail
  generalize w.alloc (.cells #[.int .u64 0, .slice none 0 0, .int .i64 0] 91) = w0 at *
  refine (unhide H).mono ?_
  rintro e w1 ⟨⟨ta, rfl, htx⟩, h1⟩
  have hrw := row_since hr0 h1
  have o0 : w1.cell? ⟨w.heap.size, 0, none⟩ = some (.int .u64 0) := hrw.cell (by decide)
  have o1 : w1.cell? ⟨w.heap.size, 1, none⟩ = some (.slice none 0 0) := hrw.cell (by decide)
  have o2 : w1.cell? ⟨w.heap.size, 2, none⟩ = some (.int .i64 0) := hrw.cell (by decide)
  have p0 := hrw.frozen 0
  have p1 := hrw.frozen 1
  have p2 := hrw.frozen 2
  have hsn : w.Since w.heap.size w1 := hs0.trans (since_mono h1 (by omega))
  rw [e0] at htx
  clear hrw h1 hs0 hr0 H
  go_wp2_with fail
  refine bodyPost_ret (v := .tuple #[.agg #[.int .u64 N, .slice ta l l, .int .i64 size], .int .i64 bd]) (by simp [results, Tryd.results67, go_sem, o0, o1, o2]) rfl ⟨⟨ta, rfl, txt_item htx _ _ _⟩, since_item hsn _ _ _⟩

/-- A Reader's bytes from its place on. -/
theorem byt_place {w W : World} {rb hb n at' bad : Nat} {z : Nat → Nat} (h : IsR w rb hb n z at' bad) (hW : w.Since w.heap.size W) (o : Nat) (ho : n ≠ at' → o = at') : Byt W (some ⟨hb, o, none⟩) (n - at') (fun j => z (at' + j)) := fun j hj => by
  have hrow := row_since h.row hW
  have := hrow.cell (i := at' + j) (by omega)
  exact ⟨hb, o, rfl, by rw [ho (by omega)]; exact this⟩
theorem looks_var (rb hb n at' most : Nat) (z : Nat → Nat) (w : World) (h : IsR w rb hb n z at' 0) :
    Looks w (if n = at' then some ⟨hb, 0, none⟩ else some ⟨hb, at', none⟩) (n - at') 3 most (vlook (fun j => z (at' + j)) (n - at') most).1 0 (vlook (fun j => z (at' + j)) (n - at') most).2.1 (vlook (fun j => z (at' + j)) (n - at') most).2.2 z := fun W hW => by
  have hroom := h.room
  refine look_3 _ (n - at') (n - at') most _ 0 _ _ z W (fun W' hW' => ?_)
  have hW2 := hW.trans (since_mono hW' hW.size)
  have key : ∀ o, (n ≠ at' → o = at') → Calls Tryd.prog 89 #[.slice (some ⟨hb, o, none⟩) (n - at') (n - at'), .int .u64 most] W' fun e w' => (∃ ta, e = .returned (.tuple #[.agg #[.int .u64 ((vlook (fun j => z (at' + j)) (n - at') most).1 : Nat), .slice ta 0 0, .int .i64 ((vlook (fun j => z (at' + j)) (n - at') most).2.1 : Nat)], .int .i64 ((vlook (fun j => z (at' + j)) (n - at') most).2.2 : Nat)]) ∧ Txt W'.heap.size w' ta 0 z) ∧ W'.Since W'.heap.size w' := fun o ho =>
    (lookVar_any _ (n - at') (n - at') most (fun j => z (at' + j)) W' (by omega) (byt_place h hW2 o ho) (fun j => h.byte _)).mono fun e w' ⟨he, hs⟩ => ⟨⟨none, he, Or.inl ⟨rfl, rfl⟩⟩, hs⟩
  by_cases hna : n = at'
  · rw [if_pos hna]; exact key 0 (fun h => absurd hna h)
  · rw [if_neg hna]; exact key at' (fun _ => rfl)
theorem looks_bytes (rb hb n at' most : Nat) (z : Nat → Nat) (w : World) (h : IsR w rb hb n z at' 0) :
    Looks w (if n = at' then some ⟨hb, 0, none⟩ else some ⟨hb, at', none⟩) (n - at') 4 most 0 (blook (fun j => z (at' + j)) (n - at') most).1 (blook (fun j => z (at' + j)) (n - at') most).2.1 (blook (fun j => z (at' + j)) (n - at') most).2.2 (fun j => z (at' + ((vlook (fun j => z (at' + j)) (n - at') most).2.1 + j))) := fun W hW => by
  have hroom := h.room
  refine look_4 _ (n - at') (n - at') most 0 _ _ _ _ W (fun W' hW' => ?_)
  have hW2 := hW.trans (since_mono hW' hW.size)
  by_cases hna : n = at'
  · rw [if_pos hna]; exact lookBytes_any hb 0 (n - at') (n - at') most (fun j => z (at' + j)) W' (by omega) (Nat.le_refl _) (byt_place h hW2 0 (fun h => absurd hna h)) (fun j => h.byte _)
  · rw [if_neg hna]; exact lookBytes_any hb at' (n - at') (n - at') most (fun j => z (at' + j)) W' (by omega) (Nat.le_refl _) (byt_place h hW2 at' (fun _ => rfl)) (fun j => h.byte _)
theorem looks_raw (rb hb n at' k : Nat) (z : Nat → Nat) (w : World) (h : IsR w rb hb n z at' 0) :
    Looks w (if n = at' then some ⟨hb, 0, none⟩ else some ⟨hb, at', none⟩) (n - at') 5 k 0 (rlook k (n - at')).1 (rlook k (n - at')).2.1 (rlook k (n - at')).2.2 (fun j => z (at' + j)) := fun W hW => by
  have hroom := h.room
  refine look_5 _ (n - at') (n - at') k 0 _ _ _ _ W (fun W' hW' => ?_)
  have hW2 := hW.trans (since_mono hW' hW.size)
  by_cases hna : n = at'
  · rw [if_pos hna]; exact lookRaw_any hb 0 (n - at') (n - at') k (fun j => z (at' + j)) W' (by omega) (Nat.le_refl _) (byt_place h hW2 0 (fun h => absurd hna h))
  · rw [if_neg hna]; exact lookRaw_any hb at' (n - at') (n - at') k (fun j => z (at' + j)) W' (by omega) (Nat.le_refl _) (byt_place h hW2 at' (fun _ => rfl))
end Go.Proofs.YtbmdnlomhnodeabDoor
