/- The walk of back: the item is read again. -/
import Derived.Test.YtbmdnlomhnodeabDoorTurnWalk
import Derived.Test.YtbmdnlomhnodeabDoorReadsWalk
namespace Go.Proofs.YtbmdnlomhnodeabDoor
open Go.RowKit
set_option maxRecDepth 100000

/-- What back leaves: behind a fault the fault; the item whole; or its last byte lacks. -/
def Rs (l : List Nat) (n at' bad : Nat) (r : Bool) (at2 bad2 : Nat) : Prop := (bad ≠ 0 ∧ bad2 = bad) ∨ (bad = 0 ∧ at' + l.length ≤ n ∧ r = true ∧ at2 = at' + l.length ∧ bad2 = 0) ∨ (bad = 0 ∧ at' + l.length = n + 1 ∧ bad2 = 10)
theorem byt_but {w w' : World} {a : Option Addr} {n rb : Nat} {x : Nat → Nat} (h : Byt w a n x) (hb : But rb w w') (hne : 0 < n → ∀ b off, a = some ⟨b, off, none⟩ → b ≠ rb) : Byt w' a n x := fun j hj => by
  obtain ⟨b, off, e, hc⟩ := h j hj
  exact ⟨b, off, e, by rw [World.cell?_of_block (w := w) (hb.block b (World.block_lt_of_cell? _ _ hc) (hne (by omega) b off e))]; exact hc⟩

set_option maxHeartbeats 6400000 in
set_option maxRecDepth 100000 in
theorem back_walk (w : World) (rb hb n : Nat) (z : Nat → Nat) (at' bad : Nat) (K WH M : Int) (N : Nat) (ba : Option Addr) (bl bc : Nat) (zb : Nat → Nat) (h : IsR w rb hb n z at' bad) (hW : Wid w) (hN : N < 18446744073709551616) (hby : Byt w ba bl zb) (hbl : bl ≤ 140737488355328) (hne : 0 < bl → ∀ b off, ba = some ⟨b, off, none⟩ → b ≠ rb) (hsc : Sc z n at' bad (encOf K N bl zb)) :
    Calls Tryd.prog 15 #[.pointer (some ⟨rb, 0, none⟩), .agg #[.int .i64 K, .int .i64 WH, .int .i64 M, .int .u64 N, .slice ba bl bc]] w fun e w' => ∃ r at2 bad2, e = .returned (.bool r) ∧ But rb w w' ∧ IsR w' rb hb n z at2 bad2 ∧ Rs (encOf K N bl zb) n at' bad r at2 bad2 := by
  have hs0 : w.Since w.heap.size (w.alloc (.cells #[.int .i64 K, .int .i64 WH, .int .i64 M, .int .u64 N, .slice ba bl bc] 33)) := (World.Since.refl _ _).alloc (Nat.le_refl _) _
  have k0 : (w.alloc (.cells #[.int .i64 K, .int .i64 WH, .int .i64 M, .int .u64 N, .slice ba bl bc] 33)).cell? ⟨w.heap.size, 0, none⟩ = some (.int .i64 K) := by simp
  have k3 : (w.alloc (.cells #[.int .i64 K, .int .i64 WH, .int .i64 M, .int .u64 N, .slice ba bl bc] 33)).cell? ⟨w.heap.size, 3, none⟩ = some (.int .u64 N) := by simp
  have k4 : (w.alloc (.cells #[.int .i64 K, .int .i64 WH, .int .i64 M, .int .u64 N, .slice ba bl bc] 33)).cell? ⟨w.heap.size, 4, none⟩ = some (.slice ba bl bc) := by simp
  have h1 := h.since hs0
  have hle := h.le
  have hroom := h.room
  have hW1 := hW.since hs0
  have hb1 := hby.since hs0
  have hab : w.heap.size ≠ rb := by have := h.rd.lt; omega
  have hB0 : But rb w (w.alloc (.cells #[.int .i64 K, .int .i64 WH, .int .i64 M, .int .u64 N, .slice ba bl bc] 33)) := But.of_since hs0
  go_enter Tryd.func15, Tryd.ntmps15
  go_upto_region 1 with fail
  generalize w.alloc (.cells #[.int .i64 K, .int .i64 WH, .int .i64 M, .int .u64 N, .slice ba bl bc] 33) = w1 at *
  generalize w.heap.size = ab at *
  clear h hs0 hW hby
  by_cases e1 : K = 1
  · subst e1
    have hc : IntKind.u8.wrap (N : Int) = ((N % 256 : Nat) : Int) := by rw [IntKind.wrap_u8']; omega
    have hres := fix_res z n 1 (N % 256) at' bad (by decide) (by omega) hsc
    have hr : ∀ W, w1.Since w1.heap.size W → _ := fun W hs => u8_r rb hb n at' bad z W (h1.since hs) (hW1.since hs)
    generalize hN1 : N % 256 = N1 at *
    generalize fixAns z n 1 at' bad = V at *
    obtain ⟨A, at2, bad2⟩ := V
    have HR := hide hr
    have HS := hide hres
    clear hr hres hsc
    go_upto_region 3 with fail
    go_region_held3 (fun W => W.cell? ⟨ab, 3, none⟩ = some (.int .u64 N))
      ((first | exact k3 | exact s2))
      ((first
        | (go_at_call 14; refine ((unhide HR) _ (World.Since.refl _ _).drew).mono ?_; rintro e w2 ⟨rfl, hb2, hI2⟩; have s2 : w2.cell? ⟨ab, 3, none⟩ = some (.int .u64 N) := but_cell hb2 k3 hab)))
    all_goals
      go_wp2_with fail
      go_ret
      refine ⟨_, at2, bad2, rfl, hB0.trans (But.trans (But.of_since (World.Since.refl _ _).drew) hb2), hI2, ?_⟩
      have hel : (encOf 1 N bl zb).length = 1 := fl_len _ _
      unfold Rs
      rw [hel]
      rcases unhide HS with ⟨q, e⟩ | ⟨q, q2, e⟩ | ⟨q, q2, e⟩
      · cases e; exact Or.inl ⟨q, rfl⟩
      · cases e; exact Or.inr (Or.inl ⟨q, q2, by simp, rfl, rfl⟩)
      · cases e; exact Or.inr (Or.inr ⟨q, q2, rfl⟩)
  by_cases e2 : K = 2
  · subst e2
    have hc : IntKind.u32.wrap (N : Int) = ((N % 4294967296 : Nat) : Int) := by rw [IntKind.wrap_u32']; omega
    have hres := fix_res z n 4 (N % 4294967296) at' bad (by decide) (by omega) hsc
    have hr : ∀ W, w1.Since w1.heap.size W → _ := fun W hs => u32_r rb hb n at' bad z W (h1.since hs) (hW1.since hs)
    generalize hN1 : N % 4294967296 = N1 at *
    generalize fixAns z n 4 at' bad = V at *
    obtain ⟨A, at2, bad2⟩ := V
    have HR := hide hr
    have HS := hide hres
    clear hr hres hsc
    go_upto_region 5 with fail
    go_region_held3 (fun W => W.cell? ⟨ab, 3, none⟩ = some (.int .u64 N))
      ((first | exact k3 | exact s2))
      ((first
        | (go_at_call 49; refine ((unhide HR) _ (World.Since.refl _ _).drew).mono ?_; rintro e w2 ⟨rfl, hb2, hI2⟩; have s2 : w2.cell? ⟨ab, 3, none⟩ = some (.int .u64 N) := but_cell hb2 k3 hab)))
    all_goals
      go_wp2_with fail
      go_ret
      refine ⟨_, at2, bad2, rfl, hB0.trans (But.trans (But.of_since (World.Since.refl _ _).drew) hb2), hI2, ?_⟩
      have hel : (encOf 2 N bl zb).length = 4 := fl_len _ _
      unfold Rs
      rw [hel]
      rcases unhide HS with ⟨q, e⟩ | ⟨q, q2, e⟩ | ⟨q, q2, e⟩
      · cases e; exact Or.inl ⟨q, rfl⟩
      · cases e; exact Or.inr (Or.inl ⟨q, q2, by simp, rfl, rfl⟩)
      · cases e; exact Or.inr (Or.inr ⟨q, q2, rfl⟩)
  by_cases e3 : K = 3
  · subst e3
    have hres := fix_res z n 8 N at' bad (by decide) (by omega) hsc
    have hr : ∀ W, w1.Since w1.heap.size W → _ := fun W hs => u64_r rb hb n at' bad z W (h1.since hs) (hW1.since hs)
    generalize fixAns z n 8 at' bad = V at *
    obtain ⟨A, at2, bad2⟩ := V
    have HR := hide hr
    have HS := hide hres
    clear hr hres hsc
    go_upto_region 7 with fail
    go_region_held3 (fun W => W.cell? ⟨ab, 3, none⟩ = some (.int .u64 N))
      ((first | exact k3 | exact s2))
      ((first
        | (go_at_call 50; refine ((unhide HR) _ (World.Since.refl _ _).drew).mono ?_; rintro e w2 ⟨rfl, hb2, hI2⟩; have s2 : w2.cell? ⟨ab, 3, none⟩ = some (.int .u64 N) := but_cell hb2 k3 hab)))
    all_goals
      go_wp2_with fail
      go_ret
      refine ⟨_, at2, bad2, rfl, hB0.trans (But.trans (But.of_since (World.Since.refl _ _).drew) hb2), hI2, ?_⟩
      have hel : (encOf 3 N bl zb).length = 8 := fl_len _ _
      unfold Rs
      rw [hel]
      rcases unhide HS with ⟨q, e⟩ | ⟨q, q2, e⟩ | ⟨q, q2, e⟩
      · cases e; exact Or.inl ⟨q, rfl⟩
      · cases e; exact Or.inr (Or.inl ⟨q, q2, by simp, rfl, rfl⟩)
      · cases e; exact Or.inr (Or.inr ⟨q, q2, rfl⟩)
  by_cases e4 : K = 4
  · subst e4
    have hres := var_res z n N at' bad hN hle hsc
    have hr : ∀ W, w1.Since w1.heap.size W → _ := fun W hs => var_r rb hb n at' bad N z W (h1.since hs)
    generalize varAns z n N at' bad = V at *
    obtain ⟨A, at2, bad2⟩ := V
    have HR := hide hr
    have HS := hide hres
    clear hr hres hsc
    go_upto_region 9 with fail
    go_region_held3 (fun W => W.cell? ⟨ab, 3, none⟩ = some (.int .u64 N))
      ((first | exact k3 | exact s2))
      ((first
        | (go_at_call 51; refine ((unhide HR) _ (World.Since.refl _ _).drew).mono ?_; rintro e w2 ⟨rfl, hb2, hI2⟩; have s2 : w2.cell? ⟨ab, 3, none⟩ = some (.int .u64 N) := but_cell hb2 k3 hab)))
    all_goals
      go_wp2_with fail
      go_ret
      refine ⟨_, at2, bad2, rfl, hB0.trans (But.trans (But.of_since (World.Since.refl _ _).drew) hb2), hI2, ?_⟩
      show Rs (vl 9 N) n at' bad _ at2 bad2
      unfold Rs
      rcases unhide HS with ⟨q, e⟩ | ⟨q, q2, e⟩ | ⟨q, q2, e⟩
      · cases e; exact Or.inl ⟨q, rfl⟩
      · cases e; exact Or.inr (Or.inl ⟨q, q2, by simp, rfl, rfl⟩)
      · exact Or.inr (Or.inr ⟨q, q2, e⟩)
  by_cases e5 : K = 5
  · subst e5
    have hres := bytes_res z n bl at' bad zb (by omega) hle hsc
    have hr : ∀ W, w1.Since w1.heap.size W → _ := fun W hs => bytes_r rb hb n at' bad (bl : Int) z W (h1.since hs) (by omega)
    simp only [Int.toNat_natCast] at hr
    generalize bytesAns z n bl at' bad = V at *
    obtain ⟨A, fr, at2, bad2⟩ := V
    have hA : (A = bl ∧ ∀ j, j < bl → z (fr + j) = zb j) ∨ A = 0 := by
      rcases hres with ⟨_, e⟩ | ⟨_, _, e, hz⟩ | ⟨_, _, e, _⟩
      · cases e; exact Or.inr rfl
      · cases e; exact Or.inl ⟨rfl, hz⟩
      · exact Or.inr e
    have heq : ∀ W ta, Byt W ta A (fun j => z (fr + j)) → Byt W ba bl zb → _ := fun W ta p q => eq_two ta ba A bl A bc (fun j => z (fr + j)) zb W p q hbl hA
    have HR := hide hr
    have HS := hide hres
    have HQ := hide heq
    clear hr hres hsc heq hA
    go_upto_region 11 with fail
    go_region_held3 (fun W => W.cell? ⟨ab, 4, none⟩ = some (.slice ba bl bc))
      ((first | exact k4 | exact s2))
      ((first
        | (go_at_call 37; refine ((unhide HR) _ (World.Since.refl _ _).drew).mono ?_; rintro e w2 ⟨⟨ta, rfl, htx⟩, hb2, hI2⟩; have s2 : w2.cell? ⟨ab, 4, none⟩ = some (.slice ba bl bc) := but_cell hb2 k4 hab; have hx2 := (txt_byt' htx).1; have hz2 : Byt w2 ba bl zb := byt_but (hb1.since (World.Since.refl _ _).drew) hb2 hne)
        | (go_at_call 22; refine ((unhide HQ) _ _ hx2 hz2).mono ?_; rintro e w3 ⟨r, rfl, hrt, m3, rfl⟩)))
    all_goals
      go_wp2_with fail
      go_ret
      refine ⟨r, at2, bad2, rfl, (hB0.trans (But.trans (But.of_since (World.Since.refl _ _).drew) hb2)).trans (But.of_since (since_drewN' (World.Since.refl _ _) m3)), hI2.since (since_drewN' (World.Since.refl _ _) m3), ?_⟩
      show Rs (vl 9 bl ++ (List.range bl).map zb) n at' bad r at2 bad2
      unfold Rs
      rcases unhide HS with ⟨q, e⟩ | ⟨q, q2, e, hz⟩ | ⟨q, q2, _, e⟩
      · cases e; exact Or.inl ⟨q, rfl⟩
      · cases e; exact Or.inr (Or.inl ⟨q, q2, hrt rfl hz, rfl, rfl⟩)
      · exact Or.inr (Or.inr ⟨q, q2, e⟩)
  by_cases e6 : K = 6
  · subst e6
    have hres := raw_res z n bl at' bad zb hle hsc
    have hr : ∀ W, w1.Since w1.heap.size W → _ := fun W hs => raw_r rb hb n at' bad (bl : Int) z W (h1.since hs) (by omega)
    skip
    generalize rawAns n (bl : Int) at' bad = V at *
    obtain ⟨A, fr, at2, bad2⟩ := V
    have hA : (A = bl ∧ ∀ j, j < bl → z (fr + j) = zb j) ∨ A = 0 := by
      rcases hres with ⟨_, e⟩ | ⟨_, _, e, hz⟩ | ⟨_, _, e, _⟩
      · cases e; exact Or.inr rfl
      · cases e; exact Or.inl ⟨rfl, hz⟩
      · exact Or.inr e
    have heq : ∀ W ta, Byt W ta A (fun j => z (fr + j)) → Byt W ba bl zb → _ := fun W ta p q => eq_two ta ba A bl A bc (fun j => z (fr + j)) zb W p q hbl hA
    have HR := hide hr
    have HS := hide hres
    have HQ := hide heq
    clear hr hres hsc heq hA
    go_upto_region 13 with fail
    go_region_held3 (fun W => W.cell? ⟨ab, 4, none⟩ = some (.slice ba bl bc))
      ((first | exact k4 | exact s2))
      ((first
        | (go_at_call 34; refine ((unhide HR) _ (World.Since.refl _ _).drew).mono ?_; rintro e w2 ⟨⟨ta, rfl, htx⟩, hb2, hI2⟩; have s2 : w2.cell? ⟨ab, 4, none⟩ = some (.slice ba bl bc) := but_cell hb2 k4 hab; have hx2 := (txt_byt' htx).1; have hz2 : Byt w2 ba bl zb := byt_but (hb1.since (World.Since.refl _ _).drew) hb2 hne)
        | (go_at_call 22; refine ((unhide HQ) _ _ hx2 hz2).mono ?_; rintro e w3 ⟨r, rfl, hrt, m3, rfl⟩)))
    all_goals
      go_wp2_with fail
      go_ret
      refine ⟨r, at2, bad2, rfl, (hB0.trans (But.trans (But.of_since (World.Since.refl _ _).drew) hb2)).trans (But.of_since (since_drewN' (World.Since.refl _ _) m3)), hI2.since (since_drewN' (World.Since.refl _ _) m3), ?_⟩
      show Rs ((List.range bl).map zb) n at' bad r at2 bad2
      unfold Rs
      rcases unhide HS with ⟨q, e⟩ | ⟨q, q2, e, hz⟩ | ⟨q, q2, _, e⟩
      · cases e; exact Or.inl ⟨q, rfl⟩
      · cases e; exact Or.inr (Or.inl ⟨q, q2, hrt rfl hz, rfl, rfl⟩)
      · exact Or.inr (Or.inr ⟨q, q2, e⟩)
  have he : encOf K N bl zb = [] := by simp [encOf, e1, e2, e3, e4, e5, e6]
  have q1 : (K == 1) = false := by simp; omega
  have q2 : (K == 2) = false := by simp; omega
  have q3 : (K == 3) = false := by simp; omega
  have q4 : (K == 4) = false := by simp; omega
  have q5 : (K == 5) = false := by simp; omega
  have q6 : (K == 6) = false := by simp; omega
  go_wp2_with fail
  go_ret
  refine ⟨_, at', bad, rfl, hB0, h1, ?_⟩
  unfold Rs
  rw [he]
  by_cases hbad : bad = 0
  · exact Or.inr (Or.inl ⟨hbad, hle, rfl, rfl, hbad⟩)
  · exact Or.inl ⟨hbad, rfl⟩
end Go.Proofs.YtbmdnlomhnodeabDoor
