/- The walk of reads: one call of a Reader beside the document's. -/
import Derived.Test.YtbmdnlomhnodeabDoorEyeText
import Derived.Test.YtbmdnlomhnodeabDoorRefEq
namespace Go.Proofs.YtbmdnlomhnodeabDoor
open Go.RowKit
set_option maxRecDepth 100000

theorem num_e (n : Int) (w : World) : Calls Tryd.prog 16 #[.int .i64 n] w fun e w' => e = .returned (.int .i64 n) ∧ w' = w := by
  go_enter Tryd.func16, Tryd.ntmps16
  go_wp2
  go_ret
  exact ⟨rfl, rfl⟩
/-- Nothing that was there has turned but blocks r and e. -/
structure But2 (r e : Nat) (w w' : World) : Prop where
  os : w'.os = w.os
  tape : w'.tape = w.tape
  output : w'.output = w.output
  size : w.heap.size ≤ w'.heap.size
  block : ∀ k, k < w.heap.size → k ≠ r → k ≠ e → w'.heap[k]? = w.heap[k]?
theorem But2.of_since {r e : Nat} {w w' : World} (h : w.Since w.heap.size w') : But2 r e w w' := ⟨h.os, h.tape, h.output, h.size, fun k hk _ _ => h.block k hk⟩
theorem But2.left {r e : Nat} {w w' : World} (h : But r w w') : But2 r e w w' := ⟨h.os, h.tape, h.output, h.size, fun k hk h1 _ => h.block k hk h1⟩
theorem But2.right {r e : Nat} {w w' : World} (h : But e w w') : But2 r e w w' := ⟨h.os, h.tape, h.output, h.size, fun k hk _ h2 => h.block k hk h2⟩
theorem But2.trans {r e : Nat} {a b c : World} (h : But2 r e a b) (k : But2 r e b c) : But2 r e a c :=
  ⟨k.os.trans h.os, k.tape.trans h.tape, k.output.trans h.output, Nat.le_trans h.size k.size, fun i hi h1 h2 => (k.block i (Nat.lt_of_lt_of_le hi h.size) h1 h2).trans (h.block i hi h1 h2)⟩
theorem But2.since {r e B : Nat} {w0 w w' : World} (h0 : w0.Since B w) (hr : B ≤ r) (he : B ≤ e) (hB : B ≤ w.heap.size) (h : But2 r e w w') : w0.Since B w' :=
  ⟨h.os.trans h0.os, h.tape.trans h0.tape, h.output.trans h0.output, Nat.le_trans h0.size h.size, fun k hk => (h.block k (by omega) (by omega) (by omega)).trans (h0.block k hk)⟩
theorem but_cell {r b o : Nat} {w w' : World} {u : Value} (h : But r w w') (hc : w.cell? ⟨b, o, none⟩ = some u) (hn : b ≠ r) : w'.cell? ⟨b, o, none⟩ = some u := by
  rw [World.cell?_of_block (w := w) (h.block b (World.block_lt_of_cell? _ _ hc) hn)]; exact hc
theorem txt_but {B r : Nat} {w w' : World} {ta : Option Addr} {l : Nat} {tx : Nat → Nat} (h : Txt B w ta l tx) (hb : But r w w') (hr : r < B) : Txt B w' ta l tx := by
  rcases h with h | ⟨t, e, hB, hrow⟩
  · exact Or.inl h
  · exact Or.inr ⟨t, e, hB, hb.row hrow (by omega)⟩
/-- A Reader and the document's, at one place. -/
structure RE (w : World) (rb hb eb he n : Nat) (z : Nat → Nat) (at' bad : Nat) : Prop where
  rd : IsR w rb hb n z at' bad
  ey : IsE w eb he n z at' bad
  n1 : rb ≠ eb
  n2 : hb ≠ eb
  n3 : he ≠ rb
theorem RE.later {w w' : World} {rb hb eb he n : Nat} {z : Nat → Nat} {at' bad : Nat} (h : RE w rb hb eb he n z at' bad) (hs : w.Since w.heap.size w') : RE w' rb hb eb he n z at' bad := ⟨h.rd.since hs, h.ey.since hs, h.n1, h.n2, h.n3⟩
theorem RE.eye {w w' : World} {rb hb eb he n : Nat} {z : Nat → Nat} {at' bad : Nat} (h : RE w rb hb eb he n z at' bad) (hb' : But rb w w') : IsE w' eb he n z at' bad := h.ey.but hb' h.n1.symm h.n3
theorem RE.both {w1 w2 w3 : World} {rb hb eb he n : Nat} {z : Nat → Nat} {at' bad at2 bad2 : Nat} (h : RE w1 rb hb eb he n z at' bad) (h2 : IsR w2 rb hb n z at2 bad2) (hb3 : But eb w2 w3) (h3 : IsE w3 eb he n z at2 bad2) : RE w3 rb hb eb he n z at2 bad2 := ⟨h2.but hb3 h.n1 h.n2, h3, h.n1, h.n2, h.n3⟩
/-- What one call leaves. -/
def Gone (w w' : World) (rb hb eb he n : Nat) (z : Nat → Nat) : Prop := ∃ at2 bad2, RE w' rb hb eb he n z at2 bad2 ∧ But2 rb eb w w'

theorem rawAns_le (n : Nat) (k : Int) (at' bad : Nat) : (rawAns n k at' bad).1 ≤ n := by
  unfold rawAns
  split
  · exact Nat.zero_le _
  · split
    · exact Nat.zero_le _
    · show (rlook _ _).1 ≤ n
      unfold rlook
      split
      · exact Nat.zero_le _
      · show k.toNat ≤ n; omega
theorem bytesAns_le (z : Nat → Nat) (n most at' bad : Nat) : (bytesAns z n most at' bad).1 ≤ n := by
  unfold bytesAns
  split
  · exact Nat.zero_le _
  · show (blook _ _ _).1 ≤ n
    unfold blook
    split
    · exact Nat.zero_le _
    · split
      · exact Nat.zero_le _
      · show (vlook _ _ _).1 ≤ n; omega

set_option maxHeartbeats 6400000 in
set_option maxRecDepth 100000 in
theorem reads_walk (w : World) (rb hb eb he n : Nat) (z : Nat → Nat) (at' bad : Nat) (K WH M : Int) (N : Nat) (ba : Option Addr) (bl bc : Nat) (h : RE w rb hb eb he n z at' bad) (hW : Wid w) (hn : n ≤ 140737488351232) (hM : M ≤ 9223372036854775807) :
    Calls Tryd.prog 27 #[.pointer (some ⟨rb, 0, none⟩), .pointer (some ⟨eb, 0, none⟩), .agg #[.int .i64 K, .int .i64 WH, .int .i64 M, .int .u64 N, .slice ba bl bc]] w fun e w' => e = .returned (.bool true) ∧ Gone w w' rb hb eb he n z := by
  have hs0 : w.Since w.heap.size (w.alloc (.cells #[.int .i64 K, .int .i64 WH, .int .i64 M, .int .u64 N, .slice ba bl bc] 33)) := (World.Since.refl _ _).alloc (Nat.le_refl _) _
  have h1 := h.later hs0
  have k0 : (w.alloc (.cells #[.int .i64 K, .int .i64 WH, .int .i64 M, .int .u64 N, .slice ba bl bc] 33)).cell? ⟨w.heap.size, 0, none⟩ = some (.int .i64 K) := by simp
  have k2 : (w.alloc (.cells #[.int .i64 K, .int .i64 WH, .int .i64 M, .int .u64 N, .slice ba bl bc] 33)).cell? ⟨w.heap.size, 2, none⟩ = some (.int .i64 M) := by simp
  have k3 : (w.alloc (.cells #[.int .i64 K, .int .i64 WH, .int .i64 M, .int .u64 N, .slice ba bl bc] 33)).cell? ⟨w.heap.size, 3, none⟩ = some (.int .u64 N) := by simp
  have hb0 : But2 rb eb w (w.alloc (.cells #[.int .i64 K, .int .i64 WH, .int .i64 M, .int .u64 N, .slice ba bl bc] 33)) := But2.of_since hs0
  have hab1 : w.heap.size ≠ rb := by have := h.rd.rd.lt; omega
  have hab2 : w.heap.size ≠ eb := by have := h.ey.rd.lt; omega
  have hW1 := hW.since hs0
  go_enter Tryd.func27, Tryd.ntmps27
  go_upto_region 1 with fail
  generalize w.alloc (.cells #[.int .i64 K, .int .i64 WH, .int .i64 M, .int .u64 N, .slice ba bl bc] 33) = w1 at *
  generalize w.heap.size = ab at *
  have hlr := h1.rd.rd.lt
  have hle := h1.ey.rd.lt
  clear h hs0 hW
  by_cases e1 : K = 1
  · subst e1
    have hr := u8_r rb hb n at' bad z w1 h1.rd hW1
    have hy : ∀ W, IsE W eb he n z at' bad → _ := fun W hI => eyeU8 eb he n at' bad z W hI
    generalize fixAns z n 1 at' bad = V at *
    obtain ⟨A, at2, bad2⟩ := V
    go_wp2_with fail
    refine hr.mono ?_
    rintro e w2 ⟨rfl, hb2, hI2⟩
    have hE2 := hy w2 (h1.eye hb2)
    clear hr hy
    go_wp2_with fail
    refine hE2.mono ?_
    rintro e w3 ⟨rfl, hb3, hI3⟩
    have hG : Gone w w3 rb hb eb he n z := ⟨at2, bad2, h1.both hI2 hb3 hI3, (hb0.trans (But2.left hb2)).trans (But2.right hb3)⟩
    clear hE2
    go_wp2_with fail
    go_ret
    exact ⟨rfl, hG⟩
  by_cases e2 : K = 2
  · subst e2
    have hr := u32_r rb hb n at' bad z w1 h1.rd hW1
    have hy : ∀ W, IsE W eb he n z at' bad → _ := fun W hI => eyeU32 eb he n at' bad z W hI
    generalize fixAns z n 4 at' bad = V at *
    obtain ⟨A, at2, bad2⟩ := V
    go_wp2_with fail
    refine hr.mono ?_
    rintro e w2 ⟨rfl, hb2, hI2⟩
    have hE2 := hy w2 (h1.eye hb2)
    clear hr hy
    go_wp2_with fail
    refine hE2.mono ?_
    rintro e w3 ⟨rfl, hb3, hI3⟩
    have hG : Gone w w3 rb hb eb he n z := ⟨at2, bad2, h1.both hI2 hb3 hI3, (hb0.trans (But2.left hb2)).trans (But2.right hb3)⟩
    clear hE2
    go_wp2_with fail
    go_ret
    exact ⟨rfl, hG⟩
  by_cases e3 : K = 3
  · subst e3
    have hr := u64_r rb hb n at' bad z w1 h1.rd hW1
    have hy : ∀ W, IsE W eb he n z at' bad → _ := fun W hI => eyeU64 eb he n at' bad z W hI
    generalize fixAns z n 8 at' bad = V at *
    obtain ⟨A, at2, bad2⟩ := V
    go_wp2_with fail
    refine hr.mono ?_
    rintro e w2 ⟨rfl, hb2, hI2⟩
    have hE2 := hy w2 (h1.eye hb2)
    clear hr hy
    go_wp2_with fail
    refine hE2.mono ?_
    rintro e w3 ⟨rfl, hb3, hI3⟩
    have hG : Gone w w3 rb hb eb he n z := ⟨at2, bad2, h1.both hI2 hb3 hI3, (hb0.trans (But2.left hb2)).trans (But2.right hb3)⟩
    clear hE2
    go_wp2_with fail
    go_ret
    exact ⟨rfl, hG⟩
  by_cases e4 : K = 4
  · subst e4
    have hr : ∀ W, w1.Since w1.heap.size W → _ := fun W hs => var_r rb hb n at' bad N z W (h1.later hs).rd
    have hy : ∀ W, IsE W eb he n z at' bad → _ := fun W hI => eyeVar eb he n at' bad N z W hI hn
    generalize varAns z n N at' bad = V at *
    obtain ⟨A, at2, bad2⟩ := V
    have HR := hide hr
    have HY := hide hy
    clear hr hy
    go_upto_region 9 with fail
    go_region_held3 (fun W => W.cell? ⟨ab, 3, none⟩ = some (.int .u64 N))
      ((first | assumption | exact k3))
      ((first
        | (go_at_call 51; refine ((unhide HR) _ (World.Since.refl _ _).drew).mono ?_; rintro e w2 ⟨rfl, hb2, hI2⟩; have hE2 := (h1.later (World.Since.refl _ _).drew).eye hb2; have s2 : w2.cell? ⟨ab, 3, none⟩ = some (.int .u64 N) := but_cell hb2 k3 hab1)
        | (go_at_call 56; refine ((unhide HY) _ hE2).mono ?_; rintro e w3 ⟨rfl, hb3, hI3⟩; have s3 : w3.cell? ⟨ab, 3, none⟩ = some (.int .u64 N) := but_cell hb3 s2 hab2)))
    all_goals
      have hG : Gone w w3 rb hb eb he n z := ⟨at2, bad2, h1.both hI2 hb3 hI3, (hb0.trans (But2.left (But.trans (But.of_since (World.Since.refl _ _).drew) hb2))).trans (But2.right hb3)⟩
      clear HR HY
      go_wp2_with fail
      go_ret
      exact ⟨rfl, hG⟩
  by_cases e5 : K = 5
  · subst e5
    have hr : ∀ W, w1.Since w1.heap.size W → _ := fun W hs => bytes_r rb hb n at' bad M z W (h1.later hs).rd hM
    have hy : ∀ W, IsE W eb he n z at' bad → _ := fun W hI => eyeText eb he n at' bad M z W hI hM hn
    have hll := bytesAns_le z n M.toNat at' bad
    generalize bytesAns z n M.toNat at' bad = V at *
    obtain ⟨A, fr, at2, bad2⟩ := V
    replace hll : A ≤ n := hll
    have hq : ∀ W ta tb, Byt W ta A (fun j => z (fr + j)) → Byt W tb A (fun j => z (fr + j)) → _ := fun W ta tb p q => eq_same ta tb A A A (fun j => z (fr + j)) W p q (by omega)
    have HR := hide hr
    have HY := hide hy
    have HQ := hide hq
    clear hr hy hq
    go_upto_region 11 with fail
    go_region_held3 (fun W => W.cell? ⟨ab, 2, none⟩ = some (.int .i64 M))
      ((first | assumption | exact k2))
      ((first
        | (go_at_call 37; refine ((unhide HR) _ (World.Since.refl _ _).drew).mono ?_; rintro e w2 ⟨⟨ta, rfl, htx⟩, hb2, hI2⟩; have hE2 := (h1.later (World.Since.refl _ _).drew).eye hb2; have s2 : w2.cell? ⟨ab, 2, none⟩ = some (.int .i64 M) := but_cell hb2 k2 hab1)
        | (go_at_call 39; refine ((unhide HY) _ hE2).mono ?_; rintro e w3 ⟨⟨tb, rfl, hty⟩, hb3, hI3⟩; have s3 : w3.cell? ⟨ab, 2, none⟩ = some (.int .i64 M) := but_cell hb3 s2 hab2; have htx3 := (txt_byt' (txt_but htx hb3 hle)).1; have hty3 := (txt_byt' hty).1)
        | (go_at_call 22; refine ((unhide HQ) _ _ _ htx3 hty3).mono ?_; rintro e w4 ⟨rfl, m4, rfl⟩)))
    all_goals
      have hG : Gone w (w3.drewN m4) rb hb eb he n z := ⟨at2, bad2, (h1.both hI2 hb3 hI3).later (since_drewN' (World.Since.refl _ _) m4), ((hb0.trans (But2.left (But.trans (But.of_since (World.Since.refl _ _).drew) hb2))).trans (But2.right hb3)).trans (But2.of_since (since_drewN' (World.Since.refl _ _) m4))⟩
      clear HR HY HQ
      go_wp2_with fail
      go_ret
      exact ⟨rfl, hG⟩
  by_cases e6 : K = 6
  · subst e6
    have hr : ∀ W, w1.Since w1.heap.size W → _ := fun W hs => raw_r rb hb n at' bad M z W (h1.later hs).rd hM
    have hy : ∀ W, IsE W eb he n z at' bad → _ := fun W hI => eyeRaw eb he n at' bad M z W hI hM
    have hll := rawAns_le n M at' bad
    generalize rawAns n M at' bad = V at *
    obtain ⟨A, fr, at2, bad2⟩ := V
    replace hll : A ≤ n := hll
    have hq : ∀ W ta tb, Byt W ta A (fun j => z (fr + j)) → Byt W tb A (fun j => z (fr + j)) → _ := fun W ta tb p q => eq_same ta tb A A A (fun j => z (fr + j)) W p q (by omega)
    have HR := hide hr
    have HY := hide hy
    have HQ := hide hq
    clear hr hy hq
    go_upto_region 13 with fail
    go_region_held3 (fun W => W.cell? ⟨ab, 2, none⟩ = some (.int .i64 M))
      ((first | assumption | exact k2))
      ((first
        | (go_at_call 34; refine ((unhide HR) _ (World.Since.refl _ _).drew).mono ?_; rintro e w2 ⟨⟨ta, rfl, htx⟩, hb2, hI2⟩; have hE2 := (h1.later (World.Since.refl _ _).drew).eye hb2; have s2 : w2.cell? ⟨ab, 2, none⟩ = some (.int .i64 M) := but_cell hb2 k2 hab1)
        | (go_at_call 40; refine ((unhide HY) _ hE2).mono ?_; rintro e w3 ⟨⟨tb, rfl, hty⟩, hb3, hI3⟩; have s3 : w3.cell? ⟨ab, 2, none⟩ = some (.int .i64 M) := but_cell hb3 s2 hab2; have htx3 := (txt_byt' (txt_but htx hb3 hle)).1; have hty3 := (txt_byt' hty).1)
        | (go_at_call 22; refine ((unhide HQ) _ _ _ htx3 hty3).mono ?_; rintro e w4 ⟨rfl, m4, rfl⟩)))
    all_goals
      have hG : Gone w (w3.drewN m4) rb hb eb he n z := ⟨at2, bad2, (h1.both hI2 hb3 hI3).later (since_drewN' (World.Since.refl _ _) m4), ((hb0.trans (But2.left (But.trans (But.of_since (World.Since.refl _ _).drew) hb2))).trans (But2.right hb3)).trans (But2.of_since (since_drewN' (World.Since.refl _ _) m4))⟩
      clear HR HY HQ
      go_wp2_with fail
      go_ret
      exact ⟨rfl, hG⟩
  by_cases e7 : K = 7
  · subst e7
    have hr := left_any rb hb n at' bad z w1 h1.rd
    have hy : ∀ W, IsE W eb he n z at' bad → _ := fun W hI => eyeLeft eb he n at' bad z W hI
    generalize ((n - at' : Nat) : Int) = LL at *
    go_wp2_with fail
    refine hr.mono ?_
    rintro e w2 ⟨rfl, m2, rfl⟩
    have h2 := h1.later (since_drewN' (World.Since.refl _ _) m2)
    have hE2 := hy _ h2.ey
    clear hr hy
    go_wp2_with fail
    refine hE2.mono ?_
    rintro e w3 ⟨rfl, m3, rfl⟩
    have hG : Gone w ((w1.drewN m2).drewN m3) rb hb eb he n z := ⟨at', bad, h2.later (since_drewN' (World.Since.refl _ _) m3), (hb0.trans (But2.of_since (since_drewN' (World.Since.refl _ _) m2))).trans (But2.of_since (since_drewN' (World.Since.refl _ _) m3))⟩
    clear hE2
    generalize (w1.drewN m2).drewN m3 = w3 at *
    go_wp2_with fail
    go_ret
    exact ⟨rfl, hG⟩
  by_cases e8 : K = 8
  · subst e8
    have hat : ∀ W, w1.Since w1.heap.size W → _ := fun W hs => at_any rb hb n at' bad z W (h1.later hs).rd
    have y1 := h1.ey.c1
    have HA := hide hat
    clear hat
    have hG : Gone w w1.drew rb hb eb he n z := ⟨at', bad, h1.later (World.Since.refl _ _).drew, hb0.trans (But2.of_since (World.Since.refl _ _).drew)⟩
    go_upto_region 17 with fail
    go_region_held3 (fun W => W.cell? ⟨eb, 1, none⟩ = some (.int .i64 at'))
      ((first | assumption | exact y1))
      ((first | (go_at_call 20; refine ((unhide HA) _ (World.Since.refl _ _).drew).mono ?_; rintro e w2 ⟨rfl, rfl⟩)))
    all_goals
      clear HA
      go_wp2_with fail
      go_ret
      exact ⟨rfl, hG⟩
  by_cases e9 : K = 9
  · subst e9
    have hat : ∀ W, w1.Since w1.heap.size W → _ := fun W hs => fault_any rb hb n at' bad z W (h1.later hs).rd
    have y1 := h1.ey.c2
    have HA := hide hat
    clear hat
    have hG : Gone w w1.drew rb hb eb he n z := ⟨at', bad, h1.later (World.Since.refl _ _).drew, hb0.trans (But2.of_since (World.Since.refl _ _).drew)⟩
    go_upto_region 19 with fail
    go_region_held3 (fun W => W.cell? ⟨eb, 2, none⟩ = some (.int .i64 bad))
      ((first | assumption | exact y1))
      ((first
        | (go_at_call 17; refine ((unhide HA) _ (World.Since.refl _ _).drew).mono ?_; rintro e w2 ⟨rfl, rfl⟩)
        | (go_at_call 16; refine (num_e bad _).mono ?_; rintro e w2 ⟨rfl, rfl⟩)))
    all_goals
      clear HA
      go_wp2_with fail
      go_ret
      exact ⟨rfl, hG⟩
  by_cases e10 : K = 10
  · subst e10
    have hr := end_r rb hb n at' bad z w1 h1.rd
    have hy : ∀ W, IsE W eb he n z at' bad → _ := fun W hI => eyeEnd eb he n at' bad z W hI
    generalize (if bad = 0 ∧ at' < n then 13 else bad) = X at *
    go_wp2_with fail
    refine hr.mono ?_
    rintro e w2 ⟨rfl, m2, rfl⟩
    have h2 := h1.later (since_drewN' (World.Since.refl _ _) m2)
    have hE2 := hy _ h2.ey
    clear hr hy
    go_wp2_with fail
    refine (num_e X _).mono ?_
    rintro e w2' ⟨rfl, rfl⟩
    go_wp2_with fail
    refine hE2.mono ?_
    rintro e w3 ⟨rfl, m3, rfl⟩
    have hG : Gone w ((w1.drewN m2).drewN m3) rb hb eb he n z := ⟨at', bad, h2.later (since_drewN' (World.Since.refl _ _) m3), (hb0.trans (But2.of_since (since_drewN' (World.Since.refl _ _) m2))).trans (But2.of_since (since_drewN' (World.Since.refl _ _) m3))⟩
    clear hE2
    generalize (w1.drewN m2).drewN m3 = w3 at *
    go_wp2_with fail
    go_ret
    exact ⟨rfl, hG⟩
  have q1 : (K == 1) = false := by simp; omega
  have q2 : (K == 2) = false := by simp; omega
  have q3 : (K == 3) = false := by simp; omega
  have q4 : (K == 4) = false := by simp; omega
  have q5 : (K == 5) = false := by simp; omega
  have q6 : (K == 6) = false := by simp; omega
  have q7 : (K == 7) = false := by simp; omega
  have q8 : (K == 8) = false := by simp; omega
  have q9 : (K == 9) = false := by simp; omega
  have q10 : (K == 10) = false := by simp; omega
  have hG : Gone w w1 rb hb eb he n z := ⟨at', bad, h1, hb0⟩
  go_wp2_with fail
  go_ret
  exact ⟨rfl, hG⟩
end Go.Proofs.YtbmdnlomhnodeabDoor
