/- The walk of CodeTold: on any text it answers true; nothing that was there is turned. -/
import Derived.Test.YtafkkmkjagodfaaDoorKit
import Derived.Test.YtafkkmkjagodfaaDoorOrder
namespace Go.Proofs.YtafkkmkjagodfaaDoor
open Go.RowKit

theorem ret_i64 {a b : Int} (h : a = b) : Ending.returned (.int .i64 a) = .returned (.int .i64 b) := by rw [h]
/-- place: a number from 0 to n - 1. -/
theorem place_any (i n : Int) (w : World) (hn : 0 < n) (hn2 : n ≤ 4611686018427387904) :
    Calls Tryd.prog 11 #[.int .i64 i, .int .i64 n] w fun e w' => (∃ r : Nat, (r : Int) < n ∧ e = .returned (.int .i64 r)) ∧ w' = w := by
  have hm1 : -n < i.tmod n := Int.lt_tmod_of_pos i hn
  have hm2 : i.tmod n < n := Int.tmod_lt_of_pos i hn
  have hne : (n == 0) = false := by simp; omega
  by_cases hneg : i.tmod n < 0
  · go_enter Tryd.func11, Tryd.ntmps11
    go_wp2
    go_ret
    exact ⟨⟨(i.tmod n + n).toNat, by omega, ret_i64 (by omega)⟩, rfl⟩
  · go_enter Tryd.func11, Tryd.ntmps11
    go_wp2
    go_ret
    exact ⟨⟨(i.tmod n).toNat, by omega, ret_i64 (by omega)⟩, rfl⟩

theorem xor_bit (X i : Nat) (h : X < 256) : bits .xor .u8 (X : Int) ((2 : Int) ^ (i % 8) % 256) = ((X ^^^ 2 ^ (i % 8) : Nat) : Int) := by
  have hm : i % 8 < 8 := Nat.mod_lt _ (by decide)
  have hp : 2 ^ (i % 8) < 2 ^ 8 := Nat.pow_lt_pow_right (by decide) hm
  have e : ((2 : Int) ^ (i % 8) % 256) = ((2 ^ (i % 8) : Nat) : Int) := by
    have : ((2 : Int) ^ (i % 8)) = ((2 ^ (i % 8) : Nat) : Int) := by simp
    rw [this]
    have hp' : 2 ^ (i % 8) < 256 := hp
    generalize 2 ^ (i % 8) = P at *
    omega
  rw [e]; exact u8_xor_nat X _ h hp
theorem row_turn {w : World} {b len i : Nat} {x : Nat → Nat} (h : w.rowIs b 5 len (fun j => .int .u8 (x j : Nat))) (hr : ∀ j, x j < 256) :
    (w.setCell ⟨b, i / 8, none⟩ (.int .u8 (bits .xor .u8 ((x (i / 8) : Nat) : Int) ((2 : Int) ^ (i % 8) % 256)))).rowIs b 5 len (fun j => .int .u8 (x j ^^^ Crc.bitAt i j : Nat)) := by
  refine (h.set (i / 8) _).congr (fun j _ => ?_)
  unfold Crc.bitAt
  by_cases e : j = i / 8
  · rw [if_pos e, if_pos e, xor_bit _ i (hr _), e]
  · rw [if_neg e, if_neg e, Nat.xor_zero]

/-- turned: a copy with one bit turned over. -/
theorem turned_any (a : Option Addr) (len cap i : Nat) (x : Nat → Nat) (w : World) (hmax : len ≤ 1048576) (hc : Byt w a len x) (hr : ∀ j, x j < 256) (hi : i < 8 * len) :
    Calls Tryd.prog 12 #[.slice a len cap, .int .i64 i] w fun e w' => e = .returned (.slice (some ⟨w.heap.size, 0, none⟩) len len) ∧ w.Since w.heap.size w' ∧ w'.heap.size = w.heap.size + 1 ∧ w'.rowIs w.heap.size 5 len (fun j => .int .u8 (x j ^^^ Crc.bitAt i j : Nat)) := by
  go_enter Tryd.func12, Tryd.ntmps12
  go_wp2_with fail
  refine (copy_any a len cap x w (by omega) hc).mono ?_
  rintro e w1 ⟨rfl, hs, hz, hrow⟩
  have hcell : w1.cell? ⟨w.heap.size, i / 8, none⟩ = some (.int .u8 (x (i / 8) : Nat)) := hrow.cell (by omega)
  have hfr : w1.frozen? ⟨w.heap.size, i / 8, none⟩ = false := hrow.frozen _
  have hx8 := hr (i / 8)
  go_wp2_with fail
  go_ret
  exact ⟨rfl, hs.setCell (Nat.le_refl _) _, by simp [hz], row_turn hrow hr⟩

/-- THE LOOP's RELATION: k bits have been looked at. -/
structure Turn (w1 wr : World) (cb len : Nat) (x : Nat → Nat) (at' word k : Nat) : Prop where
  since : w1.Since w1.heap.size wr
  le : w1.heap.size ≤ cb
  row : wr.rowIs cb 5 len (fun j => .int .u8 (x j ^^^ Crc.burst at' word k j : Nat))
theorem turn_step {w1 wr : World} {cb len : Nat} {x : Nat → Nat} {at' word k : Nat} (h : Turn w1 wr cb len x at' word k) (hr : ∀ j, x j ^^^ Crc.burst at' word k j < 256) (hb : word / 2 ^ k % 2 = 1) :
    Turn w1 (wr.setCell ⟨cb, (at' + k) / 8, none⟩ (.int .u8 (bits .xor .u8 ((x ((at' + k) / 8) ^^^ Crc.burst at' word k ((at' + k) / 8) : Nat) : Int) ((2 : Int) ^ ((at' + k) % 8) % 256)))) cb len x at' word (k + 1) :=
  ⟨h.since.setCell h.le _, h.le, (row_turn (i := at' + k) h.row hr).congr (fun j _ => by simp only [Crc.burst, if_pos hb, Nat.xor_assoc])⟩
theorem turn_skip {w1 wr : World} {cb len : Nat} {x : Nat → Nat} {at' word k : Nat} (h : Turn w1 wr cb len x at' word k) (hb : ¬ word / 2 ^ k % 2 = 1) : Turn w1 wr cb len x at' word (k + 1) :=
  ⟨h.since, h.le, h.row.congr (fun j _ => by simp only [Crc.burst, if_neg hb, Nat.xor_zero])⟩
theorem bit_of (B k : Nat) (hB : B < 4294967296) : bits .and .u32 ((B : Int) / (2 : Int) ^ k) 1 = ((B / 2 ^ k % 2 : Nat) : Int) := by
  have e : (B : Int) / (2 : Int) ^ k = ((B / 2 ^ k : Nat) : Int) := by simp
  have h : B / 2 ^ k < 4294967296 := Nat.lt_of_le_of_lt (Nat.div_le_self _ _) hB
  rw [e, show (1 : Int) = ((1 : Nat) : Int) from rfl, u32_and_nat _ _ h (by decide), nat_mask1]
theorem bitAt_lt (i j : Nat) : Crc.bitAt i j < 256 := by
  unfold Crc.bitAt
  split
  · have hm : i % 8 < 8 := Nat.mod_lt _ (by decide)
    exact (Nat.pow_lt_pow_right (by decide) hm : 2 ^ (i % 8) < 2 ^ 8)
  · decide
theorem burst_lt (at' word k j : Nat) : Crc.burst at' word k j < 256 := by
  induction k with
  | zero => exact (by decide : 0 < 256)
  | succ k ih =>
    show _ ^^^ _ < 256
    refine Nat.xor_lt_two_pow (n := 8) ih ?_
    split
    · exact bitAt_lt _ _
    · decide
theorem any_step (word k : Nat) : decide (word % 2 ^ (k + 1) ≠ 0) = (decide (word % 2 ^ k ≠ 0) || decide (word / 2 ^ k % 2 = 1)) := by
  rw [Crc.mod_succ]
  have hlt : word % 2 ^ k < 2 ^ k := Nat.mod_lt _ (Nat.two_pow_pos k)
  by_cases hb : word / 2 ^ k % 2 = 1
  · rw [if_pos hb]
    have : word % 2 ^ k ^^^ 2 ^ k ≠ 0 := fun e => by have := Crc.eq_of_xor e; omega
    simp [hb, this]
  · rw [if_neg hb, Nat.xor_zero]; simp [hb]

/-- One bit, two bits. -/
theorem one_told (len i : Nat) (hi : i < 8 * len) : Crc.fold 0 ((List.range len).map (Crc.bitAt i)) ≠ 0 := fun e => by
  rw [(Crc.fold_bit len i).2 hi] at e
  have := Crc.it_eq_zero _ _ (by decide) e
  omega
theorem two_told_lt (len i j : Nat) (hi : i < j) (hj : j < 8 * len) (hl : len ≤ 1048576) : Crc.fold 0 ((List.range len).map (Crc.bitAt i)) ≠ Crc.fold 0 ((List.range len).map (Crc.bitAt j)) := fun e => by
  rw [(Crc.fold_bit len i).2 (by omega), (Crc.fold_bit len j).2 hj, show 8 * len - i = (8 * len - j) + (j - i) by omega, Crc.it_add] at e
  have := Crc.it_inj _ _ _ (Crc.it_lt _ _ (by decide)) (by decide) e
  exact Crc.no_return (j - i) (by omega) (by omega) this
theorem two_told (len i j : Nat) (hi : i < 8 * len) (hj : j < 8 * len) (hl : len ≤ 1048576) : Crc.fold 0 ((List.range len).map fun k => Crc.bitAt i k ^^^ Crc.bitAt j k) = 0 ↔ i = j := by
  have h := Crc.fold_map_xor len 0 0 (Crc.bitAt i) (Crc.bitAt j)
  rw [Nat.xor_self] at h
  rw [h]
  constructor
  · intro e
    have e' := Crc.eq_of_xor e
    rcases Nat.lt_trichotomy i j with h1 | h1 | h1
    · exact absurd e' (two_told_lt len i j h1 hj hl)
    · exact h1
    · exact absurd e'.symm (two_told_lt len j i h1 hi hl)
  · rintro rfl; exact Nat.xor_self _
theorem bne_of (a b : Nat) (h : a ≠ b) : ((a : Int) != (b : Int)) = true := bne_iff_ne.2 (fun e => h (Int.ofNat.inj e))
theorem beq_of (a b : Nat) (h : a ≠ b) : ((a : Int) == (b : Int)) = false := beq_eq_false_iff_ne.2 (fun e => h (Int.ofNat.inj e))
theorem xor_ne (S D : Nat) (h : D ≠ 0) : S ^^^ D ≠ S := fun e => h (by
  have : S ^^^ (S ^^^ D) = 0 := by rw [e, Nat.xor_self]
  rwa [← Nat.xor_assoc, Nat.xor_self, Nat.zero_xor] at this)

theorem sumA : Crc.sum [97] = 3904355907 := by decide +kernel
/-- []byte("a"), made behind any world. -/
theorem kc_a (W : World) : (convert 27 27 (.slice (some ⟨W.heap.size, 0, none⟩) 1 1)).run Tryd.prog (W.alloc (.cells #[.int .u8 97] 5)) = .ok (.slice (some ⟨W.heap.size, 0, none⟩) 1 1) (W.alloc (.cells #[.int .u8 97] 5 (1, 2))) := by
  have := Lib.run_convert_bytes_const (P := Tryd.prog) W 27 5 #[.int .u8 97] 1 1 Tryd.underlying27 Tryd.underlying5
  simpa using this
theorem sum_a (W : World) (hpos : 0 < W.heap.size) (ht : ∀ i, i < 16 → W.cell? ⟨0, i, none⟩ = some (.int .u32 (Crc.T i : Nat))) :
    Calls Tryd.prog 9 #[.slice (some ⟨W.heap.size, 0, none⟩) 1 1] (W.alloc (.cells #[.int .u8 97] 5 (1, 2))) fun e w' => e = .returned (.int .u32 3904355907) ∧ w' = W.alloc (.cells #[.int .u8 97] 5 (1, 2)) := by
  have hs := sum_any W.heap.size 0 1 1 [97] (W.alloc (.cells #[.int .u8 97] 5 (1, 2))) rfl (by decide)
    (fun j hj => by obtain rfl : j = 0 := by omega
                    exact (by simpa using World.cell?_alloc_mark W #[.int .u8 97] 5 (1, 2) 0)) (fun j => by rcases j with _ | j <;> simp)
    (fun i hi => by rw [World.cell?_alloc_lt _ _ _ hpos]; exact ht i hi)
  rw [sumA] at hs
  exact hs

/-- The table is there still. -/
theorem table_since {w w' : World} (hs : w.Since w.heap.size w') (ht : ∀ i, i < 16 → w.cell? ⟨0, i, none⟩ = some (.int .u32 (Crc.T i : Nat))) : ∀ i, i < 16 → w'.cell? ⟨0, i, none⟩ = some (.int .u32 (Crc.T i : Nat)) := fun i hi => by
  rw [hs.cell (a := ⟨0, i, none⟩) (World.block_lt_of_cell? _ _ (ht i hi))]; exact ht i hi

set_option maxHeartbeats 1600000 in
set_option maxRecDepth 100000 in
theorem told_walk (ta : Option Addr) (len cap : Nat) (x : Nat → Nat) (AT ONE TWO : Int) (BITS : Nat) (w : World) (hlen : len ≤ 281474976710656) (hx : Byt w ta len x) (hr : ∀ j, x j < 256) (hB : BITS < 4294967296)
    (ht : ∀ i, i < 16 → w.cell? ⟨0, i, none⟩ = some (.int .u32 (Crc.T i : Nat))) :
    Calls Tryd.prog 4 #[.agg #[.slice ta len cap, .int .i64 AT, .int .u32 BITS, .int .i64 ONE, .int .i64 TWO]] w fun e w' => e = .returned (.bool true) ∧ w.Since w.heap.size w' := by
  have hpos : 0 < w.heap.size := World.block_lt_of_cell? _ _ (ht 0 (by decide))
  have hs1 : w.Since w.heap.size (w.alloc (.cells #[.slice ta len cap, .int .i64 AT, .int .u32 BITS, .int .i64 ONE, .int .i64 TWO] 30)) := (World.Since.refl _ _).alloc (Nat.le_refl _) _
  have k0 := kc_a (w.alloc (.cells #[.slice ta len cap, .int .i64 AT, .int .u32 BITS, .int .i64 ONE, .int .i64 TWO] 30))
  have s0 := sum_a (w.alloc (.cells #[.slice ta len cap, .int .i64 AT, .int .u32 BITS, .int .i64 ONE, .int .i64 TWO] 30)) (by simp) (table_since hs1 ht)
  have e0 : (w.alloc (.cells #[.slice ta len cap, .int .i64 AT, .int .u32 BITS, .int .i64 ONE, .int .i64 TWO] 30)).heap.size = w.heap.size + 1 := by simp
  rw [e0] at k0 s0
  have box : ∀ i, i < 5 → (w.alloc (.cells #[.slice ta len cap, .int .i64 AT, .int .u32 BITS, .int .i64 ONE, .int .i64 TWO] 30)).cell? ⟨w.heap.size, i, none⟩ = #[Value.slice ta len cap, .int .i64 AT, .int .u32 BITS, .int .i64 ONE, .int .i64 TWO][i]? := fun i hi => by simp
  have hs2 : (w.alloc (.cells #[.slice ta len cap, .int .i64 AT, .int .u32 BITS, .int .i64 ONE, .int .i64 TWO] 30)).Since (w.heap.size + 1) ((w.alloc (.cells #[.slice ta len cap, .int .i64 AT, .int .u32 BITS, .int .i64 ONE, .int .i64 TWO] 30)).alloc (.cells #[.int .u8 97] 5 (1, 2))) :=
    (World.Since.refl _ _).alloc (by rw [e0]; exact Nat.le_refl _) _
  go_enter Tryd.func4, Tryd.ntmps4
  go_wp2_with fail
  refine s0.mono ?_
  rintro e w' ⟨rfl, rfl⟩
  clear s0 k0
  have hx1 := hx.since hs1
  have ht1 := table_since hs1 ht
  generalize w.alloc (.cells #[.slice ta len cap, .int .i64 AT, .int .u32 BITS, .int .i64 ONE, .int .i64 TWO] 30) = w1 at *
  generalize w1.alloc (.cells #[.int .u8 97] 5 (1, 2)) = w2 at *
  rw [← e0] at hs2
  clear hx ht
  have c0 : w2.cell? ⟨w.heap.size, 0, none⟩ = some (.slice ta len cap) := by rw [hs2.cell (a := ⟨w.heap.size, 0, none⟩) (by show w.heap.size < w1.heap.size; omega)]; exact box 0 (by decide)
  by_cases hl0 : len = 0
  · subst hl0
    go_wp2
    go_ret
    exact ⟨rfl, hs1.trans (since_mono hs2 (by omega))⟩
  have hne : (8 * (len : Int) == 0) = false := by simp; omega
  by_cases hbig : 1048576 < len
  · go_wp2
    go_ret
    exact ⟨rfl, hs1.trans (since_mono hs2 (by omega))⟩
  have hbig' : decide (1048576 < (len : Int)) = false := by simp; omega
  go_wp2_with fail
  refine (copy_any ta len cap x w2 (by omega) (hx1.since hs2)).mono ?_
  rintro e w3 ⟨rfl, h3, z3, r3⟩
  have g3 := hs2.trans (since_mono h3 hs2.size)
  go_wp2_with fail
  refine (sum_byt _ len len x w3 (by omega) (Byt.of_row r3) hr (table_since g3 ht1)).mono ?_
  rintro e w' ⟨rfl, rfl⟩
  have hS := sum_range_lt len x hr
  have HT : Hid (∀ d : Nat → Nat, Crc.sum ((List.range len).map fun j => x j ^^^ d j) = Crc.sum ((List.range len).map x) ^^^ Crc.fold 0 ((List.range len).map d)) := fun d => Crc.sum_turned len x d
  generalize Crc.sum ((List.range len).map x) = S at *
  clear h3 z3 r3 c0 hs2
  have bx : ∀ W, w1.Since w1.heap.size W → ∀ i v, i < 5 → #[Value.slice ta len cap, .int .i64 AT, .int .u32 BITS, .int .i64 ONE, .int .i64 TWO][i]? = some v → W.cell? ⟨w.heap.size, i, none⟩ = some v := fun W hW i v hi hv => by
    rw [hW.cell (a := ⟨w.heap.size, i, none⟩) (by show w.heap.size < w1.heap.size; omega), box i hi]; exact hv
  have Hbx := hide bx
  have Hbox := hide box
  clear bx box
  have a1 := (unhide Hbx) w' g3 1 _ (by decide) rfl
  have a0 := (unhide Hbx) w' g3 0 _ (by decide) rfl
  go_wp2_with fail
  refine (place_any AT (8 * (len : Int)) w' (by omega) (by omega)).mono ?_
  rintro e w4 ⟨⟨at', hat, rfl⟩, rfl⟩
  go_wp2_with fail
  refine (copy_any ta len cap x w4 (by omega) (hx1.since g3)).mono ?_
  rintro e w5 ⟨rfl, h5, z5, r5⟩
  have g5 := g3.trans (since_mono h5 g3.size)
  have hT0 : Turn w1 w5 w4.heap.size len x at' BITS 0 := ⟨g5, g3.size, r5.congr (fun j _ => by simp [Crc.burst])⟩
  generalize w4.heap.size = cb at *
  clear h5 z5 r5 a0 a1
  go_wp2_with fail
  go_loopg [7, 8] 32 (fun g s7 s8 wx => ∃ k : Nat, k ≤ 32 ∧ at' + k ≤ 8 * len ∧ g = 32 - k ∧ s8 = .int .i64 k ∧ s7 = .bool (decide (BITS % 2 ^ k ≠ 0)) ∧ Turn w1 wx cb len x at' BITS k)
  case atStart => exact ⟨0, by omega, by omega, rfl, rfl, by simp [Nat.mod_one], hT0⟩
  case round =>
    obtain ⟨k, hk, hkn, rfl, rfl, rfl, hT⟩ := hrel
    clear hT0
    by_cases hgo : k < 32 ∧ at' + k < 8 * len
    · obtain ⟨hk32, hkl⟩ := hgo
      have q1 : decide ((k : Int) < 32) = true := by simp; omega
      have q2 : decide ((at' : Int) + (k : Int) < 8 * (len : Int)) = true := by simp; omega
      have a2 := (unhide Hbx) wr hT.since 2 _ (by decide) rfl
      have hbo := bit_of BITS k hB
      by_cases hb : BITS / 2 ^ k % 2 = 1
      · have hbt : (bits .and .u32 ((BITS : Int) / (2 : Int) ^ k) 1 == 1) = true := by rw [hbo, hb]; rfl
        have hlim : ∀ j, x j ^^^ Crc.burst at' BITS k j < 256 := fun j => Nat.xor_lt_two_pow (n := 8) (hr j) (burst_lt _ _ _ _)
        have cc : wr.cell? ⟨cb, (at' + k) / 8, none⟩ = some (.int .u8 (x ((at' + k) / 8) ^^^ Crc.burst at' BITS k ((at' + k) / 8) : Nat)) := hT.row.cell (by omega)
        have cf : wr.frozen? ⟨cb, (at' + k) / 8, none⟩ = false := hT.row.frozen _
        have hst := turn_step hT hlim hb
        have Hany : Hid (decide (BITS % 2 ^ (k + 1) ≠ 0) = true) := by show _ = _; rw [any_step]; simp [hb]
        have hy := hlim ((at' + k) / 8)
        generalize x ((at' + k) / 8) ^^^ Crc.burst at' BITS k ((at' + k) / 8) = Y at *
        clear hbo hlim
        go_wp2_with fail
        go_roundg (32 - (k + 1))
        case measure => go_light; omega
        case rel => go_light; exact ⟨k + 1, by omega, by omega, rfl, by simp, by rw [unhide Hany], hst⟩
      · have hbt : (bits .and .u32 ((BITS : Int) / (2 : Int) ^ k) 1 == 1) = false := by rw [hbo]; exact beq_eq_false_iff_ne.2 (fun e => hb (Int.ofNat.inj e))
        have hst := turn_skip hT hb
        have Hany : Hid (decide (BITS % 2 ^ (k + 1) ≠ 0) = decide (BITS % 2 ^ k ≠ 0)) := by show _ = _; rw [any_step]; simp [hb]
        clear hbo
        go_wp2_with fail
        go_roundg (32 - (k + 1))
        case measure => go_light; omega
        case rel => go_light; exact ⟨k + 1, by omega, by omega, rfl, by simp, by rw [unhide Hany], hst⟩
    · have hcases : (decide ((k : Int) < 32) = true ∧ decide ((at' : Int) + (k : Int) < 8 * (len : Int)) = false) ∨ decide ((k : Int) < 32) = false := by
        by_cases hk32 : k < 32
        · exact Or.inl ⟨by simp; omega, by simp; omega⟩
        · exact Or.inr (by simp; omega)
      have hlim : ∀ j, x j ^^^ Crc.burst at' BITS k j < 256 := fun j => Nat.xor_lt_two_pow (n := 8) (hr j) (burst_lt _ _ _ _)
      have hsc := sum_byt (some ⟨cb, 0, none⟩) len len _ wr (by omega) (Byt.of_row hT.row) hlim (table_since hT.since ht1)
      rw [(unhide HT) (Crc.burst at' BITS k)] at hsc
      have hs' := sum_range_lt len _ hlim
      rw [(unhide HT) (Crc.burst at' BITS k)] at hs'
      have hD : S ^^^ Crc.fold 0 ((List.range len).map (Crc.burst at' BITS k)) = S ↔ BITS % 2 ^ k = 0 := by
        constructor
        · intro e
          refine Crc.burst_told len at' BITS k hkn hk (Classical.byContradiction fun hne => ?_)
          exact xor_ne _ _ hne e
        · intro e
          rw [Crc.fold_burst len at' BITS k hkn, e, Crc.it_zero, Nat.xor_zero]
      generalize S ^^^ Crc.fold 0 ((List.range len).map (Crc.burst at' BITS k)) = S' at *
      have hany : (decide (BITS % 2 ^ k ≠ 0) = false ∧ S = S') ∨ (decide (BITS % 2 ^ k ≠ 0) = true ∧ ((S' : Int) != (S : Int)) = true) := by
        by_cases hz0 : BITS % 2 ^ k = 0
        · exact Or.inl ⟨by simp [hz0], (hD.2 hz0).symm⟩
        · have : S' ≠ S := fun e => hz0 (hD.1 e)
          exact Or.inr ⟨by simp [hz0], bne_iff_ne.2 (fun e => this (Int.ofNat.inj e))⟩
      generalize decide (BITS % 2 ^ k ≠ 0) = any at *
      have b3 := (unhide Hbx) wr hT.since 3 _ (by decide) rfl
      have b4 := (unhide Hbx) wr hT.since 4 _ (by decide) rfl
      have b0 := (unhide Hbx) wr hT.since 0 _ (by decide) rfl
      have g6 := hT.since
      have Hs := hide hsc
      clear hT hD hlim hsc hs'
      rcases hany with ⟨rfl, rfl⟩ | ⟨rfl, hne'⟩ <;> rcases hcases with ⟨q1, q2⟩ | q1
      all_goals
        go_wp2_with fail
        refine (unhide Hs).mono ?_
        rintro e w' ⟨rfl, rfl⟩
        go_wp2_with fail
        refine (place_any ONE (8 * (len : Int)) _ (by omega) (by omega)).mono ?_
        rintro e w4 ⟨⟨one, hone, rfl⟩, rfl⟩
        go_wp2_with fail
        refine (place_any TWO (8 * (len : Int)) _ (by omega) (by omega)).mono ?_
        rintro e w4 ⟨⟨two, htwo, rfl⟩, rfl⟩
        go_wp2_with fail
        refine (turned_any ta len cap one x _ (by omega) (hx1.since g6) hr (by omega)).mono ?_
        rintro e w7 ⟨rfl, h7, z7, r7⟩
        have g7 := g6.trans (since_mono h7 g6.size)
        have hr7 : ∀ j, x j ^^^ Crc.bitAt one j < 256 := fun j => Nat.xor_lt_two_pow (n := 8) (hr j) (bitAt_lt _ _)
        go_wp2_with fail
        refine (turned_any _ len len two _ w7 (by omega) (Byt.of_row r7) hr7 (by omega)).mono ?_
        rintro e w8 ⟨rfl, h8, z8, r8⟩
        have g8 := g7.trans (since_mono h8 g7.size)
        have hd := sum_byt _ len len _ w8 (by omega) ((Byt.of_row r7).since h8) hr7 (table_since g8 ht1)
        have he := sum_byt _ len len _ w8 (by omega) (Byt.of_row r8) (fun j => Nat.xor_lt_two_pow (n := 8) (hr7 j) (bitAt_lt _ _)) (table_since g8 ht1)
        have ex : (fun j => (x j ^^^ Crc.bitAt one j) ^^^ Crc.bitAt two j) = fun j => x j ^^^ (Crc.bitAt one j ^^^ Crc.bitAt two j) := by funext j; rw [Nat.xor_assoc]
        rw [ex, (unhide HT) (fun j => Crc.bitAt one j ^^^ Crc.bitAt two j)] at he
        rw [(unhide HT) (Crc.bitAt one)] at hd
        have f1 := one_told len one (by omega)
        have f2 := two_told len one two (by omega) (by omega) (by omega)
        generalize Crc.fold 0 ((List.range len).map (Crc.bitAt one)) = D1 at *
        generalize Crc.fold 0 ((List.range len).map fun j => Crc.bitAt one j ^^^ Crc.bitAt two j) = D2 at *
        have Hd := hide hd
        have He := hide he
        clear hd he ex h7 z7 r7 h8 z8 r8 hr7 b0 b3 b4
        go_wp2_with fail
        refine (unhide Hd).mono ?_
        rintro e w' ⟨rfl, rfl⟩
        have hn := bne_of _ _ (xor_ne S D1 f1)
        go_wp2_with fail
        refine (unhide He).mono ?_
        rintro e w' ⟨rfl, rfl⟩
        by_cases hot : one = two
        · subst hot
          obtain rfl := f2.2 rfl
          rw [Nat.xor_zero]
          go_wp2
          go_ret
          exact ⟨rfl, hs1.trans (since_mono g8 (by omega))⟩
        · have hn2 := beq_of _ _ (xor_ne S D2 (fun e => hot (f2.1 e)))
          have hn3 := beq_of _ _ hot
          go_wp2
          go_ret
          exact ⟨rfl, hs1.trans (since_mono g8 (by omega))⟩
end Go.Proofs.YtafkkmkjagodfaaDoor
