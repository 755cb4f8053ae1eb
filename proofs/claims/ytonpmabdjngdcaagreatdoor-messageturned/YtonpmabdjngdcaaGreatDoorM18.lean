/- Own texts, joined: AppW, TurnM, TurnL, TurnO. -/
import Derived.Test.YtonpmabdjngdcaaGreatDoorM2
import Derived.Deep.DeepAppendWide
import Derived.Test.YtonpmabdjngdcaaGreatDoorM4
import Derived.Test.YtonpmabdjngdcaaGreatDoorM10
import Derived.Test.YtonpmabdjngdcaaGreatDoorM17
import Derived.Laws.BitsAllLaws
import Derived.Deep.RegionLaw

/- append of any bytes onto a slice of one's own, with a wider bound. -/
namespace Go.Proofs.YtonpmabdjngdcaaGreatDoor
open Go.RowKit

theorem app_wide (w : World) (B : Nat) (v : Value) (n : Nat) (x : Nat → Nat) (hown : Own w B v n x) (a : Option Addr) (m c : Nat) (y : Nat → Nat) (hb : Byt w a m y) (ha : a = none → m = 0 ∧ c = 0) (hmax : n + m ≤ 200000000000000) (hB : B ≤ w.heap.size) :
    ∃ v' w', (Builtin.append_ #[32, 32] 32 #[v, .slice a m c]).run Tryz.prog w = .ok v' w' ∧ Own w' B v' (n + m) (cat x n y) ∧ w.grownBy w' v.ownBlock := by
  obtain ⟨i0, hi, hz0, hz1, hz2⟩ := info_parts Tryz.info5
  cases a with
  | none =>
    obtain ⟨rfl, rfl⟩ := ha rfl
    refine ⟨v, w, run_append_owned_none w B 32 32 5 i0 1 Tryz.underlying32 hi v n _ hown, ?_, ⟨rfl, rfl, rfl, Nat.le_refl _, fun _ _ _ => rfl⟩⟩
    have e : cellsOf (n + 0) (cat x n y) = cellsOf n x := by rw [← cellsOf_cat]; simp [cellsOf]
    show w.ownsRow B 5 1 v (n + 0) (cellsOf (n + 0) (cat x n y))
    rw [e]; exact hown
  | some ad =>
    obtain ⟨v', w', hr, h1, h2, _⟩ := run_append_own_wide (P := Tryz.prog) (w := w) B 32 32 5 i0 (.int .u8 0) 1 1 Tryz.underlying32 hi hz0 hz1 hz2 rfl (by decide) v n _ hown ad m c (cellsOf m y) (by rw [length_cellsOf, Nat.mul_one])
      (fun j u hu => by
        have hj : j < m := by have := (List.getElem?_eq_some_iff.1 hu).1; rwa [length_cellsOf] at this
        rw [get_cellsOf hj] at hu
        obtain ⟨b, off, e, hc⟩ := hb j hj
        obtain rfl : ad = ⟨b, off, none⟩ := by simpa using e
        rw [show (⟨b, off, none⟩ : Addr).add j = ⟨b, off + j, none⟩ by simp [Addr.add], hc]; exact hu)
      (one_cellsOf m y) (by unfold maxLen; omega) (by omega) hB
    exact ⟨v', w', hr, by rw [cellsOf_cat] at h1; exact h1, h2⟩
theorem own_room {w : World} {B : Nat} {a : Option Addr} {n c : Nat} {x : Nat → Nat} (h : Own w B (.slice a n c) n x) : n ≤ c ∧ c ≤ 9223372036854775807 := by
  rcases h.2 with ⟨e, h0⟩ | ⟨g, cap, cur, e, _, h1, h2, _⟩
  · cases e
    exact ⟨Nat.le_refl _, Nat.zero_le _⟩
  · cases e
    unfold maxLen at *
    omega
end Go.Proofs.YtonpmabdjngdcaaGreatDoor

/- A message's bytes with one bit turned: plain mathematics. -/
namespace Go.Proofs.YtonpmabdjngdcaaGreatDoor
open Go.RowKit

/-- The greatest number of bytes of a part. -/
def Fd.room : Fd → Nat
  | .var _ _ => 10
  | .small _ _ => 1
  | .text _ most => most + 10
theorem put_room {m : Mg} {f : Fd} (h : f.fits m) : (f.put m).length ≤ f.room := by
  cases f with
  | var c most => have := vl_len 9 (m.n c).toNat; exact this
  | small c most => show (fl 1 _).length ≤ 1; rw [fl_len]; exact Nat.le_refl _
  | text c most =>
    have h1 : (m.s c).length ≤ most := h.1
    show (vl 9 (m.s c).length ++ m.s c).length ≤ most + 10
    rw [List.length_append]
    have := vl_len 9 (m.s c).length
    omega
theorem putL_room {m : Mg} : ∀ fs : List Fd, (∀ f ∈ fs, f.fits m) → (putL m fs).length ≤ (fs.map Fd.room).sum
  | [], _ => Nat.le_refl _
  | f :: fs, h => by
    show (f.put m ++ putL m fs).length ≤ _
    rw [List.length_append, List.map_cons, List.sum_cons]
    have := put_room (h f (List.mem_cons_self ..))
    have := putL_room fs (fun g hg => h g (List.mem_cons_of_mem _ hg))
    omega
theorem fdsK_room : ∀ k : Fin 12, ((fdsK k.val).map Fd.room).sum ≤ 16900 := by decide +kernel
/-- Bytes that Encode answers: their number. -/
theorem enc_size {m : Mg} {l : List Nat} (he : encM m = (0, l)) : 8 ≤ l.length ∧ l.length ≤ 17000 := by
  unfold encM at he
  by_cases hk : kindB m = false
  · rw [if_pos hk] at he; exact absurd (congrArg Prod.fst he) (by simp)
  · rw [if_neg hk] at he
    by_cases hm : mayM m = false
    · rw [if_pos hm] at he; exact absurd (congrArg Prod.fst he) (by simp)
    · rw [if_neg hm] at he
      have e : sealG (bodyG m) = l := congrArg Prod.snd he
      have hk := Bool.of_not_eq_false hk
      have hm := Bool.of_not_eq_false hm
      have h1 := putL_room (fdsK (m.n 0).toNat) (fdsK_fits (Bool.and_eq_true_iff.1 hm).2)
      have h2 := fdsK_room ⟨_, kind_lt hk⟩
      have h3 : (bodyG m).length = 4 + (putL m (fdsK (m.n 0).toNat)).length := by unfold bodyG; rw [List.length_append, hds_len]
      have h2 : ((fdsK (m.n 0).toNat).map Fd.room).sum ≤ 16900 := h2
      rw [← e, seal_len]
      omega
theorem bitAt_ne {i j : Nat} (h : j ≠ i / 8) : Crc.bitAt i j = 0 := by unfold Crc.bitAt; rw [if_neg h]
theorem bitAt_lt8 (i j : Nat) : Crc.bitAt i j < 256 := by
  unfold Crc.bitAt
  split
  · exact Nat.lt_of_lt_of_le (Nat.pow_lt_pow_right (by decide) (Nat.mod_lt i (by decide))) (by decide)
  · decide
theorem xor_lt8 {a b : Nat} (ha : a < 256) (hb : b < 256) : a ^^^ b < 256 := Nat.xor_lt_two_pow (n := 8) ha hb
theorem bit_told (n i : Nat) (h : i < 8 * n) : Crc.fold 0 ((List.range n).map (Crc.bitAt i)) ≠ 0 := fun e => by
  rw [(Crc.fold_bit n i).2 h] at e
  exact absurd (Crc.it_eq_zero _ 1 (by decide) e) (by decide)
theorem xor_same (S D : Nat) (h : S ^^^ D = S) : D = 0 := by
  have : S ^^^ (S ^^^ D) = S ^^^ S := by rw [h]
  rw [← Nat.xor_assoc, Nat.xor_self, Nat.zero_xor] at this
  exact this
theorem cut_congr {x y : Nat → Nat} {a k : Nat} (h : ∀ j, j < k → x (a + j) = y (a + j)) : cutZ x a k = cutZ y a k := by
  unfold cutZ
  exact List.map_congr_left (fun j hj => h j (List.mem_range.1 hj))
theorem be_congr {x y : Nat → Nat} : ∀ k, (∀ j, j < k → x j = y j) → be x k = be y k
  | 0, _ => rfl
  | k + 1, h => by
    show be x k * 256 + x k = be y k * 256 + y k
    rw [be_congr k (fun j hj => h j (by omega)), h k (by omega)]
/-- One bit turned: another sum. -/
theorem dec_turned {m : Mg} {l : List Nat} (he : encM m = (0, l)) (hb : ∀ v ∈ l, v < 256) {i : Nat} (hi : i < 8 * l.length) : decM (fun j => l.getD j 0 ^^^ Crc.bitAt i j) l.length = (82, mg0) := by
  obtain ⟨h8, h17⟩ := enc_size he
  have hx : ∀ j, l.getD j 0 < 256 := fun j => by
    by_cases h : j < l.length
    · rw [List.getD_eq_getElem?_getD, List.getElem?_eq_getElem h]; exact hb _ (List.getElem_mem h)
    · rw [List.getD_eq_getElem?_getD, List.getElem?_eq_none (by omega)]; decide
  obtain ⟨N, hN⟩ : ∃ N, l.length = N + 4 := ⟨l.length - 4, by omega⟩
  have hcut : cutZ (fun j => l.getD j 0) 0 (N + 4) = l := by
    rw [← hN]
    unfold cutZ
    simp only [Nat.zero_add]
    exact range_getD l
  have hseal : be (fun j => (fun j => l.getD j 0) (N + j)) 4 = Crc.sum (cutZ (fun j => l.getD j 0) 0 N) := by
    refine (seal_iff (fun j => l.getD j 0) hx N).1 ?_
    unfold encM at he
    by_cases hk : kindB m = false
    · rw [if_pos hk] at he; exact absurd (congrArg Prod.fst he) (by simp)
    · rw [if_neg hk] at he
      by_cases hm : mayM m = false
      · rw [if_pos hm] at he; exact absurd (congrArg Prod.fst he) (by simp)
      · rw [if_neg hm] at he
        have e : sealG (bodyG m) = l := congrArg Prod.snd he
        have hl : (bodyG m).length = N := by have := congrArg List.length e; rw [seal_len, hN] at this; omega
        have hc := cutZ_cat (fun j => l.getD j 0) 0 N 4
        rw [Nat.zero_add, hcut, ← e] at hc
        have hbd : cutZ (fun j => l.getD j 0) 0 N = bodyG m := by rw [← e]; exact (List.append_inj hc (by rw [cutZ_len, hl])).1
        rw [hbd, hcut, e]
  unfold decM
  rw [hN] at hi ⊢
  rw [if_neg (by omega), Nat.add_sub_cancel, if_pos ?_]
  intro hq
  by_cases hin : i < 8 * N
  · have e1 : be (fun j => l.getD (N + j) 0 ^^^ Crc.bitAt i (N + j)) 4 = be (fun j => l.getD (N + j) 0) 4 := be_congr 4 (fun j hj => by rw [bitAt_ne (by omega), Nat.xor_zero])
    have hq : be (fun j => l.getD (N + j) 0 ^^^ Crc.bitAt i (N + j)) 4 = Crc.sum (cutZ (fun j => l.getD j 0 ^^^ Crc.bitAt i j) 0 N) := hq
    have hs := Crc.sum_turned N (fun j => l.getD j 0) (Crc.bitAt i)
    have e2 : cutZ (fun j => l.getD j 0 ^^^ Crc.bitAt i j) 0 N = (List.range N).map (fun j => l.getD j 0 ^^^ Crc.bitAt i j) := by unfold cutZ; simp only [Nat.zero_add]
    have e3 : cutZ (fun j => l.getD j 0) 0 N = (List.range N).map (fun j => l.getD j 0) := by unfold cutZ; simp only [Nat.zero_add]
    rw [e1, e2, hs, ← e3] at hq
    have hq2 := hseal.symm.trans hq
    exact bit_told N i hin (xor_same _ _ hq2.symm)
  · have e2 : cutZ (fun j => l.getD j 0 ^^^ Crc.bitAt i j) 0 N = cutZ (fun j => l.getD j 0) 0 N := cut_congr (fun j hj => by
      show l.getD (0 + j) 0 ^^^ Crc.bitAt i (0 + j) = l.getD (0 + j) 0
      rw [bitAt_ne (by omega), Nat.xor_zero])
    have hq : be (fun j => l.getD (N + j) 0 ^^^ Crc.bitAt i (N + j)) 4 = Crc.sum (cutZ (fun j => l.getD j 0 ^^^ Crc.bitAt i j) 0 N) := hq
    rw [e2, ← hseal] at hq
    have f1 := fl_be (fun j => l.getD (N + j) 0 ^^^ Crc.bitAt i (N + j)) (fun j => xor_lt8 (hx _) (bitAt_lt8 _ _)) 4
    have f2 := fl_be (fun j => l.getD (N + j) 0) (fun j => hx _) 4
    have hq3 : be (fun j => l.getD (N + j) 0 ^^^ Crc.bitAt i (N + j)) 4 = be (fun j => l.getD (N + j) 0) 4 := hq
    rw [hq3, f2] at f1
    have hj : i / 8 - N < 4 := by omega
    have : List.getD _ (i / 8 - N) 0 = List.getD _ (i / 8 - N) 0 := congrArg (fun l => l.getD (i / 8 - N) 0) f1
    rw [getD_range_map _ 4 _ hj, getD_range_map _ 4 _ hj, show N + (i / 8 - N) = i / 8 by omega] at this
    have h0 := xor_same _ _ this.symm
    unfold Crc.bitAt at h0
    rw [if_pos rfl] at h0
    exact absurd h0 (Nat.ne_of_gt (Nat.pow_pos (by decide)))
end Go.Proofs.YtonpmabdjngdcaaGreatDoor

/- MessageTurned: its walk. -/
namespace Go.Proofs.YtonpmabdjngdcaaGreatDoor
open Go.RowKit
set_option maxRecDepth 100000

theorem and_mask (x : Int) : ∃ V : Nat, V < 16777216 ∧ bits .and .i64 x 16777215 = (V : Int) := by
  refine ⟨(BitVec.ofInt 64 x).toNat &&& 16777215, Nat.lt_of_le_of_lt Nat.and_le_right (by decide), ?_⟩
  show IntKind.i64.wrap ((BitVec.ofInt 64 x &&& BitVec.ofInt 64 16777215).toNat : Int) = _
  rw [BitVec.toNat_and, show (BitVec.ofInt 64 16777215).toNat = 16777215 by decide, IntKind.wrap_i64]
  have : (BitVec.ofInt 64 x).toNat &&& 16777215 ≤ 16777215 := Nat.and_le_right
  omega
theorem tmod_nat (V L : Nat) : ((V : Int).tmod (L : Int)) = ((V % L : Nat) : Int) := rfl
theorem xor_bit8 (X i : Nat) (h : X < 256) : bits .xor .u8 (X : Int) ((2 : Int) ^ (i % 8) % 256) = ((X ^^^ 2 ^ (i % 8) : Nat) : Int) := by
  have hm : i % 8 < 8 := Nat.mod_lt _ (by decide)
  have hp : 2 ^ (i % 8) < 2 ^ 8 := Nat.pow_lt_pow_right (by decide) hm
  have e : ((2 : Int) ^ (i % 8) % 256) = ((2 ^ (i % 8) : Nat) : Int) := by
    have : ((2 : Int) ^ (i % 8)) = ((2 ^ (i % 8) : Nat) : Int) := by simp
    rw [this]
    have hp' : 2 ^ (i % 8) < 256 := hp
    generalize 2 ^ (i % 8) = P at *
    omega
  rw [e]; exact u8_xor_nat X _ h hp
theorem row_turn8 {w : World} {b len i : Nat} {x : Nat → Nat} (h : w.rowIs b 5 len (fun j => .int .u8 (x j : Nat))) (hr : ∀ j, x j < 256) :
    (w.setCell ⟨b, i / 8, none⟩ (.int .u8 (bits .xor .u8 ((x (i / 8) : Nat) : Int) ((2 : Int) ^ (i % 8) % 256)))).rowIs b 5 len (fun j => .int .u8 (x j ^^^ Crc.bitAt i j : Nat)) := by
  refine (h.set (i / 8) _).congr (fun j _ => ?_)
  unfold Crc.bitAt
  by_cases e : j = i / 8
  · rw [if_pos e, if_pos e, xor_bit8 _ i (hr _), e]
  · rw [if_neg e, if_neg e, Nat.xor_zero]
theorem row_byt {w : World} {b n : Nat} {x : Nat → Nat} (h : w.rowIs b 5 n (fun j => .int .u8 (x j : Nat))) : Byt w (some ⟨b, 0, none⟩) n x := fun j hj => ⟨b, 0, rfl, by rw [Nat.zero_add]; exact h.cell hj⟩
theorem cat_lt {x y : Nat → Nat} {n : Nat} (hx : ∀ j, x j < 256) (hy : ∀ j, y j < 256) (j : Nat) : cat x n y j < 256 := by
  unfold cat
  split
  · exact hx _
  · exact hy _
set_option maxHeartbeats 8000000 in
theorem turned_walk (m : Mg) (va : Option Addr) (vc : Nat) (BT LF : Int) (ta : Option Addr) (tn tc : Nat) (zt : Nat → Nat) (w : World) (hA : MgA w m va vc) (hwf : m.wf) (hN : ∀ c, isU c = true → 0 ≤ m.n c) (htb : Byt w ta tn zt) (htn : ta = none → tn = 0 ∧ tc = 0) (htm : tn ≤ 140737488351232) (hzt : ∀ j, zt j < 256) (ht : Tb w) (hU : Us w) :
    Calls Tryz.prog 4 #[.agg (mgL m va vc ++ ([Value.int .i64 BT, Value.int .i64 LF, Value.slice ta tn tc] : List Value)).toArray] w fun e w' => e = .returned (.bool true) ∧ w.Since w.heap.size w' := by
  obtain ⟨MM, HMM⟩ : ∃ x, Hid (mgL m va vc = x) := ⟨_, rfl⟩
  have hml : MM.length = 22 := by rw [← HMM.out, mgL_len]
  have HIN : Hid ((Tryz.prog.info? 37).map (·.size) = some MM.length) := by show _ = _; rw [hml]; exact infoMg
  obtain ⟨AA, HAA⟩ : ∃ x, Hid ((MM ++ ([Value.int .i64 BT, Value.int .i64 LF, Value.slice ta tn tc] : List Value)).toArray = x) := ⟨_, rfl⟩
  obtain ⟨W0, HW0⟩ : ∃ W, Hid (w.alloc (.cells AA 52) = W) := ⟨_, rfl⟩
  have s0 : w.Since w.heap.size W0 := by rw [← HW0.out]; exact (World.Since.refl _ _).alloc (Nat.le_refl _) _
  have hr0 : W0.rowIs w.heap.size 52 AA.size (fun i => AA[i]?.getD undef) := by
    rw [← HW0.out]
    exact World.rowIs_alloc w _ _ _ (fun i hi => by rw [Array.getElem?_eq_getElem hi]; rfl)
  have hcell : ∀ W j v, W0.Since W0.heap.size W → AA[j]? = some v → W.cell? ⟨w.heap.size, j, none⟩ = some v := fun W j v hW hj => by
    have hlt : j < AA.size := (Array.getElem?_eq_some_iff.1 hj).1
    have := (row_since hr0 hW).cell hlt
    rw [hj] at this
    exact this
  have hAj : ∀ j, AA[j]? = (MM ++ ([Value.int .i64 BT, Value.int .i64 LF, Value.slice ta tn tc] : List Value))[j]? := fun j => by rw [← HAA.out, List.getElem?_toArray]
  have HRG : Hid (∀ W, W0.Since W0.heap.size W → W.rangeAt w.heap.size 0 MM) := fun W hW j v hv => by
    rw [Nat.zero_add]
    refine hcell W j v hW ?_
    rw [hAj, List.getElem?_append_left (List.getElem?_eq_some_iff.1 hv).1]
    exact hv
  have HC22 : Hid (∀ W, W0.Since W0.heap.size W → W.cell? ⟨w.heap.size, 22, none⟩ = some (.int .i64 BT)) := fun W hW => hcell W 22 _ hW (by rw [hAj, List.getElem?_append_right (by omega), hml]; rfl)
  have HC23 : Hid (∀ W, W0.Since W0.heap.size W → W.cell? ⟨w.heap.size, 23, none⟩ = some (.int .i64 LF)) := fun W hW => hcell W 23 _ hW (by rw [hAj, List.getElem?_append_right (by omega), hml]; rfl)
  have HC24 : Hid (∀ W, W0.Since W0.heap.size W → W.cell? ⟨w.heap.size, 24, none⟩ = some (.slice ta tn tc)) := fun W hW => hcell W 24 _ hW (by rw [hAj, List.getElem?_append_right (by omega), hml]; rfl)
  have ht0 := ht.since s0
  have hU0 := hU.since s0
  have HBG : Hid (∀ W, W0.Since W0.heap.size W → Calls Tryz.prog 7 #[] W fun e w' => e = .returned (.bool true) ∧ W0.Since W0.heap.size w') := fun W hW => (begun_any W (ht0.since hW) (hU0.since hW)).mono fun e w' ⟨he, hs⟩ => ⟨he, hW.trans (since_mono hs hW.size)⟩
  have HEN : Hid (∀ W, W0.Since W0.heap.size W → Calls Tryz.prog 8 #[.agg MM.toArray] W fun e w' => ∃ xa xc, e = .returned (.tuple #[.slice xa (encM m).2.length xc, .int .i64 ((encM m).1 : Nat)]) ∧ Byt w' xa (encM m).2.length (fun j => (encM m).2.getD j 0) ∧ (encM m).2.length ≤ xc ∧ (xa = none → (encM m).2.length = 0 ∧ xc = 0) ∧ W0.Since W0.heap.size w') := fun W hW => by
    have q := refenc_any m va vc W ((hA.since s0).since hW) hwf hN
    unfold mgV at q
    rw [HMM.out] at q
    refine q.mono fun e w' ⟨⟨v, he, ho⟩, hs⟩ => ?_
    obtain ⟨xa, xc, hv, hby, hnil⟩ := own_byt ho
    subst hv
    exact ⟨xa, xc, he, hby, (own_room ho).1, hnil, hW.trans (since_mono hs hW.size)⟩
  have hbl : ∀ v ∈ (encM m).2, v < 256 := by
    unfold encM
    split
    · exact fun v hv => absurd hv (List.not_mem_nil)
    · split
      · exact fun v hv => absurd hv (List.not_mem_nil)
      · exact seal_byte (body_byte hA.byte)
  have HDT : Hid ((encM m).1 = 0 → ∀ i, i < 8 * (encM m).2.length → decM (fun j => (encM m).2.getD j 0 ^^^ Crc.bitAt i j) (encM m).2.length = (82, mg0)) := fun h0 i hi => dec_turned (m := m) (by rw [← h0]) hbl hi
  have HSZ : Hid ((encM m).1 = 0 → 8 ≤ (encM m).2.length ∧ (encM m).2.length ≤ 17000) := fun h0 => enc_size (m := m) (by rw [← h0])
  obtain ⟨ER, HER⟩ : ∃ x, Hid ((encM m).1 = x) := ⟨_, rfl⟩
  obtain ⟨EL, HEL⟩ : ∃ x, Hid ((encM m).2 = x) := ⟨_, rfl⟩
  rw [HER.out, HEL.out] at HEN HDT HSZ
  rw [HEL.out] at hbl
  have HBL := hide hbl
  have HTB : Hid (∀ W, W0.Since W0.heap.size W → Byt W ta tn zt) := fun W hW => (htb.since s0).since hW
  have HT0 := hide ht0
  have HU0 := hide hU0
  have HS0 := hide s0
  have HZT := hide hzt
  have HTN := hide htn
  rw [HMM.out, HAA.out]
  clear hA hwf hN htb ht hU ht0 hU0 s0 hr0 hcell hAj HAA HMM hbl hzt htn HER HEL
  go_enter Tryz.func4, Tryz.ntmps4
  go_upto_region 1 with fail
  rw [HW0.out]
  have HQ := hide (HBG.out W0 (World.Since.refl _ _))
  go_wp2_with fail
  refine HQ.out.mono ?_
  rintro e w1 ⟨rfl, hS1⟩
  have HS1 := hide hS1
  have HQ2 := hide (HEN.out w1 hS1)
  clear HQ hS1 HEN
  go_wp2_with (refine wpList_load_mid rfl 37 _ rfl w.heap.size 0 rfl _ _ (HRG.out _ HS1.out) Tryz.underlying37 rfl HIN.out ?_)
  refine HQ2.out.mono ?_
  rintro e w2 ⟨xa, xc, rfl, hb2, hxc, hxn, hS2⟩
  have HS2 := hide hS2
  have HB2 := hide hb2
  have HXN := hide hxn
  clear HQ2 hb2 hxn hS2 HRG HIN
  by_cases hER : ER = 0
  · subst hER
    obtain ⟨h8, h17⟩ := HSZ.out rfl
    have n0 : (((0 : Nat) : Int) != 0) = false := by decide
    obtain ⟨V, hV, hV2⟩ := and_mask BT
    obtain ⟨U, hU1, hU2⟩ := and_mask LF
    obtain ⟨xb, xo, hxa, _⟩ := HB2.out 0 (by omega)
    subst hxa
    obtain ⟨L, HL⟩ : ∃ x, Hid (EL.length = x) := ⟨_, rfl⟩
    have hx : ∀ j, EL.getD j 0 < 256 := fun j => getD_byte HBL.out j
    have HX := hide hx
    have HD := hide (HDT.out rfl)
    rw [HL.out] at HB2 HXN HD h8 h17 hxc ⊢
    obtain ⟨E8, hE8⟩ : ∃ x : Nat, (8 : Int) * (L : Int) = (x : Int) ∧ x = 8 * L := ⟨8 * L, by omega, rfl⟩
    obtain ⟨i, hi⟩ : ∃ x : Nat, x = V % E8 ∧ x < 8 * L := ⟨V % E8, rfl, by rw [← hE8.2]; exact Nat.mod_lt _ (by omega)⟩
    obtain ⟨k, hk⟩ : ∃ x : Nat, x = U % L ∧ x < L := ⟨U % L, rfl, Nat.mod_lt _ (by omega)⟩
    have t1 : ((V : Int).tmod (E8 : Int)) = (i : Int) := by rw [hi.1]; rfl
    have t2 : ((U : Int).tmod (L : Int)) = (k : Int) := by rw [hk.1]; rfl
    have e8 := hE8.1
    have b8 : E8 ≤ 136000 := by omega
    have z8 : ((E8 : Int) == 0) = false := by simp; omega
    have zL : ((L : Int) == 0) = false := by simp; omega
    have hdd := HD.out i hi.2
    have HDD := hide hdd
    have hi2 := hi.2
    have hk2 := hk.2
    have HCP : Hid (∀ W (n cap : Nat), W0.Since W0.heap.size W → n ≤ L → w2.Since w2.heap.size W → Calls Tryz.prog 15 #[.slice (some ⟨xb, xo, none⟩) n cap] W fun e w' => ∃ g, e = .returned (.slice (some ⟨g, 0, none⟩) n n) ∧ W.heap.size ≤ g ∧ Hid (W.Since W.heap.size w') ∧ w'.rowIs g 5 n (fun j => .int .u8 (EL.getD j 0 : Nat))) := fun W n cap hW hn hW2 =>
      (copy_any (some ⟨xb, xo, none⟩) n cap (fun j => EL.getD j 0) W (by omega) (((HB2.out.since hW2)).le hn)).mono fun e w' ⟨he, hs, hz, hr⟩ => ⟨_, he, Nat.le_refl _, hs, hr⟩
    clear HD hdd hi hk HSZ HDT hE8 hx HBL
    have c22 := HC22.out w2 HS2.out
    have HQ3 := hide (HCP.out w2 L xc HS2.out (Nat.le_refl _) (World.Since.refl _ _))
    go_wp2_with fail
    refine HQ3.out.mono ?_
    rintro e w3 ⟨g, rfl, hg, hs3, hr3⟩
    obtain ⟨X8, HX8⟩ : ∃ x, Hid (EL.getD (i / 8) 0 = x) := ⟨_, rfl⟩
    have hcell : w3.cell? ⟨g, i / 8, none⟩ = some (.int .u8 (X8 : Nat)) := by rw [← HX8.out]; exact hr3.cell (by omega)
    have hfr : w3.frozen? ⟨g, i / 8, none⟩ = false := hr3.frozen _
    have hx8 := HX.out (i / 8)
    rw [HX8.out] at hx8
    obtain ⟨W4, HW4⟩ : ∃ W, Hid (w3.setCell ⟨g, i / 8, none⟩ (.int .u8 (bits .xor .u8 ((X8 : Nat) : Int) ((2 : Int) ^ (i % 8) % 256))) = W) := ⟨_, rfl⟩
    have r4 : W4.rowIs g 5 L (fun j => .int .u8 (EL.getD j 0 ^^^ Crc.bitAt i j : Nat)) := by rw [← HW4.out, ← HX8.out]; exact row_turn8 (i := i) (x := fun j => EL.getD j 0) hr3 HX.out
    have s24 : w2.Since w2.heap.size W4 := by rw [← HW4.out]; exact hs3.out.setCell hg _
    have S4 : W0.Since W0.heap.size W4 := HS2.out.trans (since_mono s24 HS2.out.size)
    have HQ4 : Hid (Calls Tryz.prog 11 #[.slice (some ⟨g, 0, none⟩) L L] W4 fun e w' => ∃ vb, e = .returned (.tuple #[mgV mg0 vb 0, .int .i64 82]) ∧ W4.Since W4.heap.size w') := (dec_any (some ⟨g, 0, none⟩) L L _ W4 (row_byt r4) (fun j => xor_lt8 (HX.out j) (bitAt_lt8 i j)) (Nat.le_refl _) (by omega) (HT0.out.since S4) (HU0.out.since S4)).mono fun e w' ⟨⟨vb, he, _, _, _⟩, hs⟩ => by
      rw [HDD.out] at he
      exact ⟨vb, he, hs⟩
    have HS24 := hide s24
    have HR3 := hide hr3
    have HLK : Hid (((U : Int).tmod (L : Int)) = (k : Int) ∧ ((L : Int) == 0) = false ∧ bits .and .i64 LF 16777215 = (U : Int) ∧ U < 16777216 ∧ 8 ≤ L ∧ k < L ∧ L ≤ xc ∧ tn ≤ 140737488351232) := ⟨t2, zL, hU2, hU1, h8, hk2, hxc, htm⟩
    clear HQ3 HX8 hs3 hr3 r4 s24 S4 HDD hg c22 t1 e8 b8 z8 hV hV2 HR3 t2 zL hU1 hU2 h8 n0 hk2 hxc htm hml
    go_upto_region 9 with fail
    rw [HW4.out]
    clear HW4 hcell hfr hx8
    obtain ⟨t2, zL, hU2, hU1, h8, hk2, hxc, htm⟩ := HLK.out
    clear HLK
    go_wp2_with fail
    refine HQ4.out.mono ?_
    rintro e w5 ⟨vb, rfl, hs5⟩
    obtain ⟨W6, MC, HMC, HT6, HW6, HIN6, HON6, HH6, HS6⟩ := mg_put w5 mg0 vb 0
    rw [HMC.out]
    have HS26 : Hid (w2.Since w2.heap.size W6) := by
      have a := HS24.out.trans (since_mono hs5 HS24.out.size)
      exact a.trans (since_mono HS6.out a.size)
    have HSS6 : Hid (W0.Since W0.heap.size W6) := HS2.out.trans (since_mono HS26.out HS2.out.size)
    clear HQ4 hs5 HS24 HMC HH6 HS6
    have HN := hide (fun W => num8_any 82 W)
    have c23 := HC23.out W6 HSS6.out
    have y1 : (0 : Int) ≤ (k : Int) := by omega
    have y2 : (k : Int) ≤ (L : Int) := by omega
    have y3 : (k : Int) ≤ (xc : Int) := by omega
    have HQ5 := hide (HCP.out W6 k xc HSS6.out (by omega) HS26.out)
    go_upto_region 13 with (first
      | (refine wpList_store_mid rfl 37 _ _ rfl w5.heap.size 0 _ rfl rfl HT6.out HIN6.out HON6.out ?_; rw [HW6.out])
      | (go_at_call 10; refine (HN.out _).mono ?_; rintro e w7 ⟨rfl, rfl⟩))
    go_wp2_with fail
    refine HQ5.out.mono ?_
    rintro e w8 ⟨g2, rfl, hg2, hs8, hr8⟩
    have HS68 := hide hs8.out
    have HR8 := hide hr8
    have HSS8 : Hid (W0.Since W0.heap.size w8) := HSS6.out.trans (since_mono HS68.out HSS6.out.size)
    have HS28 : Hid (w2.Since w2.heap.size w8) := HS26.out.trans (since_mono HS68.out HS26.out.size)
    have c24 : w8.cell? ⟨w.heap.size, 24, none⟩ = some (.slice ta tn tc) := HC24.out w8 HSS8.out
    have c24d : w8.drew.cell? ⟨w.heap.size, 24, none⟩ = some (.slice ta tn tc) := c24
    have hdr : w8.Since w8.heap.size w8.drew := (World.Since.refl _ _).drew
    have HQ6 : Hid (Calls Tryz.prog 15 #[.slice (some ⟨xb, xo, none⟩) L xc] w8.drew fun e w1 => ∃ x y z, e = .returned (.slice x y z) ∧ w1.cell? ⟨w.heap.size, 24, none⟩ = some (.slice ta tn tc) ∧ ∃ a' c' w2, Hid ((Builtin.append_ #[32, 32] 32 #[.slice x y z, .slice ta tn tc]).run Tryz.prog w1 = .ok (.slice a' (L + tn) c') w2) ∧ Hid (w8.Since w8.heap.size w2 ∧ Byt w2 a' (L + tn) (cat (fun j => EL.getD j 0) L zt) ∧ L + tn ≤ c' ∧ c' ≤ 9223372036854775807)) := by
      refine (HCP.out w8.drew L xc (HSS8.out.trans (since_mono hdr HSS8.out.size)) (Nat.le_refl _) (HS28.out.trans (since_mono hdr HS28.out.size))).mono fun e w1 ⟨g3, he, hg3, hs1, hr1⟩ => ?_
      have hs1' : w8.Since w8.heap.size w1 := hdr.trans hs1.out
      have hss1 : W0.Since W0.heap.size w1 := HSS8.out.trans (since_mono hs1' HSS8.out.size)
      have hown : Own w1 w8.heap.size (.slice (some ⟨g3, 0, none⟩) L L) L (fun j => EL.getD j 0) := own_of_row hr1 hg3 (Nat.le_refl _) (by unfold maxLen; omega) (fun j _ => rfl)
      obtain ⟨v', w2', hrun, ho, hgr⟩ := app_wide w1 w8.heap.size _ L _ hown ta tn tc zt (HTB.out w1 hss1) HTN.out (by omega) hs1'.size
      obtain ⟨a', c', hv, hby, _⟩ := own_byt ho
      subst hv
      exact ⟨_, _, _, he, HC24.out w1 hss1, a', c', w2', hrun, grown_since hs1' hgr hs1'.size (own_block hown), hby, own_room ho⟩
    clear HQ5 hs8 hr8 hg2 HCP hdr HS68 c23 y1 y2 y3 t2 zL hU1 hU2 HT6 HW6 HIN6 HON6 HN HC22 HC23
    go_upto_region 14 with fail
    go_region_law (first
      | (go_simp; go_at_call 15; refine HQ6.out.mono ?_; rintro e w9 ⟨x, y, z, rfl, c24', a', c', w10, HRUN, HE⟩)
      | (refine step_append_eq (by rfl) (.tmp 65) (.tmp 67) 32 (by rfl) _ _ _ (by rfl) (by rfl) (unhide HRUN) ?_))
    all_goals
      obtain ⟨hs10, hb10, hc10, hc11⟩ := HE.out
      have HSS10 : Hid (W0.Since W0.heap.size w10) := HSS8.out.trans (since_mono hs10 HSS8.out.size)
      have HQ7 : Hid (Calls Tryz.prog 16 #[.slice (some ⟨g2, 0, none⟩) k k] w10 fun e w' => e = .returned (.bool true) ∧ w10.Since w10.heap.size w') := same_any (some ⟨g2, 0, none⟩) k k _ w10 ((row_byt HR8.out).since hs10) HX.out (by omega) (Nat.le_refl _) (by omega) (HT0.out.since HSS10.out) (HU0.out.since HSS10.out)
      have HQ8 : Hid (∀ W, w10.Since w10.heap.size W → Calls Tryz.prog 16 #[.slice a' (L + tn) c'] W fun e w' => e = .returned (.bool true) ∧ W0.Since W0.heap.size w') := fun W hW => by
        have a := HSS10.out.trans (since_mono hW HSS10.out.size)
        exact (same_any a' (L + tn) c' _ W (hb10.since hW) (cat_lt HX.out HZT.out) (by omega) hc10 hc11 (HT0.out.since a) (HU0.out.since a)).mono fun e w' ⟨he, hs⟩ => ⟨he, a.trans (since_mono hs a.size)⟩
      clear HQ6 HE hs10 hb10 hc10 hc11 HRUN c24'
      obtain ⟨LT, HLT⟩ : ∃ x, Hid (L + tn = x) := ⟨_, rfl⟩
      rw [HLT.out] at HQ8 ⊢
      go_wp2_with fail
      refine HQ7.out.mono ?_
      rintro e w11 ⟨rfl, hs11⟩
      have HQ9 := hide (HQ8.out w11 hs11)
      clear HQ7 HQ8
      go_wp2_with fail
      refine HQ9.out.mono ?_
      rintro e w12 ⟨rfl, hS12⟩
      have HQ10 := hide (HBG.out w12 hS12)
      clear HQ9
      go_wp2_with fail
      refine HQ10.out.mono ?_
      rintro e w13 ⟨rfl, hS13⟩
      clear HQ10
      go_wp2_with fail
      go_ret
      exact ⟨rfl, HS0.out.trans (since_mono hS13 HS0.out.size)⟩
  · have n0 : ((ER : Int) != 0) = true := bne_iff_ne.2 (by omega)
    have n1 : ¬ ((ER : Int) = 0) := by omega
    have HQ3 := hide (HBG.out w2 HS2.out)
    go_wp2_with fail
    refine HQ3.out.mono ?_
    rintro e w3 ⟨rfl, hS3⟩
    go_wp2_with fail
    go_ret
    exact ⟨rfl, HS0.out.trans (since_mono hS3 HS0.out.size)⟩
end Go.Proofs.YtonpmabdjngdcaaGreatDoor

/- MessageTurned: what it is handed. -/
namespace Go.Proofs.YtonpmabdjngdcaaGreatDoor
open Go.ChangeShapes Go.WideShapes Go.ChangeAt Go.RowKit Go.Deep Go.Joins
set_option maxRecDepth 100000

theorem list25 {l : List Value} (h : l.length = 25) : l = l.take 22 ++ ((l.drop 22).take 1 ++ ((l.drop 23).take 1 ++ (l.drop 24).take 1)) := by
  have e1 : (l.drop 24).take 1 = l.drop 24 := List.take_of_length_le (by rw [List.length_drop]; omega)
  have e2 : l.drop 23 = (l.drop 23).take 1 ++ l.drop 24 := by
    have := (List.take_append_drop 1 (l.drop 23)).symm
    rwa [List.drop_drop] at this
  have e3 : l.drop 22 = (l.drop 22).take 1 ++ l.drop 23 := by
    have := (List.take_append_drop 1 (l.drop 22)).symm
    rwa [List.drop_drop] at this
  rw [e1, ← e2, ← e3, List.take_append_drop]
set_option maxHeartbeats 1000000 in
theorem open_turn {H : Type} {enc : TypeId × Value → H} {W : World} {base : Nat} {v : Value} {d : DataW H} {p : List MemPlace} (hv : Value.okWide Tryz.prog W .any base 52 v) (h : DataW.Trod enc Tryz.prog W 0 (fun _ => true) true 52 v d p) (hf : Fits 52 d) :
    ∃ (m : Mg) (va : Option Addr) (vc : Nat) (BT LF : Int) (ta : Option Addr) (tn tc : Nat) (zt : Nat → Nat), v = .agg (mgL m va vc ++ ([Value.int .i64 BT, Value.int .i64 LF, Value.slice ta tn tc] : List Value)).toArray ∧ MgA W m va vc ∧ m.wf ∧ m.int ∧ Byt W ta tn zt ∧ (ta = none → tn = 0 ∧ tc = 0) ∧ tn ≤ 140737488351232 ∧ ∀ j, zt j < 256 := by
  obtain ⟨cs, rfl, hcsz⟩ := okWide_struct Tryz.underlying52 hv
  rw [show Tryz.prog.cellsOf 52 = 25 by kernel_rfl] at hcsz
  obtain ⟨fuel, hf0⟩ := h
  obtain ⟨xs, n, _, hx, _, hlen, hfs⟩ := DataW.trod_struct Tryz.underlying52 hf0
  obtain ⟨y0, y1, y2, y3, rfl⟩ : ∃ y0 y1 y2 y3, xs = [y0, y1, y2, y3] := by
    match xs, hlen with
    | [a, b, c, d], _ => exact ⟨a, b, c, d, rfl⟩
  have f0 : DataW.trod enc Tryz.prog W 0 (fun _ => true) true n 37 ((cs.toList.drop 0).take (Tryz.prog.cellsOf 37)) = some y0 := hfs 0 _ rfl
  have f1 : DataW.trod enc Tryz.prog W 0 (fun _ => true) true n 3 ((cs.toList.drop 22).take (Tryz.prog.cellsOf 3)) = some y1 := hfs 1 _ rfl
  have f2 : DataW.trod enc Tryz.prog W 0 (fun _ => true) true n 3 ((cs.toList.drop 23).take (Tryz.prog.cellsOf 3)) = some y2 := hfs 2 _ rfl
  have f3 : DataW.trod enc Tryz.prog W 0 (fun _ => true) true n 32 ((cs.toList.drop 24).take (Tryz.prog.cellsOf 32)) = some y3 := hfs 3 _ rfl
  rw [cellsM, List.drop_zero] at f0
  rw [cellsI] at f1 f2
  rw [cellsB] at f3
  have hd : d = (.agg (([y0, y1, y2, y3] : List (DataW H × List MemPlace)).map (·.1)) : DataW H) := congrArg Prod.fst hx
  have fit : ∀ (j : Nat) (t : TypeId) (x : DataW H), (([y0.1, y1.1, y2.1, y3.1] : List (DataW H)))[j]? = some x → ([37, 3, 3, 32] : List TypeId)[j]? = some t → Fits t x := fun j t x hx1 ht1 q hq => hf q (by
    rw [hd]
    simp only [DataW.weights, Tryz.underlying52]
    exact DataW.weights_mem_each (j := j) ht1 hx1 q hq)
  obtain ⟨m, va, vc, em, hA, hwf, hint, _, _⟩ := open_msg f0 (fit 0 _ _ rfl rfl)
  obtain ⟨BT, e1, _, _⟩ := DataW.trod_int Tryz.underlying3 f1
  obtain ⟨LF, e2, _, _⟩ := DataW.trod_int Tryz.underlying3 f2
  have hl : cs.toList.length = 25 := by rw [Array.length_toList]; exact hcsz
  have h3 : ((cs.toList.drop 24).take 1).length = 1 := by rw [List.length_take, List.length_drop, hl]; rfl
  obtain ⟨v3, ev3⟩ : ∃ v3, (cs.toList.drop 24).take 1 = [v3] := by
    match (cs.toList.drop 24).take 1, h3 with
    | [a], _ => exact ⟨a, rfl⟩
  rw [ev3] at f3
  obtain ⟨ta, tn, tc, zt, rfl, h1, h2, h4, hb, hn⟩ := open_bytes f3 (fit 3 _ _ rfl rfl)
  have hcs : cs = (mgL m va vc ++ ([Value.int .i64 BT, Value.int .i64 LF, Value.slice ta tn tc] : List Value)).toArray := by
    have := list25 hl
    rw [em, e1, e2, ev3] at this
    rw [← Array.toArray_toList (xs := cs), this]
    rfl
  exact ⟨m, va, vc, BT, LF, ta, tn, tc, zt, by rw [hcs], hA, hwf, hint, hb.le h1, hn, by omega, h4⟩
end Go.Proofs.YtonpmabdjngdcaaGreatDoor
