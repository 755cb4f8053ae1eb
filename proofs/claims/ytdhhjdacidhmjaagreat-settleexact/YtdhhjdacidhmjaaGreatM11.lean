/- Own texts, joined: SE30, SE30B, SE31, SE32. -/
import Derived.Test.YtdhhjdacidhmjaaGreatM10
import Derived.BigQuiet

/- Package settle: the laws' exact, walked (se30_gen.py). -/
namespace Go.Proofs.YtdhhjdacidhmjaaGreat
open Go.RowKit
set_option maxRecDepth 100000
set_option maxRecDepth 100000
def pk0 : Pk := ⟨⟨0, 0, 0, fun _ => 0, fun _ => 0, fun _ => 0, fun _ => 0, fun _ => none⟩, ⟨0, 0, 0, .slice none 0 0⟩, newS 0 0 0 0 0 0, newR 0 0 0 0 0 0, 0, 0, none, 0, 0⟩
/-- How the law begins. -/
theorem ex_start {BI : Nat → Nat → (Nat → Nat) → World → Prop} (bs : BkS BI) (w : World) (s : Nat → Int) (ov : Value) (mk : Bool) : ∃ W1 W2 W3 sb bk ab, Hid (w.heap.size = sb) ∧ Hid (w.alloc (.cells #[.int .i64 (s 0), .int .i64 (s 1), .int .i64 (s 2), .int .i64 (s 3), .int .i64 (s 4), .int .i64 (s 5), .int .i64 (s 6), .int .i64 (s 7), .int .i64 (s 8), .int .i64 (s 9), .int .i64 (s 10), .int .i64 (s 11), ov] 25) = W1) ∧ Hid (W1.heap.size = bk) ∧ Hid (W1.alloc (.cells bookZ 43) = W2) ∧ Hid (W2.heap.size = ab) ∧ Hid (W2.alloc (.cells #[.pointer none, .pointer none, .pointer none, .pointer none, .pointer none, .pointer none, .pointer none, .pointer none] 45) = W3) ∧
    Hid (∃ O pl X, EX BI w O W3 sb bk ab s ov mk 0 0 0 pl X) := by
  have h0 : ∀ c, c < 0 ∨ 0 ≤ c := fun c => .inr (Nat.zero_le _)
  have s1 : w.Since w.heap.size (w.alloc (.cells #[.int .i64 (s 0), .int .i64 (s 1), .int .i64 (s 2), .int .i64 (s 3), .int .i64 (s 4), .int .i64 (s 5), .int .i64 (s 6), .int .i64 (s 7), .int .i64 (s 8), .int .i64 (s 9), .int .i64 (s 10), .int .i64 (s 11), ov] 25)) := (World.Since.refl _ _).alloc (Nat.le_refl _) _
  have c1 : ∀ j v, (#[.int .i64 (s 0), .int .i64 (s 1), .int .i64 (s 2), .int .i64 (s 3), .int .i64 (s 4), .int .i64 (s 5), .int .i64 (s 6), .int .i64 (s 7), .int .i64 (s 8), .int .i64 (s 9), .int .i64 (s 10), .int .i64 (s 11), ov] : Array Value)[j]? = some v → (w.alloc (.cells #[.int .i64 (s 0), .int .i64 (s 1), .int .i64 (s 2), .int .i64 (s 3), .int .i64 (s 4), .int .i64 (s 5), .int .i64 (s 6), .int .i64 (s 7), .int .i64 (s 8), .int .i64 (s 9), .int .i64 (s 10), .int .i64 (s 11), ov] 25)).cell? ⟨w.heap.size, j, none⟩ = some v := fun j v hv => (World.cell?_alloc_at (w := w) _ _ _ j rfl).trans hv
  have z1 : (w.alloc (.cells #[.int .i64 (s 0), .int .i64 (s 1), .int .i64 (s 2), .int .i64 (s 3), .int .i64 (s 4), .int .i64 (s 5), .int .i64 (s 6), .int .i64 (s 7), .int .i64 (s 8), .int .i64 (s 9), .int .i64 (s 10), .int .i64 (s 11), ov] 25)).heap.size = w.heap.size + 1 := by simp
  generalize hW1 : w.alloc (.cells #[.int .i64 (s 0), .int .i64 (s 1), .int .i64 (s 2), .int .i64 (s 3), .int .i64 (s 4), .int .i64 (s 5), .int .i64 (s 6), .int .i64 (s 7), .int .i64 (s 8), .int .i64 (s 9), .int .i64 (s 10), .int .i64 (s 11), ov] 25) = W1 at *
  have s2 : W1.Since W1.heap.size (W1.alloc (.cells bookZ 43)) := (World.Since.refl _ _).alloc (Nat.le_refl _) _
  have r2 : (W1.alloc (.cells bookZ 43)).rowIs W1.heap.size 43 39 book0 := World.rowIs_alloc W1 bookZ _ _ bookZ_at
  have z2 : (W1.alloc (.cells bookZ 43)).heap.size = W1.heap.size + 1 := by simp
  generalize hW2 : W1.alloc (.cells bookZ 43) = W2 at *
  have s3 : W2.Since W2.heap.size (W2.alloc (.cells #[.pointer none, .pointer none, .pointer none, .pointer none, .pointer none, .pointer none, .pointer none, .pointer none] 45)) := (World.Since.refl _ _).alloc (Nat.le_refl _) _
  have r3 : (W2.alloc (.cells #[.pointer none, .pointer none, .pointer none, .pointer none, .pointer none, .pointer none, .pointer none, .pointer none] 45)).rowIs W2.heap.size 45 8 (arF (fun _ => 0) 0) := World.rowIs_alloc W2 _ _ _ (fun j hj => by
    have hj' : j < 8 := hj
    match j, hj' with
    | 0, _ => rfl
    | 1, _ => rfl
    | 2, _ => rfl
    | 3, _ => rfl
    | 4, _ => rfl
    | 5, _ => rfl
    | 6, _ => rfl
    | 7, _ => rfl)
  have z3 : (W2.alloc (.cells #[.pointer none, .pointer none, .pointer none, .pointer none, .pointer none, .pointer none, .pointer none, .pointer none] 45)).heap.size = W2.heap.size + 1 := by simp
  refine ⟨W1, W2, _, _, _, _, rfl, rfl, rfl, hW2, rfl, rfl, fun k => if k < w.heap.size then 0 else if k = w.heap.size then 900 else if k = W1.heap.size then 1000 else 902, fun _ => 0, fun _ => pk0, ?_⟩
  generalize hW3 : W2.alloc (.cells #[.pointer none, .pointer none, .pointer none, .pointer none, .pointer none, .pointer none, .pointer none, .pointer none] 45) = W3 at *
  have s13 : W1.Since W1.heap.size W3 := s2.trans (since_mono s3 s2.size)
  refine ⟨fun j hj => cell_later s13 (c1 j _ ?_), cell_later s13 (c1 12 _ rfl), ?_, bs.start ⟨r2.of_block (s3.block _ r2.lt), ?_⟩, ⟨r3, ?_⟩, fun j hj => absurd hj (Nat.not_lt_zero _), Nat.zero_le _, fun k hk => if_pos hk, fun k hk => ?_, s1.trans (since_mono s13 s1.size)⟩
  · match j, hj with
    | 0, _ => rfl
    | 1, _ => rfl
    | 2, _ => rfl
    | 3, _ => rfl
    | 4, _ => rfl
    | 5, _ => rfl
    | 6, _ => rfl
    | 7, _ => rfl
    | 8, _ => rfl
    | 9, _ => rfl
    | 10, _ => rfl
    | 11, _ => rfl
  · show (if w.heap.size < w.heap.size then 0 else if w.heap.size = w.heap.size then 900 else _) = 900
    rw [if_neg (Nat.lt_irrefl _), if_pos rfl]
  · show (if W1.heap.size < w.heap.size then 0 else if W1.heap.size = w.heap.size then 900 else if W1.heap.size = W1.heap.size then 1000 else 902) = 1000
    rw [if_neg (by omega), if_neg (by omega), if_pos rfl]
  · show (if W2.heap.size < w.heap.size then 0 else if W2.heap.size = w.heap.size then 900 else if W2.heap.size = W1.heap.size then 1000 else 902) = 902
    rw [if_neg (by omega), if_neg (by omega), if_neg (by omega)]
  · show (if k < w.heap.size then 0 else if k = w.heap.size then 900 else if k = W1.heap.size then 1000 else 902) < 100 * (0 + 1) ∨ 900 ≤ (if k < w.heap.size then 0 else if k = w.heap.size then 900 else if k = W1.heap.size then 1000 else 902)
    split
    · omega
    · split
      · omega
      · split <;> omega
end Go.Proofs.YtdhhjdacidhmjaaGreat

/- Package settle: the laws' exact: the configuration is laid; the pieces of a step. -/
namespace Go.Proofs.YtdhhjdacidhmjaaGreat
open Go.RowKit
set_option maxRecDepth 100000
set_option maxRecDepth 100000
section
variable {BI : Nat → Nat → (Nat → Nat) → World → Prop} {w : World} {O O' : Nat → Nat} {W W' : World} {sb bk ab : Nat} {s : Nat → Int} {ov : Value} {mk : Bool} {i T N lo hi : Nat} {pl : Nat → Nat} {X : Nat → Pk}
def cf0 : Array Value := #[.int .i64 0, .int .i64 0, .int .i64 0, .int .i64 0, .int .i64 0, .int .i64 0, .int .i64 0, .int .i64 0, .slice none 0 0]
theorem ex_cfgA {w2 : World} {nodes n c m : Nat} (h : ∃ O pl X, EX BI w O W sb bk ab s ov mk i 0 0 pl X) (bs : BkS BI) (sn : W.Since W.heap.size w2) (hb : 1 ≤ nodes ∧ nodes ≤ 9 ∧ 1 ≤ n ∧ n ≤ 8 ∧ 1 ≤ c ∧ c ≤ 7 ∧ 1 ≤ m ∧ m ≤ 64) (hg : ∀ j : Nat, j < n → goodM j nodes c) :
    ∃ cb W4, Hid (w2.heap.size = cb) ∧ Hid (w2.alloc (.cells cf0 48) = W4) ∧ Hid (∀ j, j < 12 → W4.cell? ⟨sb, j, none⟩ = some (.int .i64 (s j))) ∧ Hid (W4.there cb 0 (cfgA nodes n c m).size) ∧ ∃ W5, Hid (W4.setCells cb 0 (cfgA nodes n c m).toList = W5) ∧ Hid (∀ j, j < 12 → W5.cell? ⟨sb, j, none⟩ = some (.int .i64 (s j))) ∧ Hid (EC BI w W5 sb bk ab s ov mk i cb nodes n c m) := by
  obtain ⟨O, pl, X, h⟩ := h
  obtain ⟨W3, HW3, s3, f, r3⟩ := cfg_alloc w2
  have r4 := cfg_row r3 nodes n c m
  have s4 : w2.Since w2.heap.size (W3.setCells w2.heap.size 0 (cfgA nodes n c m).toList) := since_setCells (Nat.le_refl _) _ _ _ s3
  have hec : EC BI w (W3.setCells w2.heap.size 0 (cfgA nodes n c m).toList) sb bk ab s ov mk i w2.heap.size nodes n c m := h.ec bs (sn.trans (since_mono s4 sn.size)) sn.size r4 hb hg
  exact ⟨_, W3, rfl, HW3, fun j hj => cell_later s3 (cell_later sn (h.sc j hj)), row_there r3, _, rfl, hec.cells.1, hec⟩
theorem ex_cfgB (h : ∃ O pl X, EX BI w O W sb bk ab s ov mk i 0 0 pl X) (bs : BkS BI) :
    ∃ cb W4, Hid (W.heap.size = cb) ∧ Hid (W.alloc (.cells cf0 48) = W4) ∧ Hid (∀ j, j < 12 → W4.cell? ⟨sb, j, none⟩ = some (.int .i64 (s j))) ∧ Hid (∀ (w2 : World) (nodes n c m : Nat), W4.Since W4.heap.size w2 → (1 ≤ nodes ∧ nodes ≤ 9 ∧ 1 ≤ n ∧ n ≤ 8 ∧ 1 ≤ c ∧ c ≤ 7 ∧ 1 ≤ m ∧ m ≤ 64) → (∀ j : Nat, j < n → goodM j nodes c) →
      Hid (∀ j, j < 12 → w2.cell? ⟨sb, j, none⟩ = some (.int .i64 (s j))) ∧ Hid (w2.there cb 0 (cfgA nodes n c m).size) ∧ ∃ W5, Hid (w2.setCells cb 0 (cfgA nodes n c m).toList = W5) ∧ Hid (∀ j, j < 12 → W5.cell? ⟨sb, j, none⟩ = some (.int .i64 (s j))) ∧ Hid (EC BI w W5 sb bk ab s ov mk i cb nodes n c m)) := by
  obtain ⟨O, pl, X, h⟩ := h
  obtain ⟨W3, HW3, s3, f, r3⟩ := cfg_alloc W
  refine ⟨_, W3, rfl, HW3, fun j hj => cell_later s3 (h.sc j hj), fun w2 nodes n c m sn hb hg => ?_⟩
  have r3' : w2.rowIs W.heap.size 48 9 f := r3.of_block (sn.block _ r3.lt)
  have r4 := cfg_row r3' nodes n c m
  have s23 : W.Since W.heap.size w2 := s3.trans (since_mono sn s3.size)
  have s4 : W.Since W.heap.size (w2.setCells W.heap.size 0 (cfgA nodes n c m).toList) := since_setCells (Nat.le_refl _) _ _ _ s23
  have hec : EC BI w (w2.setCells W.heap.size 0 (cfgA nodes n c m).toList) sb bk ab s ov mk i W.heap.size nodes n c m := h.ec bs s4 (Nat.le_refl _) r4 hb hg
  exact ⟨fun j hj => cell_later s23 (h.sc j hj), row_there r3', _, rfl, hec.cells.1, hec⟩
theorem ED.drewN {cb acb nodes n c m : Nat} (h : ED BI w W sb bk ab s ov mk i cb acb nodes n c m) (bs : BkS BI) (q : Nat) : ED BI w (W.drewN q) sb bk ab s ov mk i cb acb nodes n c m := by
  obtain ⟨O, pl, X, h1, h2, h3, h4⟩ := h
  exact ⟨O, pl, X, h1.drewN bs q, h2.keepR (lo := 0) (hi := 0) (ChR.since (since_drew _ _)) (.inr (Nat.zero_le _)), h3.keepR (lo := 0) (hi := 0) (ChR.since (since_drew _ _)) (.inr (Nat.zero_le _)), h4⟩
/-- What a step reads. -/
def StS (sb ab : Nat) (oa : Option Addr) (on oc b o i j pj : Nat) (OL : List Value) (W : World) : Prop := W.cell? ⟨sb, 12, none⟩ = some (.slice oa on oc) ∧ W.rangeAt b (o + i * 5) OL ∧ W.cell? ⟨ab, j, none⟩ = some (.pointer (some ⟨pj, 0, none⟩))
theorem ex_step {oa : Option Addr} {on oc : Nat} {OO : Nat → Sop} (h : EX BI w O W sb bk ab s (.slice oa on oc) mk 8 i i pl X) (bs : BkS BI) (hp : PlayS BI mk) (hO : SopsIn w oa on OO) (hi : i < on) (hi6 : i < 600) :
    ∃ b o j : Nat, oa = some ⟨b, o, none⟩ ∧ j < 8 ∧ (∀ W, Calls Tryz.prog 7 #[.int .i64 (OO i).wh, .int .i64 8] W fun e w' => e = .returned (.int .i64 (j : Nat)) ∧ W = w') ∧ StS sb ab oa on oc b o i j (pl j) (sopL (OO i)) W ∧
      Calls Tryz.prog 10 #[.pointer (some ⟨pl j, 0, none⟩), .agg (sopL (OO i)).toArray] W fun e w2 => e = .returned (.bool true) ∧ StS sb ab oa on oc b o i j (pl j) (sopL (OO i)) w2 ∧
        Hid (Calls Tryz.prog 11 #[.pointer (some ⟨bk, 0, none⟩)] w2 fun e w3 => e = .returned (.bool true) ∧ StS sb ab oa on oc b o i j (pl j) (sopL (OO i)) w3 ∧ Hid (∃ O' pl' X', EX BI w O' w3 sb bk ab s (.slice oa on oc) mk 8 (i + 1) (i + 1) pl' X')) := by
  obtain ⟨b, o, ha, hr, hbl⟩ := hO.at' i hi
  obtain ⟨j, hj, hjq⟩ : ∃ j : Nat, j < 8 ∧ (j : Int) = (OO i).wh % 8 := ⟨((OO i).wh % 8).toNat, by omega, by omega⟩
  have st : ∀ {W2 : World} {O2 : Nat → Nat} {T2 N2 : Nat} {X2 : Nat → Pk}, EX BI w O2 W2 sb bk ab s (.slice oa on oc) mk 8 T2 N2 pl X2 → StS sb ab oa on oc b o i j (pl j) (sopL (OO i)) W2 := fun h2 => ⟨h2.so, rangeAt_on hr (h2.since.block _ hbl), h2.at' hj⟩
  obtain ⟨hq, hql⟩ := hO.q i hi
  refine ⟨b, o, j, ha, hj, fun W2 => ?_, st h, (h.step hp (by omega) (by omega) (OO i) (hq.since h.since) hql (fun b p e1 e2 => hq.lt e1 e2) hj).mono fun e w2 ⟨he, hh⟩ => ⟨he, ?_⟩⟩
  · refine (intoS_any (OO i).wh 8 (by decide) (by decide) W2).mono fun e w' ⟨h1, k, hk, hkq, he⟩ => ⟨?_, h1⟩
    have : k = j := by
      have e8 : ((8 : Nat) : Int) = 8 := rfl
      rw [e8] at hkq
      omega
    rw [he, this]
  · obtain ⟨O2, X2, h2⟩ := hh.out
    refine ⟨st h2, (h2.look bs (by omega)).mono fun e w3 ⟨he, hh⟩ => ?_⟩
    obtain ⟨O3, h3⟩ := hh.out
    exact ⟨he, st h3, O3, pl, X2, h3⟩
theorem ex_end {T N : Nat} (h : ∃ O pl X, EX BI w O W sb bk ab s ov mk 8 T N pl X) (bs : BkS BI) (hN : N ≤ 700) :
    Calls Tryz.prog 12 #[] W fun e w2 => e = .returned (.bool true) ∧ Hid (Calls Tryz.prog 11 #[.pointer (some ⟨bk, 0, none⟩)] w2 fun e w3 => e = .returned (.bool true) ∧ w.Since w.heap.size w3) := by
  obtain ⟨O, pl, X, h⟩ := h
  refine (wakesS_any W).mono fun e w2 ⟨he, sn⟩ => ⟨he, ((h.later bs sn).look bs hN).mono fun e w3 ⟨he, hh⟩ => ?_⟩
  obtain ⟨O3, h3⟩ := hh.out
  exact ⟨he, h3.since⟩
end
end Go.Proofs.YtdhhjdacidhmjaaGreat

/- Package settle: the laws' exact, walked (se31_gen.py). -/
namespace Go.Proofs.YtdhhjdacidhmjaaGreat
open Go.RowKit
set_option maxRecDepth 100000
set_option maxRecDepth 100000
theorem infoPp : (Tryz.prog.info? 44).map (·.size) = some 1 := by kernel_rfl
theorem infoOp5 : (Tryz.prog.info? 62).map (·.size) = some 5 := by kernel_rfl
set_option maxHeartbeats 16000000 in
theorem exact_any {BI : Nat → Nat → (Nat → Nat) → World → Prop} (bs : BkS BI) {mk : Bool} (hp : PlayS BI mk) {w : World} (s : Nat → Int) {oa : Option Addr} {on oc : Nat} {OO : Nat → Sop} (hO : SopsIn w oa on OO) (hon : on ≤ 1000000000000000) :
    Calls Tryz.prog 5 #[.agg #[.int .i64 (s 0), .int .i64 (s 1), .int .i64 (s 2), .int .i64 (s 3), .int .i64 (s 4), .int .i64 (s 5), .int .i64 (s 6), .int .i64 (s 7), .int .i64 (s 8), .int .i64 (s 9), .int .i64 (s 10), .int .i64 (s 11), .slice oa on oc], .bool mk] w fun e w' => e = .returned (.bool true) ∧ w.Since w.heap.size w' := by
  obtain ⟨W1, W2, W3, sb, bk, ab, HSB, HW1, HBK, HW2, HAB, HW3, HX0⟩ := ex_start bs w s (.slice oa on oc) mk
  have HBS := hide bs
  have HPS : Hid (PlayS BI mk) := @hp
  have HOO := hide hO
  have HON := hide hon
  clear bs hp hO hon
  go_enter Tryz.func5, Tryz.ntmps5
  go_upto_region 1 with fail
  rw [HW1.out, HSB.out]
  clear HW1
  refine wp_region_lit ?_
  refine wpList_plain rfl fun _ hK => op_run (.agg bookZ) (by unfold bookZ; kernel_rfl) (hK _ _ ?_)
  go_upto_region 2 with fail
  rw [HW2.out, HBK.out]
  clear HW2
  go_upto_region 3 with fail
  rw [HW3.out, HAB.out]
  clear HW3
  go_wp2_with fail
  go_loopg [7] 8 (fun q s7 wx => ∃ i : Nat, i ≤ 8 ∧ q = 8 - i ∧ s7 = .int .i64 (i : Nat) ∧ Hid (∃ O pl X, EX BI w O wx sb bk ab s (.slice oa on oc) mk i 0 0 pl X))
  case atStart => exact ⟨0, Nat.zero_le _, rfl, by simp, HX0.out⟩
  case round =>
    clear HX0
    obtain ⟨i, hi, rfl, rfl, HX⟩ := hrel
    by_cases hlt : i < 8
    · have z1 : (i : Int) < 8 := by omega
      have z0 : (0 : Int) ≤ (i : Int) := by omega
      have hwi : IntKind.i64.wrap ((i : Int) + 1) = (i : Int) + 1 := by rw [IntKind.wrap_i64]; omega
      have hme : 8 - (i + 1) < 8 - i := by omega
      have HI := hide hlt
      obtain ⟨kk, hkk, HKK⟩ : ∃ kk : Nat, (i : Int) % 2 = (kk : Int) ∧ Hid (kk < 2) := ⟨i % 2, by omega, by show i % 2 < 2; omega⟩
      have hk0 : (kk : Int) < 2 := by have := HKK.out; omega
      have hk1 : kk < 2 := HKK.out
      clear hi hlt
      go_upto_region 7 with fail
      go_cut [9] from 15 to 98 (fun s9 wx => ∃ cb nodes n c m : Nat, s9 = .pointer (some ⟨cb, 0, none⟩) ∧ Hid (EC BI w wx sb bk ab s (.slice oa on oc) mk i cb nodes n c m))
      case first =>
        have HXD : Hid (∃ O pl X, EX BI w O wr.drew sb bk ab s (.slice oa on oc) mk i 0 0 pl X) := by
          obtain ⟨O, pl, X, h⟩ := HX.out
          exact ⟨O, pl, X, h.drewN HBS.out 1⟩
        have HS0 : Hid (∀ j, j < 12 → wr.drew.cell? ⟨sb, j, none⟩ = some (.int .i64 (s j))) := by
          obtain ⟨O, pl, X, h⟩ := HX.out
          exact (h.drewN HBS.out 1).sc
        refine wp_region_held_drew (S := fun W => ∀ j, j < 12 → W.cell? ⟨sb, j, none⟩ = some (.int .i64 (s j))) (by kernel_rfl) HS0.out fun _ => ?_
        refine wpAnyH_take (i := 0) (v := .int .i64 (kk : Nat)) rfl (by kernel_rfl) (by kernel_rfl) (by kernel_rfl) (fun _ _ _ h => h) (.inl ⟨rfl, fun W hW => by go_simp⟩) HS0.out ?_
        simp only [List.getElem_toArray, List.getElem_cons_zero, Act.put, List.setIfInBounds_toArray]
        refine wpAnyH_take (i := 1) (v := .pointer (some ⟨sb, 0, none⟩)) rfl (by kernel_rfl) (by kernel_rfl) (by kernel_rfl) (fun _ _ _ h => h) (.inl ⟨rfl, fun W hW => by first | kernel_rfl | go_simp⟩) HS0.out ?_
        simp only [List.getElem_toArray, List.getElem_cons_zero, List.getElem_cons_succ, Act.put, List.setIfInBounds_toArray, List.set_cons_zero, List.set_cons_succ]
        refine wpAnyH_take (i := 2) (v := .pointer (some ⟨sb, kk, none⟩)) rfl (by kernel_rfl) (by kernel_rfl) (by kernel_rfl) (fun _ _ _ h => h) (.inl ⟨rfl, fun W hW => by go_simp⟩) HS0.out ?_
        simp only [List.getElem_toArray, List.getElem_cons_zero, List.getElem_cons_succ, Act.put, List.setIfInBounds_toArray, List.set_cons_zero, List.set_cons_succ]
        refine wpAnyH_take (i := 3) (v := .int .i64 (s kk)) rfl (by kernel_rfl) (by kernel_rfl) (by kernel_rfl) (fun _ _ _ h => h) (.inl ⟨rfl, fun W hW => by have c := hW kk (by have := HKK.out; omega); go_simp⟩) HS0.out ?_
        simp only [List.getElem_toArray, List.getElem_cons_zero, List.getElem_cons_succ, Act.put, List.setIfInBounds_toArray, List.set_cons_zero, List.set_cons_succ]
        refine wpAnyH_take (i := 4) (v := .int .i64 (kk : Nat)) rfl (by kernel_rfl) (by kernel_rfl) (by kernel_rfl) (fun _ _ _ h => h) (.inl ⟨rfl, fun W hW => by go_simp⟩) HS0.out ?_
        simp only [List.getElem_toArray, List.getElem_cons_zero, List.getElem_cons_succ, Act.put, List.setIfInBounds_toArray, List.set_cons_zero, List.set_cons_succ]
        refine wpAnyH_take (i := 5) (v := .pointer (some ⟨sb, 2, none⟩)) rfl (by kernel_rfl) (by kernel_rfl) (by kernel_rfl) (fun _ _ _ h => h) (.inl ⟨rfl, fun W hW => by first | kernel_rfl | go_simp⟩) HS0.out ?_
        simp only [List.getElem_toArray, List.getElem_cons_zero, List.getElem_cons_succ, Act.put, List.setIfInBounds_toArray, List.set_cons_zero, List.set_cons_succ]
        refine wpAnyH_take (i := 6) (v := .pointer (some ⟨sb, 2 + kk, none⟩)) rfl (by kernel_rfl) (by kernel_rfl) (by kernel_rfl) (fun _ _ _ h => h) (.inl ⟨rfl, fun W hW => by go_simp⟩) HS0.out ?_
        simp only [List.getElem_toArray, List.getElem_cons_zero, List.getElem_cons_succ, Act.put, List.setIfInBounds_toArray, List.set_cons_zero, List.set_cons_succ]
        refine wpAnyH_take (i := 7) (v := .int .i64 (s (2 + kk))) rfl (by kernel_rfl) (by kernel_rfl) (by kernel_rfl) (fun _ _ _ h => h) (.inl ⟨rfl, fun W hW => by have c := hW (2 + kk) (by have := HKK.out; omega); go_simp⟩) HS0.out ?_
        simp only [List.getElem_toArray, List.getElem_cons_zero, List.getElem_cons_succ, Act.put, List.setIfInBounds_toArray, List.set_cons_zero, List.set_cons_succ]
        refine wpAnyH_take (i := 8) (v := .int .i64 (kk : Nat)) rfl (by kernel_rfl) (by kernel_rfl) (by kernel_rfl) (fun _ _ _ h => h) (.inl ⟨rfl, fun W hW => by go_simp⟩) HS0.out ?_
        simp only [List.getElem_toArray, List.getElem_cons_zero, List.getElem_cons_succ, Act.put, List.setIfInBounds_toArray, List.set_cons_zero, List.set_cons_succ]
        refine wpAnyH_take (i := 9) (v := .pointer (some ⟨sb, 4, none⟩)) rfl (by kernel_rfl) (by kernel_rfl) (by kernel_rfl) (fun _ _ _ h => h) (.inl ⟨rfl, fun W hW => by first | kernel_rfl | go_simp⟩) HS0.out ?_
        simp only [List.getElem_toArray, List.getElem_cons_zero, List.getElem_cons_succ, Act.put, List.setIfInBounds_toArray, List.set_cons_zero, List.set_cons_succ]
        refine wpAnyH_take (i := 10) (v := .pointer (some ⟨sb, 4 + kk, none⟩)) rfl (by kernel_rfl) (by kernel_rfl) (by kernel_rfl) (fun _ _ _ h => h) (.inl ⟨rfl, fun W hW => by go_simp⟩) HS0.out ?_
        simp only [List.getElem_toArray, List.getElem_cons_zero, List.getElem_cons_succ, Act.put, List.setIfInBounds_toArray, List.set_cons_zero, List.set_cons_succ]
        refine wpAnyH_take (i := 11) (v := .int .i64 (s (4 + kk))) rfl (by kernel_rfl) (by kernel_rfl) (by kernel_rfl) (fun _ _ _ h => h) (.inl ⟨rfl, fun W hW => by have c := hW (4 + kk) (by have := HKK.out; omega); go_simp⟩) HS0.out ?_
        simp only [List.getElem_toArray, List.getElem_cons_zero, List.getElem_cons_succ, Act.put, List.setIfInBounds_toArray, List.set_cons_zero, List.set_cons_succ]
        refine wpAnyH_take (i := 12) (v := .int .i64 (kk : Nat)) rfl (by kernel_rfl) (by kernel_rfl) (by kernel_rfl) (fun _ _ _ h => h) (.inl ⟨rfl, fun W hW => by go_simp⟩) HS0.out ?_
        simp only [List.getElem_toArray, List.getElem_cons_zero, List.getElem_cons_succ, Act.put, List.setIfInBounds_toArray, List.set_cons_zero, List.set_cons_succ]
        refine wpAnyH_take (i := 13) (v := .pointer (some ⟨sb, 6, none⟩)) rfl (by kernel_rfl) (by kernel_rfl) (by kernel_rfl) (fun _ _ _ h => h) (.inl ⟨rfl, fun W hW => by first | kernel_rfl | go_simp⟩) HS0.out ?_
        simp only [List.getElem_toArray, List.getElem_cons_zero, List.getElem_cons_succ, Act.put, List.setIfInBounds_toArray, List.set_cons_zero, List.set_cons_succ]
        refine wpAnyH_take (i := 14) (v := .pointer (some ⟨sb, 6 + kk, none⟩)) rfl (by kernel_rfl) (by kernel_rfl) (by kernel_rfl) (fun _ _ _ h => h) (.inl ⟨rfl, fun W hW => by go_simp⟩) HS0.out ?_
        simp only [List.getElem_toArray, List.getElem_cons_zero, List.getElem_cons_succ, Act.put, List.setIfInBounds_toArray, List.set_cons_zero, List.set_cons_succ]
        refine wpAnyH_take (i := 15) (v := .int .i64 (s (6 + kk))) rfl (by kernel_rfl) (by kernel_rfl) (by kernel_rfl) (fun _ _ _ h => h) (.inl ⟨rfl, fun W hW => by have c := hW (6 + kk) (by have := HKK.out; omega); go_simp⟩) HS0.out ?_
        simp only [List.getElem_toArray, List.getElem_cons_zero, List.getElem_cons_succ, Act.put, List.setIfInBounds_toArray, List.set_cons_zero, List.set_cons_succ]
        refine wpAnyH_ready (rs := [16, 17]) (by kernel_rfl) (by simp) ?_
        refine AllReadyH.cons rfl (fun KC hKC => ?_) (AllReadyH.cons rfl (fun KC hKC => ?_) AllReadyH.nil)
        · refine step_callW rfl 6 #[.int .i64 (s kk), .int .i64 (s (2 + kk)), .int .i64 (s (4 + kk)), .int .i64 (s (6 + kk))] (by kernel_rfl) (config_any _ _ _ _ wr.drew) ?_
          rintro e w2 ⟨nodes, n, c, m, rfl, HN⟩
          obtain ⟨_, hb, hg, sn⟩ := HN.out
          obtain ⟨cb, W4, HCB, HW4, HS4, HT, W5, HW5, HS5, HEC⟩ := ex_cfgA HXD.out HBS.out sn hb hg
          have HS2 : Hid (∀ j, j < 12 → w2.cell? ⟨sb, j, none⟩ = some (.int .i64 (s j))) := fun j hj => cell_later sn (HS0.out j hj)
          clear HN hb hg sn
          refine ⟨_, rfl, hKC.out _ _ HS2.out fun _ => ?_⟩
          clear hKC
          simp only [List.getElem_toArray, List.getElem_cons_zero, List.getElem_cons_succ, Act.put, List.setIfInBounds_toArray, List.set_cons_zero, List.set_cons_succ]
          refine wpAnyH_ready (rs := [17]) (by kernel_rfl) (by simp) ?_
          refine AllReadyH.cons rfl (fun KC hKC => ?_) AllReadyH.nil
          refine step_storeM rfl (op_runW (w' := W4) (.pointer (some ⟨cb, 0, none⟩)) ?_ ?_)
          · rw [← HW4.out, ← HCB.out]
            unfold cf0
            kernel_rfl
          refine hKC.out _ _ HS4.out fun _ => ?_
          clear hKC
          simp only [List.getElem_toArray, List.getElem_cons_zero, List.getElem_cons_succ, Act.put, List.setIfInBounds_toArray, List.set_cons_zero, List.set_cons_succ]
          refine wpAnyH_ready (rs := [18]) (by kernel_rfl) (by simp) ?_
          refine AllReadyH.cons rfl (fun KC hKC => ?_) AllReadyH.nil
          refine step_storeM rfl (wp_store_mid 48 (.tmp 9) (.tmp 37) rfl cb 0 (cfgA nodes n c m) rfl rfl HT.out infoC9 (by kernel_rfl) ?_)
          rw [HW5.out]
          refine hKC.out _ _ HS5.out fun _ => ?_
          clear hKC
          simp only [Act.put]
          refine wpAnyH_done (by kernel_rfl) ?_ _
          go_wp2_with fail
          go_meet
          case rel => go_light; exact ⟨cb, nodes, n, c, m, rfl, HEC⟩
        · obtain ⟨cb, W4, HCB, HW4, HS4, HF⟩ := ex_cfgB HXD.out HBS.out
          refine step_storeM rfl (op_runW (w' := W4) (.pointer (some ⟨cb, 0, none⟩)) ?_ ?_)
          · rw [← HW4.out, ← HCB.out]
            unfold cf0
            kernel_rfl
          refine hKC.out _ _ HS4.out fun _ => ?_
          clear hKC
          simp only [List.getElem_toArray, List.getElem_cons_zero, List.getElem_cons_succ, Act.put, List.setIfInBounds_toArray, List.set_cons_zero, List.set_cons_succ]
          refine wpAnyH_ready (rs := [16]) (by kernel_rfl) (by simp) ?_
          refine AllReadyH.cons rfl (fun KC hKC => ?_) AllReadyH.nil
          refine step_callW rfl 6 #[.int .i64 (s kk), .int .i64 (s (2 + kk)), .int .i64 (s (4 + kk)), .int .i64 (s (6 + kk))] (by kernel_rfl) (config_any _ _ _ _ W4) ?_
          rintro e w2 ⟨nodes, n, c, m, rfl, HN⟩
          obtain ⟨_, hb, hg, sn⟩ := HN.out
          obtain ⟨HS2, HT, W5, HW5, HS5, HEC⟩ := HF.out w2 nodes n c m sn hb hg
          clear HN hb hg sn HF
          refine ⟨_, rfl, hKC.out _ _ HS2.out fun _ => ?_⟩
          clear hKC
          simp only [List.getElem_toArray, List.getElem_cons_zero, List.getElem_cons_succ, Act.put, List.setIfInBounds_toArray, List.set_cons_zero, List.set_cons_succ]
          refine wpAnyH_ready (rs := [18]) (by kernel_rfl) (by simp) ?_
          refine AllReadyH.cons rfl (fun KC hKC => ?_) AllReadyH.nil
          refine step_storeM rfl (wp_store_mid 48 (.tmp 9) (.tmp 37) rfl cb 0 (cfgA nodes n c m) rfl rfl HT.out infoC9 (by kernel_rfl) ?_)
          rw [HW5.out]
          refine hKC.out _ _ HS5.out fun _ => ?_
          clear hKC
          simp only [Act.put]
          refine wpAnyH_done (by kernel_rfl) ?_ _
          go_wp2_with fail
          go_meet
          case rel => go_light; exact ⟨cb, nodes, n, c, m, rfl, HEC⟩
      case rest =>
        clear HX
        obtain ⟨cb, nodes, n, c, m, rfl, HEC⟩ := hcut
        have cS : wc.cell? ⟨sb, 8 + kk, none⟩ = some (.int .i64 (s (8 + kk))) := HEC.out.cells.1 (8 + kk) (by omega)
        have cN : wc.cell? ⟨cb, 0, none⟩ = some (.int .i64 (nodes : Nat)) := HEC.out.cells.2.1
        obtain ⟨nd, HIN, Hnd⟩ : ∃ nd : Nat, Hid (∀ q, Calls Tryz.prog 7 #[.int .i64 (s (8 + kk)), .int .i64 (nodes : Nat)] (wc.drewN q) fun e w' => e = .returned (.int .i64 (nd : Nat)) ∧ w' = wc.drewN q) ∧ Hid (nd < nodes) := by
          have hb : 1 ≤ nodes ∧ nodes ≤ 9 := by
            obtain ⟨O, pl, X, _, _, hb, _⟩ := HEC.out
            omega
          have hp0 : (0 : Int) < (nodes : Int) := by omega
          have hm := Int.emod_nonneg (s (8 + kk)) (show (nodes : Int) ≠ 0 by omega)
          have hl := Int.emod_lt_of_pos (s (8 + kk)) hp0
          refine ⟨(s (8 + kk) % (nodes : Int)).toNat, fun q => (intoS_any _ nodes (by omega) (by omega) _).mono fun e w' ⟨h1, k, hk, hkq, he⟩ => ⟨?_, h1.symm⟩, ?_⟩
          · rw [he, ← hkq]
            rfl
          · show _ < _
            omega
        go_upto_region 8 with fail
        go_quiet (with_reducible exact Calls.quiet_of_same (HIN.out _))
        have HECQ : Hid (EC BI w (wc.drewN nq) sb bk ab s (.slice oa on oc) mk i cb nodes n c m) := HEC.out.drewN HBS.out nq
        clear HEC HIN cS cN
        generalize wc.drewN nq = wq at *
        have cS : wq.cell? ⟨sb, 10 + kk, none⟩ = some (.int .i64 (s (10 + kk))) := HECQ.out.cells.1 (10 + kk) (by omega)
        have cN : wq.cell? ⟨cb, 1, none⟩ = some (.int .i64 (n : Nat)) := HECQ.out.cells.2.2
        obtain ⟨ow, HIN, How⟩ : ∃ ow : Nat, Hid (∀ q, Calls Tryz.prog 7 #[.int .i64 (s (10 + kk)), .int .i64 (n : Nat)] (wq.drewN q) fun e w' => e = .returned (.int .i64 (ow : Nat)) ∧ w' = wq.drewN q) ∧ Hid (ow < n) := by
          have hb : 1 ≤ n ∧ n ≤ 9 := by
            obtain ⟨O, pl, X, _, _, hb, _⟩ := HECQ.out
            omega
          have hp0 : (0 : Int) < (n : Int) := by omega
          have hm := Int.emod_nonneg (s (10 + kk)) (show (n : Int) ≠ 0 by omega)
          have hl := Int.emod_lt_of_pos (s (10 + kk)) hp0
          refine ⟨(s (10 + kk) % (n : Int)).toNat, fun q => (intoS_any _ n (by omega) (by omega) _).mono fun e w' ⟨h1, k, hk, hkq, he⟩ => ⟨?_, h1.symm⟩, ?_⟩
          · rw [he, ← hkq]
            rfl
          · show _ < _
            omega
        go_upto_region 9 with fail
        go_quiet (with_reducible exact Calls.quiet_of_same (HIN.out _))
        have HECR : Hid (EC BI w (wq.drewN nq) sb bk ab s (.slice oa on oc) mk i cb nodes n c m) := HECQ.out.drewN HBS.out nq
        clear HECQ HIN cS cN
        generalize wq.drewN nq = wt at *
        obtain ⟨acb, Wa, HACB, HWA, a8, f8, Wb, HWB, HED⟩ := HECR.out.ed HBS.out
        clear HECR
        go_upto_region 11 with (first | (rw [HWA.out, HACB.out]; clear HWA))
        rw [HWB.out]
        clear HWB a8 f8
        obtain ⟨QL, HQL⟩ : ∃ y, Hid ((CLx acb nodes n c m).toList = y) := ⟨_, rfl⟩
        have eQ : QL.toArray = CLx acb nodes n c m := by have := HQL.out; subst this; rfl
        have HIQ : Hid ((Tryz.prog.info? 48).map (·.size) = some QL.length) := by have := HQL.out; subst this; exact infoCx acb nodes n c m
        have hNW := (HED.out.drewN HBS.out 1).new HBS.out HI.out (nd : Int) ow How.out
        rw [HQL.out, ← eQ] at hNW
        have HNW := hide hNW
        have HC0 : Hid (Wb.drew.rangeAt cb 0 QL) := by
          have q := (HED.out.drewN HBS.out 1).range
          rw [HQL.out] at q
          exact q
        clear hNW eQ HQL HED
        refine wp_region_held_drew (S := fun W => W.rangeAt cb 0 QL) (by kernel_rfl) HC0.out fun _ => ?_
        refine wpAnyH_take (i := 0) (v := .int .i64 (i : Nat)) rfl (by kernel_rfl) (by kernel_rfl) (by kernel_rfl) (fun _ _ _ h => h) (.inl ⟨rfl, fun W hW => by first | kernel_rfl | go_simp⟩) HC0.out ?_
        simp only [List.getElem_toArray, List.getElem_cons_zero, Act.put, List.setIfInBounds_toArray]
        refine wpAnyH_take (i := 1) (v := .agg QL.toArray) rfl (by kernel_rfl) (by kernel_rfl) (by kernel_rfl) (fun _ _ _ h => h) (yieldsIf_load_mid rfl 48 (.tmp 9) rfl cb 0 rfl QL _ (fun W hW => hW) Tryz.underlying48 rfl HIQ.out) HC0.out ?_
        simp only [List.getElem_toArray, List.getElem_cons_zero, List.getElem_cons_succ, Act.put, List.setIfInBounds_toArray, List.set_cons_zero, List.set_cons_succ]
        refine wpAnyH_take (i := 2) (v := .int .i64 (nd : Nat)) rfl (by kernel_rfl) (by kernel_rfl) (by kernel_rfl) (fun _ _ _ h => h) (.inl ⟨rfl, fun W hW => by first | kernel_rfl | go_simp⟩) HC0.out ?_
        simp only [List.getElem_toArray, List.getElem_cons_zero, List.getElem_cons_succ, Act.put, List.setIfInBounds_toArray, List.set_cons_zero, List.set_cons_succ]
        refine wpAnyH_take (i := 3) (v := .int .i64 (ow : Nat)) rfl (by kernel_rfl) (by kernel_rfl) (by kernel_rfl) (fun _ _ _ h => h) (.inl ⟨rfl, fun W hW => by first | kernel_rfl | go_simp⟩) HC0.out ?_
        simp only [List.getElem_toArray, List.getElem_cons_zero, List.getElem_cons_succ, Act.put, List.setIfInBounds_toArray, List.set_cons_zero, List.set_cons_succ]
        refine wpAnyH_take (i := 5) (v := .agg QL.toArray) rfl (by kernel_rfl) (by kernel_rfl) (by kernel_rfl) (fun _ _ _ h => h) (yieldsIf_load_mid rfl 48 (.tmp 9) rfl cb 0 rfl QL _ (fun W hW => hW) Tryz.underlying48 rfl HIQ.out) HC0.out ?_
        simp only [List.getElem_toArray, List.getElem_cons_zero, List.getElem_cons_succ, Act.put, List.setIfInBounds_toArray, List.set_cons_zero, List.set_cons_succ]
        refine wpAnyH_take (i := 6) (v := .int .i64 (nd : Nat)) rfl (by kernel_rfl) (by kernel_rfl) (by kernel_rfl) (fun _ _ _ h => h) (.inl ⟨rfl, fun W hW => by first | kernel_rfl | go_simp⟩) HC0.out ?_
        simp only [List.getElem_toArray, List.getElem_cons_zero, List.getElem_cons_succ, Act.put, List.setIfInBounds_toArray, List.set_cons_zero, List.set_cons_succ]
        refine wpAnyH_take (i := 7) (v := .int .i64 (ow : Nat)) rfl (by kernel_rfl) (by kernel_rfl) (by kernel_rfl) (fun _ _ _ h => h) (.inl ⟨rfl, fun W hW => by first | kernel_rfl | go_simp⟩) HC0.out ?_
        simp only [List.getElem_toArray, List.getElem_cons_zero, List.getElem_cons_succ, Act.put, List.setIfInBounds_toArray, List.set_cons_zero, List.set_cons_succ]
        refine wpAnyH_take (i := 9) (v := .pointer (some ⟨bk, 0, none⟩)) rfl (by kernel_rfl) (by kernel_rfl) (by kernel_rfl) (fun _ _ _ h => h) (.inl ⟨rfl, fun W hW => by first | kernel_rfl | go_simp⟩) HC0.out ?_
        simp only [List.getElem_toArray, List.getElem_cons_zero, List.getElem_cons_succ, Act.put, List.setIfInBounds_toArray, List.set_cons_zero, List.set_cons_succ]
        refine wpAnyH_take (i := 10) (v := .bool mk) rfl (by kernel_rfl) (by kernel_rfl) (by kernel_rfl) (fun _ _ _ h => h) (.inl ⟨rfl, fun W hW => by first | kernel_rfl | go_simp⟩) HC0.out ?_
        simp only [List.getElem_toArray, List.getElem_cons_zero, List.getElem_cons_succ, Act.put, List.setIfInBounds_toArray, List.set_cons_zero, List.set_cons_succ]
        refine wpAnyH_ready (rs := [4]) (by kernel_rfl) (by simp) ?_
        refine AllReadyH.cons rfl (fun KC hKC => ?_) AllReadyH.nil
        refine step_callW rfl 8 #[.agg QL.toArray, .int .i64 (nd : Nat), .int .i64 (ow : Nat)] (by kernel_rfl) HNW.out ?_
        rintro e w2 ⟨s1, rfl, HC2, HRN⟩
        refine ⟨_, rfl, hKC.out _ _ HC2.out fun _ => ?_⟩
        clear hKC HNW HC0
        simp only [List.getElem_toArray, List.getElem_cons_zero, List.getElem_cons_succ, Act.put, List.setIfInBounds_toArray, List.set_cons_zero, List.set_cons_succ]
        refine wpAnyH_ready (rs := [8]) (by kernel_rfl) (by simp) ?_
        refine AllReadyH.cons rfl (fun KC hKC => ?_) AllReadyH.nil
        refine step_callW rfl 9 #[.agg QL.toArray, .int .i64 (nd : Nat), .int .i64 (ow : Nat)] (by kernel_rfl) HRN.out ?_
        rintro e w3 ⟨r1, rfl, HC3, tb, W4, HTB, HW4, HC4, a4, f4, W5, HW5, HC5, HEF⟩
        refine ⟨_, rfl, hKC.out _ _ HC3.out fun _ => ?_⟩
        clear hKC HRN HC2
        simp only [List.getElem_toArray, List.getElem_cons_zero, List.getElem_cons_succ, Act.put, List.setIfInBounds_toArray, List.set_cons_zero, List.set_cons_succ]
        refine wpAnyH_take (i := 11) (v := .agg #[.pointer (some ⟨s1, 0, none⟩), .pointer (some ⟨r1, 0, none⟩), .pointer (some ⟨bk, 0, none⟩), .bool mk, .slice none 0 0, .int .i64 0]) rfl (by kernel_rfl) (by kernel_rfl) (by kernel_rfl) (fun _ _ _ h => h) (.inl ⟨rfl, fun W hW => by first | kernel_rfl | go_simp⟩) HC3.out ?_
        simp only [List.getElem_toArray, List.getElem_cons_zero, List.getElem_cons_succ, Act.put, List.setIfInBounds_toArray, List.set_cons_zero, List.set_cons_succ]
        refine wpAnyH_ready (rs := [12]) (by kernel_rfl) (by simp) ?_
        refine AllReadyH.cons rfl (fun KC hKC => ?_) AllReadyH.nil
        refine step_storeM rfl (op_runW (w' := W4) (.pointer (some ⟨tb, 0, none⟩)) ?_ ?_)
        · rw [← HW4.out, ← HTB.out]
          kernel_rfl
        refine hKC.out _ _ HC4.out fun _ => ?_
        clear hKC HC3
        simp only [List.getElem_toArray, List.getElem_cons_zero, List.getElem_cons_succ, Act.put, List.setIfInBounds_toArray, List.set_cons_zero, List.set_cons_succ]
        refine wpAnyH_take (i := 13) (v := .pointer (some ⟨ab, i, none⟩)) rfl (by kernel_rfl) (by kernel_rfl) (by kernel_rfl) (fun _ _ _ h => h) (.inl ⟨rfl, fun W hW => by go_simp⟩) HC4.out ?_
        simp only [List.getElem_toArray, List.getElem_cons_zero, List.getElem_cons_succ, Act.put, List.setIfInBounds_toArray, List.set_cons_zero, List.set_cons_succ]
        refine wpAnyH_ready (rs := [14]) (by kernel_rfl) (by simp) ?_
        refine AllReadyH.cons rfl (fun KC hKC => ?_) AllReadyH.nil
        refine step_storeM rfl (wp_store_cell 44 (.tmp 70) (.tmp 69) rfl ab i (.pointer (some ⟨tb, 0, none⟩)) _ rfl rfl a4 f4 infoPp rfl ?_)
        rw [HW5.out]
        refine hKC.out _ _ HC5.out fun _ => ?_
        clear hKC HC4
        simp only [Act.put]
        refine wpAnyH_done (by kernel_rfl) ?_ _
        clear HC5 HW5 HW4 a4 f4 HIQ HTB
        obtain ⟨e1, e2, e3, e4, e5⟩ := HEF.out.cells
        obtain ⟨W6, HW6, HT6, HX6⟩ := HEF.out.over HBS.out
        clear HEF
        go_upto_region 14 with fail
        go_wp2_with (refine wpList_store_mid rfl 53 _ _ rfl acb 0 #[.string ⟨#[111, 118, 101, 114]⟩, .int .u64 0] rfl rfl HT6.out infoA2 (by kernel_rfl) ?_; rw [HW6.out])
        go_roundg (8 - (i + 1))
        case measure => go_light; exact hme
        case rel => go_light; exact ⟨i + 1, HI.out, rfl, by simp, HX6.out⟩
    · obtain rfl : i = 8 := by omega
      have z1 : ¬ ((8 : Nat) : Int) < 8 := by omega
      clear hi hlt
      go_upto_region 15 with fail
      go_wp2_with fail
      go_loopg [12] on (fun q s12 wx => ∃ i : Nat, i ≤ on ∧ i ≤ 600 ∧ q = on - i ∧ s12 = .int .i64 (i : Nat) ∧ Hid (∃ O pl X, EX BI w O wx sb bk ab s (.slice oa on oc) mk 8 i i pl X))
      case atStart => exact ⟨0, Nat.zero_le _, Nat.zero_le _, rfl, by simp, HX.out⟩
      case round =>
        clear HX
        obtain ⟨i, hi, h6, rfl, rfl, HX⟩ := hrel
        have c12 : wr.cell? ⟨sb, 12, none⟩ = some (.slice oa on oc) := by
          obtain ⟨O, pl, X, h⟩ := HX.out
          exact h.so
        by_cases hlt : i < on
        · have z1 : (i : Int) < (on : Int) := by omega
          have z0 : (0 : Int) ≤ (i : Int) := by omega
          by_cases hl6 : i < 600
          · have z6 : (i : Int) < 600 := by omega
            have hwi : IntKind.i64.wrap ((i : Int) + 1) = (i : Int) + 1 := by rw [IntKind.wrap_i64]; omega
            have hme : on - (i + 1) < on - i := by omega
            have HI := hide hlt
            have HI6 := hide hl6
            obtain ⟨pl, X, b, o, j, pj, OL, HSTEP⟩ : ∃ (pl : Nat → Nat) (X : Nat → Pk) (b o j pj : Nat) (OL : List Value), Hid ((oa = some ⟨b, o, none⟩ ∧ j < 8 ∧ sopL (OO i) = OL ∧ (∀ W, Calls Tryz.prog 7 #[.int .i64 (OO i).wh, .int .i64 8] W fun e w' => e = .returned (.int .i64 (j : Nat)) ∧ W = w') ∧ StS sb ab oa on oc b o i j pj OL wr.drew ∧
              Calls Tryz.prog 10 #[.pointer (some ⟨pj, 0, none⟩), .agg OL.toArray] wr.drew fun e w2 => e = .returned (.bool true) ∧ StS sb ab oa on oc b o i j pj OL w2 ∧
                Hid (Calls Tryz.prog 11 #[.pointer (some ⟨bk, 0, none⟩)] w2 fun e w3 => e = .returned (.bool true) ∧ StS sb ab oa on oc b o i j pj OL w3 ∧ Hid (∃ O' pl' X', EX BI w O' w3 sb bk ab s (.slice oa on oc) mk 8 (i + 1) (i + 1) pl' X')))) := by
              obtain ⟨O, pl, X, h⟩ := HX.out
              obtain ⟨b, o, j, h1, h2, h3, h4, h5⟩ := ex_step (h.drewN HBS.out 1) HBS.out HPS.out HOO.out hlt hl6
              exact ⟨pl, X, b, o, j, pl j, _, h1, h2, rfl, h3, h4, h5⟩
            obtain ⟨hoa, hj8, hOL, hIN, hS, hPL⟩ := HSTEP.out
            subst hoa
            have hjz : (j : Int) < 8 := by omega
            have HIN := hide (hIN wr.drew)
            have HS := hide hS
            have HPL := hide hPL
            obtain ⟨wh, hwh⟩ : ∃ y, (OO i).wh = y := ⟨_, rfl⟩
            have hOL1 : OL[1]? = some (.int .i64 wh) := by rw [← hOL, ← hwh]; rfl
            have HOI : Hid ((Tryz.prog.info? 62).map (·.size) = some OL.length) := by rw [← hOL]; exact infoOp5
            rw [hwh] at HIN
            clear HSTEP hOL hIN hS hPL hwh HX hi hlt h6 hl6
            go_upto_region 18 with fail
            refine wp_region_held_drew (S := StS sb ab (some ⟨b, o, none⟩) on oc b o i j pj OL) (by kernel_rfl) HS.out fun _ => ?_
            refine wpAnyH_take (i := 0) (v := .pointer (some ⟨sb, 12, none⟩)) rfl (by kernel_rfl) (by kernel_rfl) (by kernel_rfl) (fun _ _ _ h => h) (.inl ⟨rfl, fun W hW => by first | kernel_rfl | go_simp⟩) HS.out ?_
            simp only [List.getElem_toArray, List.getElem_cons_zero, Act.put, List.setIfInBounds_toArray]
            refine wpAnyH_take (i := 1) (v := .slice (some ⟨b, o, none⟩) on oc) rfl (by kernel_rfl) (by kernel_rfl) (by kernel_rfl) (fun _ _ _ h => h) (.inl ⟨rfl, fun W hW => by obtain ⟨c, _, _⟩ := hW; go_simp⟩) HS.out ?_
            simp only [List.getElem_toArray, List.getElem_cons_zero, List.getElem_cons_succ, Act.put, List.setIfInBounds_toArray, List.set_cons_zero, List.set_cons_succ]
            refine wpAnyH_take (i := 2) (v := .int .i64 (i : Nat)) rfl (by kernel_rfl) (by kernel_rfl) (by kernel_rfl) (fun _ _ _ h => h) (.inl ⟨rfl, fun W hW => by first | kernel_rfl | go_simp⟩) HS.out ?_
            simp only [List.getElem_toArray, List.getElem_cons_zero, List.getElem_cons_succ, Act.put, List.setIfInBounds_toArray, List.set_cons_zero, List.set_cons_succ]
            refine wpAnyH_take (i := 3) (v := .pointer (some ⟨b, o + i * 5, none⟩)) rfl (by kernel_rfl) (by kernel_rfl) (by kernel_rfl) (fun _ _ _ h => h) (.inl ⟨rfl, fun W hW => by go_simp⟩) HS.out ?_
            simp only [List.getElem_toArray, List.getElem_cons_zero, List.getElem_cons_succ, Act.put, List.setIfInBounds_toArray, List.set_cons_zero, List.set_cons_succ]
            refine wpAnyH_take (i := 4) (v := .pointer (some ⟨b, o + i * 5 + 1, none⟩)) rfl (by kernel_rfl) (by kernel_rfl) (by kernel_rfl) (fun _ _ _ h => h) (.inl ⟨rfl, fun W hW => by first | kernel_rfl | go_simp⟩) HS.out ?_
            simp only [List.getElem_toArray, List.getElem_cons_zero, List.getElem_cons_succ, Act.put, List.setIfInBounds_toArray, List.set_cons_zero, List.set_cons_succ]
            refine wpAnyH_take (i := 5) (v := .int .i64 wh) rfl (by kernel_rfl) (by kernel_rfl) (by kernel_rfl) (fun _ _ _ h => h) (.inl ⟨rfl, fun W hW => by obtain ⟨_, c, _⟩ := hW; have c1 := c 1 _ hOL1; go_simp⟩) HS.out ?_
            simp only [List.getElem_toArray, List.getElem_cons_zero, List.getElem_cons_succ, Act.put, List.setIfInBounds_toArray, List.set_cons_zero, List.set_cons_succ]
            refine wpAnyH_take (i := 9) (v := .pointer (some ⟨sb, 12, none⟩)) rfl (by kernel_rfl) (by kernel_rfl) (by kernel_rfl) (fun _ _ _ h => h) (.inl ⟨rfl, fun W hW => by first | kernel_rfl | go_simp⟩) HS.out ?_
            simp only [List.getElem_toArray, List.getElem_cons_zero, List.getElem_cons_succ, Act.put, List.setIfInBounds_toArray, List.set_cons_zero, List.set_cons_succ]
            refine wpAnyH_take (i := 10) (v := .slice (some ⟨b, o, none⟩) on oc) rfl (by kernel_rfl) (by kernel_rfl) (by kernel_rfl) (fun _ _ _ h => h) (.inl ⟨rfl, fun W hW => by obtain ⟨c, _, _⟩ := hW; go_simp⟩) HS.out ?_
            simp only [List.getElem_toArray, List.getElem_cons_zero, List.getElem_cons_succ, Act.put, List.setIfInBounds_toArray, List.set_cons_zero, List.set_cons_succ]
            refine wpAnyH_take (i := 11) (v := .int .i64 (i : Nat)) rfl (by kernel_rfl) (by kernel_rfl) (by kernel_rfl) (fun _ _ _ h => h) (.inl ⟨rfl, fun W hW => by first | kernel_rfl | go_simp⟩) HS.out ?_
            simp only [List.getElem_toArray, List.getElem_cons_zero, List.getElem_cons_succ, Act.put, List.setIfInBounds_toArray, List.set_cons_zero, List.set_cons_succ]
            refine wpAnyH_take (i := 12) (v := .pointer (some ⟨b, o + i * 5, none⟩)) rfl (by kernel_rfl) (by kernel_rfl) (by kernel_rfl) (fun _ _ _ h => h) (.inl ⟨rfl, fun W hW => by go_simp⟩) HS.out ?_
            simp only [List.getElem_toArray, List.getElem_cons_zero, List.getElem_cons_succ, Act.put, List.setIfInBounds_toArray, List.set_cons_zero, List.set_cons_succ]
            refine wpAnyH_take (i := 13) (v := .agg OL.toArray) rfl (by kernel_rfl) (by kernel_rfl) (by kernel_rfl) (fun _ _ _ h => h) (yieldsIf_load_mid rfl 62 (.tmp 122) rfl b (o + i * 5) rfl OL _ (fun W hW => hW.2.1) Tryz.underlying62 rfl HOI.out) HS.out ?_
            simp only [List.getElem_toArray, List.getElem_cons_zero, List.getElem_cons_succ, Act.put, List.setIfInBounds_toArray, List.set_cons_zero, List.set_cons_succ]
            refine wpAnyH_ready (rs := [6]) (by kernel_rfl) (by simp) ?_
            refine AllReadyH.cons rfl (fun KC hKC => ?_) AllReadyH.nil
            refine step_callW rfl 7 #[.int .i64 wh, .int .i64 8] (by kernel_rfl) HIN.out ?_
            rintro e w2 ⟨rfl, rfl⟩
            refine ⟨_, rfl, hKC.out _ _ HS.out fun _ => ?_⟩
            clear hKC HIN
            simp only [List.getElem_toArray, List.getElem_cons_zero, List.getElem_cons_succ, Act.put, List.setIfInBounds_toArray, List.set_cons_zero, List.set_cons_succ]
            refine wpAnyH_take (i := 7) (v := .pointer (some ⟨ab, j, none⟩)) rfl (by kernel_rfl) (by kernel_rfl) (by kernel_rfl) (fun _ _ _ h => h) (.inl ⟨rfl, fun W hW => by go_simp⟩) HS.out ?_
            simp only [List.getElem_toArray, List.getElem_cons_zero, List.getElem_cons_succ, Act.put, List.setIfInBounds_toArray, List.set_cons_zero, List.set_cons_succ]
            refine wpAnyH_take (i := 8) (v := .pointer (some ⟨pj, 0, none⟩)) rfl (by kernel_rfl) (by kernel_rfl) (by kernel_rfl) (fun _ _ _ h => h) (.inl ⟨rfl, fun W hW => by obtain ⟨_, _, c⟩ := hW; go_simp⟩) HS.out ?_
            simp only [List.getElem_toArray, List.getElem_cons_zero, List.getElem_cons_succ, Act.put, List.setIfInBounds_toArray, List.set_cons_zero, List.set_cons_succ]
            refine wpAnyH_ready (rs := [14]) (by kernel_rfl) (by simp) ?_
            refine AllReadyH.cons rfl (fun KC hKC => ?_) AllReadyH.nil
            refine step_callW rfl 10 #[.pointer (some ⟨pj, 0, none⟩), .agg OL.toArray] (by kernel_rfl) HPL.out ?_
            rintro e w2 ⟨rfl, hS2, HLK⟩
            refine ⟨_, rfl, hKC.out _ _ hS2 fun _ => ?_⟩
            have HS2 := hide hS2
            clear hKC HPL HS hS2
            simp only [List.getElem_toArray, List.getElem_cons_zero, List.getElem_cons_succ, Act.put, List.setIfInBounds_toArray, List.set_cons_zero, List.set_cons_succ]
            refine wpAnyH_take (i := 15) (v := .bool false) rfl (by kernel_rfl) (by kernel_rfl) (by kernel_rfl) (fun _ _ _ h => h) (.inl ⟨rfl, fun W hW => by first | kernel_rfl | go_simp⟩) HS2.out ?_
            simp only [List.getElem_toArray, List.getElem_cons_zero, List.getElem_cons_succ, Act.put, List.setIfInBounds_toArray, List.set_cons_zero, List.set_cons_succ]
            refine wpAnyH_take (i := 16) (v := .bool false) rfl (by kernel_rfl) (by kernel_rfl) (by kernel_rfl) (fun _ _ _ h => h) (.inl ⟨rfl, fun W hW => by first | kernel_rfl | go_simp⟩) HS2.out ?_
            simp only [List.getElem_toArray, List.getElem_cons_zero, List.getElem_cons_succ, Act.put, List.setIfInBounds_toArray, List.set_cons_zero, List.set_cons_succ]
            refine wpAnyH_take (i := 17) (v := .pointer (some ⟨bk, 0, none⟩)) rfl (by kernel_rfl) (by kernel_rfl) (by kernel_rfl) (fun _ _ _ h => h) (.inl ⟨rfl, fun W hW => by first | kernel_rfl | go_simp⟩) HS2.out ?_
            simp only [List.getElem_toArray, List.getElem_cons_zero, List.getElem_cons_succ, Act.put, List.setIfInBounds_toArray, List.set_cons_zero, List.set_cons_succ]
            refine wpAnyH_ready (rs := [18]) (by kernel_rfl) (by simp) ?_
            refine AllReadyH.cons rfl (fun KC hKC => ?_) AllReadyH.nil
            refine step_callW rfl 11 #[.pointer (some ⟨bk, 0, none⟩)] (by kernel_rfl) HLK.out ?_
            rintro e w3 ⟨rfl, hS3, HX6⟩
            refine ⟨_, rfl, hKC.out _ _ hS3 fun _ => ?_⟩
            have HS3 := hide hS3
            clear hKC HLK HS2 hS3
            simp only [List.getElem_toArray, List.getElem_cons_zero, List.getElem_cons_succ, Act.put, List.setIfInBounds_toArray, List.set_cons_zero, List.set_cons_succ]
            refine wpAnyH_take (i := 19) (v := .bool false) rfl (by kernel_rfl) (by kernel_rfl) (by kernel_rfl) (fun _ _ _ h => h) (.inl ⟨rfl, fun W hW => by first | kernel_rfl | go_simp⟩) HS3.out ?_
            simp only [List.getElem_toArray, List.getElem_cons_zero, List.getElem_cons_succ, Act.put, List.setIfInBounds_toArray, List.set_cons_zero, List.set_cons_succ]
            refine wpAnyH_take (i := 20) (v := .bool false) rfl (by kernel_rfl) (by kernel_rfl) (by kernel_rfl) (fun _ _ _ h => h) (.inl ⟨rfl, fun W hW => by first | kernel_rfl | go_simp⟩) HS3.out ?_
            simp only [List.getElem_toArray, List.getElem_cons_zero, List.getElem_cons_succ, Act.put, List.setIfInBounds_toArray, List.set_cons_zero, List.set_cons_succ]
            refine wpAnyH_done (by kernel_rfl) ?_ _
            clear HS3 HOI
            go_wp2_with fail
            go_roundg (on - (i + 1))
            case measure => go_light; exact hme
            case rel => go_light; exact ⟨i + 1, HI.out, HI6.out, rfl, by simp, HX6.out⟩
          · have z6 : ¬ (i : Int) < 600 := by omega
            have HED := hide (ex_end HX.out HBS.out (by omega))
            clear hi hlt h6 hl6 HX
            go_wp2_with (first
              | (go_at_call 12; refine HED.out.mono ?_; rintro e w2 ⟨rfl, HLK⟩)
              | (go_at_call 11; refine HLK.out.mono ?_; rintro e w3 ⟨rfl, HSN⟩))
            go_ret
            exact ⟨rfl, HSN⟩
        · have z1 : ¬ (i : Int) < (on : Int) := by omega
          have HED := hide (ex_end HX.out HBS.out (by omega))
          clear hi hlt h6 HX
          go_wp2_with (first
            | (go_at_call 12; refine HED.out.mono ?_; rintro e w2 ⟨rfl, HLK⟩)
            | (go_at_call 11; refine HLK.out.mono ?_; rintro e w3 ⟨rfl, HSN⟩))
          go_ret
          exact ⟨rfl, HSN⟩
end Go.Proofs.YtdhhjdacidhmjaaGreat

/- SettleExact: the walk (mkse32.py). -/
namespace Go.Proofs.YtdhhjdacidhmjaaGreat
open Go.RowKit
set_option maxRecDepth 100000
set_option maxRecDepth 100000
set_option maxHeartbeats 4000000 in
theorem settle_exact {w : World} (s : Nat → Int) {oa : Option Addr} {on oc : Nat} {OO : Nat → Sop} (hO : SopsIn w oa on OO) (hon : on ≤ 1000000000000000) :
    Calls Tryz.prog 3 #[.agg #[.int .i64 (s 0), .int .i64 (s 1), .int .i64 (s 2), .int .i64 (s 3), .int .i64 (s 4), .int .i64 (s 5), .int .i64 (s 6), .int .i64 (s 7), .int .i64 (s 8), .int .i64 (s 9), .int .i64 (s 10), .int .i64 (s 11), .slice oa on oc]] w fun e w' => e = .returned (.bool true) ∧ w.Since w.heap.size w' := by
  obtain ⟨W1, HW1⟩ : ∃ W, Hid (w.alloc (.cells #[.int .i64 (s 0), .int .i64 (s 1), .int .i64 (s 2), .int .i64 (s 3), .int .i64 (s 4), .int .i64 (s 5), .int .i64 (s 6), .int .i64 (s 7), .int .i64 (s 8), .int .i64 (s 9), .int .i64 (s 10), .int .i64 (s 11), .slice oa on oc] 25) = W) := ⟨_, rfl⟩
  have s1 : w.Since w.heap.size W1 := by rw [← HW1.out]; exact (World.Since.refl _ _).alloc (Nat.le_refl _) _
  have hrg : W1.rangeAt w.heap.size 0 [.int .i64 (s 0), .int .i64 (s 1), .int .i64 (s 2), .int .i64 (s 3), .int .i64 (s 4), .int .i64 (s 5), .int .i64 (s 6), .int .i64 (s 7), .int .i64 (s 8), .int .i64 (s 9), .int .i64 (s 10), .int .i64 (s 11), .slice oa on oc] := by
    rw [← HW1.out]
    intro j v hj
    rw [Nat.zero_add]
    refine (World.cell?_alloc_at (w := w) _ _ _ j rfl).trans ?_
    rw [← Array.getElem?_toList]
    exact hj
  have HRG := hide hrg
  have HIL : Hid ((Tryz.prog.info? 25).map (·.size) = some ([.int .i64 (s 0), .int .i64 (s 1), .int .i64 (s 2), .int .i64 (s 3), .int .i64 (s 4), .int .i64 (s 5), .int .i64 (s 6), .int .i64 (s 7), .int .i64 (s 8), .int .i64 (s 9), .int .i64 (s 10), .int .i64 (s 11), .slice oa on oc] : List Value).length) := by show _ = _; kernel_rfl
  have HX : Hid (Calls Tryz.prog 5 #[.agg #[.int .i64 (s 0), .int .i64 (s 1), .int .i64 (s 2), .int .i64 (s 3), .int .i64 (s 4), .int .i64 (s 5), .int .i64 (s 6), .int .i64 (s 7), .int .i64 (s 8), .int .i64 (s 9), .int .i64 (s 10), .int .i64 (s 11), .slice oa on oc], .bool false] W1 fun e w' => e = .returned (.bool true) ∧ w.Since w.heap.size w') :=
    (exact_any bkS0 @playS0 s (oc := oc) (hO.since s1) hon).mono fun e w' ⟨he, hs⟩ => ⟨he, s1.trans (since_mono hs s1.size)⟩
  obtain ⟨pb, HPB⟩ : ∃ x, Hid (w.heap.size = x) := ⟨_, rfl⟩
  rw [HPB.out] at HRG
  clear hO hon s1 hrg
  go_enter Tryz.func3, Tryz.ntmps3
  go_upto_region 1 with fail
  rw [HW1.out, HPB.out]
  clear HW1 HPB
  go_wp2_with (first
    | (refine wpList_load_mid rfl 25 _ rfl pb 0 rfl _ _ HRG.out Tryz.underlying25 rfl HIL.out ?_)
    | (go_at_call 5; refine HX.out.mono ?_; rintro e w2 ⟨rfl, hs⟩))
  go_ret
  exact ⟨rfl, hs⟩
end Go.Proofs.YtdhhjdacidhmjaaGreat
