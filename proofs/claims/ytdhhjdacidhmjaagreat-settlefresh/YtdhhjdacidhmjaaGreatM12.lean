/- Own texts, joined: KB8, KB9, KB10, SE30, SE30B, SE31, SE33. -/
import Derived.Test.YtdhhjdacidhmjaaGreatM11
import Derived.Test.YtdhhjdacidhmjaaGreatM10
import Derived.BigQuiet

/- The Book takes a list of no bytes. -/
namespace Go.Proofs.YtdhhjdacidhmjaaGreat
open Go.RowKit
set_option maxRecDepth 100000
set_option maxRecDepth 100000
/-- Behind a step that keeps a list of bytes. -/
def GB (O0 : Nat → Nat) (own : Nat → Nat) (w : World) (bk : Nat) (t : Nat) (W : World) : Prop := ∃ O d, BM O own W bk d ∧ BL d ∧ d.tu = t ∧ ChR 1001 1004 O0 O w W
set_option maxHeartbeats 4000000 in
theorem bm_bytes0 {O own : Nat → Nat} {w : World} {bk : Nat} {d : Bd} (h : BM O own w bk d) (hb : BL d) (htu : d.tu < 10000000) :
    Calls Tryz.prog 51 #[.pointer (some ⟨bk, 0, none⟩), .slice none 0 0] w fun e w' => e = .returned (.tuple #[]) ∧ Hid (GB O own w bk (d.tu + 1) w') := by
  obtain ⟨tu, etu⟩ : ∃ x, d.tu = x := ⟨_, rfl⟩
  obtain ⟨us, eus⟩ : ∃ x, d.us = x := ⟨_, rfl⟩
  have c36 : w.cell? ⟨bk, 36, none⟩ = some (.int .i64 (tu : Nat)) := by rw [← etu]; exact h.row.1.cell (i := 36) (by decide)
  have f36 := h.row.1.frozen 36
  obtain ⟨t1, et1⟩ : ∃ t1 : Nat, t1 = tu + 1 := ⟨_, rfl⟩
  have hs : (tu : Int) + 1 = (t1 : Int) := by omega
  have hw : IntKind.i64.wrap (t1 : Int) = (t1 : Int) := by rw [IntKind.wrap_i64]; omega
  obtain ⟨g1, g2⟩ := h.num 36 t1 { d with tu := t1 } (fun i hi => by
    unfold bdC
    by_cases e : i = 36
    · subst e; rfl
    · simp only [if_neg e]) ⟨rfl, rfl, rfl, rfl, rfl, rfl⟩ ⟨rfl, rfl, rfl, rfl, rfl, rfl⟩ (by show d.tu ≤ t1; omega)
  have hb1 : BL { d with tu := t1 } := ⟨hb.ab, hb.am, by show d.nb + 9 * (d.nb - d.ab) ≤ 10 * t1; have := hb.cb; omega, by show d.nm + 5 * (d.nm - d.am) ≤ 10 * t1; have := hb.cm; omega, hb.us, by show t1 ≤ _; omega, hb.lb, hb.lm⟩
  have hnb := hb.cb
  have hab := hb.ab
  have hcm := hb.cm
  rw [etu] at hnb hcm
  have hus := hb.us
  obtain ⟨W1, HW1⟩ : ∃ W, Hid (w.setCell ⟨bk, 36, none⟩ (.int .i64 (t1 : Nat)) = W) := ⟨_, rfl⟩
  rw [HW1.out] at g1 g2
  have k1 : ChR 1001 1004 O O w W1 := g2.wide (by omega) (by omega)
  have c36' : W1.cell? ⟨bk, 36, none⟩ = some (.int .i64 (t1 : Nat)) := g1.row.1.cell (i := 36) (by decide)
  have HQ1 : Hid (GB O own w bk t1 W1) := ⟨O, _, g1, hb1, rfl, k1⟩
  have HTI : Hid (Calls Tryz.prog 53 #[.pointer (some ⟨bk, 0, none⟩), .int .i64 1200] W1 fun e w' => (e = .returned (.bool true) ∧ w' = W1) ∨ (e = .returned (.bool false) ∧ ∃ lv ov la lc W3 W4 oa oc W5 W6, w'.cell? ⟨bk, 0, none⟩ = some lv ∧ Hid ((Builtin.append_ #[29, 29] 29 #[lv, .slice (some ⟨w'.heap.size, 0, none⟩) 1 1]).run Tryz.prog (w'.alloc (.cells #[.slice none 0 0] 103)) = .ok (.slice la (d.nb + 1) lc) W3) ∧ W3.cell? ⟨bk, 0, none⟩ = some lv ∧ W3.frozen? ⟨bk, 0, none⟩ = false ∧ Hid (W3.setCell ⟨bk, 0, none⟩ (.slice la (d.nb + 1) lc) = W4) ∧
      W4.cell? ⟨bk, 1, none⟩ = some ov ∧ Hid ((Builtin.append_ #[30, 30] 30 #[ov, .slice (some ⟨W4.heap.size, 0, none⟩) 1 1]).run Tryz.prog (W4.alloc (.cells #[.int .i64 (t1 : Nat)] 3)) = .ok (.slice oa (d.nb + 1) oc) W5) ∧ W5.cell? ⟨bk, 1, none⟩ = some ov ∧ W5.frozen? ⟨bk, 1, none⟩ = false ∧ Hid (W5.setCell ⟨bk, 1, none⟩ (.slice oa (d.nb + 1) oc) = W6) ∧ Hid (GB O own w bk t1 W6))) := by
    refine (tight_any bk us 1200 _ W1 g1.row.1 (by rw [← eus]; rfl) (by omega) (by omega)).mono fun e w' hh => ?_
    rcases hh with ⟨_, he, hw'⟩ | ⟨hle, he, hw'⟩
    · exact .inl ⟨he, hw'⟩
    · refine .inr ⟨he, ?_⟩
      obtain ⟨q1, q2⟩ := g1.num 38 (us + 1200) { d with tu := t1, us := us + 1200 } (fun i hi => by
        unfold bdC
        by_cases e : i = 38
        · subst e; rfl
        · simp only [if_neg e]) ⟨rfl, rfl, rfl, rfl, rfl, rfl⟩ ⟨rfl, rfl, rfl, rfl, rfl, rfl⟩ (Nat.le_refl _)
      rw [← hw'] at q1 q2
      obtain ⟨la, lc, W3, W4, oa, oc, W5, W6, p1, p2, p3, p4, p5, p6, p7, p8, p9, p10, O', hB, kk⟩ := q1.pushB (v := .slice none 0 0) (len := 0) (m := t1) (KOk.nil _ _ _ _ _ _ _ _) ⟨by omega, Nat.le_refl _⟩ (by omega) (by show d.nb ≤ _; omega)
      refine ⟨_, _, la, lc, W3, W4, oa, oc, W5, W6, p2, p1, p3, p4, p5, p6, p7, p8, p9, p10, O', _, hB, ⟨?_, hb.am, ?_, ?_, ?_, ?_, fun i h1 h2 => ?_, hb.lm⟩, rfl, (k1.trans (q2.wide (by omega) (by omega))).trans kk⟩
      · show d.ab ≤ d.nb + 1
        omega
      · show d.nb + 1 + 9 * (d.nb + 1 - d.ab) ≤ 10 * t1
        omega
      · show d.nm + 5 * (d.nm - d.am) ≤ 10 * t1
        omega
      · show us + 1200 ≤ 16777216
        exact hle
      · show t1 ≤ 10000000
        omega
      · show (if i = d.nb then 0 else d.lB i) ≤ 1000000000
        split
        · omega
        · exact hb.lb i h1 (by have : i < d.nb + 1 := h2; omega)
  rw [etu, ← et1]
  have hlit : ((1200 : Nat) : Int) = 1200 := rfl
  clear h hb htu etu eus g1 g2 hb1 k1 hnb hab hcm hus et1 hlit
  go_enter Tryz.func51, Tryz.ntmps51
  go_upto_region 1 with fail
  rw [HW1.out]
  clear HW1 c36 f36
  go_wp2_with fail
  go_loopg [5] 0 (fun q s5 wx => q = 0 ∧ s5 = .int .i64 0 ∧ W1 = wx)
  case atStart => exact ⟨rfl, rfl, rfl⟩
  case round =>
    obtain ⟨rfl, rfl, rfl⟩ := hrel
    go_upto_region 6 with fail
    clear c36'
    go_wp2_with fail
    refine HTI.out.mono ?_
    rintro e w2 (⟨rfl, rfl⟩ | ⟨rfl, lv, ov, la, lc, W3, W4, oa, oc, W5, W6, d0, HA1, d0', f0, HW4, d1, HA2, d1', f1, HW6, HQ6⟩)
    · clear HTI
      go_wp2_with fail
      refine bodyPost_ret (results_none rfl _ _ _) rfl ?_
      exact ⟨rfl, HQ1⟩
    · clear HTI
      go_wp2_with (first
        | (at_builtin; refine wpList_append_eq rfl _ _ 29 rfl _ _ _ (by rfl) (by rfl) HA1.out ?_)
        | (rw [HW4.out]; clear HW4)
        | (at_builtin; refine wpList_append_eq rfl _ _ 30 rfl _ _ _ (by rfl) (by rfl) HA2.out ?_)
        | (rw [HW6.out]; clear HW6))
      try rw [HW6.out]
      go_end0
      exact ⟨rfl, HQ6⟩
end Go.Proofs.YtdhhjdacidhmjaaGreat

/- The Book takes a list of messages without values. -/
namespace Go.Proofs.YtdhhjdacidhmjaaGreat
open Go.RowKit
set_option maxRecDepth 100000
set_option maxRecDepth 100000
/-- The list that is handed over: of the Book's colour, on which none of its lists lies; its first i messages are the mark. -/
def MlS (O own : Nat → Nat) (W : World) (a : Option Addr) (K c m i : Nat) : Prop := (a = none ∧ K = 0 ∧ c = 0) ∨ ∃ b F, a = some ⟨b, 0, none⟩ ∧ O b = 1006 ∧ own b = 0 ∧ K ≤ c ∧ c ≤ maxLen ∧ W.rowIs b 108 (c * 22) F ∧ ∀ j, j < i * 22 → F j = mkM m j
/-- Its values are nil. -/
def MlV (W : World) (a : Option Addr) (K : Nat) : Prop := ∀ i, i < K → ∃ b, a = some ⟨b, 0, none⟩ ∧ W.cell? ⟨b, i * 22 + 10, none⟩ = some (.slice none 0 0) ∧ b < W.heap.size
section
variable {O O' own : Nat → Nat} {W W' : World} {a : Option Addr} {K c m i lo hi : Nat}
theorem MlS.keepR (h : MlS O own W a K c m i) (k : ChR lo hi O O' W W') (hx : 1006 < lo ∨ hi ≤ 1006) : MlS O' own W' a K c m i := by
  rcases h with h | ⟨b, F, h1, h2, h3, h4, h5, h6, h7⟩
  · exact .inl h
  · have := RowC.keepR ⟨h6, h2⟩ k hx
    exact .inr ⟨b, F, h1, this.2, h3, h4, h5, this.1, h7⟩
theorem MlS.fin {bk : Nat} {d : Bd} (h : MlS O own W a K c m K) (hb : BM O own W bk d) : ∃ own', KOk O 1006 own' W 108 22 mkM (.slice a K c) K m ∧ BM O own' W bk d := by
  rcases h with ⟨rfl, rfl, rfl⟩ | ⟨b, F, rfl, h2, h3, h4, h5, h6, h7⟩
  · exact ⟨own, KOk.nil _ _ _ _ _ _ _ _, hb⟩
  · exact ⟨fun k => if k = b then m else own k, .inr ⟨b, c, F, rfl, h2, (show (if b = b then m else own b) = m from if_pos rfl), h4, h5, h6, h7⟩, hb.give h3 m⟩
end
theorem heap_setCellsB (b : Nat) : ∀ (vs : List Value) (o : Nat) (W : World) (k : Nat), k ≠ b → (W.setCells b o vs).heap[k]? = W.heap[k]?
  | [], _, _, _, _ => rfl
  | v :: vs, o, W, k, hne => (heap_setCellsB b vs (o + 1) (W.setCell ⟨b, o, none⟩ v) k hne).trans (Below.heap_setCell _ _ _ _ hne)
/-- While the list is marked. -/
def MlW (O0 : Nat → Nat) (own : Nat → Nat) (w : World) (bk xb : Nat) (kq : Int) (a : Option Addr) (K c m i : Nat) (W : World) : Prop := ∃ O d, BM O own W bk d ∧ BL d ∧ (d.tu = m ∧ d.nm + 5 * (d.nm - d.am) + 10 ≤ 10 * m) ∧ MlS O own W a K c m i ∧ W.rangeAt xb 0 (#[.int .i64 kq, .int .i64 0, .int .i64 0, .int .i64 0, .int .u64 0, .int .u64 0, .int .u64 0, .int .u64 0, .int .i64 0, .int .u64 0, .slice none 0 0, .int .i64 0, .int .u64 0, .string ⟨#[]⟩, .string ⟨#[]⟩, .int .u64 0, .int .u64 0, .int .u64 0, .int .i64 0, .int .i64 0, .int .i64 0, .int .i64 0] : Array Value).toList ∧ O xb = 999 ∧ ChR 1000 1007 O0 O w W
theorem mkM_at (m : Nat) (kq : Int) (hk : ((1000 + m : Nat) : Int) = kq) (j : Nat) (hj : j < 22) (i : Nat) : (#[.int .i64 kq, .int .i64 0, .int .i64 0, .int .i64 0, .int .u64 0, .int .u64 0, .int .u64 0, .int .u64 0, .int .i64 0, .int .u64 0, .slice none 0 0, .int .i64 0, .int .u64 0, .string ⟨#[]⟩, .string ⟨#[]⟩, .int .u64 0, .int .u64 0, .int .u64 0, .int .i64 0, .int .i64 0, .int .i64 0, .int .i64 0] : Array Value).toList.getD j undef = mkM m (i * 22 + j) := by
  unfold mkM
  have : (i * 22 + j) % 22 = j := by omega
  rw [this, hk]
  rfl
theorem MlW.step {O0 own : Nat → Nat} {w W : World} {bk xb : Nat} {kq : Int} {a : Option Addr} {K c m i : Nat} (h : MlW O0 own w bk xb kq a K c m i W) (hk : ((1000 + m : Nat) : Int) = kq) (hi : i < K) : ∃ b W2, a = some ⟨b, 0, none⟩ ∧ i < c ∧ Hid (W.rangeAt xb 0 (#[.int .i64 kq, .int .i64 0, .int .i64 0, .int .i64 0, .int .u64 0, .int .u64 0, .int .u64 0, .int .u64 0, .int .i64 0, .int .u64 0, .slice none 0 0, .int .i64 0, .int .u64 0, .string ⟨#[]⟩, .string ⟨#[]⟩, .int .u64 0, .int .u64 0, .int .u64 0, .int .i64 0, .int .i64 0, .int .i64 0, .int .i64 0] : Array Value).toList) ∧ Hid (W.there b (i * 22) 22) ∧ Hid (W.setCells b (i * 22) (#[.int .i64 kq, .int .i64 0, .int .i64 0, .int .i64 0, .int .u64 0, .int .u64 0, .int .u64 0, .int .u64 0, .int .i64 0, .int .u64 0, .slice none 0 0, .int .i64 0, .int .u64 0, .string ⟨#[]⟩, .string ⟨#[]⟩, .int .u64 0, .int .u64 0, .int .u64 0, .int .i64 0, .int .i64 0, .int .i64 0, .int .i64 0] : Array Value).toList = W2) ∧ Hid (MlW O0 own w bk xb kq a K c m (i + 1) W2) := by
  obtain ⟨O, d, h1, h2, h3, h4, h5, h6, h7⟩ := h
  rcases h4 with ⟨_, e, _⟩ | ⟨b, F, rfl, g2, g3, g4, g5, g6, g7⟩
  · omega
  · have hr := rowIs_setCells (#[.int .i64 kq, .int .i64 0, .int .i64 0, .int .i64 0, .int .u64 0, .int .u64 0, .int .u64 0, .int .u64 0, .int .i64 0, .int .u64 0, .slice none 0 0, .int .i64 0, .int .u64 0, .string ⟨#[]⟩, .string ⟨#[]⟩, .int .u64 0, .int .u64 0, .int .u64 0, .int .i64 0, .int .i64 0, .int .i64 0, .int .i64 0] : Array Value).toList (i * 22) W F g6
    have kc : Ch 1006 O O W (W.setCells b (i * 22) (#[.int .i64 kq, .int .i64 0, .int .i64 0, .int .i64 0, .int .u64 0, .int .u64 0, .int .u64 0, .int .u64 0, .int .i64 0, .int .u64 0, .slice none 0 0, .int .i64 0, .int .u64 0, .string ⟨#[]⟩, .string ⟨#[]⟩, .int .u64 0, .int .u64 0, .int .u64 0, .int .i64 0, .int .i64 0, .int .i64 0, .int .i64 0] : Array Value).toList) := Ch.sets g2 _ _ _
    refine ⟨b, _, rfl, by omega, h5, fun j hj => ⟨by rw [g6.cell (i := i * 22 + j) (by omega)]; rfl, g6.frozen _⟩, rfl, O, d, h1.write g3 kc (fun k hk hne => ?_), h2, h3, .inr ⟨b, _, rfl, g2, g3, g4, g5, hr, fun j hj => ?_⟩, fun j v hv => ?_, h6, h7.trans ((ChR.of kc (lo := 1006) (hi := 1007) (Nat.le_refl _) (Nat.lt_succ_self _)).wide (by omega) (Nat.le_refl _))⟩
    · exact heap_setCellsB _ _ _ _ _ hne
    · show (if i * 22 ≤ j ∧ j < i * 22 + 22 then (#[.int .i64 kq, .int .i64 0, .int .i64 0, .int .i64 0, .int .u64 0, .int .u64 0, .int .u64 0, .int .u64 0, .int .i64 0, .int .u64 0, .slice none 0 0, .int .i64 0, .int .u64 0, .string ⟨#[]⟩, .string ⟨#[]⟩, .int .u64 0, .int .u64 0, .int .u64 0, .int .i64 0, .int .i64 0, .int .i64 0, .int .i64 0] : Array Value).toList.getD (j - i * 22) undef else F j) = mkM m j
      by_cases hj2 : j < i * 22
      · rw [if_neg (by omega)]
        exact g7 j hj2
      · rw [if_pos (by omega), mkM_at m kq hk (j - i * 22) (by omega) i]
        congr 1
        omega
    · have hne : xb ≠ b := fun e => by rw [e, g2] at h6; omega
      rw [World.cell?_setCells_out _ _ _ _ _ (fun e _ => absurd e hne)]
      exact h5 j v hv
set_option maxHeartbeats 8000000 in
theorem bm_msgs {O own : Nat → Nat} {w : World} {bk : Nat} {d : Bd} (h : BM O own w bk d) (hb : BL d) {a : Option Addr} {K c : Nat} (hm : MlS O own w a K c 0 0) (hv : MlV w a K) (hK : K ≤ 1000) (htu : d.tu + K + 1 ≤ 10000000) :
    Calls Tryz.prog 29 #[.pointer (some ⟨bk, 0, none⟩), .slice a K c] w fun e w' => e = .returned (.tuple #[]) ∧ Hid (GD O w bk (d.tu + K + 1) w') := by
  obtain ⟨tu, etu⟩ : ∃ x, d.tu = x := ⟨_, rfl⟩
  rw [etu] at htu ⊢
  have HS0 : Hid (GB O own w bk (tu + 0) w) := ⟨O, d, h, hb, etu, ChR.refl⟩
  have HML := hide hm
  have HVL : Hid (∀ i, i < K → ∃ b, a = some ⟨b, 0, none⟩ ∧ ∀ O' W, ChR 1001 1004 O O' w W → W.cell? ⟨b, i * 22 + 10, none⟩ = some (.slice none 0 0)) := fun i hi => by
    obtain ⟨b, e, hc, hlt⟩ := hv i hi
    rcases hm with ⟨_, e0, _⟩ | ⟨b2, F, e2, g2, _⟩
    · omega
    · rw [e] at e2
      obtain rfl : b = b2 := congrArg Addr.block (Option.some.inj e2)
      exact ⟨b, e, fun O' W k => cell_R k (by rw [g2]; omega) hc⟩
  have HTU := hide htu
  have HKB := hide hK
  have HKC : Hid (K ≤ c) := by
    rcases hm with ⟨_, e0, e1⟩ | ⟨b2, F, e2, g2, _, g4, _⟩
    · show K ≤ c; omega
    · exact g4
  clear h hb hm hv hK htu etu
  go_enter Tryz.func29, Tryz.ntmps29
  go_wp2_with fail
  go_loopg [4] K (fun q s4 wx => ∃ i : Nat, i ≤ K ∧ q = K - i ∧ s4 = .int .i64 (i : Nat) ∧ Hid (GB O own w bk (tu + i) wx))
  case atStart => exact ⟨0, Nat.zero_le _, rfl, by simp, HS0.out⟩
  case round =>
    clear HS0
    obtain ⟨i, hi, rfl, rfl, HS⟩ := hrel
    by_cases hlt : i < K
    · have z1 : (i : Int) < (K : Int) := by omega
      have z0 : (0 : Int) ≤ (i : Int) := by omega
      have hwi : IntKind.i64.wrap ((i : Int) + 1) = (i : Int) + 1 := by have := HKB.out; rw [IntKind.wrap_i64]; omega
      have hme : K - (i + 1) < K - i := by omega
      have HI := hide hlt
      obtain ⟨b, ha, hc⟩ := HVL.out i hlt
      subst ha
      have cV : wr.cell? ⟨b, i * 22 + 10, none⟩ = some (.slice none 0 0) := by
        obtain ⟨O1, d1, _, _, _, k⟩ := HS.out
        exact hc O1 wr k
      have HBY : Hid (Calls Tryz.prog 51 #[.pointer (some ⟨bk, 0, none⟩), .slice none 0 0] wr fun e w' => e = .returned (.tuple #[]) ∧ Hid (GB O own w bk (tu + (i + 1)) w')) := by
        obtain ⟨O1, d1, h1, h2, h3, k⟩ := HS.out
        refine (bm_bytes0 h1 h2 (by have := HTU.out; omega)).mono fun e w' ⟨he, hh⟩ => ⟨he, ?_⟩
        obtain ⟨O2, d2, g1, g2, g3, g4⟩ := hh.out
        exact ⟨O2, d2, g1, g2, by omega, k.trans g4⟩
      clear hc hi hlt HS
      go_wp2_with (go_at_call 51; refine HBY.out.mono ?_; rintro e w2 ⟨rfl, HS2⟩)
      go_roundg (K - (i + 1))
      case measure => go_light; exact hme
      case rel => go_light; exact ⟨i + 1, HI.out, rfl, by simp, HS2.out⟩
    · obtain rfl : i = K := by omega
      have z1 : ¬ (i : Int) < (i : Int) := by omega
      obtain ⟨m, em⟩ : ∃ m : Nat, m = tu + i + 1 := ⟨_, rfl⟩
      obtain ⟨tk, ek⟩ : ∃ x : Nat, x = tu + i := ⟨_, rfl⟩
      have hs : (tk : Int) + 1 = (m : Int) := by omega
      have hwm : IntKind.i64.wrap (m : Int) = (m : Int) := by have := HTU.out; rw [IntKind.wrap_i64]; omega
      obtain ⟨kq, hkq⟩ : ∃ kq : Int, ((1000 + m : Nat) : Int) = kq := ⟨_, rfl⟩
      obtain ⟨c36, f36, W1, HW1, c36', HMM⟩ : wr.cell? ⟨bk, 36, none⟩ = some (.int .i64 (tk : Nat)) ∧ wr.frozen? ⟨bk, 36, none⟩ = false ∧ ∃ W1, Hid (wr.setCell ⟨bk, 36, none⟩ (.int .i64 (m : Nat)) = W1) ∧ W1.cell? ⟨bk, 36, none⟩ = some (.int .i64 (m : Nat)) ∧
          Hid (Calls Tryz.prog 52 #[.int .i64 (m : Nat)] W1 fun e w4 => e = .returned (.agg #[.int .i64 kq, .int .i64 0, .int .i64 0, .int .i64 0, .int .u64 0, .int .u64 0, .int .u64 0, .int .u64 0, .int .i64 0, .int .u64 0, .slice none 0 0, .int .i64 0, .int .u64 0, .string ⟨#[]⟩, .string ⟨#[]⟩, .int .u64 0, .int .u64 0, .int .u64 0, .int .i64 0, .int .i64 0, .int .i64 0, .int .i64 0]) ∧ ∃ xb W5 W6, Hid (w4.heap.size = xb) ∧ Hid (w4.alloc (.cells #[.int .i64 0, .int .i64 0, .int .i64 0, .int .i64 0, .int .u64 0, .int .u64 0, .int .u64 0, .int .u64 0, .int .i64 0, .int .u64 0, .slice none 0 0, .int .i64 0, .int .u64 0, .string ⟨#[]⟩, .string ⟨#[]⟩, .int .u64 0, .int .u64 0, .int .u64 0, .int .i64 0, .int .i64 0, .int .i64 0, .int .i64 0] 108) = W5) ∧ Hid (W5.there xb 0 22) ∧ Hid (W5.setCells xb 0 (#[.int .i64 kq, .int .i64 0, .int .i64 0, .int .i64 0, .int .u64 0, .int .u64 0, .int .u64 0, .int .u64 0, .int .i64 0, .int .u64 0, .slice none 0 0, .int .i64 0, .int .u64 0, .string ⟨#[]⟩, .string ⟨#[]⟩, .int .u64 0, .int .u64 0, .int .u64 0, .int .i64 0, .int .i64 0, .int .i64 0, .int .i64 0] : Array Value).toList = W6) ∧ Hid (MlW O own w bk xb kq a i c m 0 W6)) := by
        obtain ⟨O1, d1, h1, h2, h3, k⟩ := HS.out
        have hht := HTU.out
        obtain ⟨g1, g2⟩ := h1.num 36 m { d1 with tu := m } (fun j hj => by
          unfold bdC
          by_cases e : j = 36
          · subst e; rfl
          · simp only [if_neg e]) ⟨rfl, rfl, rfl, rfl, rfl, rfl⟩ ⟨rfl, rfl, rfl, rfl, rfl, rfl⟩ (by show d1.tu ≤ m; omega)
        have hb1 : BL { d1 with tu := m } := ⟨h2.ab, h2.am, by show d1.nb + 9 * (d1.nb - d1.ab) ≤ 10 * m; have := h2.cb; omega, by show d1.nm + 5 * (d1.nm - d1.am) ≤ 10 * m; have := h2.cm; omega, h2.us, by show m ≤ _; omega, h2.lb, h2.lm⟩
        refine ⟨?_, h1.row.1.frozen 36, _, rfl, g1.row.1.cell (i := 36) (by decide), ?_⟩
        · rw [ek, ← h3]
          exact h1.row.1.cell (i := 36) (by decide)
        · refine (msgsMark_any m (by omega) kq hkq _).mono fun e w4 ⟨he, hsn⟩ => ?_
          obtain ⟨W5, HW5, HT5, W6, HW6, HH6, hs6⟩ := mk_row w4 kq
          have hsa := hsn.trans (since_mono hs6 hsn.size)
          obtain ⟨O2, hO2⟩ : ∃ f : Nat → Nat, f = fun q => if q < (wr.setCell ⟨bk, 36, none⟩ (.int .i64 (m : Nat))).heap.size then O1 q else 999 := ⟨_, rfl⟩
          have k2 : ChR 0 0 O1 O2 (wr.setCell ⟨bk, 36, none⟩ (.int .i64 (m : Nat))) W6 := ⟨hsa.os, hsa.tape, hsa.output, hsa.size, fun q hq => by rw [hO2]; exact if_pos hq, fun q hq _ => hsa.block q hq⟩
          have k2' : ChR 1000 1007 O1 O2 (wr.setCell ⟨bk, 36, none⟩ (.int .i64 (m : Nat))) W6 := ⟨k2.os, k2.tape, k2.output, k2.size, k2.col, fun q hq _ => hsa.block q hq⟩
          have hm0 : MlS O1 own wr a i c m 0 := by
            rcases HML.out.keepR k (by omega) with q | ⟨b, F, q1, q2, q3, q4, q5, q6, _⟩
            · exact .inl q
            · exact .inr ⟨b, F, q1, q2, q3, q4, q5, q6, fun j hj => by omega⟩
          refine ⟨he, _, W5, W6, rfl, HW5, HT5, HW6, O2, _, g1.keepR k2 (.inr (by omega)), hb1, ⟨rfl, by show d1.nm + 5 * (d1.nm - d1.am) + 10 ≤ 10 * m; have := h2.cm; omega⟩, (hm0.keepR g2 (by omega)).keepR k2 (.inr (by omega)), fun j v hv => ?_, ?_, ((k.wide (by omega) (by omega)).trans (g2.wide (by omega) (by omega))).trans k2'⟩
          · rw [Nat.zero_add]
            simp only [World.cell?, HH6.out]
            rw [← Array.getElem?_toList]
            exact hv
          · rw [hO2]
            have := hsn.size
            show (if w4.heap.size < _ then _ else 999) = 999
            rw [if_neg (by omega)]
      obtain ⟨k3, q3, w3z, k8, q8, w8z⟩ : ∃ k3 : Nat, (300 : Int) * (i : Int) = (k3 : Int) ∧ IntKind.i64.wrap (k3 : Int) = (k3 : Int) ∧ ∃ k8 : Nat, (8000 : Int) + (k3 : Int) = (k8 : Int) ∧ (IntKind.i64.wrap (k8 : Int) = (k8 : Int) ∧ k8 ≤ 10000000) := ⟨300 * i, by omega, by have := HKB.out; rw [IntKind.wrap_i64]; omega, 8000 + 300 * i, by omega, by have := HKB.out; rw [IntKind.wrap_i64]; omega, by have := HKB.out; omega⟩
      obtain ⟨w8z, hk8⟩ := w8z
      have HK8 := hide hk8
      have HKQ := hide hkq
      have HEM := hide em
      clear HS HML HVL hi hlt ek hkq em hk8
      go_upto_region 5 with fail
      rw [HW1.out]
      clear HW1 c36 f36
      go_upto_region 6 with fail
      clear c36'
      go_upto_region 7 with (first
        | (go_at_call 52; refine HMM.out.mono ?_; rintro e w4 ⟨rfl, xb, W5, W6, HXB, HW5, HT5, HW6, HW⟩)
        | (rw [HW5.out, HXB.out]; clear HW5)
        | (refine wpList_store_mid rfl 108 _ _ rfl xb 0 #[.int .i64 kq, .int .i64 0, .int .i64 0, .int .i64 0, .int .u64 0, .int .u64 0, .int .u64 0, .int .u64 0, .int .i64 0, .int .u64 0, .slice none 0 0, .int .i64 0, .int .u64 0, .string ⟨#[]⟩, .string ⟨#[]⟩, .int .u64 0, .int .u64 0, .int .u64 0, .int .i64 0, .int .i64 0, .int .i64 0, .int .i64 0] rfl rfl HT5.out infoMk (by kernel_rfl) ?_; rw [HW6.out]; clear HW6))
      clear HMM HT5 HXB hs hwm
      go_wp2_with fail
      go_loopg [7] i (fun q s7 wx => ∃ j : Nat, j ≤ i ∧ q = i - j ∧ s7 = .int .i64 (j : Nat) ∧ Hid (MlW O own w bk xb kq a i c m j wx))
      case atStart => exact ⟨0, Nat.zero_le _, rfl, by simp, HW.out⟩
      case round =>
        clear HW
        obtain ⟨j, hj, rfl, rfl, HW⟩ := hrel
        by_cases hjl : j < i
        · have y1 : (j : Int) < (i : Int) := by omega
          have y0 : (0 : Int) ≤ (j : Int) := by omega
          have hwj : IntKind.i64.wrap ((j : Int) + 1) = (j : Int) + 1 := by have := HKB.out; rw [IntKind.wrap_i64]; omega
          have hmj : i - (j + 1) < i - j := by omega
          have HJ := hide hjl
          obtain ⟨b, W2, ha, hjc, HRG, HTH, HW2, HWN⟩ := HW.out.step HKQ.out hjl
          subst ha
          clear HW hj hjl hjc
          go_wp2_with (first
            | (refine wpList_load_mid rfl 108 _ rfl xb 0 rfl _ _ HRG.out Tryz.underlying108 rfl infoMk ?_)
            | (refine wpList_store_mid rfl 108 _ _ rfl b (j * 22) #[.int .i64 kq, .int .i64 0, .int .i64 0, .int .i64 0, .int .u64 0, .int .u64 0, .int .u64 0, .int .u64 0, .int .i64 0, .int .u64 0, .slice none 0 0, .int .i64 0, .int .u64 0, .string ⟨#[]⟩, .string ⟨#[]⟩, .int .u64 0, .int .u64 0, .int .u64 0, .int .i64 0, .int .i64 0, .int .i64 0, .int .i64 0] rfl rfl HTH.out infoMk (by kernel_rfl) ?_; rw [HW2.out]; clear HW2))
          go_roundg (i - (j + 1))
          case measure => go_light; exact hmj
          case rel => go_light; exact ⟨j + 1, HJ.out, rfl, by simp, HWN.out⟩
        · obtain rfl : j = i := by omega
          have y1 : ¬ (j : Int) < (j : Int) := by omega
          have HTI : Hid (Calls Tryz.prog 53 #[.pointer (some ⟨bk, 0, none⟩), .int .i64 (k8 : Nat)] wr fun e w' => (e = .returned (.bool true) ∧ Hid (GD O w bk m w')) ∨ (e = .returned (.bool false) ∧ ∃ n lv ov la lc W3 W4 oa oc W5 W6, w'.cell? ⟨bk, 27, none⟩ = some lv ∧ Hid ((Builtin.append_ #[39, 39] 39 #[lv, .slice (some ⟨w'.heap.size, 0, none⟩) 1 1]).run Tryz.prog (w'.alloc (.cells #[.slice a j c] 94)) = .ok (.slice la (n + 1) lc) W3) ∧ W3.cell? ⟨bk, 27, none⟩ = some lv ∧ W3.frozen? ⟨bk, 27, none⟩ = false ∧ Hid (W3.setCell ⟨bk, 27, none⟩ (.slice la (n + 1) lc) = W4) ∧
              W4.cell? ⟨bk, 28, none⟩ = some ov ∧ Hid ((Builtin.append_ #[30, 30] 30 #[ov, .slice (some ⟨W4.heap.size, 0, none⟩) 1 1]).run Tryz.prog (W4.alloc (.cells #[.int .i64 (m : Nat)] 3)) = .ok (.slice oa (n + 1) oc) W5) ∧ W5.cell? ⟨bk, 28, none⟩ = some ov ∧ W5.frozen? ⟨bk, 28, none⟩ = false ∧ Hid (W5.setCell ⟨bk, 28, none⟩ (.slice oa (n + 1) oc) = W6) ∧ Hid (GD O w bk m W6))) := by
            obtain ⟨O1, d1, h1, h2, ⟨h3, h3c⟩, h4, _, _, k⟩ := HW.out
            refine (tight_any bk d1.us k8 _ wr h1.row.1 rfl h2.us (by have := HK8.out; omega)).mono fun e w' hh => ?_
            rcases hh with ⟨_, he, hw'⟩ | ⟨hle, he, hw'⟩
            · rw [hw']
              exact .inl ⟨he, d1, ⟨O1, own, h1, k⟩, h2, h3⟩
            · refine .inr ⟨he, ?_⟩
              obtain ⟨q1, q2⟩ := h1.num 38 (d1.us + k8) { d1 with us := d1.us + k8 } (fun j hj => by
                unfold bdC
                by_cases e : j = 38
                · subst e; rfl
                · simp only [if_neg e]) ⟨rfl, rfl, rfl, rfl, rfl, rfl⟩ ⟨rfl, rfl, rfl, rfl, rfl, rfl⟩ (Nat.le_refl _)
              rw [← hw'] at q1 q2
              obtain ⟨own', hok, hB⟩ := (h4.keepR q2 (by omega)).fin q1
              have hcm := h2.cm
              have ham := h2.am
              have htm := h2.tu
              have hem := HEM.out
              have hkb := HKB.out
              obtain ⟨la, lc, W3, W4, oa, oc, W5, W6, p1, p2, p3, p4, p5, p6, p7, p8, p9, p10, O', hB2, kk⟩ := hB.pushM hok ⟨by omega, by show m ≤ d1.tu; omega⟩ (by omega) (by show d1.nm ≤ _; omega)
              refine ⟨d1.nm, _, _, la, lc, W3, W4, oa, oc, W5, W6, p2, p1, p3, p4, p5, p6, p7, p8, p9, p10, _, ⟨O', own', hB2, (k.trans (q2.wide (by omega) (by omega))).trans (kk.wide (by omega) (by omega))⟩, ⟨h2.ab, ?_, h2.cb, ?_, hle, h2.tu, h2.lb, fun q g1 g2 => ?_⟩, h3⟩
              · show d1.am ≤ d1.nm + 1
                omega
              · show d1.nm + 1 + 5 * (d1.nm + 1 - d1.am) ≤ 10 * d1.tu
                omega
              · show (if q = d1.nm then j else d1.lM q) ≤ 1000000000
                split
                · omega
                · exact h2.lm q g1 (by have : q < d1.nm + 1 := g2; omega)
          clear HW hj hjl
          go_wp2_with fail
          refine HTI.out.mono ?_
          rintro e w2 (⟨rfl, HQ⟩ | ⟨rfl, n, lv, ov, la, lc, W3, W4, oa, oc, W5, W6, d0, HA1, d0', f0, HW4, d1, HA2, d1', f1, HW6, HQ⟩)
          · clear HTI
            go_wp2_with fail
            refine bodyPost_ret (results_none rfl _ _ _) rfl ?_
            exact ⟨rfl, by rw [← HEM.out]; exact HQ⟩
          · clear HTI
            go_wp2_with (first
              | (at_builtin; refine wpList_append_eq rfl _ _ 39 rfl _ _ _ (by rfl) (by rfl) HA1.out ?_)
              | (rw [HW4.out]; clear HW4)
              | (at_builtin; refine wpList_append_eq rfl _ _ 30 rfl _ _ _ (by rfl) (by rfl) HA2.out ?_)
              | (rw [HW6.out]; clear HW6))
            try rw [HW6.out]
            go_end0
            exact ⟨rfl, by rw [← HEM.out]; exact HQ⟩
end Go.Proofs.YtdhhjdacidhmjaaGreat

/- Package settle: SettleFresh's Book; Tick, with what it tells written over. -/
namespace Go.Proofs.YtdhhjdacidhmjaaGreat
open Go.RowKit
set_option maxRecDepth 100000
set_option maxRecDepth 100000
def bd0 : Bd := ⟨.slice none 0 0, .slice none 0 0, .slice none 0 0, .slice none 0 0, 0, 0, 0, 0, 0, 0, 0, fun _ => .slice none 0 0, fun _ => 0, fun _ => 0, fun _ => .slice none 0 0, fun _ => 0, fun _ => 0⟩
theorem bd0_at (i : Nat) : bdC bd0 i = book0 i := by
  unfold bdC book0
  by_cases h0 : i = 0
  · subst h0; rfl
  · by_cases h1 : i = 1
    · subst h1; rfl
    · by_cases h2 : i = 2
      · subst h2; rfl
      · by_cases h3 : i = 27
        · subst h3; rfl
        · by_cases h4 : i = 28
          · subst h4; rfl
          · by_cases h5 : i = 29
            · subst h5; rfl
            · rw [if_neg h0, if_neg h1, if_neg h2, if_neg h3, if_neg h4, if_neg h5]
              rfl
/-- What SettleFresh's Book is. -/
def BIm (bk N : Nat) (O : Nat → Nat) (W : World) : Prop := ∃ own d, BM O own W bk d ∧ BL d ∧ d.tu ≤ 10 * N
theorem bkSm : BkS BIm where
  start := fun {bk O W} h => ⟨fun _ => 0, bd0, ⟨⟨h.1.congr fun i _ => (bd0_at i).symm, h.2⟩, ⟨Li.nil _ _ _ _ _ _, Li.nil _ _ _ _ _ _, fun i hi => absurd hi (Nat.not_lt_zero _)⟩, ⟨Li.nil _ _ _ _ _ _, Li.nil _ _ _ _ _ _, fun i hi => absurd hi (Nat.not_lt_zero _)⟩, fun i hi => absurd hi (Nat.not_lt_zero _), fun i hi => absurd hi (Nat.not_lt_zero _), fun i hi => absurd hi (Nat.not_lt_zero _), fun i hi => absurd hi (Nat.not_lt_zero _)⟩, ⟨Nat.le_refl _, Nat.le_refl _, Nat.le_refl _, Nat.le_refl _, by decide, by decide, fun i _ hi => absurd hi (Nat.not_lt_zero _), fun i _ hi => absurd hi (Nat.not_lt_zero _)⟩, Nat.le_refl _⟩
  keep := fun {bk N lo hi O O' W W'} ⟨own, d, h1, h2, h3⟩ k hx => ⟨own, d, h1.keepR k (.inr hx), h2, h3⟩
  look := fun {bk N O W} ⟨own, d, h1, h2, h3⟩ _ => (bm_look h1 h2).mono fun e W' ⟨he, hh⟩ => by
    obtain ⟨d2, ⟨O2, own2, g1, g2⟩, g3, g4⟩ := hh.out
    exact ⟨he, O2, ⟨own2, d2, g1, g3, by omega⟩, g2.wide (Nat.le_refl _) (by omega)⟩
theorem PlIs.paint {O O' : Nat → Nat} {Q : Nat} {w : World} {tb bk : Nat} {mk : Bool} {x : Pk} (h : PlIs O Q w tb bk mk x) (e : ∀ k, ((Q ≤ O k ∧ O k < Q + 40) ∨ (Q + 50 ≤ O k ∧ O k < Q + 62)) → O' k = O k) : PlIs O' Q w tb bk mk x :=
  ⟨⟨h.row.1, (e _ (by rw [h.row.2]; omega)).trans h.row.2⟩, ⟨h.both.s.paint fun k h1 h2 => e k (by omega), h.both.rf.paint fun k h1 h2 => e k (by omega), h.both.j, h.both.g, h.both.v, h.both.l⟩, ⟨⟨h.at'.1.1, fun k hk => (e _ (by rw [h.at'.1.2 k hk]; omega)).trans (h.at'.1.2 k hk)⟩, h.at'.2⟩⟩
/-- EqMsgs of the two: what the program's Tick told is still there. -/
theorem TkD.eqM {O : Nat → Nat} {q : Nat} {w : World} {p : Sp} {p2 : Rp2} {r : Rd} {T : Nat} {w2 : World} {a a2 : Option Addr} {K c c2 : Nat} (k : TkD O q w p p2 r T (.slice a K c) K a2 w2) (h8 : r.n ≤ 8) : Calls Tryz.prog 27 #[.slice a K c, .slice a2 K c2] w2 fun e w3 => e = .returned (.bool true) ∧ Hid (∃ O3 d1, Both O3 q w3 p p2 d1 (r.tick r.n) (T + 1) ∧ Li O3 (q + 40) w3 108 22 (.slice a K c) K (msF (msR r r.n)) ∧ K = (msR r r.n).length ∧ ChR q (q + 54) O O3 w w3) := by
  obtain ⟨O2, d1, hK, h1, h2, h3, h4⟩ := k
  have hl := msR_len r r.n
  refine (eqMsgs_same (ms_at h2 hK.symm (msR_s10 _ _)) h3 c c2 K hK.symm (by omega) fun m hm => by rw [msR_s10 _ _ m hm]; exact Nat.zero_le _).mono fun e w3 ⟨he, hs⟩ => ?_
  have kk : ChR (q + 54) (q + 54) O2 O2 w2 w3 := ChR.since hs
  exact ⟨he, O2, d1, h1.keepR kk (by omega), h2.keepR kk (by omega), hK, h4.trans (kk.wide (by omega) (Nat.le_refl _))⟩
set_option maxHeartbeats 2000000 in
/-- What Tick has told, handed over to the Book. -/
theorem tick_over {O : Nat → Nat} {Q : Nat} {w W1 : World} {tb bk N : Nat} {x : Pk} (h : PlIs O Q w tb bk true x) (hb : BIm bk N O w) (hQ : Q + 62 ≤ 1000) (hN : N < 700) (s1 : w.Since w.heap.size W1) {w3 : World} {a : Option Addr} {K c : Nat}
    (hh : ∃ O3 d1, Both O3 Q w3 x.p x.p2 d1 (x.r.tick x.r.n) (x.T + 1) ∧ Li O3 (Q + 40) w3 108 22 (.slice a K c) K (msF (msR x.r x.r.n)) ∧ K = (msR x.r x.r.n).length ∧ ChR Q (Q + 54) (fun k => if O k = Q + 40 then 5000 else O k) O3 W1 w3) :
    w3.cell? ⟨tb, 3, none⟩ = some (.bool true) ∧ w3.cell? ⟨tb, 2, none⟩ = some (.pointer (some ⟨bk, 0, none⟩)) ∧ Calls Tryz.prog 29 #[.pointer (some ⟨bk, 0, none⟩), .slice a K c] w3 fun e w4 => e = .returned (.tuple #[]) ∧ Hid (PlF BIm O Q w tb bk true x N w4) := by
  obtain ⟨O3, d1, h1, h2, hK, h4⟩ := hh
  obtain ⟨own, d, b1, b2, b3⟩ := hb
  have hz1 := s1.size
  have hz3 := h4.size
  -- what is of the old world, as it stands now
  have hP : PlIs (fun k => if O k = Q + 40 then 5000 else O k) Q W1 tb bk true x := (h.since s1).paint fun k hk => by
    show (if O k = Q + 40 then 5000 else O k) = O k
    rw [if_neg (by omega)]
  have hP3 := hP.step h1 rfl h4
  obtain ⟨O1, hO1⟩ : ∃ f : Nat → Nat, f = fun k => if k < w.heap.size then O k else if O3 k = Q + 40 then 1006 else O3 k := ⟨_, rfl⟩
  have hcol : ∀ k, k < w.heap.size → O3 k = if O k = Q + 40 then 5000 else O k := fun k hk => h4.col k (by omega)
  have hP1 : PlIs O1 Q w3 tb bk true { x with p2 := x.p2, d := d1, r := x.r.tick x.r.n, T := x.T + 1 } := hP3.paint fun k hk => by
    rw [hO1]
    show (if k < w.heap.size then O k else if O3 k = Q + 40 then 1006 else O3 k) = O3 k
    by_cases hlt : k < w.heap.size
    · rw [if_pos hlt, hcol k hlt]
      have := hcol k hlt
      by_cases e : O k = Q + 40
      · rw [if_pos e] at this
        omega
      · rw [if_neg e]
    · rw [if_neg hlt, if_neg (by omega)]
  have kB : ChR Q (Q + 62) O O1 w w3 := ⟨h4.os.trans s1.os, h4.tape.trans s1.tape, h4.output.trans s1.output, Nat.le_trans hz1 hz3, fun k hk => by rw [hO1]; exact if_pos hk, fun k hk hn => by
    refine (h4.block k (by omega) ?_).trans (s1.block k hk)
    show (if O k = Q + 40 then 5000 else O k) < Q ∨ Q + 54 ≤ (if O k = Q + 40 then 5000 else O k)
    rw [if_neg (by omega)]
    omega⟩
  have hcells := hP1.cells
  have hr8 := h1.rf.lim.2.1
  have hml := msR_len x.r x.r.n
  have hK8 : K ≤ 8 := by
    have : (x.r.tick x.r.n).n = x.r.n := rfl
    omega
  -- the list
  obtain ⟨own1, hBM, hML⟩ : ∃ own1, BM O1 own1 w3 bk d ∧ MlS O1 own1 w3 a K c 0 0 := by
    rcases h2.1.2 with ⟨hv, hn⟩ | ⟨b, cp, cur, hv, _, h5, h6, h7, h8, _⟩
    · injection hv with e1 _ e3
      exact ⟨own, b1.keepR kB (.inr hQ), .inl ⟨e1, hn, e3⟩⟩
    · injection hv with e1 _ e3
      subst e1 e3
      have hb40 : O3 b = Q + 40 := h2.2 b rfl
      have hbn : w.heap.size ≤ b := by
        by_cases hlt : b < w.heap.size
        · have := hcol b hlt
          by_cases e : O b = Q + 40
          · rw [if_pos e] at this
            omega
          · rw [if_neg e] at this
            omega
        · omega
      refine ⟨_, (b1.lay (u := 0) hbn).keepR kB (.inr hQ), .inr ⟨b, fun j => cur.getD j undef, rfl, ?_, if_pos rfl, h6, h7, ⟨cur, h5, h8, fun j hj => ?_⟩, fun j hj => by omega⟩⟩
      · rw [hO1]
        show (if b < w.heap.size then O b else if O3 b = Q + 40 then 1006 else O3 b) = 1006
        rw [if_neg (by omega), if_pos hb40]
      · show cur[j]? = some (cur.getD j undef)
        rw [Array.getD_eq_getD_getElem?, Array.getElem?_eq_getElem (by omega)]
        rfl
  have hMV : MlV w3 a K := fun i hi => by
    obtain ⟨b, e, hc⟩ := li_cell h2 (by omega)
    have c10 := hc (i * 22 + 10) (by omega)
    refine ⟨b, e, ?_, World.block_lt_of_cell? _ _ c10⟩
    rw [c10]
    unfold msF
    have e1 : (i * 22 + 10) / 22 = i := by omega
    have e2 : (i * 22 + 10) % 22 = 10 := by omega
    rw [e1, e2]
    have hmem : (msR x.r x.r.n).getD i mg0 ∈ msR x.r x.r.n := by
      rw [List.getD_eq_getElem?_getD, List.getElem?_eq_getElem (by omega)]
      exact List.getElem_mem _
    show some (Value.slice none (((msR x.r x.r.n).getD i mg0).s 10).length 0) = _
    rw [msR_s10 _ _ _ hmem]
    rfl
  refine ⟨hcells.2.2.2.1, hcells.2.2.1, (bm_msgs hBM b2 hML hMV (by omega) (by omega)).mono fun e w4 ⟨he, hg⟩ => ⟨he, ?_⟩⟩
  obtain ⟨d2, ⟨O2, own2, g1, g2⟩, g3, g4⟩ := hg.out
  exact ⟨O1, w3, O2, _, hP1, kB, ⟨own2, d2, g1, g3, by omega⟩, g2.wide (Nat.le_refl _) (by omega), Nat.le_refl _, Nat.le_succ _⟩
set_option maxHeartbeats 2000000 in
theorem plays_tickM {O : Nat → Nat} {Q : Nat} {w : World} {tb bk N : Nat} {x : Pk} (h : PlIs O Q w tb bk true x) (hb : BIm bk N O w) (hQ : Q + 62 ≤ 1000) (hN : N < 700) (hT : x.T < 5000) (wh peer : Int) (qv : Value) (num : Nat) :
    Calls Tryz.prog 10 #[.pointer (some ⟨tb, 0, none⟩), .agg #[.int .i64 3, .int .i64 wh, qv, .int .i64 peer, .int .u64 (num : Nat)]] w fun e w' => e = .returned (.bool true) ∧ Hid (PlF BIm O Q w tb bk true x N w') := by
  obtain ⟨W1, HW1⟩ : ∃ W, Hid (w.alloc (.cells #[.int .i64 3, .int .i64 wh, qv, .int .i64 peer, .int .u64 (num : Nat)] 62) = W) := ⟨_, rfl⟩
  obtain ⟨ob, HOB⟩ : ∃ y, Hid (w.heap.size = y) := ⟨_, rfl⟩
  have s1 : w.Since w.heap.size W1 := by rw [← HW1.out]; exact (World.Since.refl _ _).alloc (Nat.le_refl _) _
  have o0 : W1.cell? ⟨ob, 0, none⟩ = some (.int .i64 3) := by rw [← HW1.out, ← HOB.out]; exact (World.cell?_alloc_at (w := w) _ _ _ 0 rfl).trans rfl
  have hP : PlIs (fun k => if O k = Q + 40 then 5000 else O k) Q W1 tb bk true x := (h.since s1).paint fun k hk => by
    show (if O k = Q + 40 then 5000 else O k) = O k
    rw [if_neg (by omega)]
  obtain ⟨c0, c1, -, -, -, -⟩ := hP.cells
  have HTK : Hid (Calls Tryz.prog 26 #[.pointer (some ⟨x.p.sb, 0, none⟩)] W1 fun e w2 => ∃ a K c, e = .returned (.slice a K c) ∧ w2.cell? ⟨tb, 1, none⟩ = some (.pointer (some ⟨x.p2.rb, 0, none⟩)) ∧ Hid (Calls Tryz.prog 28 #[.pointer (some ⟨x.p2.rb, 0, none⟩)] w2 fun e w3 => ∃ a2 c2, e = .returned (.slice a2 K c2) ∧
      Hid (Calls Tryz.prog 27 #[.slice a K c, .slice a2 K c2] w3 fun e w4 => e = .returned (.bool true) ∧ w4.cell? ⟨tb, 3, none⟩ = some (.bool true) ∧ w4.cell? ⟨tb, 2, none⟩ = some (.pointer (some ⟨bk, 0, none⟩)) ∧ Hid (Calls Tryz.prog 29 #[.pointer (some ⟨bk, 0, none⟩), .slice a K c] w4 fun e w5 => e = .returned (.tuple #[]) ∧ Hid (PlF BIm O Q w tb bk true x N w5))))) :=
    hP.both.tickP.mono fun e w2 ⟨a, K, c, he, hh⟩ => by
      have g := hh.out
      refine ⟨a, K, c, he, ?_, (hP.both.tickD hT g).mono fun e w3 ⟨a2, c2, he, hh⟩ => ⟨a2, c2, he, ?_⟩⟩
      · obtain ⟨_, _, _, _, _, _, _, g3⟩ := g
        exact (hP.row.keepR g3 (by omega)).1.cell (i := 1) (by decide)
      · have h8 := hP.both.rf.lim.2.1
        refine (TkD.eqM hh.out h8).mono fun e w4 ⟨he, hh⟩ => ?_
        obtain ⟨q1, q2, q3⟩ := tick_over h hb hQ hN s1 hh.out
        exact ⟨he, q1, q2, q3⟩
  obtain ⟨pb, hpb⟩ : ∃ y, x.p.sb = y := ⟨_, rfl⟩
  obtain ⟨rb, hrb⟩ : ∃ y, x.p2.rb = y := ⟨_, rfl⟩
  rw [hpb, hrb] at *
  clear h hb hP s1 hpb hrb hQ hN
  go_enter Tryz.func10, Tryz.ntmps10
  go_upto_region 1 with fail
  rw [HW1.out, HOB.out]
  clear HW1 HOB
  go_wp2_with (first
    | (go_at_call 26; refine HTK.out.mono ?_; rintro e w2 ⟨a, K, c, rfl, c1', HD⟩)
    | (go_at_call 28; refine HD.out.mono ?_; rintro e w3 ⟨a2, c2, rfl, HQ⟩)
    | (go_at_call 27; refine HQ.out.mono ?_; rintro e w4 ⟨rfl, c3', c2', HM⟩)
    | (go_at_call 29; refine HM.out.mono ?_; rintro e w5 ⟨rfl, HE⟩))
  go_ret
  exact ⟨rfl, HE⟩
theorem playSm : PlayS BIm true := fun {O Q w tb bk x N} o h hb hQ hN hT htu hq hl hqO => by
  by_cases n3 : o.kd = 3
  · obtain ⟨kd, wh, qa, qc, l, peer, num⟩ := o
    obtain rfl : kd = 3 := n3
    exact plays_tickM h hb hQ hN hT wh peer _ num
  · refine (plays_but o h htu hq hl hqO n3).mono fun e w' ⟨he, hh⟩ => ⟨he, ?_⟩
    obtain ⟨O', y, h1, h2, h3, h4⟩ := hh.out
    obtain ⟨own, d, b1, b2, b3⟩ := hb
    exact ⟨O', w', O', y, h1, h2, ⟨own, d, b1.keepR h2 (.inr hQ), b2, by omega⟩, ChR.refl, h3, h4⟩
end Go.Proofs.YtdhhjdacidhmjaaGreat

/- Package settle: the laws' exact, walked (se30_gen.py). -/
namespace Go.Proofs.YtdhhjdacidhmjaaGreat
open Go.RowKit
set_option maxRecDepth 100000
set_option maxRecDepth 100000
def pk0 : Pk := ⟨⟨0, 0, 0, fun _ => 0, fun _ => 0, fun _ => 0, fun _ => 0, fun _ => none⟩, ⟨0, 0, 0, .slice none 0 0⟩, newS 0 0 0 0 0 0, newR 0 0 0 0 0 0, 0, 0, none, 0, 0⟩
/-- How the law begins. -/
theorem ex_start {BI : Nat → Nat → (Nat → Nat) → World → Prop} (bs : BkS BI) (w : World) (s : Nat → Int) (ov : Value) (mk : Bool) : ∃ W1 W2 W3 sb bk ab, Hid (w.heap.size = sb) ∧ Hid (w.alloc (.cells #[.int .i64 (s 0), .int .i64 (s 1), .int .i64 (s 2), .int .i64 (s 3), .int .i64 (s 4), .int .i64 (s 5), .int .i64 (s 6), .int .i64 (s 7), .int .i64 (s 8), .int .i64 (s 9), .int .i64 (s 10), .int .i64 (s 11), ov] 25) = W1) ∧ Hid (W1.heap.size = bk) ∧ Hid (W1.alloc (.cells bookZ 43) = W2) ∧ Hid (W2.heap.size = ab) ∧ Hid (W2.alloc (.cells #[.pointer none, .pointer none, .pointer none, .pointer none, .pointer none, .pointer none, .pointer none, .pointer none] 45) = W3) ∧
    Hid (∃ O pl X, EX BI w O W3 sb bk ab s ov mk 0 0 0 pl X) := by
  have h0 : ∀ c, c < 0 ∨ 0 ≤ c := fun c => .inr (Nat.zero_le _)
  have s1 : w.Since w.heap.size (w.alloc (.cells #[.int .i64 (s 0), .int .i64 (s 1), .int .i64 (s 2), .int .i64 (s 3), .int .i64 (s 4), .int .i64 (s 5), .int .i64 (s 6), .int .i64 (s 7), .int .i64 (s 8), .int .i64 (s 9), .int .i64 (s 10), .int .i64 (s 11), ov] 25)) := (World.Since.refl _ _).alloc (Nat.le_refl _) _
  have c1 : ∀ j v, (#[.int .i64 (s 0), .int .i64 (s 1), .int .i64 (s 2), .int .i64 (s 3), .int .i64 (s 4), .int .i64 (s 5), .int .i64 (s 6), .int .i64 (s 7), .int .i64 (s 8), .int .i64 (s 9), .int .i64 (s 10), .int .i64 (s 11), ov] : Array Value)[j]? = some v → (w.alloc (.cells #[.int .i64 (s 0), .int .i64 (s 1), .int .i64 (s 2), .int .i64 (s 3), .int .i64 (s 4), .int .i64 (s 5), .int .i64 (s 6), .int .i64 (s 7), .int .i64 (s 8), .int .i64 (s 9), .int .i64 (s 10), .int .i64 (s 11), ov] 25)).cell? ⟨w.heap.size, j, none⟩ = some v := fun j v hv => (World.cell?_alloc_at (w := w) _ _ _ j rfl).trans hv
  have z1 : (w.alloc (.cells #[.int .i64 (s 0), .int .i64 (s 1), .int .i64 (s 2), .int .i64 (s 3), .int .i64 (s 4), .int .i64 (s 5), .int .i64 (s 6), .int .i64 (s 7), .int .i64 (s 8), .int .i64 (s 9), .int .i64 (s 10), .int .i64 (s 11), ov] 25)).heap.size = w.heap.size + 1 := by simp
  generalize hW1 : w.alloc (.cells #[.int .i64 (s 0), .int .i64 (s 1), .int .i64 (s 2), .int .i64 (s 3), .int .i64 (s 4), .int .i64 (s 5), .int .i64 (s 6), .int .i64 (s 7), .int .i64 (s 8), .int .i64 (s 9), .int .i64 (s 10), .int .i64 (s 11), ov] 25) = W1 at *
  have s2 : W1.Since W1.heap.size (W1.alloc (.cells bookZ 43)) := (World.Since.refl _ _).alloc (Nat.le_refl _) _
  have r2 : (W1.alloc (.cells bookZ 43)).rowIs W1.heap.size 43 39 book0 := World.rowIs_alloc W1 bookZ _ _ bookZ_at
  have z2 : (W1.alloc (.cells bookZ 43)).heap.size = W1.heap.size + 1 := by simp
  generalize hW2 : W1.alloc (.cells bookZ 43) = W2 at *
  have s3 : W2.Since W2.heap.size (W2.alloc (.cells #[.pointer none, .pointer none, .pointer none, .pointer none, .pointer none, .pointer none, .pointer none, .pointer none] 45)) := (World.Since.refl _ _).alloc (Nat.le_refl _) _
  have r3 : (W2.alloc (.cells #[.pointer none, .pointer none, .pointer none, .pointer none, .pointer none, .pointer none, .pointer none, .pointer none] 45)).rowIs W2.heap.size 45 8 (arF (fun _ => 0) 0) := World.rowIs_alloc W2 _ _ _ (fun j hj => by
    have hj' : j < 8 := hj
    match j, hj' with
    | 0, _ => rfl
    | 1, _ => rfl
    | 2, _ => rfl
    | 3, _ => rfl
    | 4, _ => rfl
    | 5, _ => rfl
    | 6, _ => rfl
    | 7, _ => rfl)
  have z3 : (W2.alloc (.cells #[.pointer none, .pointer none, .pointer none, .pointer none, .pointer none, .pointer none, .pointer none, .pointer none] 45)).heap.size = W2.heap.size + 1 := by simp
  refine ⟨W1, W2, _, _, _, _, rfl, rfl, rfl, hW2, rfl, rfl, fun k => if k < w.heap.size then 0 else if k = w.heap.size then 900 else if k = W1.heap.size then 1003 else 902, fun _ => 0, fun _ => pk0, ?_⟩
  generalize hW3 : W2.alloc (.cells #[.pointer none, .pointer none, .pointer none, .pointer none, .pointer none, .pointer none, .pointer none, .pointer none] 45) = W3 at *
  have s13 : W1.Since W1.heap.size W3 := s2.trans (since_mono s3 s2.size)
  refine ⟨fun j hj => cell_later s13 (c1 j _ ?_), cell_later s13 (c1 12 _ rfl), ?_, bs.start ⟨r2.of_block (s3.block _ r2.lt), ?_⟩, ⟨r3, ?_⟩, fun j hj => absurd hj (Nat.not_lt_zero _), Nat.zero_le _, fun k hk => if_pos hk, fun k hk => ?_, s1.trans (since_mono s13 s1.size)⟩
  · match j, hj with
    | 0, _ => rfl
    | 1, _ => rfl
    | 2, _ => rfl
    | 3, _ => rfl
    | 4, _ => rfl
    | 5, _ => rfl
    | 6, _ => rfl
    | 7, _ => rfl
    | 8, _ => rfl
    | 9, _ => rfl
    | 10, _ => rfl
    | 11, _ => rfl
  · show (if w.heap.size < w.heap.size then 0 else if w.heap.size = w.heap.size then 900 else _) = 900
    rw [if_neg (Nat.lt_irrefl _), if_pos rfl]
  · show (if W1.heap.size < w.heap.size then 0 else if W1.heap.size = w.heap.size then 900 else if W1.heap.size = W1.heap.size then 1003 else 902) = 1003
    rw [if_neg (by omega), if_neg (by omega), if_pos rfl]
  · show (if W2.heap.size < w.heap.size then 0 else if W2.heap.size = w.heap.size then 900 else if W2.heap.size = W1.heap.size then 1003 else 902) = 902
    rw [if_neg (by omega), if_neg (by omega), if_neg (by omega)]
  · show (if k < w.heap.size then 0 else if k = w.heap.size then 900 else if k = W1.heap.size then 1003 else 902) < 100 * (0 + 1) ∨ 900 ≤ (if k < w.heap.size then 0 else if k = w.heap.size then 900 else if k = W1.heap.size then 1003 else 902)
    split
    · omega
    · split
      · omega
      · split <;> omega
end Go.Proofs.YtdhhjdacidhmjaaGreat

/- Package settle: the laws' exact: the configuration is laid; the pieces of a step. -/
namespace Go.Proofs.YtdhhjdacidhmjaaGreat
open Go.RowKit
set_option maxRecDepth 100000
set_option maxRecDepth 100000
section
variable {BI : Nat → Nat → (Nat → Nat) → World → Prop} {w : World} {O O' : Nat → Nat} {W W' : World} {sb bk ab : Nat} {s : Nat → Int} {ov : Value} {mk : Bool} {i T N lo hi : Nat} {pl : Nat → Nat} {X : Nat → Pk}
def cf0 : Array Value := #[.int .i64 0, .int .i64 0, .int .i64 0, .int .i64 0, .int .i64 0, .int .i64 0, .int .i64 0, .int .i64 0, .slice none 0 0]
theorem ex_cfgA {w2 : World} {nodes n c m : Nat} (h : ∃ O pl X, EX BI w O W sb bk ab s ov mk i 0 0 pl X) (bs : BkS BI) (sn : W.Since W.heap.size w2) (hb : 1 ≤ nodes ∧ nodes ≤ 9 ∧ 1 ≤ n ∧ n ≤ 8 ∧ 1 ≤ c ∧ c ≤ 7 ∧ 1 ≤ m ∧ m ≤ 64) (hg : ∀ j : Nat, j < n → goodM j nodes c) :
    ∃ cb W4, Hid (w2.heap.size = cb) ∧ Hid (w2.alloc (.cells cf0 48) = W4) ∧ Hid (∀ j, j < 12 → W4.cell? ⟨sb, j, none⟩ = some (.int .i64 (s j))) ∧ Hid (W4.there cb 0 (cfgA nodes n c m).size) ∧ ∃ W5, Hid (W4.setCells cb 0 (cfgA nodes n c m).toList = W5) ∧ Hid (∀ j, j < 12 → W5.cell? ⟨sb, j, none⟩ = some (.int .i64 (s j))) ∧ Hid (EC BI w W5 sb bk ab s ov mk i cb nodes n c m) := by
  obtain ⟨O, pl, X, h⟩ := h
  obtain ⟨W3, HW3, s3, f, r3⟩ := cfg_alloc w2
  have r4 := cfg_row r3 nodes n c m
  have s4 : w2.Since w2.heap.size (W3.setCells w2.heap.size 0 (cfgA nodes n c m).toList) := since_setCells (Nat.le_refl _) _ _ _ s3
  have hec : EC BI w (W3.setCells w2.heap.size 0 (cfgA nodes n c m).toList) sb bk ab s ov mk i w2.heap.size nodes n c m := h.ec bs (sn.trans (since_mono s4 sn.size)) sn.size r4 hb hg
  exact ⟨_, W3, rfl, HW3, fun j hj => cell_later s3 (cell_later sn (h.sc j hj)), row_there r3, _, rfl, hec.cells.1, hec⟩
theorem ex_cfgB (h : ∃ O pl X, EX BI w O W sb bk ab s ov mk i 0 0 pl X) (bs : BkS BI) :
    ∃ cb W4, Hid (W.heap.size = cb) ∧ Hid (W.alloc (.cells cf0 48) = W4) ∧ Hid (∀ j, j < 12 → W4.cell? ⟨sb, j, none⟩ = some (.int .i64 (s j))) ∧ Hid (∀ (w2 : World) (nodes n c m : Nat), W4.Since W4.heap.size w2 → (1 ≤ nodes ∧ nodes ≤ 9 ∧ 1 ≤ n ∧ n ≤ 8 ∧ 1 ≤ c ∧ c ≤ 7 ∧ 1 ≤ m ∧ m ≤ 64) → (∀ j : Nat, j < n → goodM j nodes c) →
      Hid (∀ j, j < 12 → w2.cell? ⟨sb, j, none⟩ = some (.int .i64 (s j))) ∧ Hid (w2.there cb 0 (cfgA nodes n c m).size) ∧ ∃ W5, Hid (w2.setCells cb 0 (cfgA nodes n c m).toList = W5) ∧ Hid (∀ j, j < 12 → W5.cell? ⟨sb, j, none⟩ = some (.int .i64 (s j))) ∧ Hid (EC BI w W5 sb bk ab s ov mk i cb nodes n c m)) := by
  obtain ⟨O, pl, X, h⟩ := h
  obtain ⟨W3, HW3, s3, f, r3⟩ := cfg_alloc W
  refine ⟨_, W3, rfl, HW3, fun j hj => cell_later s3 (h.sc j hj), fun w2 nodes n c m sn hb hg => ?_⟩
  have r3' : w2.rowIs W.heap.size 48 9 f := r3.of_block (sn.block _ r3.lt)
  have r4 := cfg_row r3' nodes n c m
  have s23 : W.Since W.heap.size w2 := s3.trans (since_mono sn s3.size)
  have s4 : W.Since W.heap.size (w2.setCells W.heap.size 0 (cfgA nodes n c m).toList) := since_setCells (Nat.le_refl _) _ _ _ s23
  have hec : EC BI w (w2.setCells W.heap.size 0 (cfgA nodes n c m).toList) sb bk ab s ov mk i W.heap.size nodes n c m := h.ec bs s4 (Nat.le_refl _) r4 hb hg
  exact ⟨fun j hj => cell_later s23 (h.sc j hj), row_there r3', _, rfl, hec.cells.1, hec⟩
theorem ED.drewN {cb acb nodes n c m : Nat} (h : ED BI w W sb bk ab s ov mk i cb acb nodes n c m) (bs : BkS BI) (q : Nat) : ED BI w (W.drewN q) sb bk ab s ov mk i cb acb nodes n c m := by
  obtain ⟨O, pl, X, h1, h2, h3, h4⟩ := h
  exact ⟨O, pl, X, h1.drewN bs q, h2.keepR (lo := 0) (hi := 0) (ChR.since (since_drew _ _)) (.inr (Nat.zero_le _)), h3.keepR (lo := 0) (hi := 0) (ChR.since (since_drew _ _)) (.inr (Nat.zero_le _)), h4⟩
/-- What a step reads. -/
def StS (sb ab : Nat) (oa : Option Addr) (on oc b o i j pj : Nat) (OL : List Value) (W : World) : Prop := W.cell? ⟨sb, 12, none⟩ = some (.slice oa on oc) ∧ W.rangeAt b (o + i * 5) OL ∧ W.cell? ⟨ab, j, none⟩ = some (.pointer (some ⟨pj, 0, none⟩))
theorem ex_step {oa : Option Addr} {on oc : Nat} {OO : Nat → Sop} (h : EX BI w O W sb bk ab s (.slice oa on oc) mk 8 i i pl X) (bs : BkS BI) (hp : PlayS BI mk) (hO : SopsIn w oa on OO) (hi : i < on) (hi6 : i < 600) :
    ∃ b o j : Nat, oa = some ⟨b, o, none⟩ ∧ j < 8 ∧ (∀ W, Calls Tryz.prog 7 #[.int .i64 (OO i).wh, .int .i64 8] W fun e w' => e = .returned (.int .i64 (j : Nat)) ∧ W = w') ∧ StS sb ab oa on oc b o i j (pl j) (sopL (OO i)) W ∧
      Calls Tryz.prog 10 #[.pointer (some ⟨pl j, 0, none⟩), .agg (sopL (OO i)).toArray] W fun e w2 => e = .returned (.bool true) ∧ StS sb ab oa on oc b o i j (pl j) (sopL (OO i)) w2 ∧
        Hid (Calls Tryz.prog 11 #[.pointer (some ⟨bk, 0, none⟩)] w2 fun e w3 => e = .returned (.bool true) ∧ StS sb ab oa on oc b o i j (pl j) (sopL (OO i)) w3 ∧ Hid (∃ O' pl' X', EX BI w O' w3 sb bk ab s (.slice oa on oc) mk 8 (i + 1) (i + 1) pl' X')) := by
  obtain ⟨b, o, ha, hr, hbl⟩ := hO.at' i hi
  obtain ⟨j, hj, hjq⟩ : ∃ j : Nat, j < 8 ∧ (j : Int) = (OO i).wh % 8 := ⟨((OO i).wh % 8).toNat, by omega, by omega⟩
  have st : ∀ {W2 : World} {O2 : Nat → Nat} {T2 N2 : Nat} {X2 : Nat → Pk}, EX BI w O2 W2 sb bk ab s (.slice oa on oc) mk 8 T2 N2 pl X2 → StS sb ab oa on oc b o i j (pl j) (sopL (OO i)) W2 := fun h2 => ⟨h2.so, rangeAt_on hr (h2.since.block _ hbl), h2.at' hj⟩
  obtain ⟨hq, hql⟩ := hO.q i hi
  refine ⟨b, o, j, ha, hj, fun W2 => ?_, st h, (h.step hp (by omega) (by omega) (OO i) (hq.since h.since) hql (fun b p e1 e2 => hq.lt e1 e2) hj).mono fun e w2 ⟨he, hh⟩ => ⟨he, ?_⟩⟩
  · refine (intoS_any (OO i).wh 8 (by decide) (by decide) W2).mono fun e w' ⟨h1, k, hk, hkq, he⟩ => ⟨?_, h1⟩
    have : k = j := by
      have e8 : ((8 : Nat) : Int) = 8 := rfl
      rw [e8] at hkq
      omega
    rw [he, this]
  · obtain ⟨O2, X2, h2⟩ := hh.out
    refine ⟨st h2, (h2.look bs (by omega)).mono fun e w3 ⟨he, hh⟩ => ?_⟩
    obtain ⟨O3, h3⟩ := hh.out
    exact ⟨he, st h3, O3, pl, X2, h3⟩
theorem ex_end {T N : Nat} (h : ∃ O pl X, EX BI w O W sb bk ab s ov mk 8 T N pl X) (bs : BkS BI) (hN : N ≤ 700) :
    Calls Tryz.prog 12 #[] W fun e w2 => e = .returned (.bool true) ∧ Hid (Calls Tryz.prog 11 #[.pointer (some ⟨bk, 0, none⟩)] w2 fun e w3 => e = .returned (.bool true) ∧ w.Since w.heap.size w3) := by
  obtain ⟨O, pl, X, h⟩ := h
  refine (wakesS_any W).mono fun e w2 ⟨he, sn⟩ => ⟨he, ((h.later bs sn).look bs hN).mono fun e w3 ⟨he, hh⟩ => ?_⟩
  obtain ⟨O3, h3⟩ := hh.out
  exact ⟨he, h3.since⟩
end
end Go.Proofs.YtdhhjdacidhmjaaGreat

/- Package settle: the laws' exact, walked (se31_gen.py). -/
namespace Go.Proofs.YtdhhjdacidhmjaaGreat
open Go.RowKit
set_option maxRecDepth 100000
set_option maxRecDepth 100000
theorem infoPp : (Tryz.prog.info? 44).map (·.size) = some 1 := by kernel_rfl
theorem infoOp5 : (Tryz.prog.info? 62).map (·.size) = some 5 := by kernel_rfl
set_option maxHeartbeats 16000000 in
theorem exact_any {BI : Nat → Nat → (Nat → Nat) → World → Prop} (bs : BkS BI) {mk : Bool} (hp : PlayS BI mk) {w : World} (s : Nat → Int) {oa : Option Addr} {on oc : Nat} {OO : Nat → Sop} (hO : SopsIn w oa on OO) (hon : on ≤ 1000000000000000) :
    Calls Tryz.prog 5 #[.agg #[.int .i64 (s 0), .int .i64 (s 1), .int .i64 (s 2), .int .i64 (s 3), .int .i64 (s 4), .int .i64 (s 5), .int .i64 (s 6), .int .i64 (s 7), .int .i64 (s 8), .int .i64 (s 9), .int .i64 (s 10), .int .i64 (s 11), .slice oa on oc], .bool mk] w fun e w' => e = .returned (.bool true) ∧ w.Since w.heap.size w' := by
  obtain ⟨W1, W2, W3, sb, bk, ab, HSB, HW1, HBK, HW2, HAB, HW3, HX0⟩ := ex_start bs w s (.slice oa on oc) mk
  have HBS := hide bs
  have HPS : Hid (PlayS BI mk) := @hp
  have HOO := hide hO
  have HON := hide hon
  clear bs hp hO hon
  go_enter Tryz.func5, Tryz.ntmps5
  go_upto_region 1 with fail
  rw [HW1.out, HSB.out]
  clear HW1
  refine wp_region_lit ?_
  refine wpList_plain rfl fun _ hK => op_run (.agg bookZ) (by unfold bookZ; kernel_rfl) (hK _ _ ?_)
  go_upto_region 2 with fail
  rw [HW2.out, HBK.out]
  clear HW2
  go_upto_region 3 with fail
  rw [HW3.out, HAB.out]
  clear HW3
  go_wp2_with fail
  go_loopg [7] 8 (fun q s7 wx => ∃ i : Nat, i ≤ 8 ∧ q = 8 - i ∧ s7 = .int .i64 (i : Nat) ∧ Hid (∃ O pl X, EX BI w O wx sb bk ab s (.slice oa on oc) mk i 0 0 pl X))
  case atStart => exact ⟨0, Nat.zero_le _, rfl, by simp, HX0.out⟩
  case round =>
    clear HX0
    obtain ⟨i, hi, rfl, rfl, HX⟩ := hrel
    by_cases hlt : i < 8
    · have z1 : (i : Int) < 8 := by omega
      have z0 : (0 : Int) ≤ (i : Int) := by omega
      have hwi : IntKind.i64.wrap ((i : Int) + 1) = (i : Int) + 1 := by rw [IntKind.wrap_i64]; omega
      have hme : 8 - (i + 1) < 8 - i := by omega
      have HI := hide hlt
      obtain ⟨kk, hkk, HKK⟩ : ∃ kk : Nat, (i : Int) % 2 = (kk : Int) ∧ Hid (kk < 2) := ⟨i % 2, by omega, by show i % 2 < 2; omega⟩
      have hk0 : (kk : Int) < 2 := by have := HKK.out; omega
      have hk1 : kk < 2 := HKK.out
      clear hi hlt
      go_upto_region 7 with fail
      go_cut [9] from 15 to 98 (fun s9 wx => ∃ cb nodes n c m : Nat, s9 = .pointer (some ⟨cb, 0, none⟩) ∧ Hid (EC BI w wx sb bk ab s (.slice oa on oc) mk i cb nodes n c m))
      case first =>
        have HXD : Hid (∃ O pl X, EX BI w O wr.drew sb bk ab s (.slice oa on oc) mk i 0 0 pl X) := by
          obtain ⟨O, pl, X, h⟩ := HX.out
          exact ⟨O, pl, X, h.drewN HBS.out 1⟩
        have HS0 : Hid (∀ j, j < 12 → wr.drew.cell? ⟨sb, j, none⟩ = some (.int .i64 (s j))) := by
          obtain ⟨O, pl, X, h⟩ := HX.out
          exact (h.drewN HBS.out 1).sc
        refine wp_region_held_drew (S := fun W => ∀ j, j < 12 → W.cell? ⟨sb, j, none⟩ = some (.int .i64 (s j))) (by kernel_rfl) HS0.out fun _ => ?_
        refine wpAnyH_take (i := 0) (v := .int .i64 (kk : Nat)) rfl (by kernel_rfl) (by kernel_rfl) (by kernel_rfl) (fun _ _ _ h => h) (.inl ⟨rfl, fun W hW => by go_simp⟩) HS0.out ?_
        simp only [List.getElem_toArray, List.getElem_cons_zero, Act.put, List.setIfInBounds_toArray]
        refine wpAnyH_take (i := 1) (v := .pointer (some ⟨sb, 0, none⟩)) rfl (by kernel_rfl) (by kernel_rfl) (by kernel_rfl) (fun _ _ _ h => h) (.inl ⟨rfl, fun W hW => by first | kernel_rfl | go_simp⟩) HS0.out ?_
        simp only [List.getElem_toArray, List.getElem_cons_zero, List.getElem_cons_succ, Act.put, List.setIfInBounds_toArray, List.set_cons_zero, List.set_cons_succ]
        refine wpAnyH_take (i := 2) (v := .pointer (some ⟨sb, kk, none⟩)) rfl (by kernel_rfl) (by kernel_rfl) (by kernel_rfl) (fun _ _ _ h => h) (.inl ⟨rfl, fun W hW => by go_simp⟩) HS0.out ?_
        simp only [List.getElem_toArray, List.getElem_cons_zero, List.getElem_cons_succ, Act.put, List.setIfInBounds_toArray, List.set_cons_zero, List.set_cons_succ]
        refine wpAnyH_take (i := 3) (v := .int .i64 (s kk)) rfl (by kernel_rfl) (by kernel_rfl) (by kernel_rfl) (fun _ _ _ h => h) (.inl ⟨rfl, fun W hW => by have c := hW kk (by have := HKK.out; omega); go_simp⟩) HS0.out ?_
        simp only [List.getElem_toArray, List.getElem_cons_zero, List.getElem_cons_succ, Act.put, List.setIfInBounds_toArray, List.set_cons_zero, List.set_cons_succ]
        refine wpAnyH_take (i := 4) (v := .int .i64 (kk : Nat)) rfl (by kernel_rfl) (by kernel_rfl) (by kernel_rfl) (fun _ _ _ h => h) (.inl ⟨rfl, fun W hW => by go_simp⟩) HS0.out ?_
        simp only [List.getElem_toArray, List.getElem_cons_zero, List.getElem_cons_succ, Act.put, List.setIfInBounds_toArray, List.set_cons_zero, List.set_cons_succ]
        refine wpAnyH_take (i := 5) (v := .pointer (some ⟨sb, 2, none⟩)) rfl (by kernel_rfl) (by kernel_rfl) (by kernel_rfl) (fun _ _ _ h => h) (.inl ⟨rfl, fun W hW => by first | kernel_rfl | go_simp⟩) HS0.out ?_
        simp only [List.getElem_toArray, List.getElem_cons_zero, List.getElem_cons_succ, Act.put, List.setIfInBounds_toArray, List.set_cons_zero, List.set_cons_succ]
        refine wpAnyH_take (i := 6) (v := .pointer (some ⟨sb, 2 + kk, none⟩)) rfl (by kernel_rfl) (by kernel_rfl) (by kernel_rfl) (fun _ _ _ h => h) (.inl ⟨rfl, fun W hW => by go_simp⟩) HS0.out ?_
        simp only [List.getElem_toArray, List.getElem_cons_zero, List.getElem_cons_succ, Act.put, List.setIfInBounds_toArray, List.set_cons_zero, List.set_cons_succ]
        refine wpAnyH_take (i := 7) (v := .int .i64 (s (2 + kk))) rfl (by kernel_rfl) (by kernel_rfl) (by kernel_rfl) (fun _ _ _ h => h) (.inl ⟨rfl, fun W hW => by have c := hW (2 + kk) (by have := HKK.out; omega); go_simp⟩) HS0.out ?_
        simp only [List.getElem_toArray, List.getElem_cons_zero, List.getElem_cons_succ, Act.put, List.setIfInBounds_toArray, List.set_cons_zero, List.set_cons_succ]
        refine wpAnyH_take (i := 8) (v := .int .i64 (kk : Nat)) rfl (by kernel_rfl) (by kernel_rfl) (by kernel_rfl) (fun _ _ _ h => h) (.inl ⟨rfl, fun W hW => by go_simp⟩) HS0.out ?_
        simp only [List.getElem_toArray, List.getElem_cons_zero, List.getElem_cons_succ, Act.put, List.setIfInBounds_toArray, List.set_cons_zero, List.set_cons_succ]
        refine wpAnyH_take (i := 9) (v := .pointer (some ⟨sb, 4, none⟩)) rfl (by kernel_rfl) (by kernel_rfl) (by kernel_rfl) (fun _ _ _ h => h) (.inl ⟨rfl, fun W hW => by first | kernel_rfl | go_simp⟩) HS0.out ?_
        simp only [List.getElem_toArray, List.getElem_cons_zero, List.getElem_cons_succ, Act.put, List.setIfInBounds_toArray, List.set_cons_zero, List.set_cons_succ]
        refine wpAnyH_take (i := 10) (v := .pointer (some ⟨sb, 4 + kk, none⟩)) rfl (by kernel_rfl) (by kernel_rfl) (by kernel_rfl) (fun _ _ _ h => h) (.inl ⟨rfl, fun W hW => by go_simp⟩) HS0.out ?_
        simp only [List.getElem_toArray, List.getElem_cons_zero, List.getElem_cons_succ, Act.put, List.setIfInBounds_toArray, List.set_cons_zero, List.set_cons_succ]
        refine wpAnyH_take (i := 11) (v := .int .i64 (s (4 + kk))) rfl (by kernel_rfl) (by kernel_rfl) (by kernel_rfl) (fun _ _ _ h => h) (.inl ⟨rfl, fun W hW => by have c := hW (4 + kk) (by have := HKK.out; omega); go_simp⟩) HS0.out ?_
        simp only [List.getElem_toArray, List.getElem_cons_zero, List.getElem_cons_succ, Act.put, List.setIfInBounds_toArray, List.set_cons_zero, List.set_cons_succ]
        refine wpAnyH_take (i := 12) (v := .int .i64 (kk : Nat)) rfl (by kernel_rfl) (by kernel_rfl) (by kernel_rfl) (fun _ _ _ h => h) (.inl ⟨rfl, fun W hW => by go_simp⟩) HS0.out ?_
        simp only [List.getElem_toArray, List.getElem_cons_zero, List.getElem_cons_succ, Act.put, List.setIfInBounds_toArray, List.set_cons_zero, List.set_cons_succ]
        refine wpAnyH_take (i := 13) (v := .pointer (some ⟨sb, 6, none⟩)) rfl (by kernel_rfl) (by kernel_rfl) (by kernel_rfl) (fun _ _ _ h => h) (.inl ⟨rfl, fun W hW => by first | kernel_rfl | go_simp⟩) HS0.out ?_
        simp only [List.getElem_toArray, List.getElem_cons_zero, List.getElem_cons_succ, Act.put, List.setIfInBounds_toArray, List.set_cons_zero, List.set_cons_succ]
        refine wpAnyH_take (i := 14) (v := .pointer (some ⟨sb, 6 + kk, none⟩)) rfl (by kernel_rfl) (by kernel_rfl) (by kernel_rfl) (fun _ _ _ h => h) (.inl ⟨rfl, fun W hW => by go_simp⟩) HS0.out ?_
        simp only [List.getElem_toArray, List.getElem_cons_zero, List.getElem_cons_succ, Act.put, List.setIfInBounds_toArray, List.set_cons_zero, List.set_cons_succ]
        refine wpAnyH_take (i := 15) (v := .int .i64 (s (6 + kk))) rfl (by kernel_rfl) (by kernel_rfl) (by kernel_rfl) (fun _ _ _ h => h) (.inl ⟨rfl, fun W hW => by have c := hW (6 + kk) (by have := HKK.out; omega); go_simp⟩) HS0.out ?_
        simp only [List.getElem_toArray, List.getElem_cons_zero, List.getElem_cons_succ, Act.put, List.setIfInBounds_toArray, List.set_cons_zero, List.set_cons_succ]
        refine wpAnyH_ready (rs := [16, 17]) (by kernel_rfl) (by simp) ?_
        refine AllReadyH.cons rfl (fun KC hKC => ?_) (AllReadyH.cons rfl (fun KC hKC => ?_) AllReadyH.nil)
        · refine step_callW rfl 6 #[.int .i64 (s kk), .int .i64 (s (2 + kk)), .int .i64 (s (4 + kk)), .int .i64 (s (6 + kk))] (by kernel_rfl) (config_any _ _ _ _ wr.drew) ?_
          rintro e w2 ⟨nodes, n, c, m, rfl, HN⟩
          obtain ⟨_, hb, hg, sn⟩ := HN.out
          obtain ⟨cb, W4, HCB, HW4, HS4, HT, W5, HW5, HS5, HEC⟩ := ex_cfgA HXD.out HBS.out sn hb hg
          have HS2 : Hid (∀ j, j < 12 → w2.cell? ⟨sb, j, none⟩ = some (.int .i64 (s j))) := fun j hj => cell_later sn (HS0.out j hj)
          clear HN hb hg sn
          refine ⟨_, rfl, hKC.out _ _ HS2.out fun _ => ?_⟩
          clear hKC
          simp only [List.getElem_toArray, List.getElem_cons_zero, List.getElem_cons_succ, Act.put, List.setIfInBounds_toArray, List.set_cons_zero, List.set_cons_succ]
          refine wpAnyH_ready (rs := [17]) (by kernel_rfl) (by simp) ?_
          refine AllReadyH.cons rfl (fun KC hKC => ?_) AllReadyH.nil
          refine step_storeM rfl (op_runW (w' := W4) (.pointer (some ⟨cb, 0, none⟩)) ?_ ?_)
          · rw [← HW4.out, ← HCB.out]
            unfold cf0
            kernel_rfl
          refine hKC.out _ _ HS4.out fun _ => ?_
          clear hKC
          simp only [List.getElem_toArray, List.getElem_cons_zero, List.getElem_cons_succ, Act.put, List.setIfInBounds_toArray, List.set_cons_zero, List.set_cons_succ]
          refine wpAnyH_ready (rs := [18]) (by kernel_rfl) (by simp) ?_
          refine AllReadyH.cons rfl (fun KC hKC => ?_) AllReadyH.nil
          refine step_storeM rfl (wp_store_mid 48 (.tmp 9) (.tmp 37) rfl cb 0 (cfgA nodes n c m) rfl rfl HT.out infoC9 (by kernel_rfl) ?_)
          rw [HW5.out]
          refine hKC.out _ _ HS5.out fun _ => ?_
          clear hKC
          simp only [Act.put]
          refine wpAnyH_done (by kernel_rfl) ?_ _
          go_wp2_with fail
          go_meet
          case rel => go_light; exact ⟨cb, nodes, n, c, m, rfl, HEC⟩
        · obtain ⟨cb, W4, HCB, HW4, HS4, HF⟩ := ex_cfgB HXD.out HBS.out
          refine step_storeM rfl (op_runW (w' := W4) (.pointer (some ⟨cb, 0, none⟩)) ?_ ?_)
          · rw [← HW4.out, ← HCB.out]
            unfold cf0
            kernel_rfl
          refine hKC.out _ _ HS4.out fun _ => ?_
          clear hKC
          simp only [List.getElem_toArray, List.getElem_cons_zero, List.getElem_cons_succ, Act.put, List.setIfInBounds_toArray, List.set_cons_zero, List.set_cons_succ]
          refine wpAnyH_ready (rs := [16]) (by kernel_rfl) (by simp) ?_
          refine AllReadyH.cons rfl (fun KC hKC => ?_) AllReadyH.nil
          refine step_callW rfl 6 #[.int .i64 (s kk), .int .i64 (s (2 + kk)), .int .i64 (s (4 + kk)), .int .i64 (s (6 + kk))] (by kernel_rfl) (config_any _ _ _ _ W4) ?_
          rintro e w2 ⟨nodes, n, c, m, rfl, HN⟩
          obtain ⟨_, hb, hg, sn⟩ := HN.out
          obtain ⟨HS2, HT, W5, HW5, HS5, HEC⟩ := HF.out w2 nodes n c m sn hb hg
          clear HN hb hg sn HF
          refine ⟨_, rfl, hKC.out _ _ HS2.out fun _ => ?_⟩
          clear hKC
          simp only [List.getElem_toArray, List.getElem_cons_zero, List.getElem_cons_succ, Act.put, List.setIfInBounds_toArray, List.set_cons_zero, List.set_cons_succ]
          refine wpAnyH_ready (rs := [18]) (by kernel_rfl) (by simp) ?_
          refine AllReadyH.cons rfl (fun KC hKC => ?_) AllReadyH.nil
          refine step_storeM rfl (wp_store_mid 48 (.tmp 9) (.tmp 37) rfl cb 0 (cfgA nodes n c m) rfl rfl HT.out infoC9 (by kernel_rfl) ?_)
          rw [HW5.out]
          refine hKC.out _ _ HS5.out fun _ => ?_
          clear hKC
          simp only [Act.put]
          refine wpAnyH_done (by kernel_rfl) ?_ _
          go_wp2_with fail
          go_meet
          case rel => go_light; exact ⟨cb, nodes, n, c, m, rfl, HEC⟩
      case rest =>
        clear HX
        obtain ⟨cb, nodes, n, c, m, rfl, HEC⟩ := hcut
        have cS : wc.cell? ⟨sb, 8 + kk, none⟩ = some (.int .i64 (s (8 + kk))) := HEC.out.cells.1 (8 + kk) (by omega)
        have cN : wc.cell? ⟨cb, 0, none⟩ = some (.int .i64 (nodes : Nat)) := HEC.out.cells.2.1
        obtain ⟨nd, HIN, Hnd⟩ : ∃ nd : Nat, Hid (∀ q, Calls Tryz.prog 7 #[.int .i64 (s (8 + kk)), .int .i64 (nodes : Nat)] (wc.drewN q) fun e w' => e = .returned (.int .i64 (nd : Nat)) ∧ w' = wc.drewN q) ∧ Hid (nd < nodes) := by
          have hb : 1 ≤ nodes ∧ nodes ≤ 9 := by
            obtain ⟨O, pl, X, _, _, hb, _⟩ := HEC.out
            omega
          have hp0 : (0 : Int) < (nodes : Int) := by omega
          have hm := Int.emod_nonneg (s (8 + kk)) (show (nodes : Int) ≠ 0 by omega)
          have hl := Int.emod_lt_of_pos (s (8 + kk)) hp0
          refine ⟨(s (8 + kk) % (nodes : Int)).toNat, fun q => (intoS_any _ nodes (by omega) (by omega) _).mono fun e w' ⟨h1, k, hk, hkq, he⟩ => ⟨?_, h1.symm⟩, ?_⟩
          · rw [he, ← hkq]
            rfl
          · show _ < _
            omega
        go_upto_region 8 with fail
        go_quiet (with_reducible exact Calls.quiet_of_same (HIN.out _))
        have HECQ : Hid (EC BI w (wc.drewN nq) sb bk ab s (.slice oa on oc) mk i cb nodes n c m) := HEC.out.drewN HBS.out nq
        clear HEC HIN cS cN
        generalize wc.drewN nq = wq at *
        have cS : wq.cell? ⟨sb, 10 + kk, none⟩ = some (.int .i64 (s (10 + kk))) := HECQ.out.cells.1 (10 + kk) (by omega)
        have cN : wq.cell? ⟨cb, 1, none⟩ = some (.int .i64 (n : Nat)) := HECQ.out.cells.2.2
        obtain ⟨ow, HIN, How⟩ : ∃ ow : Nat, Hid (∀ q, Calls Tryz.prog 7 #[.int .i64 (s (10 + kk)), .int .i64 (n : Nat)] (wq.drewN q) fun e w' => e = .returned (.int .i64 (ow : Nat)) ∧ w' = wq.drewN q) ∧ Hid (ow < n) := by
          have hb : 1 ≤ n ∧ n ≤ 9 := by
            obtain ⟨O, pl, X, _, _, hb, _⟩ := HECQ.out
            omega
          have hp0 : (0 : Int) < (n : Int) := by omega
          have hm := Int.emod_nonneg (s (10 + kk)) (show (n : Int) ≠ 0 by omega)
          have hl := Int.emod_lt_of_pos (s (10 + kk)) hp0
          refine ⟨(s (10 + kk) % (n : Int)).toNat, fun q => (intoS_any _ n (by omega) (by omega) _).mono fun e w' ⟨h1, k, hk, hkq, he⟩ => ⟨?_, h1.symm⟩, ?_⟩
          · rw [he, ← hkq]
            rfl
          · show _ < _
            omega
        go_upto_region 9 with fail
        go_quiet (with_reducible exact Calls.quiet_of_same (HIN.out _))
        have HECR : Hid (EC BI w (wq.drewN nq) sb bk ab s (.slice oa on oc) mk i cb nodes n c m) := HECQ.out.drewN HBS.out nq
        clear HECQ HIN cS cN
        generalize wq.drewN nq = wt at *
        obtain ⟨acb, Wa, HACB, HWA, a8, f8, Wb, HWB, HED⟩ := HECR.out.ed HBS.out
        clear HECR
        go_upto_region 11 with (first | (rw [HWA.out, HACB.out]; clear HWA))
        rw [HWB.out]
        clear HWB a8 f8
        obtain ⟨QL, HQL⟩ : ∃ y, Hid ((CLx acb nodes n c m).toList = y) := ⟨_, rfl⟩
        have eQ : QL.toArray = CLx acb nodes n c m := by have := HQL.out; subst this; rfl
        have HIQ : Hid ((Tryz.prog.info? 48).map (·.size) = some QL.length) := by have := HQL.out; subst this; exact infoCx acb nodes n c m
        have hNW := (HED.out.drewN HBS.out 1).new HBS.out HI.out (nd : Int) ow How.out
        rw [HQL.out, ← eQ] at hNW
        have HNW := hide hNW
        have HC0 : Hid (Wb.drew.rangeAt cb 0 QL) := by
          have q := (HED.out.drewN HBS.out 1).range
          rw [HQL.out] at q
          exact q
        clear hNW eQ HQL HED
        refine wp_region_held_drew (S := fun W => W.rangeAt cb 0 QL) (by kernel_rfl) HC0.out fun _ => ?_
        refine wpAnyH_take (i := 0) (v := .int .i64 (i : Nat)) rfl (by kernel_rfl) (by kernel_rfl) (by kernel_rfl) (fun _ _ _ h => h) (.inl ⟨rfl, fun W hW => by first | kernel_rfl | go_simp⟩) HC0.out ?_
        simp only [List.getElem_toArray, List.getElem_cons_zero, Act.put, List.setIfInBounds_toArray]
        refine wpAnyH_take (i := 1) (v := .agg QL.toArray) rfl (by kernel_rfl) (by kernel_rfl) (by kernel_rfl) (fun _ _ _ h => h) (yieldsIf_load_mid rfl 48 (.tmp 9) rfl cb 0 rfl QL _ (fun W hW => hW) Tryz.underlying48 rfl HIQ.out) HC0.out ?_
        simp only [List.getElem_toArray, List.getElem_cons_zero, List.getElem_cons_succ, Act.put, List.setIfInBounds_toArray, List.set_cons_zero, List.set_cons_succ]
        refine wpAnyH_take (i := 2) (v := .int .i64 (nd : Nat)) rfl (by kernel_rfl) (by kernel_rfl) (by kernel_rfl) (fun _ _ _ h => h) (.inl ⟨rfl, fun W hW => by first | kernel_rfl | go_simp⟩) HC0.out ?_
        simp only [List.getElem_toArray, List.getElem_cons_zero, List.getElem_cons_succ, Act.put, List.setIfInBounds_toArray, List.set_cons_zero, List.set_cons_succ]
        refine wpAnyH_take (i := 3) (v := .int .i64 (ow : Nat)) rfl (by kernel_rfl) (by kernel_rfl) (by kernel_rfl) (fun _ _ _ h => h) (.inl ⟨rfl, fun W hW => by first | kernel_rfl | go_simp⟩) HC0.out ?_
        simp only [List.getElem_toArray, List.getElem_cons_zero, List.getElem_cons_succ, Act.put, List.setIfInBounds_toArray, List.set_cons_zero, List.set_cons_succ]
        refine wpAnyH_take (i := 5) (v := .agg QL.toArray) rfl (by kernel_rfl) (by kernel_rfl) (by kernel_rfl) (fun _ _ _ h => h) (yieldsIf_load_mid rfl 48 (.tmp 9) rfl cb 0 rfl QL _ (fun W hW => hW) Tryz.underlying48 rfl HIQ.out) HC0.out ?_
        simp only [List.getElem_toArray, List.getElem_cons_zero, List.getElem_cons_succ, Act.put, List.setIfInBounds_toArray, List.set_cons_zero, List.set_cons_succ]
        refine wpAnyH_take (i := 6) (v := .int .i64 (nd : Nat)) rfl (by kernel_rfl) (by kernel_rfl) (by kernel_rfl) (fun _ _ _ h => h) (.inl ⟨rfl, fun W hW => by first | kernel_rfl | go_simp⟩) HC0.out ?_
        simp only [List.getElem_toArray, List.getElem_cons_zero, List.getElem_cons_succ, Act.put, List.setIfInBounds_toArray, List.set_cons_zero, List.set_cons_succ]
        refine wpAnyH_take (i := 7) (v := .int .i64 (ow : Nat)) rfl (by kernel_rfl) (by kernel_rfl) (by kernel_rfl) (fun _ _ _ h => h) (.inl ⟨rfl, fun W hW => by first | kernel_rfl | go_simp⟩) HC0.out ?_
        simp only [List.getElem_toArray, List.getElem_cons_zero, List.getElem_cons_succ, Act.put, List.setIfInBounds_toArray, List.set_cons_zero, List.set_cons_succ]
        refine wpAnyH_take (i := 9) (v := .pointer (some ⟨bk, 0, none⟩)) rfl (by kernel_rfl) (by kernel_rfl) (by kernel_rfl) (fun _ _ _ h => h) (.inl ⟨rfl, fun W hW => by first | kernel_rfl | go_simp⟩) HC0.out ?_
        simp only [List.getElem_toArray, List.getElem_cons_zero, List.getElem_cons_succ, Act.put, List.setIfInBounds_toArray, List.set_cons_zero, List.set_cons_succ]
        refine wpAnyH_take (i := 10) (v := .bool mk) rfl (by kernel_rfl) (by kernel_rfl) (by kernel_rfl) (fun _ _ _ h => h) (.inl ⟨rfl, fun W hW => by first | kernel_rfl | go_simp⟩) HC0.out ?_
        simp only [List.getElem_toArray, List.getElem_cons_zero, List.getElem_cons_succ, Act.put, List.setIfInBounds_toArray, List.set_cons_zero, List.set_cons_succ]
        refine wpAnyH_ready (rs := [4]) (by kernel_rfl) (by simp) ?_
        refine AllReadyH.cons rfl (fun KC hKC => ?_) AllReadyH.nil
        refine step_callW rfl 8 #[.agg QL.toArray, .int .i64 (nd : Nat), .int .i64 (ow : Nat)] (by kernel_rfl) HNW.out ?_
        rintro e w2 ⟨s1, rfl, HC2, HRN⟩
        refine ⟨_, rfl, hKC.out _ _ HC2.out fun _ => ?_⟩
        clear hKC HNW HC0
        simp only [List.getElem_toArray, List.getElem_cons_zero, List.getElem_cons_succ, Act.put, List.setIfInBounds_toArray, List.set_cons_zero, List.set_cons_succ]
        refine wpAnyH_ready (rs := [8]) (by kernel_rfl) (by simp) ?_
        refine AllReadyH.cons rfl (fun KC hKC => ?_) AllReadyH.nil
        refine step_callW rfl 9 #[.agg QL.toArray, .int .i64 (nd : Nat), .int .i64 (ow : Nat)] (by kernel_rfl) HRN.out ?_
        rintro e w3 ⟨r1, rfl, HC3, tb, W4, HTB, HW4, HC4, a4, f4, W5, HW5, HC5, HEF⟩
        refine ⟨_, rfl, hKC.out _ _ HC3.out fun _ => ?_⟩
        clear hKC HRN HC2
        simp only [List.getElem_toArray, List.getElem_cons_zero, List.getElem_cons_succ, Act.put, List.setIfInBounds_toArray, List.set_cons_zero, List.set_cons_succ]
        refine wpAnyH_take (i := 11) (v := .agg #[.pointer (some ⟨s1, 0, none⟩), .pointer (some ⟨r1, 0, none⟩), .pointer (some ⟨bk, 0, none⟩), .bool mk, .slice none 0 0, .int .i64 0]) rfl (by kernel_rfl) (by kernel_rfl) (by kernel_rfl) (fun _ _ _ h => h) (.inl ⟨rfl, fun W hW => by first | kernel_rfl | go_simp⟩) HC3.out ?_
        simp only [List.getElem_toArray, List.getElem_cons_zero, List.getElem_cons_succ, Act.put, List.setIfInBounds_toArray, List.set_cons_zero, List.set_cons_succ]
        refine wpAnyH_ready (rs := [12]) (by kernel_rfl) (by simp) ?_
        refine AllReadyH.cons rfl (fun KC hKC => ?_) AllReadyH.nil
        refine step_storeM rfl (op_runW (w' := W4) (.pointer (some ⟨tb, 0, none⟩)) ?_ ?_)
        · rw [← HW4.out, ← HTB.out]
          kernel_rfl
        refine hKC.out _ _ HC4.out fun _ => ?_
        clear hKC HC3
        simp only [List.getElem_toArray, List.getElem_cons_zero, List.getElem_cons_succ, Act.put, List.setIfInBounds_toArray, List.set_cons_zero, List.set_cons_succ]
        refine wpAnyH_take (i := 13) (v := .pointer (some ⟨ab, i, none⟩)) rfl (by kernel_rfl) (by kernel_rfl) (by kernel_rfl) (fun _ _ _ h => h) (.inl ⟨rfl, fun W hW => by go_simp⟩) HC4.out ?_
        simp only [List.getElem_toArray, List.getElem_cons_zero, List.getElem_cons_succ, Act.put, List.setIfInBounds_toArray, List.set_cons_zero, List.set_cons_succ]
        refine wpAnyH_ready (rs := [14]) (by kernel_rfl) (by simp) ?_
        refine AllReadyH.cons rfl (fun KC hKC => ?_) AllReadyH.nil
        refine step_storeM rfl (wp_store_cell 44 (.tmp 70) (.tmp 69) rfl ab i (.pointer (some ⟨tb, 0, none⟩)) _ rfl rfl a4 f4 infoPp rfl ?_)
        rw [HW5.out]
        refine hKC.out _ _ HC5.out fun _ => ?_
        clear hKC HC4
        simp only [Act.put]
        refine wpAnyH_done (by kernel_rfl) ?_ _
        clear HC5 HW5 HW4 a4 f4 HIQ HTB
        obtain ⟨e1, e2, e3, e4, e5⟩ := HEF.out.cells
        obtain ⟨W6, HW6, HT6, HX6⟩ := HEF.out.over HBS.out
        clear HEF
        go_upto_region 14 with fail
        go_wp2_with (refine wpList_store_mid rfl 53 _ _ rfl acb 0 #[.string ⟨#[111, 118, 101, 114]⟩, .int .u64 0] rfl rfl HT6.out infoA2 (by kernel_rfl) ?_; rw [HW6.out])
        go_roundg (8 - (i + 1))
        case measure => go_light; exact hme
        case rel => go_light; exact ⟨i + 1, HI.out, rfl, by simp, HX6.out⟩
    · obtain rfl : i = 8 := by omega
      have z1 : ¬ ((8 : Nat) : Int) < 8 := by omega
      clear hi hlt
      go_upto_region 15 with fail
      go_wp2_with fail
      go_loopg [12] on (fun q s12 wx => ∃ i : Nat, i ≤ on ∧ i ≤ 600 ∧ q = on - i ∧ s12 = .int .i64 (i : Nat) ∧ Hid (∃ O pl X, EX BI w O wx sb bk ab s (.slice oa on oc) mk 8 i i pl X))
      case atStart => exact ⟨0, Nat.zero_le _, Nat.zero_le _, rfl, by simp, HX.out⟩
      case round =>
        clear HX
        obtain ⟨i, hi, h6, rfl, rfl, HX⟩ := hrel
        have c12 : wr.cell? ⟨sb, 12, none⟩ = some (.slice oa on oc) := by
          obtain ⟨O, pl, X, h⟩ := HX.out
          exact h.so
        by_cases hlt : i < on
        · have z1 : (i : Int) < (on : Int) := by omega
          have z0 : (0 : Int) ≤ (i : Int) := by omega
          by_cases hl6 : i < 600
          · have z6 : (i : Int) < 600 := by omega
            have hwi : IntKind.i64.wrap ((i : Int) + 1) = (i : Int) + 1 := by rw [IntKind.wrap_i64]; omega
            have hme : on - (i + 1) < on - i := by omega
            have HI := hide hlt
            have HI6 := hide hl6
            obtain ⟨pl, X, b, o, j, pj, OL, HSTEP⟩ : ∃ (pl : Nat → Nat) (X : Nat → Pk) (b o j pj : Nat) (OL : List Value), Hid ((oa = some ⟨b, o, none⟩ ∧ j < 8 ∧ sopL (OO i) = OL ∧ (∀ W, Calls Tryz.prog 7 #[.int .i64 (OO i).wh, .int .i64 8] W fun e w' => e = .returned (.int .i64 (j : Nat)) ∧ W = w') ∧ StS sb ab oa on oc b o i j pj OL wr.drew ∧
              Calls Tryz.prog 10 #[.pointer (some ⟨pj, 0, none⟩), .agg OL.toArray] wr.drew fun e w2 => e = .returned (.bool true) ∧ StS sb ab oa on oc b o i j pj OL w2 ∧
                Hid (Calls Tryz.prog 11 #[.pointer (some ⟨bk, 0, none⟩)] w2 fun e w3 => e = .returned (.bool true) ∧ StS sb ab oa on oc b o i j pj OL w3 ∧ Hid (∃ O' pl' X', EX BI w O' w3 sb bk ab s (.slice oa on oc) mk 8 (i + 1) (i + 1) pl' X')))) := by
              obtain ⟨O, pl, X, h⟩ := HX.out
              obtain ⟨b, o, j, h1, h2, h3, h4, h5⟩ := ex_step (h.drewN HBS.out 1) HBS.out HPS.out HOO.out hlt hl6
              exact ⟨pl, X, b, o, j, pl j, _, h1, h2, rfl, h3, h4, h5⟩
            obtain ⟨hoa, hj8, hOL, hIN, hS, hPL⟩ := HSTEP.out
            subst hoa
            have hjz : (j : Int) < 8 := by omega
            have HIN := hide (hIN wr.drew)
            have HS := hide hS
            have HPL := hide hPL
            obtain ⟨wh, hwh⟩ : ∃ y, (OO i).wh = y := ⟨_, rfl⟩
            have hOL1 : OL[1]? = some (.int .i64 wh) := by rw [← hOL, ← hwh]; rfl
            have HOI : Hid ((Tryz.prog.info? 62).map (·.size) = some OL.length) := by rw [← hOL]; exact infoOp5
            rw [hwh] at HIN
            clear HSTEP hOL hIN hS hPL hwh HX hi hlt h6 hl6
            go_upto_region 18 with fail
            refine wp_region_held_drew (S := StS sb ab (some ⟨b, o, none⟩) on oc b o i j pj OL) (by kernel_rfl) HS.out fun _ => ?_
            refine wpAnyH_take (i := 0) (v := .pointer (some ⟨sb, 12, none⟩)) rfl (by kernel_rfl) (by kernel_rfl) (by kernel_rfl) (fun _ _ _ h => h) (.inl ⟨rfl, fun W hW => by first | kernel_rfl | go_simp⟩) HS.out ?_
            simp only [List.getElem_toArray, List.getElem_cons_zero, Act.put, List.setIfInBounds_toArray]
            refine wpAnyH_take (i := 1) (v := .slice (some ⟨b, o, none⟩) on oc) rfl (by kernel_rfl) (by kernel_rfl) (by kernel_rfl) (fun _ _ _ h => h) (.inl ⟨rfl, fun W hW => by obtain ⟨c, _, _⟩ := hW; go_simp⟩) HS.out ?_
            simp only [List.getElem_toArray, List.getElem_cons_zero, List.getElem_cons_succ, Act.put, List.setIfInBounds_toArray, List.set_cons_zero, List.set_cons_succ]
            refine wpAnyH_take (i := 2) (v := .int .i64 (i : Nat)) rfl (by kernel_rfl) (by kernel_rfl) (by kernel_rfl) (fun _ _ _ h => h) (.inl ⟨rfl, fun W hW => by first | kernel_rfl | go_simp⟩) HS.out ?_
            simp only [List.getElem_toArray, List.getElem_cons_zero, List.getElem_cons_succ, Act.put, List.setIfInBounds_toArray, List.set_cons_zero, List.set_cons_succ]
            refine wpAnyH_take (i := 3) (v := .pointer (some ⟨b, o + i * 5, none⟩)) rfl (by kernel_rfl) (by kernel_rfl) (by kernel_rfl) (fun _ _ _ h => h) (.inl ⟨rfl, fun W hW => by go_simp⟩) HS.out ?_
            simp only [List.getElem_toArray, List.getElem_cons_zero, List.getElem_cons_succ, Act.put, List.setIfInBounds_toArray, List.set_cons_zero, List.set_cons_succ]
            refine wpAnyH_take (i := 4) (v := .pointer (some ⟨b, o + i * 5 + 1, none⟩)) rfl (by kernel_rfl) (by kernel_rfl) (by kernel_rfl) (fun _ _ _ h => h) (.inl ⟨rfl, fun W hW => by first | kernel_rfl | go_simp⟩) HS.out ?_
            simp only [List.getElem_toArray, List.getElem_cons_zero, List.getElem_cons_succ, Act.put, List.setIfInBounds_toArray, List.set_cons_zero, List.set_cons_succ]
            refine wpAnyH_take (i := 5) (v := .int .i64 wh) rfl (by kernel_rfl) (by kernel_rfl) (by kernel_rfl) (fun _ _ _ h => h) (.inl ⟨rfl, fun W hW => by obtain ⟨_, c, _⟩ := hW; have c1 := c 1 _ hOL1; go_simp⟩) HS.out ?_
            simp only [List.getElem_toArray, List.getElem_cons_zero, List.getElem_cons_succ, Act.put, List.setIfInBounds_toArray, List.set_cons_zero, List.set_cons_succ]
            refine wpAnyH_take (i := 9) (v := .pointer (some ⟨sb, 12, none⟩)) rfl (by kernel_rfl) (by kernel_rfl) (by kernel_rfl) (fun _ _ _ h => h) (.inl ⟨rfl, fun W hW => by first | kernel_rfl | go_simp⟩) HS.out ?_
            simp only [List.getElem_toArray, List.getElem_cons_zero, List.getElem_cons_succ, Act.put, List.setIfInBounds_toArray, List.set_cons_zero, List.set_cons_succ]
            refine wpAnyH_take (i := 10) (v := .slice (some ⟨b, o, none⟩) on oc) rfl (by kernel_rfl) (by kernel_rfl) (by kernel_rfl) (fun _ _ _ h => h) (.inl ⟨rfl, fun W hW => by obtain ⟨c, _, _⟩ := hW; go_simp⟩) HS.out ?_
            simp only [List.getElem_toArray, List.getElem_cons_zero, List.getElem_cons_succ, Act.put, List.setIfInBounds_toArray, List.set_cons_zero, List.set_cons_succ]
            refine wpAnyH_take (i := 11) (v := .int .i64 (i : Nat)) rfl (by kernel_rfl) (by kernel_rfl) (by kernel_rfl) (fun _ _ _ h => h) (.inl ⟨rfl, fun W hW => by first | kernel_rfl | go_simp⟩) HS.out ?_
            simp only [List.getElem_toArray, List.getElem_cons_zero, List.getElem_cons_succ, Act.put, List.setIfInBounds_toArray, List.set_cons_zero, List.set_cons_succ]
            refine wpAnyH_take (i := 12) (v := .pointer (some ⟨b, o + i * 5, none⟩)) rfl (by kernel_rfl) (by kernel_rfl) (by kernel_rfl) (fun _ _ _ h => h) (.inl ⟨rfl, fun W hW => by go_simp⟩) HS.out ?_
            simp only [List.getElem_toArray, List.getElem_cons_zero, List.getElem_cons_succ, Act.put, List.setIfInBounds_toArray, List.set_cons_zero, List.set_cons_succ]
            refine wpAnyH_take (i := 13) (v := .agg OL.toArray) rfl (by kernel_rfl) (by kernel_rfl) (by kernel_rfl) (fun _ _ _ h => h) (yieldsIf_load_mid rfl 62 (.tmp 122) rfl b (o + i * 5) rfl OL _ (fun W hW => hW.2.1) Tryz.underlying62 rfl HOI.out) HS.out ?_
            simp only [List.getElem_toArray, List.getElem_cons_zero, List.getElem_cons_succ, Act.put, List.setIfInBounds_toArray, List.set_cons_zero, List.set_cons_succ]
            refine wpAnyH_ready (rs := [6]) (by kernel_rfl) (by simp) ?_
            refine AllReadyH.cons rfl (fun KC hKC => ?_) AllReadyH.nil
            refine step_callW rfl 7 #[.int .i64 wh, .int .i64 8] (by kernel_rfl) HIN.out ?_
            rintro e w2 ⟨rfl, rfl⟩
            refine ⟨_, rfl, hKC.out _ _ HS.out fun _ => ?_⟩
            clear hKC HIN
            simp only [List.getElem_toArray, List.getElem_cons_zero, List.getElem_cons_succ, Act.put, List.setIfInBounds_toArray, List.set_cons_zero, List.set_cons_succ]
            refine wpAnyH_take (i := 7) (v := .pointer (some ⟨ab, j, none⟩)) rfl (by kernel_rfl) (by kernel_rfl) (by kernel_rfl) (fun _ _ _ h => h) (.inl ⟨rfl, fun W hW => by go_simp⟩) HS.out ?_
            simp only [List.getElem_toArray, List.getElem_cons_zero, List.getElem_cons_succ, Act.put, List.setIfInBounds_toArray, List.set_cons_zero, List.set_cons_succ]
            refine wpAnyH_take (i := 8) (v := .pointer (some ⟨pj, 0, none⟩)) rfl (by kernel_rfl) (by kernel_rfl) (by kernel_rfl) (fun _ _ _ h => h) (.inl ⟨rfl, fun W hW => by obtain ⟨_, _, c⟩ := hW; go_simp⟩) HS.out ?_
            simp only [List.getElem_toArray, List.getElem_cons_zero, List.getElem_cons_succ, Act.put, List.setIfInBounds_toArray, List.set_cons_zero, List.set_cons_succ]
            refine wpAnyH_ready (rs := [14]) (by kernel_rfl) (by simp) ?_
            refine AllReadyH.cons rfl (fun KC hKC => ?_) AllReadyH.nil
            refine step_callW rfl 10 #[.pointer (some ⟨pj, 0, none⟩), .agg OL.toArray] (by kernel_rfl) HPL.out ?_
            rintro e w2 ⟨rfl, hS2, HLK⟩
            refine ⟨_, rfl, hKC.out _ _ hS2 fun _ => ?_⟩
            have HS2 := hide hS2
            clear hKC HPL HS hS2
            simp only [List.getElem_toArray, List.getElem_cons_zero, List.getElem_cons_succ, Act.put, List.setIfInBounds_toArray, List.set_cons_zero, List.set_cons_succ]
            refine wpAnyH_take (i := 15) (v := .bool false) rfl (by kernel_rfl) (by kernel_rfl) (by kernel_rfl) (fun _ _ _ h => h) (.inl ⟨rfl, fun W hW => by first | kernel_rfl | go_simp⟩) HS2.out ?_
            simp only [List.getElem_toArray, List.getElem_cons_zero, List.getElem_cons_succ, Act.put, List.setIfInBounds_toArray, List.set_cons_zero, List.set_cons_succ]
            refine wpAnyH_take (i := 16) (v := .bool false) rfl (by kernel_rfl) (by kernel_rfl) (by kernel_rfl) (fun _ _ _ h => h) (.inl ⟨rfl, fun W hW => by first | kernel_rfl | go_simp⟩) HS2.out ?_
            simp only [List.getElem_toArray, List.getElem_cons_zero, List.getElem_cons_succ, Act.put, List.setIfInBounds_toArray, List.set_cons_zero, List.set_cons_succ]
            refine wpAnyH_take (i := 17) (v := .pointer (some ⟨bk, 0, none⟩)) rfl (by kernel_rfl) (by kernel_rfl) (by kernel_rfl) (fun _ _ _ h => h) (.inl ⟨rfl, fun W hW => by first | kernel_rfl | go_simp⟩) HS2.out ?_
            simp only [List.getElem_toArray, List.getElem_cons_zero, List.getElem_cons_succ, Act.put, List.setIfInBounds_toArray, List.set_cons_zero, List.set_cons_succ]
            refine wpAnyH_ready (rs := [18]) (by kernel_rfl) (by simp) ?_
            refine AllReadyH.cons rfl (fun KC hKC => ?_) AllReadyH.nil
            refine step_callW rfl 11 #[.pointer (some ⟨bk, 0, none⟩)] (by kernel_rfl) HLK.out ?_
            rintro e w3 ⟨rfl, hS3, HX6⟩
            refine ⟨_, rfl, hKC.out _ _ hS3 fun _ => ?_⟩
            have HS3 := hide hS3
            clear hKC HLK HS2 hS3
            simp only [List.getElem_toArray, List.getElem_cons_zero, List.getElem_cons_succ, Act.put, List.setIfInBounds_toArray, List.set_cons_zero, List.set_cons_succ]
            refine wpAnyH_take (i := 19) (v := .bool false) rfl (by kernel_rfl) (by kernel_rfl) (by kernel_rfl) (fun _ _ _ h => h) (.inl ⟨rfl, fun W hW => by first | kernel_rfl | go_simp⟩) HS3.out ?_
            simp only [List.getElem_toArray, List.getElem_cons_zero, List.getElem_cons_succ, Act.put, List.setIfInBounds_toArray, List.set_cons_zero, List.set_cons_succ]
            refine wpAnyH_take (i := 20) (v := .bool false) rfl (by kernel_rfl) (by kernel_rfl) (by kernel_rfl) (fun _ _ _ h => h) (.inl ⟨rfl, fun W hW => by first | kernel_rfl | go_simp⟩) HS3.out ?_
            simp only [List.getElem_toArray, List.getElem_cons_zero, List.getElem_cons_succ, Act.put, List.setIfInBounds_toArray, List.set_cons_zero, List.set_cons_succ]
            refine wpAnyH_done (by kernel_rfl) ?_ _
            clear HS3 HOI
            go_wp2_with fail
            go_roundg (on - (i + 1))
            case measure => go_light; exact hme
            case rel => go_light; exact ⟨i + 1, HI.out, HI6.out, rfl, by simp, HX6.out⟩
          · have z6 : ¬ (i : Int) < 600 := by omega
            have HED := hide (ex_end HX.out HBS.out (by omega))
            clear hi hlt h6 hl6 HX
            go_wp2_with (first
              | (go_at_call 12; refine HED.out.mono ?_; rintro e w2 ⟨rfl, HLK⟩)
              | (go_at_call 11; refine HLK.out.mono ?_; rintro e w3 ⟨rfl, HSN⟩))
            go_ret
            exact ⟨rfl, HSN⟩
        · have z1 : ¬ (i : Int) < (on : Int) := by omega
          have HED := hide (ex_end HX.out HBS.out (by omega))
          clear hi hlt h6 HX
          go_wp2_with (first
            | (go_at_call 12; refine HED.out.mono ?_; rintro e w2 ⟨rfl, HLK⟩)
            | (go_at_call 11; refine HLK.out.mono ?_; rintro e w3 ⟨rfl, HSN⟩))
          go_ret
          exact ⟨rfl, HSN⟩
end Go.Proofs.YtdhhjdacidhmjaaGreat

/- SettleFresh: the walk (mkse32.py). -/
namespace Go.Proofs.YtdhhjdacidhmjaaGreat
open Go.RowKit
set_option maxRecDepth 100000
set_option maxRecDepth 100000
set_option maxHeartbeats 4000000 in
theorem settle_fresh {w : World} (s : Nat → Int) {oa : Option Addr} {on oc : Nat} {OO : Nat → Sop} (hO : SopsIn w oa on OO) (hon : on ≤ 1000000000000000) :
    Calls Tryz.prog 4 #[.agg #[.int .i64 (s 0), .int .i64 (s 1), .int .i64 (s 2), .int .i64 (s 3), .int .i64 (s 4), .int .i64 (s 5), .int .i64 (s 6), .int .i64 (s 7), .int .i64 (s 8), .int .i64 (s 9), .int .i64 (s 10), .int .i64 (s 11), .slice oa on oc]] w fun e w' => e = .returned (.bool true) ∧ w.Since w.heap.size w' := by
  obtain ⟨W1, HW1⟩ : ∃ W, Hid (w.alloc (.cells #[.int .i64 (s 0), .int .i64 (s 1), .int .i64 (s 2), .int .i64 (s 3), .int .i64 (s 4), .int .i64 (s 5), .int .i64 (s 6), .int .i64 (s 7), .int .i64 (s 8), .int .i64 (s 9), .int .i64 (s 10), .int .i64 (s 11), .slice oa on oc] 25) = W) := ⟨_, rfl⟩
  have s1 : w.Since w.heap.size W1 := by rw [← HW1.out]; exact (World.Since.refl _ _).alloc (Nat.le_refl _) _
  have hrg : W1.rangeAt w.heap.size 0 [.int .i64 (s 0), .int .i64 (s 1), .int .i64 (s 2), .int .i64 (s 3), .int .i64 (s 4), .int .i64 (s 5), .int .i64 (s 6), .int .i64 (s 7), .int .i64 (s 8), .int .i64 (s 9), .int .i64 (s 10), .int .i64 (s 11), .slice oa on oc] := by
    rw [← HW1.out]
    intro j v hj
    rw [Nat.zero_add]
    refine (World.cell?_alloc_at (w := w) _ _ _ j rfl).trans ?_
    rw [← Array.getElem?_toList]
    exact hj
  have HRG := hide hrg
  have HIL : Hid ((Tryz.prog.info? 25).map (·.size) = some ([.int .i64 (s 0), .int .i64 (s 1), .int .i64 (s 2), .int .i64 (s 3), .int .i64 (s 4), .int .i64 (s 5), .int .i64 (s 6), .int .i64 (s 7), .int .i64 (s 8), .int .i64 (s 9), .int .i64 (s 10), .int .i64 (s 11), .slice oa on oc] : List Value).length) := by show _ = _; kernel_rfl
  have HX : Hid (Calls Tryz.prog 5 #[.agg #[.int .i64 (s 0), .int .i64 (s 1), .int .i64 (s 2), .int .i64 (s 3), .int .i64 (s 4), .int .i64 (s 5), .int .i64 (s 6), .int .i64 (s 7), .int .i64 (s 8), .int .i64 (s 9), .int .i64 (s 10), .int .i64 (s 11), .slice oa on oc], .bool true] W1 fun e w' => e = .returned (.bool true) ∧ w.Since w.heap.size w') :=
    (exact_any bkSm @playSm s (oc := oc) (hO.since s1) hon).mono fun e w' ⟨he, hs⟩ => ⟨he, s1.trans (since_mono hs s1.size)⟩
  obtain ⟨pb, HPB⟩ : ∃ x, Hid (w.heap.size = x) := ⟨_, rfl⟩
  rw [HPB.out] at HRG
  clear hO hon s1 hrg
  go_enter Tryz.func4, Tryz.ntmps4
  go_upto_region 1 with fail
  rw [HW1.out, HPB.out]
  clear HW1 HPB
  go_wp2_with (first
    | (refine wpList_load_mid rfl 25 _ rfl pb 0 rfl _ _ HRG.out Tryz.underlying25 rfl HIL.out ?_)
    | (go_at_call 5; refine HX.out.mono ?_; rintro e w2 ⟨rfl, hs⟩))
  go_ret
  exact ⟨rfl, hs⟩
end Go.Proofs.YtdhhjdacidhmjaaGreat
