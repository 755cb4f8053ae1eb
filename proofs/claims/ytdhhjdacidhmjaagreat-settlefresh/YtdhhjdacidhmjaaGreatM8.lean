/- Own texts, joined: SE9, SE9B, SE10, EqB, SE13, SE14, SE15, SE16. -/
import Derived.Test.YtdhhjdacidhmjaaGreatM7
import Derived.BigQuiet
import Derived.Test.YtdhhjdacidhmjaaGreatM1
import Derived.Lib.SlBytesConst
import Derived.Test.YtdhhjdacidhmjaaGreatM2
import Derived.Deep.OwnRows
import Derived.Test.YtdhhjdacidhmjaaGreatM6

/- Package settle: the law's helpers: lent, intact, same (se9_gen.py). -/
namespace Go.Proofs.YtdhhjdacidhmjaaGreat
open Go.RowKit
set_option maxRecDepth 100000
set_option maxRecDepth 100000
theorem li_row {O : Nat → Nat} {c t sz n g cap : Nat} {w : World} {f : Nat → Value} (h : Li O c w t sz (.slice (some ⟨g, 0, none⟩) n cap) n f) : ∃ F, RowC O c w g t (cap * sz) F ∧ n ≤ cap ∧ cap ≤ maxLen ∧ ∀ j, j < n * sz → F j = f j := by
  rcases h.1.2 with ⟨h0, _⟩ | ⟨b, cp, cur, hv, _, h5, h6, h7, h8, h9⟩
  · cases h0
  · injection hv with e1 _ e3
    obtain rfl : g = b := congrArg Addr.block (Option.some.inj e1)
    subst e3
    refine ⟨fun i => cur.getD i undef, ⟨⟨cur, h5, h8, fun i hi => ?_⟩, h.2 g rfl⟩, h6, h7, fun j hj => ?_⟩
    · show cur[i]? = some (cur.getD i undef)
      rw [Array.getD_eq_getD_getElem?, Array.getElem?_eq_getElem (by omega)]
      rfl
    · have hjc : j < cur.size := by rw [h8]; exact Nat.lt_of_lt_of_le hj (Nat.mul_le_mul_right _ h6)
      have e : (cur.toList.take (n * sz))[j]? = ((List.range (n * sz)).map f)[j]? := by rw [h9]
      rw [List.getElem?_take_of_lt hj, List.getElem?_map, List.getElem?_range hj, Array.getElem?_toList, Array.getElem?_eq_getElem hjc] at e
      show cur.getD j undef = f j
      rw [Array.getD_eq_getD_getElem?, Array.getElem?_eq_getElem hjc]
      exact Option.some.inj e
def markE : Ent := ⟨77, 0, [109, 97, 114, 107], 0⟩
set_option maxHeartbeats 2000000 in
theorem lent_any {w : World} {qa : Option Addr} {qc : Nat} {l : List Ent} (hq : QIn w qa l) (hl : l.length ≤ 3518437208881) :
    Calls Tryz.prog 20 #[.slice qa l.length qc] w fun e w' => ∃ g cap, e = .returned (.slice (some ⟨g, 0, none⟩) l.length cap) ∧ Hid ((∃ O, Qu O 1 w' (.slice (some ⟨g, 0, none⟩) (l ++ [markE]).length cap) (l ++ [markE]) ∧ ∀ k, k < w.heap.size → O k = 0) ∧ w.Since w.heap.size w') := by
  obtain ⟨L, hL⟩ : ∃ L, l.length = L := ⟨_, rfl⟩
  obtain ⟨W1, HW1⟩ : ∃ W, Hid (w.alloc (.cells #[] 82) = W) := ⟨_, rfl⟩
  have s1 : w.Since w.heap.size W1 := by rw [← HW1.out]; exact (World.Since.refl _ _).alloc (Nat.le_refl _) _
  obtain ⟨hqn, kn⟩ := Qu.new (fun _ => 0) 1 w
  rw [HW1.out] at hqn kn
  generalize (fun k => if k < w.heap.size then (fun _ => 0) k else 1) = O1 at hqn kn
  obtain ⟨a2, c2, W2, e2, O2, hq2, k2, _⟩ := hqn.appQ qc (hq.since s1) (by simp only [List.length_nil]; omega)
  rw [List.nil_append, show ([] : List Ent).length + l.length = L by simp [hL]] at hq2
  rw [show ([] : List Ent).length + l.length = L by simp [hL], hL] at e2
  have hq2' : Qu O2 1 W2 (.slice a2 l.length c2) l := by rw [hL]; exact hq2
  obtain ⟨a3, c3, W3, e3, O3, hq3, k3⟩ := hq2'.app markE ⟨by decide, by decide⟩ (by omega)
  rw [hL] at e3 hq3
  obtain ⟨b1, z1⟩ := kn.base (World.Since.refl w.heap.size w) (fun _ _ => rfl) (by decide)
  obtain ⟨b2, z2⟩ := k2.base b1 z1 (by decide)
  obtain ⟨b3, z3⟩ := k3.base b2 z2 (by decide)
  obtain ⟨g, cp, F, hv, h1, h2, _, _⟩ := hq3.1.at' (by rw [List.length_append]; simp)
  injection hv with ha hl3 hcap
  subst ha
  have HK : Hid ((∃ O, Qu O 1 W3 (.slice (some ⟨g, 0, none⟩) (l ++ [markE]).length c3) (l ++ [markE]) ∧ ∀ k, k < w.heap.size → O k = 0) ∧ w.Since w.heap.size W3) := ⟨⟨O3, by rw [List.length_append, hL]; exact hq3, z3⟩, b3⟩
  have hlit : (entL markE).toArray = #[.int .i64 77, .int .u64 0, .string ⟨#[109, 97, 114, 107]⟩, .int .u64 0] := rfl
  rw [hlit] at e3
  rw [show ([] : List Ent).length = 0 from rfl] at e2
  have HA2 := hide e2
  have HA3 := hide e3
  obtain ⟨nb, HNB⟩ : ∃ x, Hid (w.heap.size = x) := ⟨_, rfl⟩
  rw [HNB.out] at HA2
  have hcz : (L : Int) ≤ (c3 : Int) := by
    rw [List.length_append, hL] at h1
    simp only [List.length_cons, List.length_nil] at h1
    omega
  rw [hL]
  clear hq hl hL s1 hqn kn e2 hq2 hq2' k2 e3 hq3 k3 b1 z1 b2 z2 b3 z3 h1 h2 hl3 hcap
  go_enter Tryz.func20, Tryz.ntmps20
  go_wp2_with (first
    | (rw [HW1.out, HNB.out]; clear HW1)
    | (at_builtin; refine wpList_append_eq rfl _ _ 58 rfl _ _ _ (by rfl) (by rfl) HA2.out ?_)
    | (at_builtin; refine wpList_append_eq rfl _ _ 58 rfl _ _ _ (by rfl) (by rfl) HA3.out ?_))
  go_ret
  exact ⟨g, c3, rfl, HK⟩
set_option maxHeartbeats 4000000 in
theorem same_any {w : World} {O : Nat → Nat} {c : Nat} {g cap : Nat} {qa : Option Addr} {qc : Nat} {l : List Ent} (hm : Qu O c w (.slice (some ⟨g, 0, none⟩) l.length cap) l) (hq : QIn w qa l) (hqO : ∀ b o, qa = some ⟨b, o, none⟩ → l ≠ [] → O b ≠ c) (hl : l.length ≤ 3518437208881) :
    Calls Tryz.prog 19 #[.slice (some ⟨g, 0, none⟩) l.length cap, .slice qa l.length qc] w fun e w' => e = .returned (.bool true) ∧ Hid (Ch c O O w w' ∧ ∃ F, RowC O c w' g 82 (cap * 4) F) := by
  obtain ⟨L, hL⟩ : ∃ L, l.length = L := ⟨_, rfl⟩
  have hlen : l.length = L := by exact hL
  obtain ⟨cp, F0, hrow, hcp, hF0⟩ : ∃ (cp : Nat) (F0 : Nat → Value), RowC O c w g 82 (cp * 4) F0 ∧ (L ≤ cp ∧ cap = cp) ∧ ∀ j, j < L * 4 → F0 j = enF l j := by
    obtain ⟨F, h1, h2, h3, h4⟩ := li_row hm.1
    rw [hlen] at h2 h4
    exact ⟨cap, F, h1, ⟨h2, rfl⟩, h4⟩
  obtain ⟨hcp1, rfl⟩ := hcp
  have HX0 : Hid (∃ F, RowC O c w g 82 (cap * 4) F ∧ (∀ j, 0 * 4 ≤ j → j < L * 4 → F j = enF l j) ∧ Ch c O O w w) := ⟨F0, hrow, fun j _ hj => hF0 j hj, Ch.refl⟩
  have HL := hide hL
  have HB := hide hl
  have HC : Hid (L ≤ cap) := hcp1
  have HST : Hid (∀ W i F, i < L → RowC O c W g 82 (cap * 4) F → (∀ j, i * 4 ≤ j → j < L * 4 → F j = enF l j) → Ch c O O w W → ∃ e b o, l[i]? = some e ∧ qa = some ⟨b, o, none⟩ ∧ (W.cell? ⟨g, i * 4, none⟩ = some (.int .i64 e.p) ∧ W.cell? ⟨g, i * 4 + 1, none⟩ = some (.int .u64 (e.nu : Nat)) ∧ W.cell? ⟨g, i * 4 + 2, none⟩ = some (.string (strL e.na)) ∧ W.cell? ⟨g, i * 4 + 3, none⟩ = some (.int .u64 (e.am : Nat))) ∧ (W.cell? ⟨b, o + i * 4, none⟩ = some (.int .i64 e.p) ∧ W.cell? ⟨b, o + i * 4 + 1, none⟩ = some (.int .u64 (e.nu : Nat)) ∧ W.cell? ⟨b, o + i * 4 + 2, none⟩ = some (.string (strL e.na)) ∧ W.cell? ⟨b, o + i * 4 + 3, none⟩ = some (.int .u64 (e.am : Nat)))) := fun W i F hi hr hF hk => by
    obtain ⟨e, he⟩ : ∃ e, l[i]? = some e := ⟨_, List.getElem?_eq_getElem (by omega)⟩
    obtain ⟨b, o, ha, hrg, hb⟩ := hq.at' i e he
    have hbl : W.heap[b]? = w.heap[b]? := hk.block b hb (hqO b o ha (fun h => by rw [h] at he; cases he))
    have hrg2 := rangeAt_on hrg hbl
    have hel : (l)[i]? = some e := he
    have hg : ∀ z, z < 4 → W.cell? ⟨g, i * 4 + z, none⟩ = some (entCell e z) := fun z hz => by
      rw [hr.1.cell (i := i * 4 + z) (by omega), hF _ (by omega) (by omega)]
      unfold enF
      have e1 : (i * 4 + z) / 4 = i := by omega
      have e2 : (i * 4 + z) % 4 = z := by omega
      rw [e1, e2, List.getD_eq_getElem?_getD, hel]
      rfl
    exact ⟨e, b, o, he, ha, ⟨hg 0 (by decide), hg 1 (by decide), hg 2 (by decide), hg 3 (by decide)⟩, ⟨hrg2 0 _ rfl, hrg2 1 _ rfl, hrg2 2 _ rfl, hrg2 3 _ rfl⟩⟩
  rw [hL]
  clear hm hq hqO hl hL hlen hrow hF0 hcp1
  go_enter Tryz.func19, Tryz.ntmps19
  go_wp2_with fail
  go_loopg [5, 6] L (fun k s5 s6 wx => ∃ i : Nat, i ≤ L ∧ k = L - i ∧ s5 = .bool true ∧ s6 = .int .i64 (i : Nat) ∧ Hid (∃ F, RowC O c wx g 82 (cap * 4) F ∧ (∀ j, i * 4 ≤ j → j < L * 4 → F j = enF l j) ∧ Ch c O O w wx))
  case atStart => exact ⟨0, Nat.zero_le _, rfl, by simp, rfl, HX0.out⟩
  case round =>
    clear HX0
    obtain ⟨i, hi, rfl, rfl, rfl, HX⟩ := hrel
    by_cases hlt : i < L
    · have z1 : (i : Int) < (L : Int) := by omega
      have z0 : (0 : Int) ≤ (i : Int) := by omega
      have hwi : IntKind.i64.wrap ((i : Int) + 1) = (i : Int) + 1 := by have := HL.out; have := HB.out; rw [IntKind.wrap_i64]; omega
      have hme : L - (i + 1) < L - i := by omega
      have HJ := hide hlt
      obtain ⟨e, b, o, rfl, ⟨g0, g1, g2, g3⟩, ⟨l0, l1, l2, l3⟩⟩ : ∃ (e : Ent) (b o : Nat), qa = some ⟨b, o, none⟩ ∧ (wr.cell? ⟨g, i * 4, none⟩ = some (.int .i64 e.p) ∧ wr.cell? ⟨g, i * 4 + 1, none⟩ = some (.int .u64 (e.nu : Nat)) ∧ wr.cell? ⟨g, i * 4 + 2, none⟩ = some (.string (strL e.na)) ∧ wr.cell? ⟨g, i * 4 + 3, none⟩ = some (.int .u64 (e.am : Nat))) ∧ (wr.cell? ⟨b, o + i * 4, none⟩ = some (.int .i64 e.p) ∧ wr.cell? ⟨b, o + i * 4 + 1, none⟩ = some (.int .u64 (e.nu : Nat)) ∧ wr.cell? ⟨b, o + i * 4 + 2, none⟩ = some (.string (strL e.na)) ∧ wr.cell? ⟨b, o + i * 4 + 3, none⟩ = some (.int .u64 (e.am : Nat))) := by
        obtain ⟨F, h1, h2, h3⟩ := HX.out
        obtain ⟨e, b, o, _, ha, hg, hb⟩ := HST.out wr i F hlt h1 h2 h3
        exact ⟨e, b, o, ha, hg, hb⟩
      obtain ⟨S, hS⟩ : ∃ S, strL e.na = S := ⟨_, rfl⟩
      rw [hS] at g2 l2
      have hic : i < cap := by have := HC.out; omega
      have hice : (i : Int) < (cap : Int) := by omega
      clear hS hi hlt
      go_upto_region 5 with fail
      go_quiet (fail)
      have HXQ : Hid (∃ F, RowC O c (wr.drewN nq) g 82 (cap * 4) F ∧ (∀ j, i * 4 ≤ j → j < L * 4 → F j = enF l j) ∧ Ch c O O w (wr.drewN nq)) := by
        obtain ⟨F, h1, h2, h3⟩ := HX.out
        have s : wr.Since wr.heap.size (wr.drewN nq) := ⟨rfl, rfl, rfl, Nat.le_refl _, fun _ _ => rfl⟩
        exact ⟨F, h1.keep (x := c + 1) (Ch.since s) (by omega), h2, h3.trans (Ch.since s)⟩
      clear HX g0 g1 g2 g3 l0 l1 l2 l3
      generalize wr.drewN nq = wq at *
      obtain ⟨WN, HWN, HT, HXN⟩ : ∃ WN, Hid (wq.setCells g (i * 4) [.int .i64 ((i : Int) % 8), .int .u64 5, .string ⟨#[111, 118, 101, 114]⟩, .int .u64 7] = WN) ∧ Hid (wq.there g (i * 4) 4) ∧ Hid (∃ F, RowC O c WN g 82 (cap * 4) F ∧ (∀ j, (i + 1) * 4 ≤ j → j < L * 4 → F j = enF l j) ∧ Ch c O O w WN) := by
        obtain ⟨F, h1, h2, h3⟩ := HXQ.out
        have hr := rowIs_setCells [.int .i64 ((i : Int) % 8), .int .u64 5, .string ⟨#[111, 118, 101, 114]⟩, .int .u64 7] (i * 4) wq F h1.1
        refine ⟨_, rfl, fun j hj => ⟨by rw [h1.1.cell (i := i * 4 + j) (by omega)]; rfl, h1.1.frozen _⟩, _, ⟨hr, h1.2⟩, fun j hj hj2 => ?_, h3.trans (Ch.sets h1.2 _ _ _)⟩
        show (if i * 4 ≤ j ∧ j < i * 4 + 4 then _ else F j) = _
        rw [if_neg (by omega)]
        exact h2 j (by omega) hj2
      clear HXQ
      have HI4 : Hid ((Tryz.prog.info? 82).map (·.size) = some 4) := infoE4
      go_wp2_with (refine wpList_store_mid rfl 82 _ _ rfl g (i * 4) #[.int .i64 ((i : Int) % 8), .int .u64 5, .string ⟨#[111, 118, 101, 114]⟩, .int .u64 7] rfl rfl HT.out HI4.out (by kernel_rfl) ?_; rw [HWN.out])
      go_roundg (L - (i + 1))
      case measure => go_light; exact hme
      case rel => go_light; exact ⟨i + 1, HJ.out, rfl, rfl, by simp, HXN.out⟩
    · obtain rfl : i = L := by omega
      have z1 : ¬ (i : Int) < (i : Int) := by omega
      clear hi hlt
      have HK : Hid (Ch c O O w wr ∧ ∃ F, RowC O c wr g 82 (cap * 4) F) := by obtain ⟨F, hr, _, h⟩ := HX.out; exact ⟨h, F, hr⟩
      go_wp2_with fail
      go_ret
      exact ⟨rfl, HK.out⟩
set_option maxHeartbeats 4000000 in
theorem same_none (w : World) (qa : Option Addr) (qc : Nat) :
    Calls Tryz.prog 19 #[.slice none 0 0, .slice qa 0 qc] w fun e w' => e = .returned (.bool true) ∧ w = w' := by
  go_enter Tryz.func19, Tryz.ntmps19
  go_wp2_with fail
  go_loopg [5, 6] 0 (fun _ s5 s6 wx => s5 = .bool true ∧ s6 = .int .i64 0 ∧ w = wx)
  case atStart => exact ⟨by simp, rfl, rfl⟩
  case round =>
    obtain ⟨rfl, rfl, rfl⟩ := hrel
    go_wp2_with fail
    go_ret
    exact ⟨rfl, rfl⟩
end Go.Proofs.YtdhhjdacidhmjaaGreat

/- Package settle: the law's helper intact (se9_gen.py). -/
namespace Go.Proofs.YtdhhjdacidhmjaaGreat
open Go.RowKit
set_option maxRecDepth 100000
set_option maxRecDepth 100000
set_option maxHeartbeats 4000000 in
theorem intactE_any {w : World} {O : Nat → Nat} {c : Nat} {g cap : Nat} {qa : Option Addr} {qc : Nat} {l : List Ent} (hm : Qu O c w (.slice (some ⟨g, 0, none⟩) (l ++ [markE]).length cap) (l ++ [markE])) (hq : QIn w qa l) (hqO : ∀ b o, qa = some ⟨b, o, none⟩ → l ≠ [] → O b ≠ c) (hl : l.length ≤ 3518437208881) :
    Calls Tryz.prog 22 #[.slice (some ⟨g, 0, none⟩) l.length cap, .slice qa l.length qc] w fun e w' => e = .returned (.bool true) ∧ Hid (Ch c O O w w') := by
  obtain ⟨L, hL⟩ : ∃ L, l.length = L := ⟨_, rfl⟩
  have hlen : (l ++ [markE]).length = (L + 1) := by (rw [List.length_append, hL]; rfl)
  obtain ⟨cp, F0, hrow, hcp, hF0⟩ : ∃ (cp : Nat) (F0 : Nat → Value), RowC O c w g 82 (cp * 4) F0 ∧ ((L + 1) ≤ cp ∧ cap = cp) ∧ ∀ j, j < (L + 1) * 4 → F0 j = enF (l ++ [markE]) j := by
    obtain ⟨F, h1, h2, h3, h4⟩ := li_row hm.1
    rw [hlen] at h2 h4
    exact ⟨cap, F, h1, ⟨h2, rfl⟩, h4⟩
  obtain ⟨hcp1, rfl⟩ := hcp
  have HX0 : Hid (∃ F, RowC O c w g 82 (cap * 4) F ∧ (∀ j, 0 * 4 ≤ j → j < (L + 1) * 4 → F j = enF (l ++ [markE]) j) ∧ Ch c O O w w) := ⟨F0, hrow, fun j _ hj => hF0 j hj, Ch.refl⟩
  have HL := hide hL
  have HB := hide hl
  have HC : Hid ((L + 1) ≤ cap) := hcp1
  have HST : Hid (∀ W i F, i < L → RowC O c W g 82 (cap * 4) F → (∀ j, i * 4 ≤ j → j < (L + 1) * 4 → F j = enF (l ++ [markE]) j) → Ch c O O w W → ∃ e b o, l[i]? = some e ∧ qa = some ⟨b, o, none⟩ ∧ (W.cell? ⟨g, i * 4, none⟩ = some (.int .i64 e.p) ∧ W.cell? ⟨g, i * 4 + 1, none⟩ = some (.int .u64 (e.nu : Nat)) ∧ W.cell? ⟨g, i * 4 + 2, none⟩ = some (.string (strL e.na)) ∧ W.cell? ⟨g, i * 4 + 3, none⟩ = some (.int .u64 (e.am : Nat))) ∧ (W.cell? ⟨b, o + i * 4, none⟩ = some (.int .i64 e.p) ∧ W.cell? ⟨b, o + i * 4 + 1, none⟩ = some (.int .u64 (e.nu : Nat)) ∧ W.cell? ⟨b, o + i * 4 + 2, none⟩ = some (.string (strL e.na)) ∧ W.cell? ⟨b, o + i * 4 + 3, none⟩ = some (.int .u64 (e.am : Nat)))) := fun W i F hi hr hF hk => by
    obtain ⟨e, he⟩ : ∃ e, l[i]? = some e := ⟨_, List.getElem?_eq_getElem (by omega)⟩
    obtain ⟨b, o, ha, hrg, hb⟩ := hq.at' i e he
    have hbl : W.heap[b]? = w.heap[b]? := hk.block b hb (hqO b o ha (fun h => by rw [h] at he; cases he))
    have hrg2 := rangeAt_on hrg hbl
    have hel : ((l ++ [markE]))[i]? = some e := (by rw [List.getElem?_append_left (by omega)]; exact he)
    have hg : ∀ z, z < 4 → W.cell? ⟨g, i * 4 + z, none⟩ = some (entCell e z) := fun z hz => by
      rw [hr.1.cell (i := i * 4 + z) (by omega), hF _ (by omega) (by omega)]
      unfold enF
      have e1 : (i * 4 + z) / 4 = i := by omega
      have e2 : (i * 4 + z) % 4 = z := by omega
      rw [e1, e2, List.getD_eq_getElem?_getD, hel]
      rfl
    exact ⟨e, b, o, he, ha, ⟨hg 0 (by decide), hg 1 (by decide), hg 2 (by decide), hg 3 (by decide)⟩, ⟨hrg2 0 _ rfl, hrg2 1 _ rfl, hrg2 2 _ rfl, hrg2 3 _ rfl⟩⟩
  rw [hL]
  clear hm hq hqO hl hL hlen hrow hF0 hcp1
  go_enter Tryz.func22, Tryz.ntmps22
  go_wp2_with fail
  go_loopg [5, 6] L (fun k s5 s6 wx => ∃ i : Nat, i ≤ L ∧ k = L - i ∧ s5 = .bool true ∧ s6 = .int .i64 (i : Nat) ∧ Hid (∃ F, RowC O c wx g 82 (cap * 4) F ∧ (∀ j, i * 4 ≤ j → j < (L + 1) * 4 → F j = enF (l ++ [markE]) j) ∧ Ch c O O w wx))
  case atStart => exact ⟨0, Nat.zero_le _, rfl, rfl, rfl, HX0.out⟩
  case round =>
    clear HX0
    obtain ⟨i, hi, rfl, rfl, rfl, HX⟩ := hrel
    by_cases hlt : i < L
    · have z1 : (i : Int) < (L : Int) := by omega
      have z0 : (0 : Int) ≤ (i : Int) := by omega
      have hwi : IntKind.i64.wrap ((i : Int) + 1) = (i : Int) + 1 := by have := HL.out; have := HB.out; rw [IntKind.wrap_i64]; omega
      have hme : L - (i + 1) < L - i := by omega
      have HJ := hide hlt
      obtain ⟨e, b, o, rfl, ⟨g0, g1, g2, g3⟩, ⟨l0, l1, l2, l3⟩⟩ : ∃ (e : Ent) (b o : Nat), qa = some ⟨b, o, none⟩ ∧ (wr.cell? ⟨g, i * 4, none⟩ = some (.int .i64 e.p) ∧ wr.cell? ⟨g, i * 4 + 1, none⟩ = some (.int .u64 (e.nu : Nat)) ∧ wr.cell? ⟨g, i * 4 + 2, none⟩ = some (.string (strL e.na)) ∧ wr.cell? ⟨g, i * 4 + 3, none⟩ = some (.int .u64 (e.am : Nat))) ∧ (wr.cell? ⟨b, o + i * 4, none⟩ = some (.int .i64 e.p) ∧ wr.cell? ⟨b, o + i * 4 + 1, none⟩ = some (.int .u64 (e.nu : Nat)) ∧ wr.cell? ⟨b, o + i * 4 + 2, none⟩ = some (.string (strL e.na)) ∧ wr.cell? ⟨b, o + i * 4 + 3, none⟩ = some (.int .u64 (e.am : Nat))) := by
        obtain ⟨F, h1, h2, h3⟩ := HX.out
        obtain ⟨e, b, o, _, ha, hg, hb⟩ := HST.out wr i F hlt h1 h2 h3
        exact ⟨e, b, o, ha, hg, hb⟩
      obtain ⟨S, hS⟩ : ∃ S, strL e.na = S := ⟨_, rfl⟩
      rw [hS] at g2 l2
      have hic : i < cap := by have := HC.out; omega
      have hice : (i : Int) < (cap : Int) := by omega
      clear hS hi hlt
      go_upto_region 5 with fail
      go_quiet (fail)
      have HXQ : Hid (∃ F, RowC O c (wr.drewN nq) g 82 (cap * 4) F ∧ (∀ j, i * 4 ≤ j → j < (L + 1) * 4 → F j = enF (l ++ [markE]) j) ∧ Ch c O O w (wr.drewN nq)) := by
        obtain ⟨F, h1, h2, h3⟩ := HX.out
        have s : wr.Since wr.heap.size (wr.drewN nq) := ⟨rfl, rfl, rfl, Nat.le_refl _, fun _ _ => rfl⟩
        exact ⟨F, h1.keep (x := c + 1) (Ch.since s) (by omega), h2, h3.trans (Ch.since s)⟩
      clear HX g0 g1 g2 g3 l0 l1 l2 l3
      generalize wr.drewN nq = wq at *
      obtain ⟨WN, HWN, HT, HXN⟩ : ∃ WN, Hid (wq.setCells g (i * 4) [.int .i64 ((i : Int) % 8), .int .u64 5, .string ⟨#[111, 118, 101, 114]⟩, .int .u64 7] = WN) ∧ Hid (wq.there g (i * 4) 4) ∧ Hid (∃ F, RowC O c WN g 82 (cap * 4) F ∧ (∀ j, (i + 1) * 4 ≤ j → j < (L + 1) * 4 → F j = enF (l ++ [markE]) j) ∧ Ch c O O w WN) := by
        obtain ⟨F, h1, h2, h3⟩ := HXQ.out
        have hr := rowIs_setCells [.int .i64 ((i : Int) % 8), .int .u64 5, .string ⟨#[111, 118, 101, 114]⟩, .int .u64 7] (i * 4) wq F h1.1
        refine ⟨_, rfl, fun j hj => ⟨by rw [h1.1.cell (i := i * 4 + j) (by omega)]; rfl, h1.1.frozen _⟩, _, ⟨hr, h1.2⟩, fun j hj hj2 => ?_, h3.trans (Ch.sets h1.2 _ _ _)⟩
        show (if i * 4 ≤ j ∧ j < i * 4 + 4 then _ else F j) = _
        rw [if_neg (by omega)]
        exact h2 j (by omega) hj2
      clear HXQ
      have HI4 : Hid ((Tryz.prog.info? 82).map (·.size) = some 4) := infoE4
      go_wp2_with (refine wpList_store_mid rfl 82 _ _ rfl g (i * 4) #[.int .i64 ((i : Int) % 8), .int .u64 5, .string ⟨#[111, 118, 101, 114]⟩, .int .u64 7] rfl rfl HT.out HI4.out (by kernel_rfl) ?_; rw [HWN.out])
      go_roundg (L - (i + 1))
      case measure => go_light; exact hme
      case rel => go_light; exact ⟨i + 1, HJ.out, rfl, rfl, by simp, HXN.out⟩
    · obtain rfl : i = L := by omega
      have z1 : ¬ (i : Int) < (i : Int) := by omega
      clear hi hlt
      obtain ⟨hm0, hm1, hm2, hm3, hkk⟩ : wr.cell? ⟨g, i * 4, none⟩ = some (.int .i64 77) ∧ wr.cell? ⟨g, i * 4 + 1, none⟩ = some (.int .u64 0) ∧ wr.cell? ⟨g, i * 4 + 2, none⟩ = some (.string ⟨#[109, 97, 114, 107]⟩) ∧ wr.cell? ⟨g, i * 4 + 3, none⟩ = some (.int .u64 0) ∧ Hid (Ch c O O w wr) := by
        obtain ⟨F, h1, h2, h3⟩ := HX.out
        have hc := HC.out
        have hel : (l ++ [markE])[i]? = some markE := by rw [← HL.out, List.getElem?_append_right (Nat.le_refl _), Nat.sub_self]; rfl
        have hg : ∀ z, z < 4 → wr.cell? ⟨g, i * 4 + z, none⟩ = some (entCell markE z) := fun z hz => by
          rw [h1.1.cell (i := i * 4 + z) (by omega), h2 _ (by omega) (by omega)]
          unfold enF
          have e1 : (i * 4 + z) / 4 = i := by omega
          have e2 : (i * 4 + z) % 4 = z := by omega
          rw [e1, e2, List.getD_eq_getElem?_getD, hel]
          rfl
        exact ⟨hg 0 (by decide), hg 1 (by decide), hg 2 (by decide), hg 3 (by decide), h3⟩
      have zc1 : (i : Int) + 1 ≤ (cap : Int) := by have := HC.out; omega
      have hwj : IntKind.i64.wrap ((i : Int) + 1) = (i : Int) + 1 := by have := HL.out; have := HB.out; rw [IntKind.wrap_i64]; omega
      go_wp2_with fail
      go_ret
      exact ⟨rfl, hkk⟩
end Go.Proofs.YtdhhjdacidhmjaaGreat

/- Package settle: the law's helpers whole, kept; Stop. -/
namespace Go.Proofs.YtdhhjdacidhmjaaGreat
open Go.RowKit
set_option maxRecDepth 100000
set_option maxRecDepth 100000
set_option maxHeartbeats 2000000 in
/-- The program's Stop. -/
theorem pstop_any {O : Nat → Nat} {q : Nat} {w : World} {p : Sp} {d : Sd} (h : SIs O q w p d) :
    Calls Tryz.prog 24 #[.pointer (some ⟨p.sb, 0, none⟩)] w fun e w' => e = .returned (.tuple #[]) ∧ Hid (SIs O q w' p { d with du := none } ∧ ChR q (q + 40) O O w w') := by
  have c3 : w.cell? ⟨p.sb, 3, none⟩ = some (dvM p d) := h.row.1.cell (i := 3) (by decide)
  have f3 : w.frozen? ⟨p.sb, 3, none⟩ = false := h.row.1.frozen 3
  obtain ⟨W1, HW1⟩ : ∃ W, Hid (w.setCell ⟨p.sb, 3, none⟩ (.slice none 0 0) = W) := ⟨_, rfl⟩
  have k : Ch q O O w W1 := by rw [← HW1.out]; exact Ch.set h.row.2 _ _
  obtain ⟨l1, l2, l3, _⟩ := h.lim
  have hr := h.row.set 3 (.slice none 0 0)
  rw [HW1.out] at hr
  have HK : Hid (SIs O q W1 p { d with du := none } ∧ ChR q (q + 40) O O w W1) := by
    refine ⟨⟨⟨hr.1.congr fun i hi => ?_, hr.2⟩, h.roads.keep k (by omega), fun j hj hjo => (h.rd j hj hjo).keep k (by omega), fun j hj hjo => ⟨(h.pc j hj hjo).1.later (k.block _ (h.pc j hj hjo).1.row.lt (by rw [(h.pc j hj hjo).2]; omega)), (k.col _ (h.pc j hj hjo).1.row.lt).trans (h.pc j hj hjo).2⟩, fun j hj hjo => (h.cps j hj hjo).keep k (by omega), h.tl, fun f hf => (by cases hf), h.lim⟩, ChR.of k (by omega) (by omega)⟩
    match i, hi with
    | 0, _ => rfl
    | 1, _ => rfl
    | 2, _ => rfl
    | 3, _ => rfl
  generalize dvM p d = DV at *
  clear h k hr
  go_enter Tryz.func24, Tryz.ntmps24
  go_wp2
  rw [HW1.out]
  go_end0
  exact ⟨rfl, HK⟩
/-- A book with marks behind its lists: where they lie. -/
structure Wh (w : World) (A N M S : Nat) : Prop where
  a0 : w.cell? ⟨A, 0, none⟩ = some (.string ⟨#[97]⟩)
  a1 : w.cell? ⟨A, 1, none⟩ = some (.int .u64 5)
  a2 : w.cell? ⟨A, 2, none⟩ = some (.string ⟨#[109, 97, 114, 107]⟩)
  n0 : w.cell? ⟨N, 0, none⟩ = some (.int .u64 3)
  n1 : w.cell? ⟨N, 1, none⟩ = some (.int .u64 77)
  m0 : w.cell? ⟨M, 0, none⟩ = some (.int .u64 4)
  m1 : w.cell? ⟨M, 1, none⟩ = some (.int .u64 78)
  s0 : w.cell? ⟨S, 0, none⟩ = some (.int .u64 6)
  s1 : w.cell? ⟨S, 1, none⟩ = some (.int .i64 0)
  s2 : w.cell? ⟨S, 2, none⟩ = some (.int .i64 0)
  s3 : w.cell? ⟨S, 3, none⟩ = some (.int .u64 0)
  s4 : w.cell? ⟨S, 4, none⟩ = some (.int .u64 79)
theorem Wh.since {w w' : World} {A N M S : Nat} (h : Wh w A N M S) (s : w.Since w.heap.size w') : Wh w' A N M S :=
  ⟨cell_later s h.a0, cell_later s h.a1, cell_later s h.a2, cell_later s h.n0, cell_later s h.n1, cell_later s h.m0, cell_later s h.m1, cell_later s h.s0, cell_later s h.s1, cell_later s h.s2, cell_later s h.s3, cell_later s h.s4⟩
def bkA (sh : Int) (A N M S : Nat) : Array Value := #[.int .i64 sh, .slice (some ⟨A, 0, none⟩) 1 2, .slice none 0 0, .slice (some ⟨N, 0, none⟩) 1 2, .slice (some ⟨M, 0, none⟩) 1 2, .slice (some ⟨S, 0, none⟩) 1 2]
theorem infoB6 : (Tryz.prog.info? 89).map (·.size) = some 6 := by kernel_rfl
set_option maxHeartbeats 4000000 in
theorem whole_any (w : World) (sh : Int) : Calls Tryz.prog 21 #[.int .i64 sh] w fun e w' => ∃ A N M S, e = .returned (.agg (bkA sh A N M S)) ∧ Hid (Wh w' A N M S ∧ (w.heap.size ≤ A ∧ w.heap.size ≤ N ∧ w.heap.size ≤ M ∧ w.heap.size ≤ S) ∧ w.Since w.heap.size w') := by
  obtain ⟨W6, HW6, HWh, HRG, HRR, HS⟩ : ∃ W6, Hid (((((((w.alloc (.cells #[.int .i64 0, .slice none 0 0, .slice none 0 0, .slice none 0 0, .slice none 0 0, .slice none 0 0] 89)).alloc (.cells #[.int .i64 sh, .slice (some ⟨w.heap.size + 1 + 1, 0, none⟩) 1 2, .slice none 0 0, .slice (some ⟨w.heap.size + 1 + 1 + 1, 0, none⟩) 1 2, .slice (some ⟨w.heap.size + 1 + 1 + 1 + 1, 0, none⟩) 1 2, .slice (some ⟨w.heap.size + 1 + 1 + 1 + 1 + 1, 0, none⟩) 1 2] 89)).alloc (.cells #[.string ⟨#[97]⟩, .int .u64 5, .string ⟨#[109, 97, 114, 107]⟩, .int .u64 0] 53)).alloc (.cells #[.int .u64 3, .int .u64 77] 51)).alloc (.cells #[.int .u64 4, .int .u64 78] 51)).alloc (.cells #[.int .u64 6, .int .i64 0, .int .i64 0, .int .u64 0, .int .u64 79, .int .i64 0, .int .i64 0, .int .u64 0] 125)) = W6) ∧ Hid (Wh W6 (w.heap.size + 1 + 1) (w.heap.size + 1 + 1 + 1) (w.heap.size + 1 + 1 + 1 + 1) (w.heap.size + 1 + 1 + 1 + 1 + 1)) ∧ Hid (W6.rangeAt (w.heap.size + 1) 0 (bkA sh (w.heap.size + 1 + 1) (w.heap.size + 1 + 1 + 1) (w.heap.size + 1 + 1 + 1 + 1) (w.heap.size + 1 + 1 + 1 + 1 + 1)).toList) ∧ Hid (∃ f, W6.rowIs w.heap.size 89 6 f) ∧ Hid (w.Since w.heap.size W6) := by
    refine ⟨_, rfl, ?_⟩
    generalize hw1 : w.alloc (.cells #[.int .i64 0, .slice none 0 0, .slice none 0 0, .slice none 0 0, .slice none 0 0, .slice none 0 0] 89) = w1
    generalize hw2 : w1.alloc (.cells #[.int .i64 sh, .slice (some ⟨w.heap.size + 1 + 1, 0, none⟩) 1 2, .slice none 0 0, .slice (some ⟨w.heap.size + 1 + 1 + 1, 0, none⟩) 1 2, .slice (some ⟨w.heap.size + 1 + 1 + 1 + 1, 0, none⟩) 1 2, .slice (some ⟨w.heap.size + 1 + 1 + 1 + 1 + 1, 0, none⟩) 1 2] 89) = w2
    generalize hw3 : w2.alloc (.cells #[.string ⟨#[97]⟩, .int .u64 5, .string ⟨#[109, 97, 114, 107]⟩, .int .u64 0] 53) = w3
    generalize hw4 : w3.alloc (.cells #[.int .u64 3, .int .u64 77] 51) = w4
    generalize hw5 : w4.alloc (.cells #[.int .u64 4, .int .u64 78] 51) = w5
    generalize hw6 : w5.alloc (.cells #[.int .u64 6, .int .i64 0, .int .i64 0, .int .u64 0, .int .u64 79, .int .i64 0, .int .i64 0, .int .u64 0] 125) = w6
    have z1 : w1.heap.size = w.heap.size + 1 := by rw [← hw1]; simp
    have z2 : w2.heap.size = w.heap.size + 1 + 1 := by rw [← hw2]; simp [z1]
    have z3 : w3.heap.size = w.heap.size + 1 + 1 + 1 := by rw [← hw3]; simp [z2]
    have z4 : w4.heap.size = w.heap.size + 1 + 1 + 1 + 1 := by rw [← hw4]; simp [z3]
    have z5 : w5.heap.size = w.heap.size + 1 + 1 + 1 + 1 + 1 := by rw [← hw5]; simp [z4]
    have s1 : w.Since w.heap.size w1 := by rw [← hw1]; exact (World.Since.refl _ _).alloc (Nat.le_refl _) _
    have s2 : w1.Since w1.heap.size w2 := by rw [← hw2]; exact (World.Since.refl _ _).alloc (Nat.le_refl _) _
    have s3 : w2.Since w2.heap.size w3 := by rw [← hw3]; exact (World.Since.refl _ _).alloc (Nat.le_refl _) _
    have s4 : w3.Since w3.heap.size w4 := by rw [← hw4]; exact (World.Since.refl _ _).alloc (Nat.le_refl _) _
    have s5 : w4.Since w4.heap.size w5 := by rw [← hw5]; exact (World.Since.refl _ _).alloc (Nat.le_refl _) _
    have s6 : w5.Since w5.heap.size w6 := by rw [← hw6]; exact (World.Since.refl _ _).alloc (Nat.le_refl _) _
    have s56 := s5.trans (since_mono s6 s5.size)
    have s46 := s4.trans (since_mono s56 s4.size)
    have s36 := s3.trans (since_mono s46 s3.size)
    have s26 := s2.trans (since_mono s36 s2.size)
    have g1 : ∀ j v, (#[.int .i64 0, .slice none 0 0, .slice none 0 0, .slice none 0 0, .slice none 0 0, .slice none 0 0] : Array Value)[j]? = some v → w1.cell? ⟨w.heap.size, j, none⟩ = some v := fun j v h => by rw [← hw1]; exact (World.cell?_alloc_at (w := w) _ _ _ j rfl).trans h
    have g2 : ∀ j v, (bkA sh (w.heap.size + 1 + 1) (w.heap.size + 1 + 1 + 1) (w.heap.size + 1 + 1 + 1 + 1) (w.heap.size + 1 + 1 + 1 + 1 + 1))[j]? = some v → w2.cell? ⟨w.heap.size + 1, j, none⟩ = some v := fun j v h => by rw [← hw2]; exact (World.cell?_alloc_at (w := w1) _ _ _ j z1.symm).trans h
    have g3 : ∀ j v, (#[.string ⟨#[97]⟩, .int .u64 5, .string ⟨#[109, 97, 114, 107]⟩, .int .u64 0] : Array Value)[j]? = some v → w3.cell? ⟨w.heap.size + 1 + 1, j, none⟩ = some v := fun j v h => by rw [← hw3]; exact (World.cell?_alloc_at (w := w2) _ _ _ j z2.symm).trans h
    have g4 : ∀ j v, (#[.int .u64 3, .int .u64 77] : Array Value)[j]? = some v → w4.cell? ⟨w.heap.size + 1 + 1 + 1, j, none⟩ = some v := fun j v h => by rw [← hw4]; exact (World.cell?_alloc_at (w := w3) _ _ _ j z3.symm).trans h
    have g5 : ∀ j v, (#[.int .u64 4, .int .u64 78] : Array Value)[j]? = some v → w5.cell? ⟨w.heap.size + 1 + 1 + 1 + 1, j, none⟩ = some v := fun j v h => by rw [← hw5]; exact (World.cell?_alloc_at (w := w4) _ _ _ j z4.symm).trans h
    have g6 : ∀ j v, (#[.int .u64 6, .int .i64 0, .int .i64 0, .int .u64 0, .int .u64 79, .int .i64 0, .int .i64 0, .int .u64 0] : Array Value)[j]? = some v → w6.cell? ⟨w.heap.size + 1 + 1 + 1 + 1 + 1, j, none⟩ = some v := fun j v h => by rw [← hw6]; exact (World.cell?_alloc_at (w := w5) _ _ _ j z5.symm).trans h
    refine ⟨⟨cell_later s46 (g3 0 _ rfl), cell_later s46 (g3 1 _ rfl), cell_later s46 (g3 2 _ rfl), cell_later s56 (g4 0 _ rfl), cell_later s56 (g4 1 _ rfl), cell_later s6 (g5 0 _ rfl), cell_later s6 (g5 1 _ rfl), g6 0 _ rfl, g6 1 _ rfl, g6 2 _ rfl, g6 3 _ rfl, g6 4 _ rfl⟩, fun j v hv => ?_, ⟨fun i => (#[.int .i64 0, .slice none 0 0, .slice none 0 0, .slice none 0 0, .slice none 0 0, .slice none 0 0] : Array Value).toList.getD i undef, ?_⟩, s1.trans (since_mono s26 s1.size)⟩
    · rw [Nat.zero_add]
      exact cell_later s36 (g2 j v (by rw [← Array.getElem?_toList]; exact hv))
    · have r : w1.rowIs w.heap.size 89 6 (fun i => (#[.int .i64 0, .slice none 0 0, .slice none 0 0, .slice none 0 0, .slice none 0 0, .slice none 0 0] : Array Value).toList.getD i undef) := by
        rw [← hw1]
        exact World.rowIs_alloc w _ _ _ (fun i hi => by
          rw [List.getD_eq_getElem?_getD, Array.getElem?_toList, Array.getElem?_eq_getElem hi]
          rfl)
      exact r.of_block (s26.block _ r.lt)
  obtain ⟨f6, hr6⟩ := HRR.out
  have HT := hide (row_there hr6)
  obtain ⟨WF, HWF⟩ : ∃ W, Hid (W6.setCells w.heap.size 0 (bkA sh (w.heap.size + 1 + 1) (w.heap.size + 1 + 1 + 1) (w.heap.size + 1 + 1 + 1 + 1) (w.heap.size + 1 + 1 + 1 + 1 + 1)).toList = W) := ⟨_, rfl⟩
  have HFF : Hid (WF.heap[w.heap.size]? = some (.cells (bkA sh (w.heap.size + 1 + 1) (w.heap.size + 1 + 1 + 1) (w.heap.size + 1 + 1 + 1 + 1) (w.heap.size + 1 + 1 + 1 + 1 + 1)) 89 (0, 0))) := by
    rw [← HWF.out]
    have h7 := rowIs_setCells (bkA sh (w.heap.size + 1 + 1) (w.heap.size + 1 + 1 + 1) (w.heap.size + 1 + 1 + 1 + 1) (w.heap.size + 1 + 1 + 1 + 1 + 1)).toList 0 W6 f6 hr6
    have h8 : (W6.setCells w.heap.size 0 (bkA sh (w.heap.size + 1 + 1) (w.heap.size + 1 + 1 + 1) (w.heap.size + 1 + 1 + 1 + 1) (w.heap.size + 1 + 1 + 1 + 1 + 1)).toList).rowIs w.heap.size 89 6 (fun j => (bkA sh (w.heap.size + 1 + 1) (w.heap.size + 1 + 1 + 1) (w.heap.size + 1 + 1 + 1 + 1) (w.heap.size + 1 + 1 + 1 + 1 + 1)).toList.getD j undef) := h7.congr fun j hj => by
      rw [if_pos ⟨Nat.zero_le _, by show j < 0 + 6; omega⟩, Nat.sub_zero]
    exact row_heap h8
  have HSF : Hid (Wh WF (w.heap.size + 1 + 1) (w.heap.size + 1 + 1 + 1) (w.heap.size + 1 + 1 + 1 + 1) (w.heap.size + 1 + 1 + 1 + 1 + 1) ∧ w.Since w.heap.size WF) := by
    have hb : ∀ b, b ≠ w.heap.size → ∀ j v, W6.cell? ⟨b, j, none⟩ = some v → WF.cell? ⟨b, j, none⟩ = some v := fun b hne j v hv => by
      rw [← HWF.out, World.cell?_setCells_out _ _ _ _ _ (fun e _ => absurd e hne)]
      exact hv
    have h := HWh.out
    refine ⟨⟨hb _ (by omega) _ _ h.a0, hb _ (by omega) _ _ h.a1, hb _ (by omega) _ _ h.a2, hb _ (by omega) _ _ h.n0, hb _ (by omega) _ _ h.n1, hb _ (by omega) _ _ h.m0, hb _ (by omega) _ _ h.m1, hb _ (by omega) _ _ h.s0, hb _ (by omega) _ _ h.s1, hb _ (by omega) _ _ h.s2, hb _ (by omega) _ _ h.s3, hb _ (by omega) _ _ h.s4⟩, ?_⟩
    rw [← HWF.out]
    exact since_setCells (Nat.le_refl _) _ _ _ HS.out
  have HI6 : Hid ((Tryz.prog.info? 89).map (·.size) = some 6) := infoB6
  clear hr6 HRR
  go_enter Tryz.func21, Tryz.ntmps21
  go_upto_region 6 with fail
  rw [HW6.out]
  clear HW6
  go_wp2_with (first
    | (refine wpList_load_mid rfl 89 _ rfl (w.heap.size + 1) 0 rfl _ _ HRG.out Tryz.underlying89 rfl HI6.out ?_)
    | (refine wpList_store_mid rfl 89 _ _ rfl w.heap.size 0 (bkA sh (w.heap.size + 1 + 1) (w.heap.size + 1 + 1 + 1) (w.heap.size + 1 + 1 + 1 + 1) (w.heap.size + 1 + 1 + 1 + 1 + 1)) rfl rfl HT.out HI6.out (by kernel_rfl) ?_; rw [HWF.out]))
  refine bodyPost_ret_by (results_cell_row rfl _ _ w.heap.size 89 _ (0, 0) _ rfl HFF.out Tryz.underlying89 rfl HI6.out) rfl ?_
  exact ⟨_, _, _, _, rfl, HSF.out.1, ⟨by omega, by omega, by omega, by omega⟩, HSF.out.2⟩
end Go.Proofs.YtdhhjdacidhmjaaGreat

/- Cmp and Eq of any bytes. -/
namespace Go.Proofs.YtdhhjdacidhmjaaGreat
open Go.RowKit
set_option maxRecDepth 100000
set_option maxRecDepth 100000

set_option maxHeartbeats 800000 in
theorem cmp_same (a b : Option Addr) (n c d : Nat) (x : Nat → Nat) (w : World) (ha : Byt w a n x) (hb : Byt w b n x) (hmax : n ≤ 281474976710656) :
    Calls Tryz.prog 75 #[.slice a n c, .slice b n d] w fun e w' => e = .returned (.int .i64 0) ∧ ∃ m, w' = w.drewN m := by
  go_enter Tryz.func75, Tryz.ntmps75
  go_wp2_with fail
  go_loopg [5] n (fun q s5 wx => ∃ (i m : Nat), i ≤ n ∧ q = n - i ∧ s5 = .int .i64 i ∧ wx = w.drewN m)
  case atStart => exact ⟨0, 0, Nat.zero_le _, rfl, rfl, rfl⟩
  case round =>
    obtain ⟨i, m, hi, rfl, rfl, rfl⟩ := hrel
    by_cases hlt : i < n
    · obtain ⟨b1, o1, rfl, hc1⟩ := ha i hlt
      obtain ⟨b2, o2, rfl, hc2⟩ := hb i hlt
      have hc1' : (w.drewN m).cell? ⟨b1, o1 + i, none⟩ = some (.int .u8 (x i : Nat)) := hc1
      have hc2' : (w.drewN m).cell? ⟨b2, o2 + i, none⟩ = some (.int .u8 (x i : Nat)) := hc2
      have hz : (i : Int) < (n : Int) := by omega
      have HD : Hid (∀ n, (w.drewN m).drewN n = w.drewN (m + n)) := fun n => World.drewN_drewN _ _ _
      generalize w.drewN m = wd at *
      clear hc1 hc2 ha hb
      go_wp2_with fail
      go_quiet (fail)
      go_wp2_with fail
      go_quiet (fail)
      go_wp2_with fail
      go_roundg (n - (i + 1))
      case measure => go_light; omega
      case rel => go_light; exact ⟨i + 1, _, by omega, rfl, by simp, (unhide HD) _⟩
    · obtain rfl : i = n := by omega
      clear ha hb
      go_wp2_with fail
      go_ret
      exact ⟨rfl, m, rfl⟩
set_option maxHeartbeats 800000 in
/-- Cmp of bytes that differ. -/
theorem cmp_diff (a b : Option Addr) (n m c d : Nat) (x y : Nat → Nat) (w : World) (ha : Byt w a n x) (hb : Byt w b m y) (hn : n ≤ 140737488355328) (_hm : m ≤ 140737488355328) (hne : ¬ (n = m ∧ ∀ j, j < n → x j = y j)) :
    Calls Tryz.prog 75 #[.slice a n c, .slice b m d] w fun e w' => (e = .returned (.int .i64 (-1)) ∨ e = .returned (.int .i64 1)) ∧ ∃ k, w' = w.drewN k := by
  go_enter Tryz.func75, Tryz.ntmps75
  go_wp2_with fail
  go_loopg [5] n (fun q s5 wx => ∃ i k : Nat, i ≤ n ∧ i ≤ m ∧ q = n - i ∧ s5 = .int .i64 i ∧ wx = w.drewN k ∧ ∀ j, j < i → x j = y j)
  case atStart => exact ⟨0, 0, Nat.zero_le _, Nat.zero_le _, rfl, rfl, rfl, fun j hj => absurd hj (Nat.not_lt_zero _)⟩
  case round =>
    obtain ⟨i, k, hi, him, rfl, rfl, rfl, hq⟩ := hrel
    by_cases hlt : i < n ∧ i < m
    · obtain ⟨b1, o1, rfl, hc1⟩ := ha i hlt.1
      obtain ⟨b2, o2, rfl, hc2⟩ := hb i hlt.2
      have hc1' : (w.drewN k).cell? ⟨b1, o1 + i, none⟩ = some (.int .u8 (x i : Nat)) := hc1
      have hc2' : (w.drewN k).cell? ⟨b2, o2 + i, none⟩ = some (.int .u8 (y i : Nat)) := hc2
      have hz : (i : Int) < (n : Int) := by omega
      have hz2 : (i : Int) < (m : Int) := by omega
      have HD : Hid (∀ n, (w.drewN k).drewN n = w.drewN (k + n)) := fun n => World.drewN_drewN _ _ _
      generalize w.drewN k = wd at *
      clear hc1 hc2 ha hb
      by_cases h1 : x i < y i
      · have h1' : (x i : Int) < (y i : Int) := by omega
        clear hne hq
        go_wp2_with fail
        go_quiet (fail)
        go_wp2_with fail
        go_ret
        exact ⟨Or.inl rfl, _, (unhide HD) _⟩
      · have h1' : ¬ ((x i : Int) < (y i : Int)) := by omega
        by_cases h2 : y i < x i
        · have h2' : (y i : Int) < (x i : Int) := by omega
          clear hne hq
          go_wp2_with fail
          go_quiet (fail)
          go_wp2_with fail
          go_quiet (fail)
          go_wp2_with fail
          go_ret
          exact ⟨Or.inr rfl, _, by rw [World.drewN_drewN]; exact (unhide HD) _⟩
        · have h2' : ¬ ((y i : Int) < (x i : Int)) := by omega
          have hxy : ∀ j, j < i + 1 → x j = y j := fun j hj => by
            rcases Nat.lt_or_ge j i with h | h
            · exact hq j h
            · obtain rfl : j = i := by omega
              omega
          clear hne hq h1 h2
          have HX := hide hxy
          clear hxy
          go_wp2_with fail
          go_quiet (fail)
          go_wp2_with fail
          go_quiet (fail)
          go_wp2_with fail
          go_roundg (n - (i + 1))
          case measure => go_light; omega
          case rel => go_light; exact ⟨i + 1, _, by omega, by omega, rfl, by simp, by first | exact (unhide HD) _ | (rw [World.drewN_drewN]; exact (unhide HD) _), unhide HX⟩
    · clear ha hb
      have hnm : n ≠ m := fun e => hne ⟨e, fun j hj => hq j (by omega)⟩
      clear hq hne
      have hil : (i : Int) < (n : Int) → ¬ ((i : Int) < (m : Int)) := by omega
      by_cases hin : (i : Int) < (n : Int)
      · have := hil hin
        have h3 : ¬ ((n : Int) < (m : Int)) := by omega
        have h4 : (m : Int) < (n : Int) := by omega
        clear hil
        go_wp2_with fail
        go_ret
        exact ⟨Or.inr rfl, k, rfl⟩
      · have h4 : (n : Int) < (m : Int) := by omega
        clear hil
        go_wp2_with fail
        go_ret
        exact ⟨Or.inl rfl, k, rfl⟩
/-- Cmp of any bytes: zero just where they are the same. -/
theorem cmpB_any (a b : Option Addr) (n m c d : Nat) (x y : Nat → Nat) (w : World) (ha : Byt w a n x) (hb : Byt w b m y) (hn : n ≤ 140737488355328) (hm : m ≤ 140737488355328) :
    Calls Tryz.prog 75 #[.slice a n c, .slice b m d] w fun e w' => ∃ k : Int, e = .returned (.int .i64 k) ∧ (k == 0) = decide ((List.range n).map x = (List.range m).map y) ∧ ∃ m, w' = w.drewN m := by
  by_cases h : n = m ∧ ∀ j, j < n → x j = y j
  · obtain ⟨rfl, hx⟩ := h
    have e : (List.range n).map x = (List.range n).map y := List.map_congr_left (fun j hj => hx j (List.mem_range.1 hj))
    rw [decide_eq_true e]
    exact (cmp_same a b n c d x w ha (fun j hj => by
      obtain ⟨p, q, e1, e2⟩ := hb j hj
      exact ⟨p, q, e1, by rw [hx j hj]; exact e2⟩) (by omega)).mono fun e w' ⟨h1, h2⟩ => ⟨0, h1, rfl, h2⟩
  · have e : (List.range n).map x ≠ (List.range m).map y := fun e => h (by
      have hl := congrArg List.length e
      simp only [List.length_map, List.length_range] at hl
      refine ⟨hl, fun j hj => ?_⟩
      have := congrArg (fun l => l[j]?) e
      simpa [hj, hl ▸ hj] using this)
    rw [decide_eq_false e]
    refine (cmp_diff a b n m c d x y w ha hb hn hm h).mono fun e w' ⟨h1, h2⟩ => ?_
    rcases h1 with h1 | h1
    · exact ⟨-1, h1, rfl, h2⟩
    · exact ⟨1, h1, rfl, h2⟩
end Go.Proofs.YtdhhjdacidhmjaaGreat

/- The document's EqMsg, of messages that are the same. -/
namespace Go.Proofs.YtdhhjdacidhmjaaGreat
open Go.RowKit
set_option maxRecDepth 100000
set_option maxRecDepth 100000
theorem mgL_get (m : Mg) (va : Option Addr) (vc j : Nat) (hj : j < 22) : (mgL m va vc)[j]? = some (mgCell m va vc j) := by
  unfold mgL
  rw [List.getElem?_map, List.getElem?_range hj]
  rfl

theorem since_drewN' {B : Nat} {w w' : World} (h : w.Since B w') (n : Nat) : w.Since B (w'.drewN n) := ⟨h.os, h.tape, h.output, h.size, h.block⟩

set_option maxHeartbeats 4000000 in
theorem eqm22 (a b : Mg) (va vb : Option Addr) (vc vd : Nat) (w : World) (h0 : b.n 0 = a.n 0) (h1 : b.n 1 = a.n 1) (h2 : b.n 2 = a.n 2) (h3 : b.n 3 = a.n 3) (h4 : b.n 4 = a.n 4) (h5 : b.n 5 = a.n 5) (h6 : b.n 6 = a.n 6) (h7 : b.n 7 = a.n 7) (h8 : b.n 8 = a.n 8) (h9 : b.n 9 = a.n 9) (h11 : b.n 11 = a.n 11) (h12 : b.n 12 = a.n 12) (h13 : b.s 13 = a.s 13) (h14 : b.s 14 = a.s 14) (h15 : b.n 15 = a.n 15) (h16 : b.n 16 = a.n 16) (h17 : b.n 17 = a.n 17) (h18 : b.n 18 = a.n 18) (h19 : b.n 19 = a.n 19) (h20 : b.n 20 = a.n 20) (h21 : b.n 21 = a.n 21) (hcm : ∀ W, w.Since w.heap.size W → Calls Tryz.prog 75 #[.slice va (a.s 10).length vc, .slice vb (b.s 10).length vd] W fun e w' => e = .returned (.int .i64 0) ∧ ∃ m, w' = W.drewN m) :
    Calls Tryz.prog 48 #[mgV a va vc, mgV b vb vd] w fun e w' => e = .returned (.bool true) ∧ w.Since w.heap.size w' := by
  obtain ⟨MA, HMA⟩ : ∃ x, Hid ((mgL a va vc).toArray = x) := ⟨_, rfl⟩
  obtain ⟨MB, HMB⟩ : ∃ x, Hid ((mgL b vb vd).toArray = x) := ⟨_, rfl⟩
  have sw : w.Since w.heap.size ((w.alloc (.cells MA 108)).alloc (.cells MB 108)) := ((World.Since.refl _ _).alloc (Nat.le_refl _) _).alloc (by simp) _
  have gA : ∀ i, i < 22 → MA[i]? = some (mgCell a va vc i) := fun i hi => by rw [← HMA.out, List.getElem?_toArray]; exact mgL_get a va vc i hi
  have gB : ∀ i, i < 22 → MB[i]? = some (mgCell b vb vd i) := fun i hi => by rw [← HMB.out, List.getElem?_toArray]; exact mgL_get b vb vd i hi
  have a0 : MA[0]? = some (.int .i64 (a.n 0)) := gA 0 (by decide)
  have b0 : MB[0]? = some (.int .i64 (b.n 0)) := gB 0 (by decide)
  rw [h0] at b0
  have a1 : MA[1]? = some (.int .i64 (a.n 1)) := gA 1 (by decide)
  have b1 : MB[1]? = some (.int .i64 (b.n 1)) := gB 1 (by decide)
  rw [h1] at b1
  have a2 : MA[2]? = some (.int .i64 (a.n 2)) := gA 2 (by decide)
  have b2 : MB[2]? = some (.int .i64 (b.n 2)) := gB 2 (by decide)
  rw [h2] at b2
  have a3 : MA[3]? = some (.int .i64 (a.n 3)) := gA 3 (by decide)
  have b3 : MB[3]? = some (.int .i64 (b.n 3)) := gB 3 (by decide)
  rw [h3] at b3
  have a4 : MA[4]? = some (.int .u64 (a.n 4)) := gA 4 (by decide)
  have b4 : MB[4]? = some (.int .u64 (b.n 4)) := gB 4 (by decide)
  rw [h4] at b4
  have a5 : MA[5]? = some (.int .u64 (a.n 5)) := gA 5 (by decide)
  have b5 : MB[5]? = some (.int .u64 (b.n 5)) := gB 5 (by decide)
  rw [h5] at b5
  have a6 : MA[6]? = some (.int .u64 (a.n 6)) := gA 6 (by decide)
  have b6 : MB[6]? = some (.int .u64 (b.n 6)) := gB 6 (by decide)
  rw [h6] at b6
  have a7 : MA[7]? = some (.int .u64 (a.n 7)) := gA 7 (by decide)
  have b7 : MB[7]? = some (.int .u64 (b.n 7)) := gB 7 (by decide)
  rw [h7] at b7
  have a8 : MA[8]? = some (.int .i64 (a.n 8)) := gA 8 (by decide)
  have b8 : MB[8]? = some (.int .i64 (b.n 8)) := gB 8 (by decide)
  rw [h8] at b8
  have a9 : MA[9]? = some (.int .u64 (a.n 9)) := gA 9 (by decide)
  have b9 : MB[9]? = some (.int .u64 (b.n 9)) := gB 9 (by decide)
  rw [h9] at b9
  have a10 : MA[10]? = some (.slice va (a.s 10).length vc) := gA 10 (by decide)
  have b10 : MB[10]? = some (.slice vb (b.s 10).length vd) := gB 10 (by decide)
  have a11 : MA[11]? = some (.int .i64 (a.n 11)) := gA 11 (by decide)
  have b11 : MB[11]? = some (.int .i64 (b.n 11)) := gB 11 (by decide)
  rw [h11] at b11
  have a12 : MA[12]? = some (.int .u64 (a.n 12)) := gA 12 (by decide)
  have b12 : MB[12]? = some (.int .u64 (b.n 12)) := gB 12 (by decide)
  rw [h12] at b12
  have a13 : MA[13]? = some (.string (strL (a.s 13))) := gA 13 (by decide)
  have b13 : MB[13]? = some (.string (strL (b.s 13))) := gB 13 (by decide)
  rw [h13] at b13
  have a14 : MA[14]? = some (.string (strL (a.s 14))) := gA 14 (by decide)
  have b14 : MB[14]? = some (.string (strL (b.s 14))) := gB 14 (by decide)
  rw [h14] at b14
  have a15 : MA[15]? = some (.int .u64 (a.n 15)) := gA 15 (by decide)
  have b15 : MB[15]? = some (.int .u64 (b.n 15)) := gB 15 (by decide)
  rw [h15] at b15
  have a16 : MA[16]? = some (.int .u64 (a.n 16)) := gA 16 (by decide)
  have b16 : MB[16]? = some (.int .u64 (b.n 16)) := gB 16 (by decide)
  rw [h16] at b16
  have a17 : MA[17]? = some (.int .u64 (a.n 17)) := gA 17 (by decide)
  have b17 : MB[17]? = some (.int .u64 (b.n 17)) := gB 17 (by decide)
  rw [h17] at b17
  have a18 : MA[18]? = some (.int .i64 (a.n 18)) := gA 18 (by decide)
  have b18 : MB[18]? = some (.int .i64 (b.n 18)) := gB 18 (by decide)
  rw [h18] at b18
  have a19 : MA[19]? = some (.int .i64 (a.n 19)) := gA 19 (by decide)
  have b19 : MB[19]? = some (.int .i64 (b.n 19)) := gB 19 (by decide)
  rw [h19] at b19
  have a20 : MA[20]? = some (.int .i64 (a.n 20)) := gA 20 (by decide)
  have b20 : MB[20]? = some (.int .i64 (b.n 20)) := gB 20 (by decide)
  rw [h20] at b20
  have a21 : MA[21]? = some (.int .i64 (a.n 21)) := gA 21 (by decide)
  have b21 : MB[21]? = some (.int .i64 (b.n 21)) := gB 21 (by decide)
  rw [h21] at b21
  clear h0 h1 h2 h3 h4 h5 h6 h7 h8 h9 h11 h12 h13 h14 h15 h16 h17 h18 h19 h20 h21
  generalize a.n 0 = x0 at *
  generalize a.n 1 = x1 at *
  generalize a.n 2 = x2 at *
  generalize a.n 3 = x3 at *
  generalize a.n 4 = x4 at *
  generalize a.n 5 = x5 at *
  generalize a.n 6 = x6 at *
  generalize a.n 7 = x7 at *
  generalize a.n 8 = x8 at *
  generalize a.n 9 = x9 at *
  generalize a.n 11 = x11 at *
  generalize a.n 12 = x12 at *
  generalize strL (a.s 13) = s13 at *
  generalize strL (a.s 14) = s14 at *
  generalize a.n 15 = x15 at *
  generalize a.n 16 = x16 at *
  generalize a.n 17 = x17 at *
  generalize a.n 18 = x18 at *
  generalize a.n 19 = x19 at *
  generalize a.n 20 = x20 at *
  generalize a.n 21 = x21 at *
  have HCM := hide (hcm _ sw)
  clear hcm
  have HS := hide sw
  clear sw gA gB
  unfold mgV
  rw [HMA.out, HMB.out]
  go_enter Tryz.func48, Tryz.ntmps48
  go_wp2_with fail
  refine HCM.out.mono ?_
  rintro e w3 ⟨rfl, q, e3⟩
  subst e3
  have HS3 : Hid (w.Since w.heap.size (((w.alloc (.cells MA 108)).alloc (.cells MB 108)).drewN q)) := since_drewN' HS.out q
  clear HCM
  go_wp2_with fail
  go_ret
  exact ⟨rfl, HS3.out⟩
theorem eqMsg_same (m : Mg) (va vb : Option Addr) (vc vd : Nat) (w : World) (ha : Byt w va (m.s 10).length (fun j => (m.s 10).getD j 0)) (hb : Byt w vb (m.s 10).length (fun j => (m.s 10).getD j 0)) (hl : (m.s 10).length ≤ 140737488355328) :
    Calls Tryz.prog 48 #[mgV m va vc, mgV m vb vd] w fun e w' => e = .returned (.bool true) ∧ w.Since w.heap.size w' :=
  eqm22 m m va vb vc vd w rfl rfl rfl rfl rfl rfl rfl rfl rfl rfl rfl rfl rfl rfl rfl rfl rfl rfl rfl rfl rfl fun W hW => (cmpB_any va vb _ _ vc vd _ _ W (ha.since hW) (hb.since hW) hl hl).mono fun e w' ⟨k, he, hk, q, hq⟩ => ⟨by
    have : (k == 0) = true := by rw [hk]; simp
    have k0 : k = 0 := by simpa using this
    rw [he, k0], q, hq⟩
/-- Messages of a list, in memory. -/
def MsAt (w : World) (a : Option Addr) (ms : List Mg) : Prop := ∀ j m, ms[j]? = some m → ∃ g va vc, a = some ⟨g, 0, none⟩ ∧ w.rangeAt g (j * 22) (mgL m va vc) ∧ Byt w va (m.s 10).length (fun i => (m.s 10).getD i 0)
theorem range_since {w w' : World} {g o : Nat} {cs : List Value} (h : w.rangeAt g o cs) (hs : w.Since w.heap.size w') : w'.rangeAt g o cs := fun j v hv => cell_later hs (h j v hv)
theorem MsAt.since {w w' : World} {a : Option Addr} {ms : List Mg} (h : MsAt w a ms) (hs : w.Since w.heap.size w') : MsAt w' a ms := fun j m hm => by
  obtain ⟨g, va, vc, e, h1, h2⟩ := h j m hm
  exact ⟨g, va, vc, e, range_since h1 hs, h2.since hs⟩
end Go.Proofs.YtdhhjdacidhmjaaGreat

/- QuorumOnce: EqMsgs of what is the same. -/
namespace Go.Proofs.YtdhhjdacidhmjaaGreat
open Go.RowKit
set_option maxRecDepth 100000
set_option maxRecDepth 100000

set_option maxHeartbeats 4000000 in
theorem eqMsgs_same {w : World} {ax ay : Option Addr} {ms : List Mg} (hx : MsAt w ax ms) (hy : MsAt w ay ms) (cx cy n : Nat) (hn : ms.length = n) (hn2 : n ≤ 1000000) (hl : ∀ m ∈ ms, (m.s 10).length ≤ 140737488355328) :
    Calls Tryz.prog 27 #[.slice ax n cx, .slice ay n cy] w fun e w' => e = .returned (.bool true) ∧ w.Since w.heap.size w' := by
  have HX := hide hx
  have HY := hide hy
  have HL := hide hl
  have HS0 : Hid (w.Since w.heap.size w) := World.Since.refl _ _
  have zn : ((n : Int) == (n : Int)) = true := by simp
  clear hx hy hl
  go_enter Tryz.func27, Tryz.ntmps27
  go_wp2_with fail
  go_loopg [5] n (fun q s5 wx => ∃ i : Nat, i ≤ n ∧ q = n - i ∧ s5 = .int .i64 (i : Nat) ∧ Hid (w.Since w.heap.size wx))
  case atStart => exact ⟨0, Nat.zero_le _, rfl, rfl, HS0⟩
  case round =>
    clear HS0
    obtain ⟨i, hi, rfl, rfl, HS⟩ := hrel
    by_cases hgo : i < n
    · have z1 : (i : Int) < (n : Int) := by omega
      have z0 : (0 : Int) ≤ (i : Int) := by omega
      have hwi : IntKind.i64.wrap ((i : Int) + 1) = (i : Int) + 1 := by rw [IntKind.wrap_i64]; omega
      have hme : n - (i + 1) < n - i := by omega
      have hi1 : i + 1 ≤ n := by omega
      obtain ⟨m, hm⟩ : ∃ m, ms[i]? = some m := ⟨_, List.getElem?_eq_getElem (by omega)⟩
      obtain ⟨g1, va, vc, rfl, r1, b1⟩ := HX.out i m hm
      obtain ⟨g2, vb, vd, rfl, r2, b2⟩ := HY.out i m hm
      have hml := HL.out m (List.mem_of_getElem? hm)
      have HSD : Hid (w.Since w.heap.size wr.drew) := HS.out.trans (since_mono ((World.Since.refl _ _).drew) HS.out.size)
      obtain ⟨MA, HMA⟩ : ∃ x, Hid (mgL m va vc = x) := ⟨_, rfl⟩
      obtain ⟨MB, HMB⟩ : ∃ x, Hid (mgL m vb vd = x) := ⟨_, rfl⟩
      have HIA : Hid ((Tryz.prog.info? 108).map (·.size) = some MA.length) := by rw [← HMA.out]; exact infoMg' _ _ _
      have HIB : Hid ((Tryz.prog.info? 108).map (·.size) = some MB.length) := by rw [← HMB.out]; exact infoMg' _ _ _
      have HRA : Hid (∀ W, w.Since w.heap.size W → W.rangeAt g1 (i * 22) MA) := fun W hW => by rw [← HMA.out]; exact range_since r1 hW
      have HRB : Hid (∀ W, w.Since w.heap.size W → W.rangeAt g2 (i * 22) MB) := fun W hW => by rw [← HMB.out]; exact range_since r2 hW
      have HEQ : Hid (∀ W, w.Since w.heap.size W → Calls Tryz.prog 48 #[.agg MA.toArray, .agg MB.toArray] W fun e w' => e = .returned (.bool true) ∧ Hid (w.Since w.heap.size w')) := fun W hW => by
        have q := eqMsg_same m va vb vc vd W (b1.since hW) (b2.since hW) hml
        unfold mgV at q
        rw [HMA.out, HMB.out] at q
        exact q.mono fun e w' ⟨he, hs⟩ => ⟨he, hW.trans (since_mono hs hW.size)⟩
      clear HMA HMB b1 b2 r1 r2 hml hm HX HY HL
      go_upto_region 6 with fail
      refine wp_region_held_drew (S := fun W => w.Since w.heap.size W) (by kernel_rfl) HSD.out fun _ => ?_
      refine wpAnyH_take (i := 0) (v := .slice (some ⟨g1, 0, none⟩) n cx) rfl (by kernel_rfl) (by kernel_rfl) (by kernel_rfl) (fun _ _ _ h => h) (.inl ⟨rfl, fun W hW => by kernel_rfl⟩) HSD.out ?_
      simp only [List.getElem_toArray, List.getElem_cons_zero, Act.put, List.setIfInBounds_toArray, List.set_cons_zero, List.set_cons_succ]
      refine wpAnyH_take (i := 1) (v := .int .i64 (i : Nat)) rfl (by kernel_rfl) (by kernel_rfl) (by kernel_rfl) (fun _ _ _ h => h) (.inl ⟨rfl, fun W hW => by kernel_rfl⟩) HSD.out ?_
      simp only [List.getElem_toArray, List.getElem_cons_zero, List.getElem_cons_succ, Act.put, List.setIfInBounds_toArray, List.set_cons_zero, List.set_cons_succ]
      refine wpAnyH_take (i := 2) (v := .pointer (some ⟨g1, i * 22, none⟩)) rfl (by kernel_rfl) (by kernel_rfl) (by kernel_rfl) (fun _ _ _ h => h) (.inl ⟨rfl, fun W hW => by first | go_simp | kernel_rfl⟩) HSD.out ?_
      simp only [List.getElem_toArray, List.getElem_cons_zero, List.getElem_cons_succ, Act.put, List.setIfInBounds_toArray, List.set_cons_zero, List.set_cons_succ]
      refine wpAnyH_take (i := 3) (v := .agg MA.toArray) rfl (by kernel_rfl) (by kernel_rfl) (by kernel_rfl) (fun _ _ _ h => h) (yieldsIf_load_mid rfl 108 (.tmp 19) rfl g1 (i * 22) rfl MA _ (fun W hW => HRA.out W hW) Tryz.underlying108 rfl HIA.out) HSD.out ?_
      simp only [List.getElem_toArray, List.getElem_cons_zero, List.getElem_cons_succ, Act.put, List.setIfInBounds_toArray, List.set_cons_zero, List.set_cons_succ]
      refine wpAnyH_take (i := 4) (v := .slice (some ⟨g2, 0, none⟩) n cy) rfl (by kernel_rfl) (by kernel_rfl) (by kernel_rfl) (fun _ _ _ h => h) (.inl ⟨rfl, fun W hW => by kernel_rfl⟩) HSD.out ?_
      simp only [List.getElem_toArray, List.getElem_cons_zero, List.getElem_cons_succ, Act.put, List.setIfInBounds_toArray, List.set_cons_zero, List.set_cons_succ]
      refine wpAnyH_take (i := 5) (v := .int .i64 (i : Nat)) rfl (by kernel_rfl) (by kernel_rfl) (by kernel_rfl) (fun _ _ _ h => h) (.inl ⟨rfl, fun W hW => by kernel_rfl⟩) HSD.out ?_
      simp only [List.getElem_toArray, List.getElem_cons_zero, List.getElem_cons_succ, Act.put, List.setIfInBounds_toArray, List.set_cons_zero, List.set_cons_succ]
      refine wpAnyH_take (i := 6) (v := .pointer (some ⟨g2, i * 22, none⟩)) rfl (by kernel_rfl) (by kernel_rfl) (by kernel_rfl) (fun _ _ _ h => h) (.inl ⟨rfl, fun W hW => by first | go_simp | kernel_rfl⟩) HSD.out ?_
      simp only [List.getElem_toArray, List.getElem_cons_zero, List.getElem_cons_succ, Act.put, List.setIfInBounds_toArray, List.set_cons_zero, List.set_cons_succ]
      refine wpAnyH_take (i := 7) (v := .agg MB.toArray) rfl (by kernel_rfl) (by kernel_rfl) (by kernel_rfl) (fun _ _ _ h => h) (yieldsIf_load_mid rfl 108 (.tmp 23) rfl g2 (i * 22) rfl MB _ (fun W hW => HRB.out W hW) Tryz.underlying108 rfl HIB.out) HSD.out ?_
      simp only [List.getElem_toArray, List.getElem_cons_zero, List.getElem_cons_succ, Act.put, List.setIfInBounds_toArray, List.set_cons_zero, List.set_cons_succ]
      refine wpAnyH_ready (rs := [8]) (by kernel_rfl) (by simp) ?_
      refine AllReadyH.cons rfl (fun K hK => ?_) AllReadyH.nil
      refine step_callW rfl 48 #[.agg MA.toArray, .agg MB.toArray] (by kernel_rfl) (HEQ.out _ HSD.out) ?_
      rintro e w6 ⟨rfl, HS6⟩
      refine ⟨_, rfl, hK.out _ _ HS6.out fun _ => ?_⟩
      clear hK
      simp only [List.getElem_toArray, List.getElem_cons_zero, List.getElem_cons_succ, Act.put, List.setIfInBounds_toArray, List.set_cons_zero, List.set_cons_succ]
      refine wpAnyH_take (i := 9) (v := .bool false) rfl (by kernel_rfl) (by kernel_rfl) (by kernel_rfl) (fun _ _ _ h => h) (.inl ⟨rfl, fun W hW => by kernel_rfl⟩) HS6.out ?_
      simp only [List.getElem_toArray, List.getElem_cons_zero, List.getElem_cons_succ, Act.put, List.setIfInBounds_toArray, List.set_cons_zero, List.set_cons_succ]
      refine wpAnyH_done (by kernel_rfl) ?_ _
      clear HEQ HRA HRB HIA HIB
      go_wp2_with fail
      go_roundg (n - (i + 1))
      case measure => go_light; exact hme
      case rel => go_light; exact ⟨i + 1, hi1, rfl, by simp, HS6⟩
    · have z1 : ¬ (i : Int) < (n : Int) := by omega
      go_wp2_with fail
      go_ret
      exact ⟨rfl, HS.out⟩
end Go.Proofs.YtdhhjdacidhmjaaGreat

/- Package settle: the program's Settle beside the document's: Tick, Stop, Wants on both. -/
namespace Go.Proofs.YtdhhjdacidhmjaaGreat
open Go.RowKit
set_option maxRecDepth 100000
set_option maxRecDepth 100000
theorem ms_at {ms : List Mg} {O : Nat → Nat} {c cc K : Nat} {w : World} {a : Option Addr} (h : Li O c w 108 22 (.slice a K cc) K (msF ms)) (hK : ms.length = K) (hv : ∀ m ∈ ms, m.s 10 = []) : MsAt w a ms := fun j m hm => by
  have hj := (List.getElem?_eq_some_iff.1 hm).1
  obtain ⟨b, rfl, hr⟩ := msF_range h hK j (by omega)
  rw [List.getD_eq_getElem?_getD, hm] at hr
  exact ⟨b, none, 0, rfl, hr, by rw [hv m (List.mem_of_getElem? hm)]; exact fun j hj => absurd hj (Nat.not_lt_zero _)⟩
theorem msR_s10 (r : Rd) (k : Nat) : ∀ m ∈ msR r k, m.s 10 = [] := fun m hm => by
  obtain ⟨i, _, rfl⟩ := List.mem_map.1 hm
  rfl
/-- The program's Settle beside the document's: colours q to q + 52. -/
structure Both (O : Nat → Nat) (q : Nat) (w : World) (p : Sp) (p2 : Rp2) (d : Sd) (r : Rd) (T : Nat) : Prop where
  s : SIs O q w p d
  rf : RIs O q w p2 r
  j : JT d r T
  g : ∀ i : Nat, i < r.n → goodM i r.nodes r.c
  v : ∃ qa qc, p2.qv = .slice qa r.q.length qc
  l : r.q.length ≤ 3518437208881
section
variable {O : Nat → Nat} {q : Nat} {w : World} {p : Sp} {p2 : Rp2} {d : Sd} {r : Rd} {T : Nat}
theorem RIs.keepR' {O' : Nat → Nat} {w' : World} {lo hi : Nat} (h : RIs O q w p2 r) (k : ChR lo hi O O' w w') (hx : q + 53 ≤ lo ∨ hi ≤ q + 50) : RIs O' q w' p2 r := by
  obtain ⟨v8, h8⟩ := h.row
  exact ⟨⟨v8, h8.keepR k (by omega)⟩, h.peers.keepR k (by omega), ⟨h.que.1.keepR k (by omega), h.que.2⟩, h.lim, h.tl⟩
theorem Both.keepR {O' : Nat → Nat} {w' : World} {lo hi : Nat} (h : Both O q w p p2 d r T) (k : ChR lo hi O O' w w') (hx : q + 53 ≤ lo ∨ hi ≤ q) : Both O' q w' p p2 d r T :=
  ⟨h.s.keepR k (by omega), h.rf.keepR' k (by omega), h.j, h.g, h.v, h.l⟩
/-- Behind the program's Tick. -/
def TkB (O : Nat → Nat) (q : Nat) (w : World) (p : Sp) (p2 : Rp2) (r : Rd) (T : Nat) (v : Value) (K : Nat) (w1 : World) : Prop := ∃ O1 d1, K = (msR r r.n).length ∧ SIs O1 q w1 p d1 ∧ JT d1 (r.tick r.n) (T + 1) ∧ RIs O1 q w1 p2 r ∧ Li O1 (q + 40) w1 108 22 v K (msF (msR r r.n)) ∧ ChR q (q + 41) O O1 w w1
theorem Both.tickP (h : Both O q w p p2 d r T) : Calls Tryz.prog 26 #[.pointer (some ⟨p.sb, 0, none⟩)] w fun e w1 => ∃ a K c, e = .returned (.slice a K c) ∧ Hid (TkB O q w p p2 r T (.slice a K c) K w1) := by
  cases hf : d.du with
  | none =>
    obtain ⟨hm, hj⟩ := h.j.idle hf
    exact (tick_none h.s hf).mono fun e w1 ⟨he, hw⟩ => by
      subst hw
      exact ⟨none, 0, 0, he, O, d, by rw [hm]; rfl, h.s, hj, h.rf, by rw [hm]; exact Li.nil _ _ _ _ _ _, ChR.refl⟩
  | some f =>
    obtain ⟨hm, hj⟩ := h.j.tick hf
    refine (tick_due h.s hf).mono fun e w1 ⟨a, c, he, O2, h1, h2, h3, h4⟩ => ?_
    rw [tkN_all] at he h1 h2 h3
    rw [hm] at he h2 h3
    exact ⟨a, _, c, he, O2, _, rfl, h1, hj, h.rf.keepR' h4 (by omega), h3, h4⟩
/-- Behind the document's Tick: the lists are the same. -/
def TkD (O : Nat → Nat) (q : Nat) (w : World) (p : Sp) (p2 : Rp2) (r : Rd) (T : Nat) (v : Value) (K : Nat) (a2 : Option Addr) (w2 : World) : Prop := ∃ O2 d1, K = (msR r r.n).length ∧ Both O2 q w2 p p2 d1 (r.tick r.n) (T + 1) ∧ Li O2 (q + 40) w2 108 22 v K (msF (msR r r.n)) ∧ MsAt w2 a2 (msR r r.n) ∧ ChR q (q + 54) O O2 w w2
theorem Both.tickD {w1 : World} {v : Value} {K : Nat} (h : Both O q w p p2 d r T) (hT : T < 5000) (k : TkB O q w p p2 r T v K w1) : Calls Tryz.prog 28 #[.pointer (some ⟨p2.rb, 0, none⟩)] w1 fun e w2 => ∃ a2 c2, e = .returned (.slice a2 K c2) ∧ Hid (TkD O q w p p2 r T v K a2 w2) := by
  obtain ⟨O1, d1, hK, h1, h2, h3, h4, h5⟩ := k
  refine (rtick_all h3 (fun i => by have := h.j.tk i; omega) h.g).mono fun e w2 ⟨a, cc, K2, he, hh⟩ => ?_
  obtain ⟨O2, e2, g1, g2, g3⟩ := hh.out
  obtain rfl : K2 = K := e2.trans hK.symm
  exact ⟨a, cc, he, O2, d1, hK, ⟨h1.keepR g3 (by omega), g1, h2, h.g, h.v, h.l⟩, h4.keepR g3 (by omega), ms_at g2 hK.symm (msR_s10 _ _), (h5.wide (Nat.le_refl _) (by omega)).trans (g3.wide (by omega) (Nat.le_refl _))⟩
/-- EqMsgs of the two. -/
theorem TkD.eq {w2 : World} {a a2 : Option Addr} {K c c2 : Nat} (k : TkD O q w p p2 r T (.slice a K c) K a2 w2) (h8 : r.n ≤ 8) : Calls Tryz.prog 27 #[.slice a K c, .slice a2 K c2] w2 fun e w3 => e = .returned (.bool true) ∧ Hid (∃ O3 d1, Both O3 q w3 p p2 d1 (r.tick r.n) (T + 1) ∧ ChR q (q + 54) O O3 w w3) := by
  obtain ⟨O2, d1, hK, h1, h2, h3, h4⟩ := k
  have hl := msR_len r r.n
  refine (eqMsgs_same (ms_at h2 hK.symm (msR_s10 _ _)) h3 c c2 K hK.symm (by omega) fun m hm => by rw [msR_s10 _ _ m hm]; exact Nat.zero_le _).mono fun e w3 ⟨he, hs⟩ => ?_
  have kk : ChR (q + 54) (q + 54) O2 O2 w2 w3 := ChR.since hs
  exact ⟨he, O2, d1, h1.keepR kk (by omega), h4.trans (kk.wide (by omega) (Nat.le_refl _))⟩
/-- Stop on both. -/
theorem Both.stopP (h : Both O q w p p2 d r T) : Calls Tryz.prog 24 #[.pointer (some ⟨p.sb, 0, none⟩)] w fun e w1 => e = .returned (.tuple #[]) ∧ Hid (SIs O q w1 p { d with du := none } ∧ RIs O q w1 p2 r ∧ ChR q (q + 54) O O w w1) :=
  (pstop_any h.s).mono fun e w1 ⟨he, hh⟩ => by
    obtain ⟨h1, h2⟩ := hh.out
    exact ⟨he, h1, h.rf.keepR' h2 (by omega), h2.wide (Nat.le_refl _) (by omega)⟩
theorem Both.stopD {w1 : World} (h : Both O q w p p2 d r T) (h1 : SIs O q w1 p { d with du := none }) (h2 : RIs O q w1 p2 r) (h3 : ChR q (q + 54) O O w w1) : Calls Tryz.prog 25 #[.pointer (some ⟨p2.rb, 0, none⟩)] w1 fun e w2 => e = .returned (.tuple #[]) ∧ Hid (Both O q w2 p { p2 with qv := .slice none 0 0 } { d with du := none } (r.stop r.n) T ∧ ChR q (q + 54) O O w w2) :=
  (rstop_any h2).mono fun e w2 ⟨he, hh⟩ => by
    obtain ⟨g1, g2⟩ := hh.out
    exact ⟨he, ⟨h1.keepR g2 (by omega), g1, h.j.stop, h.g, ⟨none, 0, rfl⟩, Nat.zero_le _⟩, h3.trans (g2.wide (by omega) (by omega))⟩
/-- Wants on both. -/
theorem Both.wantsP (h : Both O q w p p2 d r T) (peer : Int) (num : Nat) : Calls Tryz.prog 30 #[.pointer (some ⟨p.sb, 0, none⟩), .int .i64 peer, .int .u64 (num : Nat)] w fun e w' => e = .returned (.bool (wantsR r peer num)) ∧ w = w' := by
  rw [← h.j.wants]
  exact wants_any h.s peer num
theorem Both.wantsD (h : Both O q w p p2 d r T) (peer : Int) (num : Nat) : Calls Tryz.prog 31 #[.pointer (some ⟨p2.rb, 0, none⟩), .int .i64 peer, .int .u64 (num : Nat)] w fun e w' => e = .returned (.bool (wantsR r peer num)) ∧ w = w' := by
  obtain ⟨qa, qc, hv⟩ := h.v
  have := h.l
  exact rwants_any h.rf hv (by omega) peer num
end
end Go.Proofs.YtdhhjdacidhmjaaGreat

/- Package settle: the law's Play, and its steps but for Look. -/
namespace Go.Proofs.YtdhhjdacidhmjaaGreat
open Go.RowKit
set_option maxRecDepth 100000
set_option maxRecDepth 100000
/-- What a Play holds. -/
structure Pk where
  p : Sp
  p2 : Rp2
  d : Sd
  r : Rd
  T : Nat
  tu : Nat
  aa : Option Addr
  an : Nat
  ac : Nat
def plF (x : Pk) (bk : Nat) (mk : Bool) (i : Nat) : Value := if i = 0 then .pointer (some ⟨x.p.sb, 0, none⟩) else if i = 1 then .pointer (some ⟨x.p2.rb, 0, none⟩) else if i = 2 then .pointer (some ⟨bk, 0, none⟩) else if i = 3 then .bool mk else if i = 4 then .slice x.aa x.an x.ac else .int .i64 (x.tu : Nat)
/-- A Play in memory: colours Q to Q + 61. -/
structure PlIs (O : Nat → Nat) (Q : Nat) (w : World) (tb bk : Nat) (mk : Bool) (x : Pk) : Prop where
  row : RowC O (Q + 60) w tb 60 6 (plF x bk mk)
  both : Both O Q w x.p x.p2 x.d x.r x.T
  at' : Qu O (Q + 61) w (.slice x.aa 0 x.ac) []
def PlE (O : Nat → Nat) (Q : Nat) (w : World) (tb bk : Nat) (mk : Bool) (x : Pk) (w' : World) : Prop := ∃ O' y, PlIs O' Q w' tb bk mk y ∧ ChR Q (Q + 62) O O' w w' ∧ y.T ≤ x.T + 1 ∧ y.tu ≤ x.tu + 1
section
variable {O : Nat → Nat} {Q : Nat} {w : World} {tb bk : Nat} {mk : Bool} {x : Pk}
theorem PlIs.keepR {O' : Nat → Nat} {w' : World} {lo hi : Nat} (h : PlIs O Q w tb bk mk x) (k : ChR lo hi O O' w w') (hx : Q + 62 ≤ lo ∨ hi ≤ Q) : PlIs O' Q w' tb bk mk x :=
  ⟨h.row.keepR k (by omega), h.both.keepR k (by omega), ⟨h.at'.1.keepR k (by omega), h.at'.2⟩⟩
theorem PlIs.since {w' : World} (h : PlIs O Q w tb bk mk x) (s : w.Since w.heap.size w') : PlIs O Q w' tb bk mk x := h.keepR (lo := Q + 62) (hi := Q + 62) (ChR.since s) (.inl (Nat.le_refl _))
theorem PlIs.cells (h : PlIs O Q w tb bk mk x) : w.cell? ⟨tb, 0, none⟩ = some (.pointer (some ⟨x.p.sb, 0, none⟩)) ∧ w.cell? ⟨tb, 1, none⟩ = some (.pointer (some ⟨x.p2.rb, 0, none⟩)) ∧ w.cell? ⟨tb, 2, none⟩ = some (.pointer (some ⟨bk, 0, none⟩)) ∧ w.cell? ⟨tb, 3, none⟩ = some (.bool mk) ∧ w.cell? ⟨tb, 4, none⟩ = some (.slice x.aa x.an x.ac) ∧ w.cell? ⟨tb, 5, none⟩ = some (.int .i64 (x.tu : Nat)) :=
  ⟨h.row.1.cell (i := 0) (by decide), h.row.1.cell (i := 1) (by decide), h.row.1.cell (i := 2) (by decide), h.row.1.cell (i := 3) (by decide), h.row.1.cell (i := 4) (by decide), h.row.1.cell (i := 5) (by decide)⟩
/-- What a step of the two leaves of the Play's own. -/
theorem PlIs.step {O' : Nat → Nat} {w' : World} {d : Sd} {r : Rd} {T : Nat} {p2 : Rp2} (h : PlIs O Q w tb bk mk x) (hb : Both O' Q w' x.p p2 d r T) (hp : p2.rb = x.p2.rb) (k : ChR Q (Q + 54) O O' w w') : PlIs O' Q w' tb bk mk { x with p2 := p2, d := d, r := r, T := T } :=
  ⟨by
    have := h.row.keepR k (by omega)
    unfold plF at this ⊢
    rw [hp]
    exact this, hb, ⟨h.at'.1.keepR k (by omega), h.at'.2⟩⟩
end
set_option maxHeartbeats 2000000 in
theorem plays_stop {O : Nat → Nat} {Q : Nat} {w : World} {tb bk : Nat} {mk : Bool} {x : Pk} (h : PlIs O Q w tb bk mk x) (wh peer : Int) (qv : Value) (num : Nat) :
    Calls Tryz.prog 10 #[.pointer (some ⟨tb, 0, none⟩), .agg #[.int .i64 2, .int .i64 wh, qv, .int .i64 peer, .int .u64 (num : Nat)]] w fun e w' => e = .returned (.bool true) ∧ Hid (PlE O Q w tb bk mk x w') := by
  obtain ⟨W1, HW1⟩ : ∃ W, Hid (w.alloc (.cells #[.int .i64 2, .int .i64 wh, qv, .int .i64 peer, .int .u64 (num : Nat)] 62) = W) := ⟨_, rfl⟩
  obtain ⟨ob, HOB⟩ : ∃ y, Hid (w.heap.size = y) := ⟨_, rfl⟩
  have s1 : w.Since w.heap.size W1 := by rw [← HW1.out]; exact (World.Since.refl _ _).alloc (Nat.le_refl _) _
  have o0 : W1.cell? ⟨ob, 0, none⟩ = some (.int .i64 2) := by rw [← HW1.out, ← HOB.out]; exact (World.cell?_alloc_at (w := w) _ _ _ 0 rfl).trans rfl
  have h1 := h.since s1
  obtain ⟨c0, c1, -, -, -, -⟩ := h1.cells
  have HST : Hid (Calls Tryz.prog 24 #[.pointer (some ⟨x.p.sb, 0, none⟩)] W1 fun e w2 => e = .returned (.tuple #[]) ∧ w2.cell? ⟨tb, 1, none⟩ = some (.pointer (some ⟨x.p2.rb, 0, none⟩)) ∧ Hid (Calls Tryz.prog 25 #[.pointer (some ⟨x.p2.rb, 0, none⟩)] w2 fun e w3 => e = .returned (.tuple #[]) ∧ Hid (PlE O Q w tb bk mk x w3))) :=
    h1.both.stopP.mono fun e w2 ⟨he, hh⟩ => by
      obtain ⟨g1, g2, g3⟩ := hh.out
      refine ⟨he, (h1.row.keepR g3 (by omega)).1.cell (i := 1) (by decide), (h1.both.stopD g1 g2 g3).mono fun e w3 ⟨he, hh⟩ => ?_⟩
      obtain ⟨k1, k2⟩ := hh.out
      exact ⟨he, O, _, h1.step k1 rfl k2, (ChR.since s1).trans (k2.wide (Nat.le_refl _) (by omega)), Nat.le_succ _, Nat.le_succ _⟩
  obtain ⟨pb, hpb⟩ : ∃ y, x.p.sb = y := ⟨_, rfl⟩
  obtain ⟨rb, hrb⟩ : ∃ y, x.p2.rb = y := ⟨_, rfl⟩
  rw [hpb, hrb] at *
  clear h h1 s1 hpb hrb
  go_enter Tryz.func10, Tryz.ntmps10
  go_upto_region 1 with fail
  rw [HW1.out, HOB.out]
  clear HW1 HOB
  go_wp2_with (first
    | (go_at_call 24; refine HST.out.mono ?_; rintro e w2 ⟨rfl, c1', HD⟩)
    | (go_at_call 25; refine HD.out.mono ?_; rintro e w3 ⟨rfl, HE⟩))
  go_ret
  exact ⟨rfl, HE⟩
set_option maxHeartbeats 2000000 in
theorem plays_tick {O : Nat → Nat} {Q : Nat} {w : World} {tb bk : Nat} {x : Pk} (h : PlIs O Q w tb bk false x) (hT : x.T < 5000) (wh peer : Int) (qv : Value) (num : Nat) :
    Calls Tryz.prog 10 #[.pointer (some ⟨tb, 0, none⟩), .agg #[.int .i64 3, .int .i64 wh, qv, .int .i64 peer, .int .u64 (num : Nat)]] w fun e w' => e = .returned (.bool true) ∧ Hid (PlE O Q w tb bk false x w') := by
  obtain ⟨W1, HW1⟩ : ∃ W, Hid (w.alloc (.cells #[.int .i64 3, .int .i64 wh, qv, .int .i64 peer, .int .u64 (num : Nat)] 62) = W) := ⟨_, rfl⟩
  obtain ⟨ob, HOB⟩ : ∃ y, Hid (w.heap.size = y) := ⟨_, rfl⟩
  have s1 : w.Since w.heap.size W1 := by rw [← HW1.out]; exact (World.Since.refl _ _).alloc (Nat.le_refl _) _
  have o0 : W1.cell? ⟨ob, 0, none⟩ = some (.int .i64 3) := by rw [← HW1.out, ← HOB.out]; exact (World.cell?_alloc_at (w := w) _ _ _ 0 rfl).trans rfl
  have h1 := h.since s1
  obtain ⟨c0, c1, -, -, -, -⟩ := h1.cells
  have HTK : Hid (Calls Tryz.prog 26 #[.pointer (some ⟨x.p.sb, 0, none⟩)] W1 fun e w2 => ∃ a K c, e = .returned (.slice a K c) ∧ w2.cell? ⟨tb, 1, none⟩ = some (.pointer (some ⟨x.p2.rb, 0, none⟩)) ∧ Hid (Calls Tryz.prog 28 #[.pointer (some ⟨x.p2.rb, 0, none⟩)] w2 fun e w3 => ∃ a2 c2, e = .returned (.slice a2 K c2) ∧
      Hid (Calls Tryz.prog 27 #[.slice a K c, .slice a2 K c2] w3 fun e w4 => e = .returned (.bool true) ∧ w4.cell? ⟨tb, 3, none⟩ = some (.bool false) ∧ Hid (PlE O Q w tb bk false x w4)))) :=
    h1.both.tickP.mono fun e w2 ⟨a, K, c, he, hh⟩ => by
      have g := hh.out
      refine ⟨a, K, c, he, ?_, (h1.both.tickD hT g).mono fun e w3 ⟨a2, c2, he, hh⟩ => ⟨a2, c2, he, ?_⟩⟩
      · obtain ⟨_, _, _, _, _, _, _, g3⟩ := g
        exact (h1.row.keepR g3 (by omega)).1.cell (i := 1) (by decide)
      · have h8 := h1.both.rf.lim.2.1
        refine (TkD.eq hh.out h8).mono fun e w4 ⟨he, hh⟩ => ?_
        obtain ⟨O3, d1, k1, k2⟩ := hh.out
        exact ⟨he, (h1.row.keepR k2 (by omega)).1.cell (i := 3) (by decide), O3, _, h1.step k1 rfl k2, (ChR.since s1).trans (k2.wide (Nat.le_refl _) (by omega)), Nat.le_refl _, Nat.le_succ _⟩
  obtain ⟨pb, hpb⟩ : ∃ y, x.p.sb = y := ⟨_, rfl⟩
  obtain ⟨rb, hrb⟩ : ∃ y, x.p2.rb = y := ⟨_, rfl⟩
  rw [hpb, hrb] at *
  clear h h1 s1 hpb hrb
  go_enter Tryz.func10, Tryz.ntmps10
  go_upto_region 1 with fail
  rw [HW1.out, HOB.out]
  clear HW1 HOB
  go_wp2_with (first
    | (go_at_call 26; refine HTK.out.mono ?_; rintro e w2 ⟨a, K, c, rfl, c1', HD⟩)
    | (go_at_call 28; refine HD.out.mono ?_; rintro e w3 ⟨a2, c2, rfl, HQ⟩)
    | (go_at_call 27; refine HQ.out.mono ?_; rintro e w4 ⟨rfl, c3', HE⟩))
  go_ret
  exact ⟨rfl, HE⟩
end Go.Proofs.YtdhhjdacidhmjaaGreat
