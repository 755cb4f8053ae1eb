/- The walks of Book.tight and Book.Ints. -/
import Derived.Test.YtbebnjeamlmclaaGreatIB2
import Derived.Test.YtbebnjeamlmclaaGreatPlaneKit
import Derived.Test.YtbebnjeamlmclaaGreatSpread4
namespace Go.Proofs.YtbebnjeamlmclaaGreat
open Go.RowKit
set_option maxRecDepth 100000

theorem rep_set {y : Value} {xs : List Value} {i : Nat} (h : i < xs.length) : (List.replicate i y ++ xs.drop i).set i y = List.replicate (i + 1) y ++ xs.drop (i + 1) := by
  apply List.ext_getElem?
  intro j
  rw [List.getElem?_set]
  by_cases e : i = j
  · subst e
    simp [List.getElem?_append]
    omega
  · rw [if_neg e]
    simp only [List.getElem?_append, List.length_replicate, List.getElem?_replicate, List.getElem?_drop]
    by_cases e2 : j < i
    · simp [e2, Nat.lt_succ_of_lt e2]
    · have e3 : ¬ j < i + 1 := by omega
      simp [e2, e3]
      congr 1
      omega

set_option maxRecDepth 100000 in
theorem tight_any (bk used k : Nat) (f : Nat → Value) (w : World) (h : w.rowIs bk 52 39 f) (hf : f 38 = .int .i64 (used : Nat)) (hu : used ≤ 16777216) (hk : k ≤ 4611686018427387904) :
    Calls Tryz.prog 54 #[.pointer (some ⟨bk, 0, none⟩), .int .i64 k] w fun e w' => (16777216 < used + k ∧ e = .returned (.bool true) ∧ w' = w) ∨ (used + k ≤ 16777216 ∧ e = .returned (.bool false) ∧ w' = w.setCell ⟨bk, 38, none⟩ (.int .i64 ((used + k : Nat) : Int))) := by
  have c := h.cell (i := 38) (by decide)
  rw [hf] at c
  have fz := h.frozen 38
  obtain ⟨s, hs, hs2⟩ : ∃ s : Nat, (used : Int) + (k : Int) = (s : Int) ∧ s = used + k := ⟨used + k, by omega, rfl⟩
  have hw : IntKind.i64.wrap (s : Int) = (s : Int) := by rw [IntKind.wrap_i64]; omega
  rw [← hs2]
  by_cases hg : 16777216 < s
  · have hgz : (16777216 : Int) < (s : Int) := by omega
    clear hs2
    go_enter Tryz.func54, Tryz.ntmps54
    go_wp2_with fail
    go_ret
    exact Or.inl ⟨hg, rfl, rfl⟩
  · have hgz : ¬ ((16777216 : Int) < (s : Int)) := by omega
    clear hs2
    go_enter Tryz.func54, Tryz.ntmps54
    go_wp2_with fail
    go_ret
    exact ⟨by omega, rfl, rfl⟩
theorem intsMark_any (m : Nat) (hm : m ≤ 1000000000) (w : World) : Calls Tryz.prog 53 #[.int .i64 m] w fun e w' => e = .returned (mkI m) ∧ w' = w := by
  unfold mkI
  obtain ⟨s, hs, hs2⟩ : ∃ s : Nat, (1000 : Int) + (m : Int) = (s : Int) ∧ s = 1000 + m := ⟨1000 + m, by omega, rfl⟩
  have hw : IntKind.i64.wrap (s : Int) = (s : Int) := by rw [IntKind.wrap_i64]; omega
  rw [← hs2]
  clear hs2
  go_enter Tryz.func53, Tryz.ntmps53
  go_wp2_with fail
  go_ret
  exact ⟨rfl, rfl⟩

/-- What lies elsewhere than in g is as it was. -/
structure But (g : Nat) (w w' : World) : Prop where
  os : w'.os = w.os
  tape : w'.tape = w.tape
  output : w'.output = w.output
  size : w.heap.size ≤ w'.heap.size
  block : ∀ k, k < w.heap.size → k ≠ g → w'.heap[k]? = w.heap[k]?
theorem But.refl (g : Nat) (w : World) : But g w w := ⟨rfl, rfl, rfl, Nat.le_refl _, fun _ _ _ => rfl⟩
theorem But.setCell {g : Nat} {w w' : World} (h : But g w w') (i : Nat) (v : Value) : But g w (w'.setCell ⟨g, i, none⟩ v) :=
  ⟨h.os, h.tape, h.output, by simpa [World.setCell] using h.size, fun k hk hn => (Below.heap_setCell _ _ _ _ hn).trans (h.block k hk hn)⟩

set_option maxHeartbeats 3200000 in
set_option maxRecDepth 100000 in
theorem bookInts {w : World} {B bk n : Nat} {A : Nat → Option Addr} {ln C M : Nat → Nat} {bv ov : Value} {at' turn done used : Nat} (h : IBook w B bk n at' n A ln C M bv ov at' turn done used) (hB : B ≤ w.heap.size) (a : Option Addr) (len cap : Nat) (xs : List Value) (hl : w.ownsRow B 3 1 (.slice a len cap) len xs) (hfree : ∀ ad, a = some ad → ¬ BF bk n A bv ov ad.block)
    (hat : at' ≤ n) (hturn : turn ≤ 900000000) (hlen : len ≤ 1048576) (hU : n * 1000 + (n - at') * 5000 ≤ used) (hu : used ≤ 16777216) (hb1 : ∀ i, i < n → ln i ≤ 1048608) (hb2 : ∀ i, at' ≤ i → i < n → ln i ≤ 1048576) :
    Calls Tryz.prog 31 #[.pointer (some ⟨bk, 0, none⟩), .slice a len cap] w fun e w' => e = .returned (.tuple #[]) ∧ ∃ n' A' ln' C' M' bv' ov' used', IBook w' B bk n' at' n' A' ln' C' M' bv' ov' at' (turn + 1) done used' ∧ at' ≤ n' ∧ n' * 1000 + (n' - at') * 5000 ≤ used' ∧ used' ≤ 16777216 ∧ (∀ i, i < n' → ln' i ≤ 1048608) ∧ (∀ i, at' ≤ i → i < n' → ln' i ≤ 1048576) ∧ Mv (fun k => BF bk n A bv ov k ∨ ∃ ad, a = some ad ∧ ad.block = k) (BF bk n' A' bv' ov') w w' := by
  obtain ⟨g, hg, hgF, hgN⟩ : ∃ g, (∀ ad, a = some ad → ad = ⟨g, 0, none⟩) ∧ (∀ k, BF bk n A bv ov k → k ≠ g) ∧ (a = none → w.heap.size ≤ g) := by
    rcases hl.2 with ⟨e, _⟩ | ⟨g, c, cur, e, _⟩
    · exact ⟨w.heap.size, (fun ad he => by rw [he] at e; cases e), (fun k hk => by have := h.ge k hk; omega), fun _ => Nat.le_refl _⟩
    · exact ⟨g, (fun ad he => by rw [he] at e; cases e; rfl), (fun k hk e2 => by cases e; exact hfree _ rfl (e2 ▸ hk)), fun e2 => by rw [e2] at e; cases e⟩
  have hlg : 0 < len → a = some ⟨g, 0, none⟩ := fun hp => by
    rcases hl.2 with ⟨_, e⟩ | ⟨g', c, cur, e, _⟩
    · omega
    · cases e; rw [hg _ rfl]
  have hxl : xs.length = len := by have := hl.1; omega
  obtain ⟨h1, mv1⟩ := h.setNum (at2 := at') (turn2 := turn + 1) (done2 := done) (used2 := used) 36 (.int .i64 ((turn + 1 : Nat) : Int)) (by omega) (fun i hi => by
    unfold ibCell
    by_cases e : i = 36
    · subst e; rfl
    · rw [if_neg e, if_neg e, if_neg e])
  have c36 := h.row.cell (i := 36) (by decide)
  have f36 := h.row.frozen 36
  replace c36 : w.cell? ⟨bk, 36, none⟩ = some (.int .i64 (turn : Nat)) := c36
  have d36 : (w.setCell ⟨bk, 36, none⟩ (.int .i64 ((turn + 1 : Nat) : Int))).cell? ⟨bk, 36, none⟩ = some (.int .i64 ((turn + 1 : Nat) : Int)) := h1.row.cell (i := 36) (by decide)
  have hl1 : (w.setCell ⟨bk, 36, none⟩ (.int .i64 ((turn + 1 : Nat) : Int))).ownsRow B 3 1 (.slice a len cap) len xs := own_block hl (fun k e => by
    match a, e, hfree with
    | some ad, e, hfree =>
      have e' : ad.block = k := by simpa [Value.ownBlock] using e
      exact mv1.block k (hl.lt k e).2 (e' ▸ hfree ad rfl)
    | none, e, _ => simp [Value.ownBlock] at e)
  obtain ⟨m, hm, hm2⟩ : ∃ m : Nat, (turn : Int) + 1 = (m : Int) ∧ turn + 1 = m := ⟨turn + 1, by omega, rfl⟩
  have hwm : IntKind.i64.wrap (m : Int) = (m : Int) := by rw [IntKind.wrap_i64]; omega
  rw [hm2] at h1 mv1 d36 hl1
  have hB1 : B ≤ (w.setCell ⟨bk, 36, none⟩ (.int .i64 (m : Int))).heap.size := by simpa [World.setCell] using hB
  have hmm : m ≤ 1000000000 := by omega
  have hz1 : (w.setCell ⟨bk, 36, none⟩ (.int .i64 (m : Int))).heap.size = w.heap.size := by simp [World.setCell]
  have HM := hide hm2
  have HZ := hide hz1
  clear hm2 hz1
  obtain ⟨z, hz0⟩ : ∃ z : Int, z = ((1000 + m : Nat) : Int) := ⟨_, rfl⟩
  have HMK : Hid (mkI m = .int .i64 z) := by rw [hz0]; rfl
  clear hz0
  have him : ∀ W, _ := fun W => intsMark_any m hmm W
  rw [unhide HMK] at him
  go_enter Tryz.func31, Tryz.ntmps31
  go_upto_region 2 with fail
  generalize w.setCell ⟨bk, 36, none⟩ (.int .i64 (m : Int)) = w1 at *
  clear d36 c36 f36
  go_wp2_with fail
  refine (him _).mono ?_
  rintro e w1' ⟨rfl, rfl⟩
  clear him
  go_wp2_with fail
  go_loopg [6] len (fun q s5 wx => ∃ i : Nat, i ≤ len ∧ q = len - i ∧ s5 = .int .i64 i ∧ wx.ownsRow B 3 1 (.slice a len cap) len (List.replicate i (.int .i64 z) ++ xs.drop i) ∧ But g w1' wx)
  case atStart => exact ⟨0, Nat.zero_le _, rfl, rfl, by simpa using hl1, But.refl _ _⟩
  case round =>
    obtain ⟨i, hi, rfl, rfl, hlo, hbt⟩ := hrel
    clear hl1
    by_cases hlt : i < len
    · have ha := hlg (by omega)
      subst ha
      have hz : (i : Int) < (len : Int) := by omega
      obtain ⟨y, hy⟩ : ∃ y, (List.replicate i (.int .i64 z) ++ xs.drop i)[i]? = some y := ⟨xs[i]'(by omega), by simp [List.getElem?_append, hxl, hlt]⟩
      have cc := World.ownsRow.cellAt hlo i (by omega)
      rw [hy] at cc
      have ff := World.ownsRow.frozenAt hlo i
      have hst := (World.ownsRow.stored hlo i (.int .i64 z)).1
      rw [rep_set (by omega)] at hst
      have hbt2 := hbt.setCell i (.int .i64 z)
      clear hlo hy
      go_wp2_with fail
      go_roundg (len - (i + 1))
      case measure => go_light; omega
      case rel => go_light; exact ⟨i + 1, by omega, rfl, by simp, hst, hbt2⟩
    · obtain rfl : i = len := by omega
      have hlm : wr.ownsRow B 3 1 (.slice a i cap) i (List.replicate i (mkI m)) := by
        have e : xs.drop i = [] := List.drop_eq_nil_of_le (by omega)
        rw [e, List.append_nil, ← unhide HMK] at hlo
        exact hlo
      have h2 := h1.later hbt.size (fun k hf => hbt.block k (h1.ge k hf).2 (hgF k hf))
      have hz : ¬ ((i : Int) < (i : Int)) := by omega
      obtain ⟨s, hs, hs2⟩ : ∃ s : Nat, (300 : Int) * (i : Int) = (s : Int) ∧ s = 300 * i := ⟨300 * i, by omega, rfl⟩
      have hws : IntKind.i64.wrap (s : Int) = (s : Int) := by rw [IntKind.wrap_i64]; omega
      obtain ⟨K, hK, hK2⟩ : ∃ K : Nat, (8000 : Int) + (s : Int) = (K : Int) ∧ K = 8000 + s := ⟨8000 + s, by omega, rfl⟩
      have hwK : IntKind.i64.wrap (K : Int) = (K : Int) := by rw [IntKind.wrap_i64]; omega
      have htt := tight_any bk used K _ wr h2.row rfl hu (by omega)
      have mv2 : Mv (fun k => BF bk n A bv ov k ∨ ∃ ad, a = some ad ∧ ad.block = k) (fun k => BF bk n A bv ov k ∨ ∃ ad, a = some ad ∧ ad.block = k) w wr := by
        have q1 : Mv (fun k => BF bk n A bv ov k ∨ ∃ ad, a = some ad ∧ ad.block = k) (fun k => BF bk n A bv ov k ∨ ∃ ad, a = some ad ∧ ad.block = k) w w1' := ⟨mv1.os, mv1.tape, mv1.output, mv1.size, fun k hk hn => mv1.block k hk (fun hf => hn (Or.inl hf)), fun k hf => Or.inl hf⟩
        refine q1.trans ⟨hbt.os, hbt.tape, hbt.output, hbt.size, fun k hk hn => hbt.block k hk (fun e => ?_), fun k hf => Or.inl hf⟩
        have hz1 := unhide HZ
        rcases hca : a with _ | ad
        · have := hgN hca
          omega
        · exact hn (Or.inr ⟨ad, hca, by rw [hg ad hca]; exact e.symm⟩)
      have hK3 : 8000 ≤ K := by omega
      clear hs2 hK2
      go_wp2_with fail
      refine htt.mono ?_
      rintro e w4 (⟨hov, rfl, rfl⟩ | ⟨hle, rfl, rfl⟩)
      · go_wp2_with fail
        try simp only [Exit.inBlock, Exit.then]
        refine bodyPost_ret (results_none rfl _ _ _) rfl ?_
        refine ⟨rfl, n, A, ln, C, M, bv, ov, used, ?_, hat, hU, hu, hb1, hb2, ⟨mv2.os, mv2.tape, mv2.output, mv2.size, mv2.block, fun k hf => Or.inl (Or.inl hf)⟩⟩
        rw [unhide HM]; exact h2
      · obtain ⟨h3, mv3⟩ := h2.setNum (at2 := at') (turn2 := m) (done2 := done) (used2 := used + K) 38 (.int .i64 ((used + K : Nat) : Int)) (Nat.le_refl _) (fun i hi => by
          unfold ibCell
          by_cases e : i = 38
          · subst e; rfl
          · rw [if_neg e, if_neg e, if_neg e])
        have hl3 : (wr.setCell ⟨bk, 38, none⟩ (.int .i64 ((used + K : Nat) : Int))).ownsRow B 3 1 (.slice a i cap) i (List.replicate i (mkI m)) := own_block hlm (fun k e => by
          match a, e, hfree with
          | some ad, e, hfree =>
            have e' : ad.block = k := by simpa [Value.ownBlock] using e
            exact mv3.block k (hlm.lt k e).2 (e' ▸ hfree ad rfl)
          | none, e, _ => simp [Value.ownBlock] at e)
        have hz3 : (wr.setCell ⟨bk, 38, none⟩ (.int .i64 ((used + K : Nat) : Int))).heap.size = wr.heap.size := by simp [World.setCell]
        have hB3 : B ≤ (wr.setCell ⟨bk, 38, none⟩ (.int .i64 ((used + K : Nat) : Int))).heap.size := by have := hbt.size; omega
        have mv4 : Mv (fun k => BF bk n A bv ov k ∨ ∃ ad, a = some ad ∧ ad.block = k) (fun k => BF bk n A bv ov k ∨ ∃ ad, a = some ad ∧ ad.block = k) w (wr.setCell ⟨bk, 38, none⟩ (.int .i64 ((used + K : Nat) : Int))) := mv2.trans ⟨mv3.os, mv3.tape, mv3.output, mv3.size, fun k hk hn => mv3.block k hk (fun hf => hn (Or.inl hf)), fun k hf => Or.inl hf⟩
        generalize wr.setCell ⟨bk, 38, none⟩ (.int .i64 ((used + K : Nat) : Int)) = w5 at *
        have hbt3 : ∀ j, j < i → ∃ b, a = some ⟨b, 0, none⟩ ∧ w5.cell? ⟨b, j, none⟩ = some (mkI m) := fun j hj => by
          have ea := hlg (by omega)
          subst ea
          exact ⟨g, rfl, by rw [World.ownsRow.cellAt hl3 j (by omega)]; simp [hj]⟩
        have hnF : ∀ ad, a = some ad → ad.block ≠ bk ∧ bv.ownBlock ≠ some ad.block ∧ ov.ownBlock ≠ some ad.block ∧ ∀ j a', j < n → A j = some a' → ad.block ≠ a'.block := fun ad he => ⟨fun e => hfree ad he (Or.inl e), fun e => hfree ad he (Or.inr (Or.inl e)), fun e => hfree ad he (Or.inr (Or.inr (Or.inl e))), fun j a' hj hA e => hfree ad he (Or.inr (Or.inr (Or.inr ⟨j, a', hj, hA, e.symm⟩)))⟩
        obtain ⟨ba, bc, w6, oa, oc, w9, hr1, p0, p1, p2, p3, hr2, p4, p5, hfin, mvf, _⟩ := h3.push hB3 a i cap m (n + 1) (by omega) hbt3 (Nat.le_refl _) (fun ad he => ⟨(hl3.lt _ (by rw [he]; rfl)).1, (hl3.lt _ (by rw [he]; rfl)).2, (hnF ad he).1, (hnF ad he).2.1, (hnF ad he).2.2.1⟩) (Nat.le_refl _) (fun j hj => by omega) (fun _ => hl3) (fun _ j ad a' hj he hA => (hnF ad he).2.2.2 j a' hj hA) (fun j ad a' _ _ hj he hA e => (hnF ad he).2.2.2 j a' hj hA e.symm)
        have H1 := hide hr1
        have H2 := hide hr2
        have mvA := mv4.trans mvf
        clear hr1 hr2 h3 mv3 hl3 hbt3 hnF mvf h1 h2 mv1 mv2 mv4 hlo hbt hlm hz3 hB3
        go_wp2_with (first
          | (at_builtin; refine wpList_apps rfl _ _ 24 rfl _ _ _ (by rfl) (by rfl) (unhide H1) ?_)
          | (at_builtin; refine wpList_apps rfl _ _ 31 rfl _ _ _ (by rfl) (by rfl) (unhide H2) ?_))
        go_end0
        refine ⟨rfl, n + 1, put A n a, put ln n i, put C n cap, put M n m, _, _, used + K, ?_, by omega, by omega, hle, fun j hj => ?_, fun j h1 hj => ?_, mvA⟩
        · rw [unhide HM]; exact hfin
        · by_cases e : j = n
          · subst e; rw [put_at]; omega
          · rw [put_ne _ _ _ e]; exact hb1 j (by omega)
        · by_cases e : j = n
          · subst e; rw [put_at]; omega
          · rw [put_ne _ _ _ e]; exact hb2 j h1 (by omega)
end Go.Proofs.YtbebnjeamlmclaaGreat
