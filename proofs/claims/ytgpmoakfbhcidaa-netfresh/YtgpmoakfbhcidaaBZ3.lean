/- The walks of Book.tight and Book.Bytes. -/
import Derived.Test.YtgpmoakfbhcidaaBZ2
namespace Go.Proofs.Ytgpmoakfbhcidaa
open Go.RowKit
set_option maxRecDepth 100000

set_option maxRecDepth 100000 in
theorem tight_any (bk used k : Nat) (f : Nat → Value) (w : World) (h : w.rowIs bk 44 39 f) (hf : f 38 = .int .i64 (used : Nat)) (hu : used ≤ 16777216) (hk : k ≤ 4611686018427387904) :
    Calls Try.prog 80 #[.pointer (some ⟨bk, 0, none⟩), .int .i64 k] w fun e w' => (16777216 < used + k ∧ e = .returned (.bool true) ∧ w' = w) ∨ (used + k ≤ 16777216 ∧ e = .returned (.bool false) ∧ w' = w.setCell ⟨bk, 38, none⟩ (.int .i64 ((used + k : Nat) : Int))) := by
  have c := h.cell (i := 38) (by decide)
  rw [hf] at c
  have fz := h.frozen 38
  obtain ⟨s, hs, hs2⟩ : ∃ s : Nat, (used : Int) + (k : Int) = (s : Int) ∧ s = used + k := ⟨used + k, by omega, rfl⟩
  have hw : IntKind.i64.wrap (s : Int) = (s : Int) := by rw [IntKind.wrap_i64]; omega
  rw [← hs2]
  by_cases hg : 16777216 < s
  · have hgz : (16777216 : Int) < (s : Int) := by omega
    clear hs2
    go_enter Try.func80, Try.ntmps80
    go_wp2_with fail
    go_ret
    exact Or.inl ⟨hg, rfl, rfl⟩
  · have hgz : ¬ ((16777216 : Int) < (s : Int)) := by omega
    clear hs2
    go_enter Try.func80, Try.ntmps80
    go_wp2_with fail
    go_ret
    exact ⟨by omega, rfl, rfl⟩

set_option maxHeartbeats 3200000 in
set_option maxRecDepth 100000 in
theorem bookBytes {w : World} {B bk n : Nat} {A : Nat → Option Addr} {ln C M : Nat → Nat} {bv ov : Value} {at' turn done used : Nat} (h : BookIs w B bk n at' n A ln C M bv ov at' turn done used) (hB : B ≤ w.heap.size) (a : Option Addr) (len cap : Nat) (x : Nat → Nat) (hl : OwnZ w B (.slice a len cap) len x) (hfree : ∀ ad, a = some ad → ¬ BF bk n A bv ov ad.block)
    (hat : at' ≤ n) (hturn : turn ≤ 900000000) (hlen : len ≤ 140737488351232) (hU : n * 120 + (n - at') * 1080 ≤ used) (hu : used ≤ 16777216) (hb1 : ∀ i, i < n → ln i ≤ 1099511627872) (hb2 : ∀ i, at' ≤ i → i < n → ln i ≤ 1099511627776) :
    Calls Try.prog 52 #[.pointer (some ⟨bk, 0, none⟩), .slice a len cap] w fun e w' => e = .returned (.tuple #[]) ∧ ∃ n' A' ln' C' M' bv' ov' used', BookIs w' B bk n' at' n' A' ln' C' M' bv' ov' at' (turn + 1) done used' ∧ at' ≤ n' ∧ n' * 120 + (n' - at') * 1080 ≤ used' ∧ used' ≤ 16777216 ∧ (∀ i, i < n' → ln' i ≤ 1099511627872) ∧ (∀ i, at' ≤ i → i < n' → ln' i ≤ 1099511627776) ∧ Mv (fun k => BF bk n A bv ov k ∨ ∃ ad, a = some ad ∧ ad.block = k) (BF bk n' A' bv' ov') w w' := by
  obtain ⟨g, hg, hgF, hgN⟩ : ∃ g, (∀ ad, a = some ad → ad = ⟨g, 0, none⟩) ∧ (∀ k, BF bk n A bv ov k → k ≠ g) ∧ (a = none → w.heap.size ≤ g) := by
    rcases hl.2 with ⟨e, _⟩ | ⟨g, c, cur, e, _⟩
    · exact ⟨w.heap.size, (fun ad he => by rw [he] at e; cases e), (fun k hk => by have := h.ge k hk; omega), fun _ => Nat.le_refl _⟩
    · exact ⟨g, (fun ad he => by rw [he] at e; cases e; rfl), (fun k hk e2 => by cases e; exact hfree _ rfl (e2 ▸ hk)), fun e2 => by rw [e2] at e; cases e⟩
  have hlg : 0 < len → a = some ⟨g, 0, none⟩ := fun hp => by
    rcases hl.2 with ⟨_, e⟩ | ⟨g', c, cur, e, _⟩
    · omega
    · cases e; rw [hg _ rfl]
  obtain ⟨h1, mv1⟩ := h.setNum (at2 := at') (turn2 := turn + 1) (done2 := done) (used2 := used) 36 (.int .i64 ((turn + 1 : Nat) : Int)) (by omega) (fun i hi => by
    unfold bookCell
    by_cases e : i = 36
    · subst e; rfl
    · rw [if_neg e, if_neg e, if_neg e])
  have c36 := h.row.cell (i := 36) (by decide)
  have f36 := h.row.frozen 36
  replace c36 : w.cell? ⟨bk, 36, none⟩ = some (.int .i64 (turn : Nat)) := c36
  have d36 : (w.setCell ⟨bk, 36, none⟩ (.int .i64 ((turn + 1 : Nat) : Int))).cell? ⟨bk, 36, none⟩ = some (.int .i64 ((turn + 1 : Nat) : Int)) := h1.row.cell (i := 36) (by decide)
  have hl1 : OwnZ (w.setCell ⟨bk, 36, none⟩ (.int .i64 ((turn + 1 : Nat) : Int))) B (.slice a len cap) len x := ownZ_keep hl (fun k e => by
    match a, e, hfree with
    | some ad, e, hfree =>
      have e' : ad.block = k := by simpa [Value.ownBlock] using e
      exact mv1.block k (ownZ_lt hl k e) (e' ▸ hfree ad rfl)
    | none, e, _ => simp [Value.ownBlock] at e)
  obtain ⟨m, hm, hm2⟩ : ∃ m : Nat, (turn : Int) + 1 = (m : Int) ∧ turn + 1 = m := ⟨turn + 1, by omega, rfl⟩
  have hwm : IntKind.i64.wrap (m : Int) = (m : Int) := by rw [IntKind.wrap_i64]; omega
  rw [hm2] at h1 mv1 d36 hl1
  have hB1 : B ≤ (w.setCell ⟨bk, 36, none⟩ (.int .i64 (m : Int))).heap.size := by simpa [World.setCell] using hB
  have hmm : m ≤ 1000000000 := by omega
  have hz1 : (w.setCell ⟨bk, 36, none⟩ (.int .i64 (m : Int))).heap.size = w.heap.size := by simp [World.setCell]
  have HM := hide hm2
  have HZ := hide hz1
  clear hm2 hz1
  go_enter Try.func52, Try.ntmps52
  go_upto_region 2 with fail
  generalize w.setCell ⟨bk, 36, none⟩ (.int .i64 (m : Int)) = w1 at *
  clear d36 c36 f36
  go_wp2_with fail
  go_loopg [5] len (fun q s5 wx => ∃ i : Nat, i ≤ len ∧ q = len - i ∧ s5 = .int .i64 i ∧ OwnZ wx B (.slice a len cap) len (fun j => if j < i then mrk m j else x j) ∧ But g w1 wx)
  case atStart => exact ⟨0, Nat.zero_le _, rfl, rfl, ownZ_congr hl1 (fun j _ => by rw [if_neg (Nat.not_lt_zero _)]), But.of_since (World.Since.refl _ _)⟩
  case round =>
    obtain ⟨i, hi, rfl, rfl, hlo, hbt⟩ := hrel
    clear hl1
    by_cases hlt : i < len
    · have ha := hlg (by omega)
      subst ha
      have hz : (i : Int) < (len : Int) := by omega
      have cc := ownZ_at hlo i hlt
      have HCAP : Hid (len ≤ cap) := by
        rcases hlo.2 with ⟨e, _⟩ | ⟨_, _, _, e, _, _, hcc, _⟩
        · cases e
        · cases e; exact hcc
      have ff := ownZ_frozen hlo i (by have := HCAP.out; omega)
      have hst := ownZ_set hlo i (mrk m i)
      have hst2 := ownZ_congr hst (y := fun j => if j < i + 1 then mrk m j else x j) (fun j _ => by
        by_cases e : j = i
        · subst e; simp
        · by_cases e2 : j < i
          · simp [e, e2, Nat.lt_succ_of_lt e2]
          · have : ¬ j < i + 1 := by omega
            simp [e, e2, this])
      have hbt2 := hbt.setCell i (.int .u8 (mrk m i : Nat))
      have hac := at_any' m i wr hmm
      generalize mrk m i = mi at *
      clear hst hlo
      go_wp2_with fail
      refine hac.mono ?_
      rintro e w4 ⟨rfl, rfl⟩
      clear hac
      go_wp2_with fail
      go_roundg (len - (i + 1))
      case measure => go_light; omega
      case rel => go_light; exact ⟨i + 1, by omega, rfl, by simp, hst2, hbt2⟩
    · obtain rfl : i = len := by omega
      have hlm : OwnZ wr B (.slice a i cap) i (mrk m) := ownZ_congr hlo (fun j hj => by rw [if_pos hj])
      have h2 := h1.later hbt.size (fun k hf => hbt.block k (h1.ge k hf).2 (hgF k hf))
      have hz : ¬ ((i : Int) < (i : Int)) := by omega
      obtain ⟨s, hs, hs2⟩ : ∃ s : Nat, (3 : Int) * (i : Int) = (s : Int) ∧ s = 3 * i := ⟨3 * i, by omega, rfl⟩
      have hws : IntKind.i64.wrap (s : Int) = (s : Int) := by rw [IntKind.wrap_i64]; omega
      obtain ⟨K, hK, hK2⟩ : ∃ K : Nat, (1200 : Int) + (s : Int) = (K : Int) ∧ K = 1200 + s := ⟨1200 + s, by omega, rfl⟩
      have hwK : IntKind.i64.wrap (K : Int) = (K : Int) := by rw [IntKind.wrap_i64]; omega
      have htt := tight_any bk used K _ wr h2.row rfl hu (by omega)
      have mv2 : Mv (fun k => BF bk n A bv ov k ∨ ∃ ad, a = some ad ∧ ad.block = k) (fun k => BF bk n A bv ov k ∨ ∃ ad, a = some ad ∧ ad.block = k) w wr := by
        have q1 : Mv (fun k => BF bk n A bv ov k ∨ ∃ ad, a = some ad ∧ ad.block = k) (fun k => BF bk n A bv ov k ∨ ∃ ad, a = some ad ∧ ad.block = k) w w1 := ⟨mv1.os, mv1.tape, mv1.output, mv1.size, fun k hk hn => mv1.block k hk (fun hf => hn (Or.inl hf)), fun k hf => Or.inl hf⟩
        refine q1.trans ⟨hbt.os, hbt.tape, hbt.output, hbt.size, fun k hk hn => hbt.block k hk (fun e => ?_), fun k hf => Or.inl hf⟩
        have hz1 := unhide HZ
        rcases hca : a with _ | ad
        · have := hgN hca
          omega
        · exact hn (Or.inr ⟨ad, hca, by rw [hg ad hca]; exact e.symm⟩)
      have hK3 : 1200 + 3 * i ≤ K := by omega
      clear hs2 hK2
      go_wp2_with fail
      refine htt.mono ?_
      rintro e w4 (⟨hov, rfl, rfl⟩ | ⟨hle, rfl, rfl⟩)
      · go_wp2_with fail
        try simp only [Exit.inBlock, Exit.then]
        refine bodyPost_ret (results_none rfl _ _ _) rfl ?_
        refine ⟨rfl, n, A, ln, C, M, bv, ov, used, ?_, hat, hU, hu, hb1, hb2, ⟨mv2.os, mv2.tape, mv2.output, mv2.size, mv2.block, fun k hf => Or.inl (Or.inl hf)⟩⟩
        rw [unhide HM]; exact h2
      · obtain ⟨h3, mv3⟩ := h2.setNum (at2 := at') (turn2 := m) (done2 := done) (used2 := used + K) 38 (.int .i64 ((used + K : Nat) : Int)) (Nat.le_refl _) (fun i hi => by
          unfold bookCell
          by_cases e : i = 38
          · subst e; rfl
          · rw [if_neg e, if_neg e, if_neg e])
        have hl3 : OwnZ (wr.setCell ⟨bk, 38, none⟩ (.int .i64 ((used + K : Nat) : Int))) B (.slice a i cap) i (mrk m) := ownZ_keep hlm (fun k e => by
          match a, e, hfree with
          | some ad, e, hfree =>
            have e' : ad.block = k := by simpa [Value.ownBlock] using e
            exact mv3.block k (ownZ_lt hlm k e) (e' ▸ hfree ad rfl)
          | none, e, _ => simp [Value.ownBlock] at e)
        have hz3 : (wr.setCell ⟨bk, 38, none⟩ (.int .i64 ((used + K : Nat) : Int))).heap.size = wr.heap.size := by simp [World.setCell]
        have hB3 : B ≤ (wr.setCell ⟨bk, 38, none⟩ (.int .i64 ((used + K : Nat) : Int))).heap.size := by have := hbt.size; omega
        have mv4 : Mv (fun k => BF bk n A bv ov k ∨ ∃ ad, a = some ad ∧ ad.block = k) (fun k => BF bk n A bv ov k ∨ ∃ ad, a = some ad ∧ ad.block = k) w (wr.setCell ⟨bk, 38, none⟩ (.int .i64 ((used + K : Nat) : Int))) := mv2.trans ⟨mv3.os, mv3.tape, mv3.output, mv3.size, fun k hk hn => mv3.block k hk (fun hf => hn (Or.inl hf)), fun k hf => Or.inl hf⟩
        generalize wr.setCell ⟨bk, 38, none⟩ (.int .i64 ((used + K : Nat) : Int)) = w5 at *
        have hbt3 : Byt w5 a i (mrk m) := by
          obtain ⟨_, _, e, h1, _⟩ := ownZ_byt' hl3
          cases e
          exact h1
        have hnF : ∀ ad, a = some ad → ad.block ≠ bk ∧ bv.ownBlock ≠ some ad.block ∧ ov.ownBlock ≠ some ad.block ∧ ∀ j a', j < n → A j = some a' → ad.block ≠ a'.block := fun ad he => ⟨fun e => hfree ad he (Or.inl e), fun e => hfree ad he (Or.inr (Or.inl e)), fun e => hfree ad he (Or.inr (Or.inr (Or.inl e))), fun j a' hj hA e => hfree ad he (Or.inr (Or.inr (Or.inr ⟨j, a', hj, hA, e.symm⟩)))⟩
        obtain ⟨ba, bc, w6, oa, oc, w9, hr1, p0, p1, p2, p3, hr2, p4, p5, hfin, mvf, _⟩ := h3.push hB3 a i cap m (n + 1) (by omega) hbt3 (Nat.le_refl _) (fun ad he => ⟨ownZ_block hl3 _ (by rw [he]; rfl), ownZ_lt hl3 _ (by rw [he]; rfl), (hnF ad he).1, (hnF ad he).2.1, (hnF ad he).2.2.1⟩) (Nat.le_refl _) (fun j hj => by omega) (fun _ => hl3) (fun _ j ad a' hj he hA => (hnF ad he).2.2.2 j a' hj hA) (fun j ad a' _ _ hj he hA e => (hnF ad he).2.2.2 j a' hj hA e.symm)
        have H1 := hide hr1
        have H2 := hide hr2
        have mvA := mv4.trans mvf
        clear hr1 hr2 h3 mv3 hl3 hbt3 hnF mvf h1 h2 mv1 mv2 mv4 hlo hbt hlm hz3 hB3
        go_wp2_with (first
          | (at_builtin; refine wpList_append_eq rfl _ _ 30 rfl _ _ _ (by rfl) (by rfl) (unhide H1) ?_)
          | (at_builtin; refine wpList_append_eq rfl _ _ 31 rfl _ _ _ (by rfl) (by rfl) (unhide H2) ?_))
        go_end0
        refine ⟨rfl, n + 1, put A n a, put ln n i, put C n cap, put M n m, _, _, used + K, ?_, by omega, by omega, hle, fun j hj => ?_, fun j h1 hj => ?_, mvA⟩
        · rw [unhide HM]; exact hfin
        · by_cases e : j = n
          · subst e; rw [put_at]; omega
          · rw [put_ne _ _ _ e]; exact hb1 j (by omega)
        · by_cases e : j = n
          · subst e; rw [put_at]; omega
          · rw [put_ne _ _ _ e]; exact hb2 j h1 (by omega)
end Go.Proofs.Ytgpmoakfbhcidaa
