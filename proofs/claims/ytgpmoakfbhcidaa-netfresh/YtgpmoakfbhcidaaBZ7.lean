/- The walk of Book.growBytes. -/
import Derived.Test.YtgpmoakfbhcidaaBZ6
namespace Go.Proofs.Ytgpmoakfbhcidaa
open Go.RowKit
set_option maxRecDepth 100000

theorem BookIs.weaken {w : World} {B bk n lo hi lo' : Nat} {A : Nat → Option Addr} {ln C M : Nat → Nat} {bv ov : Value} {at' turn done used : Nat} (h : BookIs w B bk n lo hi A ln C M bv ov at' turn done used) (hl : lo ≤ lo') : BookIs w B bk n lo' hi A ln C M bv ov at' turn done used :=
  ⟨h.row, h.ob, h.oo, h.byt, fun i h1 h2 => h.own i (by omega) h2, h.blk, fun i j a a' h1 h2 => h.dis i j a a' (by omega) h2, h.nb, h.no, h.hn, h.lb, h.mt⟩
theorem BookIs.grown {w : World} {B bk n lo hi : Nat} {A : Nat → Option Addr} {ln C M : Nat → Nat} {bv ov : Value} {at' turn done used : Nat} (h : BookIs w B bk n lo hi A ln C M bv ov at' turn done used) : BookIs w B bk n n n A ln C M bv ov at' turn done used :=
  ⟨h.row, h.ob, h.oo, h.byt, fun i h1 h2 => by omega, h.blk, fun i j a a' h1 h2 => by omega, h.nb, h.no, Nat.le_refl _, h.lb, h.mt⟩
theorem owns_at_b {w : World} {B e n : Nat} {v : Value} {f : Nat → Value} (h : w.ownsRow B e 1 v n ((List.range n).map f)) (hn : 0 < n) : ∃ g c, v = .slice (some ⟨g, 0, none⟩) n c ∧ ∀ j, j < n → w.cell? ⟨g, j, none⟩ = some (f j) := by
  rcases h.2 with ⟨_, h0⟩ | ⟨g, c, cur, rfl, _⟩
  · omega
  · exact ⟨g, c, rfl, fun j hj => by rw [h.cellAt j (by omega)]; simp [hj]⟩
/-- The list k as it lies, ahead of its growing. -/
theorem BookIs.und {w0 w : World} {F0 : Nat → Prop} {B bk n hi k : Nat} {A : Nat → Option Addr} {ln C M : Nat → Nat} {bv ov : Value} {at' turn done used : Nat} (h : BookIs w B bk n k hi A ln C M bv ov at' turn done used) (hk : k < hi) (hmv : Mv F0 (BF bk n A bv ov) w0 w) : Und w0 w F0 B bk n (k + 1) hi A ln M bv ov (.slice (A k) (ln k) (C k)) (ln k) (M k) := by
  have hkn : k < n := Nat.lt_of_lt_of_le hk h.hn
  have form : ∀ b, (Value.slice (A k) (ln k) (C k)).ownBlock = some b → A k = some ⟨b, 0, none⟩ := fun b e => by
    rcases (h.own k (Nat.le_refl _) hk).2 with ⟨e2, _⟩ | ⟨g, cap, cur, e2, _⟩
    · rw [e2] at e; simp [Value.ownBlock] at e
    · rw [e2] at e
      have : g = b := by simpa [Value.ownBlock] using e
      have e3 : A k = some ⟨g, 0, none⟩ := by injection e2
      rw [e3, this]
  refine ⟨h.own k (Nat.le_refl _) hk, fun b e => ?_, fun j ad hj he e => ?_, fun j ad h1 h2 he e => ?_, fun b e => ?_⟩
  · have := h.blk k _ hkn (form b e)
    exact this.2.2
  · have ek := form _ e
    by_cases ej : j = k
    · subst ej
      rw [he] at ek
      exact ⟨Option.some.inj ek, Nat.le_refl _, rfl⟩
    · exact absurd rfl (h.dis k j ⟨ad.block, 0, none⟩ ad (Nat.le_refl _) hk hj (fun e => ej e.symm) ek he)
  · exact absurd rfl (h.dis k j ⟨ad.block, 0, none⟩ ad (Nat.le_refl _) hk (Nat.lt_of_lt_of_le h2 h.hn) (by omega) (form _ e) he)
  · exact hmv.foot b (Or.inr (Or.inr (Or.inr ⟨k, _, hkn, form b e, rfl⟩)))

set_option maxHeartbeats 6400000 in
set_option maxRecDepth 100000 in
theorem book_growBytes {w : World} {B bk n : Nat} {A : Nat → Option Addr} {ln C M : Nat → Nat} {bv ov : Value} {at' turn done used : Nat} (h : BookIs w B bk n at' n A ln C M bv ov at' turn done used) (hB : B ≤ w.heap.size) (ht : turn ≤ 1000000000) (hat : at' ≤ n) (hU : n * 120 + (n - at') * 1080 ≤ used) (hu : used ≤ 16777216)
    (hln : ∀ i, i < n → ln i ≤ 1099511627872) (hln2 : ∀ i, at' ≤ i → i < n → ln i ≤ 1099511627776) :
    Calls Try.prog 58 #[.pointer (some ⟨bk, 0, none⟩)] w fun e w' => e = .returned (.tuple #[]) ∧ ∃ n' A' ln' C' M' bv' ov', BookIs w' B bk n' n' n' A' ln' C' M' bv' ov' n' turn done used ∧ n' * 120 ≤ used ∧ (∀ i, i < n' → ln' i ≤ 1099511627872) ∧ Mv (BF bk n A bv ov) (BF bk n' A' bv' ov') w w' ∧ B ≤ w'.heap.size := by
  obtain ⟨va, vc, ebv, _⟩ := owns_form h.ob
  have c0 : w.cell? ⟨bk, 0, none⟩ = some (.slice va n vc) := by rw [← ebv]; exact h.row.cell (i := 0) (by decide)
  have c2 : w.cell? ⟨bk, 2, none⟩ = some (.int .i64 (at' : Nat)) := h.row.cell (i := 2) (by decide)
  clear ebv
  generalize hF0 : BF bk n A bv ov = F0
  have hmv0 : Mv F0 (BF bk n A bv ov) w w := by rw [hF0]; exact Mv.refl _ _
  go_enter Try.func58, Try.ntmps58
  go_wp2_with fail
  go_loopg [3] (n - at') (fun q s3 wx => ∃ (k n' : Nat) (A' : Nat → Option Addr) (ln' C' M' : Nat → Nat) (bv' ov' : Value), at' ≤ k ∧ k ≤ n ∧ q = n - k ∧ s3 = .int .i64 k ∧ BookIs wx B bk n' k n A' ln' C' M' bv' ov' at' turn done used ∧ n' * 120 + (n - k) * 1080 ≤ used ∧ (∀ i, i < n' → ln' i ≤ 1099511627872) ∧ (∀ i, k ≤ i → i < n → ln' i ≤ 1099511627776) ∧ Mv F0 (BF bk n' A' bv' ov') w wx ∧ B ≤ wx.heap.size)
  case atStart => exact ⟨at', n, A, ln, C, M, bv, ov, Nat.le_refl _, hat, rfl, rfl, h, hU, hln, hln2, hmv0, hB⟩
  case round =>
    obtain ⟨k, n', A', ln', C', M', bv', ov', hk1, hk2, rfl, rfl, hb, hU', hl1, hl2, hmv, hBx⟩ := hrel
    clear h c0 c2 hmv0
    by_cases hlt : k < n
    · have hnn := hb.hn
      have hz : (k : Int) < (n : Int) := by omega
      obtain ⟨gv, vc', rfl, hcv⟩ := owns_at_b hb.ob (by omega)
      obtain ⟨go, oc', rfl, hco⟩ := owns_at_b hb.oo (by omega)
      have d0 : wr.cell? ⟨bk, 0, none⟩ = some (.slice (some ⟨gv, 0, none⟩) n' vc') := hb.row.cell (i := 0) (by decide)
      have d1 : wr.cell? ⟨bk, 1, none⟩ = some (.slice (some ⟨go, 0, none⟩) n' oc') := hb.row.cell (i := 1) (by decide)
      have dv := hcv k (by omega)
      have do' := hco k (by omega)
      have hz2 : (k : Int) < (n' : Int) := by omega
      have hun := hb.und hlt hmv
      have hbw := hb.weaken (Nat.le_succ k)
      have hMk : M' k ≤ 1000000000 := Nat.le_trans (hb.mt k (by omega)) ht
      have hMt : M' k ≤ turn := hb.mt k (by omega)
      have hLk := hl2 k (Nat.le_refl _) hlt
      generalize hAk : A' k = ka at hun dv
      generalize hLk2 : ln' k = L0 at hun dv hLk
      generalize C' k = kc at hun dv
      generalize M' k = m at hun do' hMk hMt
      clear hcv hco
      go_wp2_with fail
      go_loopg [4, 6] 96 (fun q s4 s6 wx => ∃ (i n2 len : Nat) (A2 : Nat → Option Addr) (ln2 C2 M2 : Nat → Nat) (bv2 ov2 : Value) (a : Option Addr) (c : Nat), 1 ≤ i ∧ i ≤ 97 ∧ len + 1 = L0 + i ∧ q = 97 - i ∧ s6 = .int .i64 i ∧ s4 = .slice a len c ∧ BookIs wx B bk n2 (k + 1) n A2 ln2 C2 M2 bv2 ov2 at' turn done used ∧ Und w wx F0 B bk n2 (k + 1) n A2 ln2 M2 bv2 ov2 (.slice a len c) len m ∧ Mv F0 (BF bk n2 A2 bv2 ov2) w wx ∧ B ≤ wx.heap.size ∧ n2 = n' + cnt i ∧ (∀ j, j < n2 → ln2 j ≤ 1099511627872) ∧ ∀ j, k + 1 ≤ j → j < n → ln2 j ≤ 1099511627776)
      case atStart => exact ⟨1, n', L0, A', ln', C', M', _, _, ka, kc, Nat.le_refl _, by decide, rfl, rfl, rfl, rfl, hbw, hun, hmv, hBx, rfl, hl1, fun j h1 h2 => hl2 j (by omega) h2⟩
      case round =>
        obtain ⟨i, n2, len, A2, ln2, C2, M2, bv2, ov2, a, c, hi1, hi2, hlen, rfl, rfl, rfl, hb2, hu2, hmv2, hB2, hn2, hm1, hm2⟩ := hrel
        clear d0 d1 dv do' hun hbw hb hmv hl1 hl2 hAk hLk2 hBx
        have hcn := cnt_step i hi1
        have hc9 : cnt i ≤ 9 := by unfold cnt; split <;> omega
        have hlb : len ≤ 1099511627872 := by omega
        have hlb2 : i ≤ 96 → len + 1 ≤ 1099511627872 := by omega
        have HL := hide hlen
        have HN := hide hn2
        have hnb : n2 ≤ 900000 := by omega
        clear hlen hn2
        by_cases hle : i ≤ 96
        · have hlb3 := hlb2 hle
          clear hlb2
          have hz6 : (i : Int) ≤ 96 := by omega
          have hac := at_any' m len wr hMk
          obtain ⟨a3, c3, w3, hr3, hb3, hu3, hmv3, hB3⟩ := hb2.app hB2 hu2 hmv2 (by omega)
          generalize mrk m len = mb at *
          have H3 := hide hr3
          clear hr3 hb2 hu2 hmv2 hB2
          by_cases hkp : i < 4 ∨ i % 16 = 0
          · rw [if_pos hkp] at hcn
            have hbt3 : Byt w3 a3 (len + 1) (mrk m) := by
              obtain ⟨_, _, e3, h1, _⟩ := ownZ_byt' hu3.own
              cases e3
              exact h1
            obtain ⟨ba, bc, w6, oa, oc, w9, hr1, p0, p1, p2, p3, hr2, p4, p5, hfin, mvf, kall, hnv, hno⟩ := hb3.push hB3 a3 (len + 1) c3 m n hnb hbt3 hMt (fun ad he => by
              have e1 : (Value.slice a3 (len + 1) c3).ownBlock = some ad.block := by rw [he]; rfl
              have := hu3.far ad.block e1
              exact ⟨ownZ_block hu3.own _ e1, ownZ_lt hu3.own _ e1, this.1, this.2.1, this.2.2⟩) (by have := hb3.hn; omega) (fun j hj => Or.inl hj) (fun hj => by have := hb3.hn; omega) (fun hj => by have := hb3.hn; omega) (fun j ad a' h1 h2 _ he hA e => by
              have e1 : (Value.slice a3 (len + 1) c3).ownBlock = some ad.block := by rw [he]; rfl
              exact hu3.dis j a' h1 h2 hA (e ▸ e1))
            have hvlt := ownZ_lt hu3.own
            have hu9 := hu3.push hb3.hn (w' := w9.setCell ⟨bk, 1, none⟩ (.slice oa (n2 + 1) oc)) (fun k e => kall k (hvlt k e) (hu3.far k e).1 (hu3.far k e).2.1 (hu3.far k e).2.2) (fun b e => ⟨hnv b (hvlt b e) (hu3.far b e).2.1, hno b (hvlt b e) (hu3.far b e).2.2⟩)
            have hmv9 : Mv F0 (BF bk (n2 + 1) (put A2 n2 a3) (.slice ba (n2 + 1) bc) (.slice oa (n2 + 1) oc)) w (w9.setCell ⟨bk, 1, none⟩ (.slice oa (n2 + 1) oc)) := by
              refine ⟨mvf.os.trans hmv3.os, mvf.tape.trans hmv3.tape, mvf.output.trans hmv3.output, Nat.le_trans hmv3.size mvf.size, fun q hq hn => (mvf.block q (Nat.lt_of_lt_of_le hq hmv3.size) (fun hf => ?_)).trans (hmv3.block q hq hn), fun q hf => ?_⟩
              · rcases hf with hf | ⟨ad, he, e⟩
                · rcases hmv3.foot q hf with h5 | h5
                  · exact hn h5
                  · omega
                · rcases hu3.foot q (by rw [he, ← e]; rfl) with h5 | h5
                  · exact hn h5
                  · omega
              · rcases mvf.foot q hf with hf | hf
                · rcases hf with hf | ⟨ad, he, e⟩
                  · exact hmv3.foot q hf
                  · exact hu3.foot q (by rw [he, ← e]; rfl)
                · exact Or.inr (Nat.le_trans hmv3.size hf)
            have hB9 : B ≤ (w9.setCell ⟨bk, 1, none⟩ (.slice oa (n2 + 1) oc)).heap.size := Nat.le_trans hB3 mvf.size
            have hm1' : ∀ j, j < n2 + 1 → put ln2 n2 (len + 1) j ≤ 1099511627872 := fun j hj => by
              by_cases e : j = n2
              · subst e; rw [put_at]; omega
              · rw [put_ne _ _ _ e]; exact hm1 j (by omega)
            have hm2' : ∀ j, k + 1 ≤ j → j < n → put ln2 n2 (len + 1) j ≤ 1099511627776 := fun j h1 h2 => by
              have := hb3.hn
              rw [put_ne _ _ _ (by omega)]; exact hm2 j h1 h2
            have H1 := hide hr1
            have H2 := hide hr2
            obtain ⟨r, hr, hr2⟩ : ∃ r : Nat, Int.tmod (i : Int) 16 = (r : Int) ∧ r = i % 16 := ⟨i % 16, (Int.ofNat_tmod i 16).symm, rfl⟩
            have hr0 : ¬ (i < 4) → ((r : Int) == 0) = true := fun h4 => by
              have : r = 0 := by omega
              subst this; rfl
            have HK := hide hkp
            clear hr1 hr2 hb3 hu3 hmv3 hB3 hvlt kall hnv hno mvf hbt3 hm1 hm2 hcn hkp hc9
            by_cases h4 : i < 4
            all_goals
              have h4z : (i : Int) < 4 ∨ ¬ (i : Int) < 4 := by omega
              first
                | (have h4y : (i : Int) < 4 := by omega)
                | (have h4y : ¬ ((i : Int) < 4) := by omega)
              first
                | (have hr1 := hr0 h4)
                | skip
              clear hr0 h4z
              go_wp2_with (first
                | (go_at_call 79; refine hac.mono ?_; rintro e w4 ⟨rfl, rfl⟩)
                | (at_builtin; refine wpList_append_eq rfl _ _ 53 rfl _ _ _ (by rfl) (by rfl) (unhide H3) ?_)
                | (at_builtin; refine wpList_append_eq rfl _ _ 30 rfl _ _ _ (by rfl) (by rfl) (unhide H1) ?_)
                | (at_builtin; refine wpList_append_eq rfl _ _ 31 rfl _ _ _ (by rfl) (by rfl) (unhide H2) ?_))
              go_roundg (97 - (i + 1))
              case measure => go_light; omega
              case rel => go_light; exact ⟨i + 1, n2 + 1, len + 1, _, _, _, _, _, _, a3, c3, by omega, by omega, (by have := unhide HL; omega), rfl, by simp, rfl, hfin, hu9, hmv9, hB9, (by have := unhide HN; have := cnt_step i hi1; rw [if_pos (unhide HK)] at this; omega), hm1', hm2'⟩
          · rw [if_neg hkp] at hcn
            have hi4 : ¬ ((i : Int) < 4) := by omega
            obtain ⟨r, hr, hr2⟩ : ∃ r : Nat, Int.tmod (i : Int) 16 = (r : Int) ∧ r = i % 16 := ⟨i % 16, (Int.ofNat_tmod i 16).symm, rfl⟩
            have hr0 : ((r : Int) == 0) = false := by
              have : ¬ ((r : Int) = 0) := by omega
              simpa using this
            clear hr2
            go_wp2_with (first
              | (go_at_call 79; refine hac.mono ?_; rintro e w4 ⟨rfl, rfl⟩)
              | (at_builtin; refine wpList_append_eq rfl _ _ 53 rfl _ _ _ (by rfl) (by rfl) (unhide H3) ?_))
            go_roundg (97 - (i + 1))
            case measure => go_light; omega
            case rel => go_light; exact ⟨i + 1, n2, len + 1, A2, ln2, C2, M2, bv2, ov2, a3, c3, by omega, by omega, (by have := unhide HL; omega), rfl, by simp, rfl, hb3, hu3, hmv3, hB3, (by have := unhide HN; omega), hm1, hm2⟩
        · have hz6 : ¬ ((i : Int) ≤ 96) := by omega
          obtain rfl : i = 97 := by omega
          have hn2 := unhide HN
          rw [show cnt 97 = 9 from rfl] at hn2
          clear HN HL hlb2 hcn hc9
          have hfinU : n2 * 120 + (n - (k + 1)) * 1080 ≤ used := by omega
          clear hn2
          go_wp2_with fail
          go_roundg (n - (k + 1))
          case measure => go_light; omega
          case rel => go_light; exact ⟨k + 1, n2, A2, ln2, C2, M2, bv2, ov2, by omega, by omega, rfl, by simp, hb2, hfinU, hm1, hm2, hmv2, hB2⟩
    · obtain rfl : k = n := by omega
      obtain ⟨va', vc', rfl, _⟩ := owns_form hb.ob
      have d0 : wr.cell? ⟨bk, 0, none⟩ = some (.slice va' n' vc') := hb.row.cell (i := 0) (by decide)
      have d2 : wr.cell? ⟨bk, 2, none⟩ = some (.int .i64 (at' : Nat)) := hb.row.cell (i := 2) (by decide)
      have f2 := hb.row.frozen 2
      obtain ⟨h3, mv3⟩ := hb.setNum (at2 := n') (turn2 := turn) (done2 := done) (used2 := used) 2 (.int .i64 (n' : Nat)) (Nat.le_refl _) (fun i hi => by
        unfold bookCell
        by_cases e : i = 2
        · subst e; rfl
        · rw [if_neg e, if_neg e, if_neg e])
      have hz3 : (wr.setCell ⟨bk, 2, none⟩ (.int .i64 (n' : Nat))).heap.size = wr.heap.size := by simp [World.setCell]
      have hB3 : B ≤ (wr.setCell ⟨bk, 2, none⟩ (.int .i64 (n' : Nat))).heap.size := by omega
      have hmvf := hmv.trans mv3
      have hz : ¬ ((k : Int) < (k : Int)) := by omega
      clear hz3
      go_wp2_with fail
      go_end0
      exact ⟨rfl, n', A', ln', C', M', _, _, h3.grown, by omega, hl1, hF0 ▸ hmvf, hB3⟩
end Go.Proofs.Ytgpmoakfbhcidaa
