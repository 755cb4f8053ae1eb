/- The walk of Late.Settle. -/
import Derived.Test.YtbmdnlomhnodeabDoorLate3
namespace Go.Proofs.YtbmdnlomhnodeabDoor
open Go.RowKit
set_option maxRecDepth 100000

theorem late_none {w : World} {B lk : Nat} (hr : w.rowIs lk 76 2 (lateCell (.slice none 0 0) (.slice none 0 0))) (hl : B ≤ lk) : LateIs w B lk 0 (fun _ => none) (fun _ => none) (fun _ => 0) (fun _ => 0) (fun _ => 0) (fun _ _ => 0) (.slice none 0 0) (.slice none 0 0) :=
  ⟨hr, ⟨rfl, Or.inl ⟨rfl, rfl⟩⟩, ⟨rfl, Or.inl ⟨rfl, rfl⟩⟩, fun i hi => absurd hi (Nat.not_lt_zero _), fun i hi => absurd hi (Nat.not_lt_zero _), fun i hi => absurd hi (Nat.not_lt_zero _), fun i a hi => absurd hi (Nat.not_lt_zero _), fun i a hi => absurd hi (Nat.not_lt_zero _), fun i j a a' hi => absurd hi (Nat.not_lt_zero _), fun i j a a' hi => absurd hi (Nat.not_lt_zero _), ⟨by simp [Value.ownBlock], by simp [Value.ownBlock]⟩, fun k e => by simp [Value.ownBlock] at e, hl⟩

/-- Late on its way into the Book: i lists of n have gone. -/
structure Gone2 (w wx : World) (B lk bk n i nb : Nat) (GA WA : Nat → Option Addr) (gl GC : Nat → Nat) (X : Nat → Nat → Nat) (gv wv : Value) (F : Nat → Prop) (A : Nat → Option Addr) (bv ov : Value) : Prop where
  row : wx.rowIs lk 76 2 (lateCell gv wv)
  og : wx.ownsRow B 22 1 gv n ((List.range n).map fun i => .slice (GA i) (gl i) (GC i))
  own : ∀ j, i ≤ j → j < n → Own wx B (.slice (GA j) (gl j) (GC j)) (gl j) (X j)
  fre : ∀ j a, i ≤ j → j < n → GA j = some a → ¬ BF bk nb A bv ov a.block
  nl : ¬ BF bk nb A bv ov lk
  ng : ∀ k, gv.ownBlock = some k → ¬ BF bk nb A bv ov k
  mv : Mv F (fun k => LF lk n GA WA gv wv k ∨ BF bk nb A bv ov k) w wx
  hB : B ≤ wx.heap.size
theorem Gone2.step {w wx w' : World} {B lk bk n i nb nb' : Nat} {GA WA : Nat → Option Addr} {gl GC : Nat → Nat} {X : Nat → Nat → Nat} {gv wv : Value} {F : Nat → Prop} {A A' : Nat → Option Addr} {bv ov bv' ov' : Value} (h : Gone2 w wx B lk bk n i nb GA WA gl GC X gv wv F A bv ov) (hi : i < n)
    (hd : ∀ i j a a', i < n → j < n → i ≠ j → GA i = some a → GA j = some a' → a.block ≠ a'.block) (hg : ∀ i a, i < n → GA i = some a → a.block ≠ lk ∧ gv.ownBlock ≠ some a.block)
    (hm : Mv (fun k => BF bk nb A bv ov k ∨ ∃ ad, GA i = some ad ∧ ad.block = k) (BF bk nb' A' bv' ov') wx w') : Gone2 w w' B lk bk n (i + 1) nb' GA WA gl GC X gv wv F A' bv' ov' := by
  have hlk := h.row.lt
  have nf : ∀ k, k < wx.heap.size → ¬ BF bk nb A bv ov k → (∀ ad, GA i = some ad → ad.block ≠ k) → w'.heap[k]? = wx.heap[k]? ∧ ¬ BF bk nb' A' bv' ov' k := fun k hk h1 h2 => by
    refine ⟨hm.block k hk (fun hf => ?_), fun hf => ?_⟩
    · rcases hf with hf | ⟨ad, he, e⟩
      · exact h1 hf
      · exact h2 ad he e
    · rcases hm.foot k hf with hf | hf
      · rcases hf with hf | ⟨ad, he, e⟩
        · exact h1 hf
        · exact h2 ad he e
      · omega
  have nlk := nf lk hlk h.nl (fun ad he => (hg i ad hi he).1)
  have ngv : ∀ k, gv.ownBlock = some k → w'.heap[k]? = wx.heap[k]? ∧ ¬ BF bk nb' A' bv' ov' k := fun k e => nf k (h.og.lt k e).2 (h.ng k e) (fun ad he e2 => (hg i ad hi he).2 (e2 ▸ e))
  refine ⟨h.row.of_block nlk.1, owns_keep h.og (fun k e => (ngv k e).1), fun j h1 h2 => own_keep (h.own j (by omega) h2) (fun k e => ?_), fun j a h1 h2 he => ?_, nlk.2, fun k e => (ngv k e).2, ?_, Nat.le_trans h.hB hm.size⟩
  · obtain ⟨ad, he, eb⟩ := own_slice e
    rw [← eb]
    exact (nf _ (own_lt (h.own j (by omega) h2) _ (by rw [he]; rfl)) (h.fre j ad (by omega) h2 he) (fun ad' he' => hd i j ad' ad hi h2 (by omega) he' he)).1
  · exact (nf _ (own_lt (h.own j (by omega) h2) _ (by rw [he]; rfl)) (h.fre j a (by omega) h2 he) (fun ad' he' => hd i j ad' a hi h2 (by omega) he' he)).2
  · have hsub : ∀ k, (BF bk nb A bv ov k ∨ ∃ ad, GA i = some ad ∧ ad.block = k) → LF lk n GA WA gv wv k ∨ BF bk nb A bv ov k := fun k hf => by
      rcases hf with hf | ⟨ad, he, e⟩
      · exact Or.inr hf
      · exact Or.inl (Or.inr (Or.inr (Or.inr (Or.inl ⟨i, ad, hi, he, e⟩))))
    refine h.mv.trans ⟨hm.os, hm.tape, hm.output, hm.size, fun k hk hn => hm.block k hk (fun hf => hn (hsub k hf)), fun k hf => ?_⟩
    rcases hf with hf | hf
    · exact Or.inl (Or.inl hf)
    · exact (hm.foot k hf).imp_left (hsub k)

set_option maxHeartbeats 3200000 in
set_option maxRecDepth 100000 in
theorem late_settle {w : World} {B lk bk n nb : Nat} {GA WA : Nat → Option Addr} {gl GC WC : Nat → Nat} {X : Nat → Nat → Nat} {gv wv : Value} {A : Nat → Option Addr} {ln C M : Nat → Nat} {bv ov : Value} {at' turn done used : Nat} (hL : LateIs w B lk n GA WA gl GC WC X gv wv) (hK : BookOk w B bk nb A ln C M bv ov at' turn done used) (hB : B ≤ w.heap.size) (hdis : ∀ k, LF lk n GA WA gv wv k → ¬ BF bk nb A bv ov k) (K : Nat) (hN : n ≤ 900000) (hgl : ∀ i, i < n → gl i ≤ 1099511627776) (ht : turn + n ≤ 900000000) :
    Calls Tryd.prog 41 #[.pointer (some ⟨lk, 0, none⟩), .pointer (some ⟨bk, 0, none⟩), .int .i64 K] w fun e w' => e = .returned (.bool true) ∧ ∃ n2 GA2 WA2 gl2 GC2 WC2 X2 gv2 wv2 nb2 A2 ln2 C2 M2 bv2 ov2 at2 turn2 done2 used2, LateIs w' B lk n2 GA2 WA2 gl2 GC2 WC2 X2 gv2 wv2 ∧ BookOk w' B bk nb2 A2 ln2 C2 M2 bv2 ov2 at2 turn2 done2 used2 ∧ turn2 ≤ turn + n ∧ n2 ≤ n ∧ turn2 + n2 ≤ turn + n ∧ (∀ i, i < n2 → gl2 i ≤ 1099511627776) ∧ (∀ k, LF lk n2 GA2 WA2 gv2 wv2 k → ¬ BF bk nb2 A2 bv2 ov2 k) ∧ Mv (fun k => LF lk n GA WA gv wv k ∨ BF bk nb A bv ov k) (fun k => LF lk n2 GA2 WA2 gv2 wv2 k ∨ BF bk nb2 A2 bv2 ov2 k) w w' := by
  obtain ⟨va, vc, egv, _⟩ := owns_form hL.og
  have c0 : w.cell? ⟨lk, 0, none⟩ = some (.slice va n vc) := by rw [← egv]; exact hL.row.cell (i := 0) (by decide)
  by_cases hlt : n < K
  · have hz : (n : Int) < (K : Int) := by omega
    go_enter Tryd.func41, Tryd.ntmps41
    go_wp2_with fail
    go_ret
    exact ⟨rfl, _, _, _, _, _, _, _, _, _, _, _, _, _, _, _, _, _, _, _, _, hL, hK, by omega, Nat.le_refl _, by omega, hgl, hdis, Mv.refl _ _⟩
  · have hz : ¬ ((n : Int) < (K : Int)) := by omega
    have hsm := late_same hL (by omega)
    go_enter Tryd.func41, Tryd.ntmps41
    go_wp2_with fail
    refine hsm.mono ?_
    rintro e w1 ⟨rfl, m1, rfl⟩
    clear hsm c0
    have sD : w.Since w.heap.size (w.drewN m1) := since_drewN' (World.Since.refl _ _) m1
    have hL1 := hL.since sD
    have hK1 : BookOk (w.drewN m1) B bk nb A ln C M bv ov at' turn done used := ⟨hK.is.since sD, hK.hat, hK.hU, hK.hu, hK.hl, hK.hl2⟩
    have hG0 : Gone2 w (w.drewN m1) B lk bk n 0 nb GA WA gl GC X gv wv (fun k => LF lk n GA WA gv wv k ∨ BF bk nb A bv ov k) A bv ov := ⟨hL1.row, hL1.og, fun j _ hj => hL1.own j hj, fun j a _ hj he => hdis _ (Or.inr (Or.inr (Or.inr (Or.inl ⟨j, a, hj, he, rfl⟩)))), hdis _ (Or.inl rfl), fun k e => hdis k (Or.inr (Or.inl e)), Mv.of_since sD, hB⟩
    have hlb := hL.lb
    have hdg := hL.dg
    have hgb : ∀ i a, i < n → GA i = some a → a.block ≠ lk ∧ gv.ownBlock ≠ some a.block := fun i a h1 h2 => ⟨(hL.gb i a h1 h2).2.2.1, (hL.gb i a h1 h2).2.2.2.1⟩
    generalize w.drewN m1 = w1 at *
    generalize hF : (fun k => LF lk n GA WA gv wv k ∨ BF bk nb A bv ov k) = F at *
    have HF := hide hF
    clear hF
    clear hL hK hL1 sD hdis
    go_wp2_with fail
    go_loopg [7] n (fun q s7 wx => ∃ (i nb2 : Nat) (A2 : Nat → Option Addr) (ln2 C2 M2 : Nat → Nat) (bv2 ov2 : Value) (used2 : Nat), i ≤ n ∧ q = n - i ∧ s7 = .int .i64 i ∧ Gone2 w wx B lk bk n i nb2 GA WA gl GC X gv wv F A2 bv2 ov2 ∧ BookOk wx B bk nb2 A2 ln2 C2 M2 bv2 ov2 at' (turn + i) done used2)
    case atStart => exact ⟨0, nb, A, ln, C, M, bv, ov, used, Nat.zero_le _, rfl, rfl, hG0, hK1⟩
    case round =>
      obtain ⟨i, nb2, A2, ln2, C2, M2, bv2, ov2, used2, hi, rfl, rfl, hG, hK2⟩ := hrel
      clear hG0 hK1
      subst egv
      have d0 : wr.cell? ⟨lk, 0, none⟩ = some (.slice va n vc) := hG.row.cell (i := 0) (by decide)
      by_cases hli : i < n
      · obtain ⟨_, _, ev, hcv⟩ := owns_at_b hG.og (by omega)
        cases ev
        have dv := hcv i hli
        have hz2 : (i : Int) < (n : Int) := by omega
        have hown := hG.own i (Nat.le_refl _) hli
        have hby := bookBytes hK2.is hG.hB (GA i) (gl i) (GC i) (X i) hown (fun ad he => hG.fre i ad (Nat.le_refl _) hli he) hK2.hat (by omega) (hgl i hli) hK2.hU hK2.hu hK2.hl hK2.hl2
        generalize hA : GA i = ta at dv hby
        generalize gl i = tl at dv hby
        generalize GC i = tc at dv hby
        clear hown hcv
        go_wp2_with fail
        refine hby.mono ?_
        rintro e w2 ⟨rfl, nb3, A3, ln3, C3, M3, bv3, ov3, used3, hb3, hat3, hU3, hu3, hl3, hl4, mv3⟩
        have hGn := hG.step hli hdg hgb (by rw [hA]; exact mv3)
        have hK3 : BookOk w2 B bk nb3 A3 ln3 C3 M3 bv3 ov3 at' (turn + (i + 1)) done used3 := ⟨hb3, hat3, hU3, hu3, hl3, hl4⟩
        clear hby hb3 mv3 hG hK2
        go_wp2_with fail
        go_roundg (n - (i + 1))
        case measure => go_light; omega
        case rel => go_light; exact ⟨i + 1, nb3, A3, ln3, C3, M3, bv3, ov3, used3, by omega, rfl, by simp, hGn, hK3⟩
      · obtain rfl : i = n := by omega
        have hz2 : ¬ ((i : Int) < (i : Int)) := by omega
        have f0 := hG.row.frozen 0
        have r1 := hG.row.set 0 (.slice none 0 0)
        have d1 := r1.cell (i := 1) (by decide)
        have f1 := r1.frozen 1
        have r2 := (r1.set 1 (.slice none 0 0)).congr (g := lateCell (.slice none 0 0) (.slice none 0 0)) (fun j hj => by
          match j, hj with
          | 0, _ => rfl
          | 1, _ => rfl)
        have hkeep : ∀ k, k ≠ lk → ((wr.setCell ⟨lk, 0, none⟩ (.slice none 0 0)).setCell ⟨lk, 1, none⟩ (.slice none 0 0)).heap[k]? = wr.heap[k]? := fun k hk => (Below.heap_setCell _ _ _ _ hk).trans (Below.heap_setCell _ _ _ _ hk)
        have hzz : ((wr.setCell ⟨lk, 0, none⟩ (.slice none 0 0)).setCell ⟨lk, 1, none⟩ (.slice none 0 0)).heap.size = wr.heap.size := by simp [World.setCell]
        have hL2 := late_none r2 hlb
        have hK3 : BookOk ((wr.setCell ⟨lk, 0, none⟩ (.slice none 0 0)).setCell ⟨lk, 1, none⟩ (.slice none 0 0)) B bk nb2 A2 ln2 C2 M2 bv2 ov2 at' (turn + i) done used2 := ⟨hK2.is.later (by omega) (fun k hf => hkeep k (fun e => hG.nl (e ▸ hf))), hK2.hat, hK2.hU, hK2.hu, hK2.hl, hK2.hl2⟩
        have hlook := book_look hK3 (by have := hG.hB; omega) (by omega)
        have mv3 : Mv F (fun k => LF lk 0 (fun _ => none) (fun _ => none) (.slice none 0 0) (.slice none 0 0) k ∨ BF bk nb2 A2 bv2 ov2 k) w ((wr.setCell ⟨lk, 0, none⟩ (.slice none 0 0)).setCell ⟨lk, 1, none⟩ (.slice none 0 0)) := by
          refine hG.mv.trans ⟨rfl, rfl, rfl, by omega, fun k hk hn => hkeep k (fun e => hn (Or.inl (Or.inl e))), fun k hf => ?_⟩
          rcases hf with hf | hf
          · rcases hf with e | e | e | ⟨j, a, hj, _⟩ | ⟨j, a, hj, _⟩
            · exact Or.inl (Or.inl (Or.inl e))
            · simp [Value.ownBlock] at e
            · simp [Value.ownBlock] at e
            · exact absurd hj (Nat.not_lt_zero _)
            · exact absurd hj (Nat.not_lt_zero _)
          · exact Or.inl (Or.inr hf)
        have hnl := hG.nl
        have hlkl := hL2.row.lt
        replace d1 : (wr.setCell ⟨lk, 0, none⟩ (.slice none 0 0)).cell? ⟨lk, 1, none⟩ = some wv := d1
        clear r1 r2 hzz hkeep hG hK2 hK3
        go_wp2_with fail
        refine hlook.mono ?_
        rintro e w3 ⟨rfl, nb4, A4, ln4, C4, M4, bv4, ov4, at4, done4, hK4, mv4⟩
        generalize (wr.setCell ⟨lk, 0, none⟩ (.slice none 0 0)).setCell ⟨lk, 1, none⟩ (.slice none 0 0) = w2 at *
        have hnl4 : ¬ BF bk nb4 A4 bv4 ov4 lk := fun hf => by
          rcases mv4.foot lk hf with e | e
          · exact hnl e
          · omega
        have hLF0 : ∀ k, LF lk 0 (fun _ => none) (fun _ => none) (.slice none 0 0) (.slice none 0 0) k → k = lk := fun k hf => by
          rcases hf with e | e | e | ⟨j, a, hj, _⟩ | ⟨j, a, hj, _⟩
          · exact e
          · simp [Value.ownBlock] at e
          · simp [Value.ownBlock] at e
          · exact absurd hj (Nat.not_lt_zero _)
          · exact absurd hj (Nat.not_lt_zero _)
        have hL5 := hL2.later mv4.size (fun k hf => mv4.block k (hL2.ge k hf).2 (fun e => hnl ((hLF0 k hf) ▸ e)))
        have mv5 : Mv F (fun k => LF lk 0 (fun _ => none) (fun _ => none) (.slice none 0 0) (.slice none 0 0) k ∨ BF bk nb4 A4 bv4 ov4 k) w w3 := mv3.trans ⟨mv4.os, mv4.tape, mv4.output, mv4.size, fun k hk hn => mv4.block k hk (fun e => hn (Or.inr e)), fun k hf => by
          rcases hf with e | e
          · exact Or.inl (Or.inl e)
          · exact (mv4.foot k e).imp_left Or.inr⟩
        clear hlook
        go_wp2_with fail
        go_ret
        exact ⟨rfl, 0, _, _, _, _, _, _, _, _, nb4, A4, ln4, C4, M4, bv4, ov4, at4, turn + i, done4, used2, hL5, hK4, Nat.le_refl _, by omega, by omega, fun j hj => absurd hj (Nat.not_lt_zero _), fun k hf e => hnl4 ((hLF0 k hf) ▸ e), by rw [unhide HF]; exact mv5⟩
end Go.Proofs.YtbmdnlomhnodeabDoor
