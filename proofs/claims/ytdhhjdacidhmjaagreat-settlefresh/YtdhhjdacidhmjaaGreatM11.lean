/- Own texts, joined: KB1, KB0, KB2, KB3, KB4, KB5, KB6, KB7. -/
import Derived.Test.YtdhhjdacidhmjaaGreatM10
import Derived.BigQuiet
import Derived.Deep.RegionHeld3

/- A Book's kinds of lists: lists with a mark in each cell, told by a colour; one element more. -/
namespace Go.Proofs.YtdhhjdacidhmjaaGreat
open Go.RowKit
set_option maxRecDepth 100000
set_option maxRecDepth 100000
/-- A list of a Book's: every cell up to its length holds the mark of its number; a block has one number. -/
def KOk (O : Nat → Nat) (c : Nat) (own : Nat → Nat) (W : World) (t sz : Nat) (mk : Nat → Nat → Value) (v : Value) (len m : Nat) : Prop :=
  (v = .slice none 0 0 ∧ len = 0) ∨ ∃ b cap F, v = .slice (some ⟨b, 0, none⟩) len cap ∧ O b = c ∧ own b = m ∧ len ≤ cap ∧ cap ≤ maxLen ∧ W.rowIs b t (cap * sz) F ∧ ∀ j, j < len * sz → F j = mk m j
section
variable {O O' : Nat → Nat} {c lo hi : Nat} {own : Nat → Nat} {W W' : World} {t sz : Nat} {mk : Nat → Nat → Value} {v : Value} {len m : Nat}
theorem KOk.nil (O : Nat → Nat) (c : Nat) (own : Nat → Nat) (W : World) (t sz : Nat) (mk : Nat → Nat → Value) (m : Nat) : KOk O c own W t sz mk (.slice none 0 0) 0 m := .inl ⟨rfl, rfl⟩
theorem KOk.keepR (h : KOk O c own W t sz mk v len m) (k : ChR lo hi O O' W W') (hx : c < lo ∨ hi ≤ c) : KOk O' c own W' t sz mk v len m := by
  rcases h with h | ⟨b, cap, F, hv, hc, ho, h1, h2, h3, h4⟩
  · exact .inl h
  · have := RowC.keepR ⟨h3, hc⟩ k hx
    exact .inr ⟨b, cap, F, hv, this.2, ho, h1, h2, this.1, h4⟩
theorem KOk.up (h : KOk O c own W t sz mk v len m) {nb m2 : Nat} (hn : W.heap.size ≤ nb) : KOk O c (fun k => if k = nb then m2 else own k) W t sz mk v len m := by
  rcases h with h | ⟨b, cap, F, hv, hc, ho, h1, h2, h3, h4⟩
  · exact .inl h
  · refine .inr ⟨b, cap, F, hv, hc, ?_, h1, h2, h3, h4⟩
    have := h3.lt
    show (if b = nb then m2 else own b) = m
    rw [if_neg (by omega)]
    exact ho
theorem KOk.form (h : KOk O c own W t sz mk v len m) : ∃ a cap, v = .slice a len cap := by
  rcases h with ⟨h1, h2⟩ | ⟨b, cap, F, hv, _⟩
  · exact ⟨none, 0, by rw [h1, h2]⟩
  · exact ⟨_, cap, hv⟩
theorem KOk.cell {a : Option Addr} {cap : Nat} (h : KOk O c own W t sz mk (.slice a len cap) len m) {j : Nat} (hj : j < len * sz) : ∃ b, a = some ⟨b, 0, none⟩ ∧ W.cell? ⟨b, j, none⟩ = some (mk m j) := by
  rcases h with ⟨h1, h2⟩ | ⟨b, cp, F, hv, hc, ho, h1, h2, h3, h4⟩
  · subst h2
    rw [Nat.zero_mul] at hj
    exact absurd hj (Nat.not_lt_zero _)
  · injection hv with e1 _ _
    refine ⟨b, e1, ?_⟩
    rw [h3.cell (Nat.lt_of_lt_of_le hj (Nat.mul_le_mul_right _ h1)), h4 j hj]
/-- The cells of one element more. -/
def mkL (mk : Nat → Nat → Value) (m len sz : Nat) : List Value := (List.range sz).map fun j => mk m (len * sz + j)
theorem mkL_len (mk : Nat → Nat → Value) (m len sz : Nat) : (mkL mk m len sz).length = sz := by unfold mkL; simp
theorem mkL_get (mk : Nat → Nat → Value) (m len sz : Nat) {j : Nat} (hj : j < sz) : (mkL mk m len sz)[j]? = some (mk m (len * sz + j)) := by unfold mkL; rw [List.getElem?_map, List.getElem?_range hj]; rfl
theorem since_ch {w w' : World} (s : w.Since w.heap.size w') (x c2 : Nat) : Ch x O (fun k => if k < w.heap.size then O k else c2) w w' := ⟨s.os, s.tape, s.output, s.size, fun _ hk => if_pos hk, fun k hk _ => s.block k hk⟩
set_option maxHeartbeats 1000000 in
/-- One element more: in its own room or into new memory; every list of the kind stays. -/
theorem KOk.app {P : Program} {ty : TypeId} {z : Value} {bytes : Nat} (ht : P.underlying ty = some (.slice t)) (hinfo : (P.info? t).map (fun i => (i.zero, i.size, i.bytes)) = some (some z, sz, bytes)) (hzc : z.cells.size = sz) (hsz : 0 < sz) (h1c : ∀ j, (mk m j).oneCell' = true)
    (h : KOk O c own W t sz mk v len m) (hb : (len + 1) * bytes ≤ 140737488355328) (hn : len + 1 ≤ 140737488355328) :
    ∃ v' W2 O' own', (Builtin.append_ #[ty, ty] ty #[v, .slice (some ⟨W.heap.size, 0, none⟩) 1 1]).run P (W.alloc (.cells (mkL mk m len sz).toArray t)) = .ok v' W2 ∧ KOk O' c own' W2 t sz mk v' (len + 1) m ∧ (∀ c2 t2 sz2 mk2 v2 len2 m2, (c2 = c → t2 = t ∧ sz2 = sz ∧ mk2 = mk) → KOk O c2 own W t2 sz2 mk2 v2 len2 m2 → KOk O' c2 own' W2 t2 sz2 mk2 v2 len2 m2) ∧ Ch c O O' W W2 := by
  have sA : W.Since W.heap.size (W.alloc (.cells (mkL mk m len sz).toArray t)) := (World.Since.refl _ _).alloc (Nat.le_refl _) _
  have hml : maxLen = 9223372036854775807 := rfl
  have hzA : (W.alloc (.cells (mkL mk m len sz).toArray t)).heap.size = W.heap.size + 1 := by simp
  obtain ⟨i0, hi, hz0, hz1, hz2⟩ : ∃ i, P.info? t = some i ∧ i.zero = some z ∧ i.size = sz ∧ i.bytes = bytes := by
    obtain ⟨i, hi, hh⟩ := Option.map_eq_some_iff.1 hinfo
    simp only [Prod.mk.injEq] at hh
    exact ⟨i, hi, hh.1, hh.2.1, hh.2.2⟩
  have hnews : ∀ j u, (mkL mk m len sz)[j]? = some u → (W.alloc (.cells (mkL mk m len sz).toArray t)).cell? ((⟨W.heap.size, 0, none⟩ : Addr).add j) = some u := fun j u hj => by
    have e : ((⟨W.heap.size, 0, none⟩ : Addr).add j) = ⟨W.heap.size, j, none⟩ := by rw [Addr.add_mid, Nat.zero_add]
    rw [e]
    refine (World.cell?_alloc_at (w := W) _ _ _ j rfl).trans ?_
    rw [List.getElem?_toArray]
    exact hj
  have hone : ∀ u ∈ mkL mk m len sz, u.oneCell' = true := fun u hu => by
    unfold mkL at hu
    obtain ⟨j, _, rfl⟩ := List.mem_map.1 hu
    exact h1c _
  have hmul : (len + 1) * sz = len * sz + sz := Nat.succ_mul _ _
  have hnewL : ((List.range (len * sz)).map (mk m) ++ mkL mk m len sz) = (List.range ((len + 1) * sz)).map (mk m) := by
    apply List.ext_getElem?
    intro j
    by_cases hj : j < len * sz
    · rw [List.getElem?_append_left (by simpa using hj), List.getElem?_map, List.getElem?_map, List.getElem?_range hj, List.getElem?_range (by omega)]
    · rw [List.getElem?_append_right (by simpa using hj)]
      simp only [List.length_map, List.length_range]
      by_cases hj2 : j < (len + 1) * sz
      · rw [mkL_get _ _ _ _ (show j - len * sz < sz by omega), List.getElem?_map, List.getElem?_range hj2]
        have : len * sz + (j - len * sz) = j := by omega
        rw [this]
        rfl
      · rw [List.getElem?_eq_none (by rw [mkL_len]; omega), List.getElem?_eq_none (by simp; omega)]
  -- what is made anew
  have fresh : ∀ v' W2, (W.alloc (.cells (mkL mk m len sz).toArray t)).Since (W.alloc (.cells (mkL mk m len sz).toArray t)).heap.size W2 → W2.ownsRow 0 t sz v' (len + 1) ((List.range ((len + 1) * sz)).map (mk m)) → v'.ownBlock = some (W.alloc (.cells (mkL mk m len sz).toArray t)).heap.size →
      KOk (fun k => if k < W.heap.size then O k else c) c (fun k => if k = W.heap.size + 1 then m else own k) W2 t sz mk v' (len + 1) m ∧ (∀ c2 t2 sz2 mk2 v2 len2 m2, (c2 = c → t2 = t ∧ sz2 = sz ∧ mk2 = mk) → KOk O c2 own W t2 sz2 mk2 v2 len2 m2 → KOk (fun k => if k < W.heap.size then O k else c) c2 (fun k => if k = W.heap.size + 1 then m else own k) W2 t2 sz2 mk2 v2 len2 m2) ∧ Ch c O (fun k => if k < W.heap.size then O k else c) W W2 := fun v' W2 s2 ho hob => by
    have s3 : W.Since W.heap.size W2 := sA.trans (since_mono s2 sA.size)
    rw [hzA] at hob
    have hli : Li (fun k => if k < W.heap.size then O k else c) c W2 t sz v' (len + 1) (mk m) := ⟨ho, fun k hk => by
      rw [hob] at hk
      have := Option.some.inj hk
      show (if k < W.heap.size then O k else c) = c
      rw [if_neg (by omega)]⟩
    obtain ⟨b, cap, F, hv, g1, g2, g3, g4⟩ := hli.at' (Nat.succ_pos _)
    refine ⟨.inr ⟨b, cap, F, hv, g3.2, ?_, g1, g2, g3.1, g4⟩, fun c2 t2 sz2 mk2 v2 len2 m2 _ h2 => ?_, since_ch s3 c c⟩
    · rw [hv] at hob
      have e := Option.some.inj hob
      show (if b = W.heap.size + 1 then m else own b) = m
      exact if_pos e
    · have k0 : ChR 0 0 O (fun k => if k < W.heap.size then O k else c) W W2 := ⟨s3.os, s3.tape, s3.output, s3.size, fun _ hk => if_pos hk, fun k hk _ => s3.block k hk⟩
      exact (h2.up (by omega)).keepR k0 (.inr (Nat.zero_le _))
  rcases h with ⟨rfl, rfl⟩ | ⟨b, cap, F, rfl, hc, ho, h1, h2, h3, h4⟩
  · obtain ⟨v', W2, e1, e2, e3, _, e5⟩ := run_append_own_at (P := P) (W.alloc (.cells (mkL mk m 0 sz).toArray t)) 0 ty ty t i0 _ sz bytes ht hi hz0 hz1 hz2 hzc hsz (.slice none 0 0) 0 [] ⟨by simp, .inl ⟨rfl, rfl⟩⟩ ⟨W.heap.size, 0, none⟩ 1 1 (mkL mk m 0 sz) (by rw [mkL_len, Nat.one_mul]) hnews hone (by omega) hb (Nat.zero_le _)
    have s2 : (W.alloc (.cells (mkL mk m 0 sz).toArray t)).Since (W.alloc (.cells (mkL mk m 0 sz).toArray t)).heap.size W2 := ⟨e3.os, e3.tape, e3.output, e3.size, fun k hk => e3.block k hk (by simp [Value.ownBlock])⟩
    have e2' : W2.ownsRow 0 t sz v' (0 + 1) ((List.range ((0 + 1) * sz)).map (mk m)) := by
      rw [← hnewL, Nat.zero_mul]
      exact e2
    have hob : v'.ownBlock = some (W.alloc (.cells (mkL mk m 0 sz).toArray t)).heap.size := by
      rcases e5 with e | e
      · exfalso
        rcases e2'.2 with ⟨_, q⟩ | ⟨_, _, _, q, _⟩
        · omega
        · rw [q] at e
          cases e
      · exact e
    obtain ⟨f1, f2, f3⟩ := fresh v' W2 s2 e2' hob
    exact ⟨v', W2, _, _, e1, f1, f2, f3⟩
  · have hbl : b < W.heap.size := h3.lt
    obtain ⟨cur, q1, q2, q3⟩ := h3
    by_cases hroom : len + 1 ≤ cap
    · have hcb : (W.alloc (.cells (mkL mk m len sz).toArray t)).heap[b]? = some (.cells cur t (0, 0)) := (sA.block b hbl).trans q1
      have hlc : (len + 1) * sz ≤ cap * sz := Nat.mul_le_mul_right _ hroom
      have hr := run_append_room (P := P) (W.alloc (.cells (mkL mk m len sz).toArray t)) ty ty t i0 ht hi b len cap cur hcb ⟨W.heap.size, 0, none⟩ 1 1 (mkL mk m len sz) (by rw [hz1, mkL_len, Nat.one_mul]) hnews hone hroom (by rw [hz1, mkL_len, q2]; omega)
      rw [hz1, mkL_len] at hr
      generalize hA : (cur.toList.take (len * sz) ++ mkL mk m len sz ++ cur.toList.drop (len * sz + sz)).toArray = arr at hr
      have harr : ∀ j, j < cap * sz → arr[j]? = some (if len * sz ≤ j ∧ j < len * sz + sz then mk m j else F j) := fun j hj => by
        rw [← hA, List.getElem?_toArray]
        have hl1 : (cur.toList.take (len * sz)).length = len * sz := by rw [List.length_take, Array.length_toList, q2]; omega
        by_cases a1 : j < len * sz
        · rw [List.append_assoc, List.getElem?_append_left (by rw [hl1]; exact a1), List.getElem?_take_of_lt a1, Array.getElem?_toList, q3 j hj, if_neg (by omega)]
        · by_cases a2 : j < len * sz + sz
          · rw [List.append_assoc, List.getElem?_append_right (by rw [hl1]; omega), hl1, List.getElem?_append_left (by rw [mkL_len]; omega), mkL_get _ _ _ _ (by omega), if_pos ⟨by omega, a2⟩]
            have : len * sz + (j - len * sz) = j := by omega
            rw [this]
          · rw [List.getElem?_append_right (by rw [List.length_append, hl1, mkL_len]; omega), List.length_append, hl1, mkL_len, List.getElem?_drop, if_neg (by omega)]
            have : len * sz + sz + (j - (len * sz + sz)) = j := by omega
            rw [this, Array.getElem?_toList, q3 j hj]
      have hasz : arr.size = cap * sz := by
        rw [← hA]
        simp only [List.size_toArray, List.length_append, List.length_take, List.length_drop, Array.length_toList, mkL_len, q2]
        omega
      have hW2b : ((W.alloc (.cells (mkL mk m len sz).toArray t)).setRow b arr).heap[b]? = some (.cells arr t (0, 0)) := by
        simp [World.setRow, Array.getElem?_modify, hcb]
      have hW2k : ∀ k, k < W.heap.size → k ≠ b → ((W.alloc (.cells (mkL mk m len sz).toArray t)).setRow b arr).heap[k]? = W.heap[k]? := fun k hk hne => by
        rw [← sA.block k hk]
        have hne2 : ¬ b = k := fun e => hne e.symm
        simp [World.setRow, Array.getElem?_modify, hne2]
      have hW2s : ((W.alloc (.cells (mkL mk m len sz).toArray t)).setRow b arr).heap.size = W.heap.size + 1 := by rw [size_setRow]; exact hzA
      have row2 : ((W.alloc (.cells (mkL mk m len sz).toArray t)).setRow b arr).rowIs b t (cap * sz) (fun j => if len * sz ≤ j ∧ j < len * sz + sz then mk m j else F j) := ⟨arr, hW2b, hasz, harr⟩
      have hO : ∀ k, k < W.heap.size → (if k < W.heap.size then O k else c) = O k := fun k hk => if_pos hk
      refine ⟨_, _, fun k => if k < W.heap.size then O k else c, own, hr, .inr ⟨b, cap, _, rfl, (hO b hbl).trans hc, ho, hroom, h2, row2, fun j hj => ?_⟩, fun c2 t2 sz2 mk2 v2 len2 m2 hsame hk2 => ?_, ⟨rfl, rfl, rfl, by omega, fun k hk => hO k hk, fun k hk hne => hW2k k hk (fun e => hne (by rw [e]; exact hc))⟩⟩
      · show (if len * sz ≤ j ∧ j < len * sz + sz then mk m j else F j) = mk m j
        by_cases hj2 : j < len * sz
        · rw [if_neg (by omega)]
          exact h4 j hj2
        · rw [if_pos (by omega)]
      · rcases hk2 with hk2 | ⟨b2, cap2, F2, rfl, hc2, ho2, g1, g2, g3, g4⟩
        · exact .inl hk2
        · have hb2 : b2 < W.heap.size := g3.lt
          by_cases e : b2 = b
          · subst e
            obtain ⟨rfl, rfl, rfl⟩ := hsame (hc2.symm.trans hc)
            have hm2 : m2 = m := ho2.symm.trans ho
            subst hm2
            obtain ⟨cur2, p1, p2, p3⟩ := g3
            rw [q1] at p1
            injection p1 with p1
            injection p1 with p1 _ _
            subst p1
            refine .inr ⟨b2, cap2, fun j => if len * sz2 ≤ j ∧ j < len * sz2 + sz2 then mk2 m2 j else F j, rfl, (hO b2 hb2).trans hc2, ho2, g1, g2, by rw [← p2, q2]; exact row2, fun j hj => ?_⟩
            show (if len * sz2 ≤ j ∧ j < len * sz2 + sz2 then mk2 m2 j else F j) = mk2 m2 j
            split
            · rfl
            · have hjc : j < cap2 * sz2 := Nat.lt_of_lt_of_le hj (Nat.mul_le_mul_right _ g1)
              have a := p3 j hjc
              have a2 := q3 j (by omega)
              rw [a] at a2
              rw [← Option.some.inj a2]
              exact g4 j hj
          · exact .inr ⟨b2, cap2, F2, rfl, (hO b2 hb2).trans hc2, ho2, g1, g2, g3.of_block (hW2k b2 hb2 e), g4⟩
    · obtain rfl : len = cap := by omega
      have hcells : (List.range (len * sz)).map (mk m) = (List.range (len * sz)).map F := List.map_congr_left fun j hj => (h4 j (List.mem_range.1 hj)).symm
      have hown : (W.alloc (.cells (mkL mk m len sz).toArray t)).ownsRow 0 t sz (.slice (some ⟨b, 0, none⟩) len len) len ((List.range (len * sz)).map (mk m)) := by
        have hr : RowC (fun _ => 0) 0 (W.alloc (.cells (mkL mk m len sz).toArray t)) b t (len * sz) F := ⟨⟨cur, (sA.block b hbl).trans q1, q2, q3⟩, rfl⟩
        exact (Li.of_row hr (Nat.le_refl _) h2 h4).1
      obtain ⟨v', W2, e1, e2, e3, _, e5⟩ := run_append_own_at (P := P) (W.alloc (.cells (mkL mk m len sz).toArray t)) 0 ty ty t i0 _ sz bytes ht hi hz0 hz1 hz2 hzc hsz _ len _ hown ⟨W.heap.size, 0, none⟩ 1 1 (mkL mk m len sz) (by rw [mkL_len, Nat.one_mul]) hnews hone (by omega) hb (Nat.zero_le _)
      have holds : ∀ j u, ((List.range (len * sz)).map (mk m))[j]? = some u → (W.alloc (.cells (mkL mk m len sz).toArray t)).cell? ((⟨b, 0, none⟩ : Addr).add j) = some u := fun j u hj => by
        have hjl : j < len * sz := by have := (List.getElem?_eq_some_iff.1 hj).1; simpa using this
        have e : ((⟨b, 0, none⟩ : Addr).add j) = ⟨b, j, none⟩ := by rw [Addr.add_mid, Nat.zero_add]
        rw [e, World.cell?_of_block (w := W) (sA.block b hbl)]
        rw [List.getElem?_map, List.getElem?_range hjl] at hj
        rw [(show W.rowIs b t (len * sz) F from ⟨cur, q1, q2, q3⟩).cell hjl, h4 j hjl]
        exact hj
      have hg := run_append_grow (P := P) (W.alloc (.cells (mkL mk m len sz).toArray t)) ty ty t i0 z ht hi hz0 ⟨b, 0, none⟩ len len _ (by rw [hz1]; simp) holds ⟨W.heap.size, 0, none⟩ 1 1 (mkL mk m len sz) (by rw [hz1, mkL_len, Nat.one_mul]) hnews (by omega) (by omega) (growslice_fits (by omega) (by rw [hz2]; exact hb))
      rw [e1] at hg
      injection hg with hgv hgw
      have e2' : W2.ownsRow 0 t sz v' (len + 1) ((List.range ((len + 1) * sz)).map (mk m)) := by
        rw [← hnewL]
        exact e2
      have s2 : (W.alloc (.cells (mkL mk m len sz).toArray t)).Since (W.alloc (.cells (mkL mk m len sz).toArray t)).heap.size W2 := by
        rw [hgw]
        exact ⟨rfl, rfl, rfl, by simp, fun k hk => heap_alloc_old _ _ hk⟩
      obtain ⟨f1, f2, f3⟩ := fresh v' W2 s2 e2' (by rw [hgv]; rfl)
      exact ⟨v', W2, _, _, e1, f1, f2, f3⟩
end
end Go.Proofs.YtdhhjdacidhmjaaGreat

/- The Book's calls where a kind keeps nothing; its marks of bytes; tight (kb0_gen.py). -/
namespace Go.Proofs.YtdhhjdacidhmjaaGreat
open Go.RowKit
set_option maxRecDepth 100000
set_option maxHeartbeats 1600000 in
set_option maxRecDepth 100000 in
theorem book_growRows (bk : Nat) (f : Nat → Value) (w : World) (h : w.rowIs bk 43 39 f) (h0 : f 3 = .slice none 0 0) (h2 : f 5 = .int .i64 0) :
    Calls Tryz.prog 59 #[.pointer (some ⟨bk, 0, none⟩)] w fun e w' => e = .returned (.tuple #[]) ∧ w' = w.setCell ⟨bk, 5, none⟩ (.int .i64 0) := by
  have c0 := h.cell (i := 3) (by decide)
  rw [h0] at c0
  have c2 := h.cell (i := 5) (by decide)
  rw [h2] at c2
  have f2 := h.frozen 5
  clear h h0 h2
  go_enter Tryz.func59, Tryz.ntmps59
  go_wp2_with fail
  go_loopg [3] 0 (fun q s3 wx => q = 0 ∧ s3 = .int .i64 0 ∧ w = wx)
  case atStart => exact ⟨rfl, rfl, rfl⟩
  case round =>
    obtain ⟨rfl, rfl, rfl⟩ := hrel
    go_wp2_with fail
    go_end0
    exact ⟨rfl, rfl⟩
set_option maxHeartbeats 1600000 in
set_option maxRecDepth 100000 in
theorem book_growTexts (bk : Nat) (f : Nat → Value) (w : World) (h : w.rowIs bk 43 39 f) (h0 : f 6 = .slice none 0 0) (h2 : f 8 = .int .i64 0) :
    Calls Tryz.prog 60 #[.pointer (some ⟨bk, 0, none⟩)] w fun e w' => e = .returned (.tuple #[]) ∧ w' = w.setCell ⟨bk, 8, none⟩ (.int .i64 0) := by
  have c0 := h.cell (i := 6) (by decide)
  rw [h0] at c0
  have c2 := h.cell (i := 8) (by decide)
  rw [h2] at c2
  have f2 := h.frozen 8
  clear h h0 h2
  go_enter Tryz.func60, Tryz.ntmps60
  go_wp2_with fail
  go_loopg [3] 0 (fun q s3 wx => q = 0 ∧ s3 = .int .i64 0 ∧ w = wx)
  case atStart => exact ⟨rfl, rfl, rfl⟩
  case round =>
    obtain ⟨rfl, rfl, rfl⟩ := hrel
    go_wp2_with fail
    go_end0
    exact ⟨rfl, rfl⟩
set_option maxHeartbeats 1600000 in
set_option maxRecDepth 100000 in
theorem book_growInts (bk : Nat) (f : Nat → Value) (w : World) (h : w.rowIs bk 43 39 f) (h0 : f 9 = .slice none 0 0) (h2 : f 11 = .int .i64 0) :
    Calls Tryz.prog 61 #[.pointer (some ⟨bk, 0, none⟩)] w fun e w' => e = .returned (.tuple #[]) ∧ w' = w.setCell ⟨bk, 11, none⟩ (.int .i64 0) := by
  have c0 := h.cell (i := 9) (by decide)
  rw [h0] at c0
  have c2 := h.cell (i := 11) (by decide)
  rw [h2] at c2
  have f2 := h.frozen 11
  clear h h0 h2
  go_enter Tryz.func61, Tryz.ntmps61
  go_wp2_with fail
  go_loopg [3] 0 (fun q s3 wx => q = 0 ∧ s3 = .int .i64 0 ∧ w = wx)
  case atStart => exact ⟨rfl, rfl, rfl⟩
  case round =>
    obtain ⟨rfl, rfl, rfl⟩ := hrel
    go_wp2_with fail
    go_end0
    exact ⟨rfl, rfl⟩
set_option maxHeartbeats 1600000 in
set_option maxRecDepth 100000 in
theorem book_growWords (bk : Nat) (f : Nat → Value) (w : World) (h : w.rowIs bk 43 39 f) (h0 : f 12 = .slice none 0 0) (h2 : f 14 = .int .i64 0) :
    Calls Tryz.prog 62 #[.pointer (some ⟨bk, 0, none⟩)] w fun e w' => e = .returned (.tuple #[]) ∧ w' = w.setCell ⟨bk, 14, none⟩ (.int .i64 0) := by
  have c0 := h.cell (i := 12) (by decide)
  rw [h0] at c0
  have c2 := h.cell (i := 14) (by decide)
  rw [h2] at c2
  have f2 := h.frozen 14
  clear h h0 h2
  go_enter Tryz.func62, Tryz.ntmps62
  go_wp2_with fail
  go_loopg [3] 0 (fun q s3 wx => q = 0 ∧ s3 = .int .i64 0 ∧ w = wx)
  case atStart => exact ⟨rfl, rfl, rfl⟩
  case round =>
    obtain ⟨rfl, rfl, rfl⟩ := hrel
    go_wp2_with fail
    go_end0
    exact ⟨rfl, rfl⟩
set_option maxHeartbeats 1600000 in
set_option maxRecDepth 100000 in
theorem book_growDones (bk : Nat) (f : Nat → Value) (w : World) (h : w.rowIs bk 43 39 f) (h0 : f 15 = .slice none 0 0) (h2 : f 17 = .int .i64 0) :
    Calls Tryz.prog 63 #[.pointer (some ⟨bk, 0, none⟩)] w fun e w' => e = .returned (.tuple #[]) ∧ w' = w.setCell ⟨bk, 17, none⟩ (.int .i64 0) := by
  have c0 := h.cell (i := 15) (by decide)
  rw [h0] at c0
  have c2 := h.cell (i := 17) (by decide)
  rw [h2] at c2
  have f2 := h.frozen 17
  clear h h0 h2
  go_enter Tryz.func63, Tryz.ntmps63
  go_wp2_with fail
  go_loopg [3] 0 (fun q s3 wx => q = 0 ∧ s3 = .int .i64 0 ∧ w = wx)
  case atStart => exact ⟨rfl, rfl, rfl⟩
  case round =>
    obtain ⟨rfl, rfl, rfl⟩ := hrel
    go_wp2_with fail
    go_end0
    exact ⟨rfl, rfl⟩
set_option maxHeartbeats 1600000 in
set_option maxRecDepth 100000 in
theorem book_growAccts (bk : Nat) (f : Nat → Value) (w : World) (h : w.rowIs bk 43 39 f) (h0 : f 18 = .slice none 0 0) (h2 : f 20 = .int .i64 0) :
    Calls Tryz.prog 64 #[.pointer (some ⟨bk, 0, none⟩)] w fun e w' => e = .returned (.tuple #[]) ∧ w' = w.setCell ⟨bk, 20, none⟩ (.int .i64 0) := by
  have c0 := h.cell (i := 18) (by decide)
  rw [h0] at c0
  have c2 := h.cell (i := 20) (by decide)
  rw [h2] at c2
  have f2 := h.frozen 20
  clear h h0 h2
  go_enter Tryz.func64, Tryz.ntmps64
  go_wp2_with fail
  go_loopg [3] 0 (fun q s3 wx => q = 0 ∧ s3 = .int .i64 0 ∧ w = wx)
  case atStart => exact ⟨rfl, rfl, rfl⟩
  case round =>
    obtain ⟨rfl, rfl, rfl⟩ := hrel
    go_wp2_with fail
    go_end0
    exact ⟨rfl, rfl⟩
set_option maxHeartbeats 1600000 in
set_option maxRecDepth 100000 in
theorem book_growQueue (bk : Nat) (f : Nat → Value) (w : World) (h : w.rowIs bk 43 39 f) (h0 : f 21 = .slice none 0 0) (h2 : f 23 = .int .i64 0) :
    Calls Tryz.prog 65 #[.pointer (some ⟨bk, 0, none⟩)] w fun e w' => e = .returned (.tuple #[]) ∧ w' = w.setCell ⟨bk, 23, none⟩ (.int .i64 0) := by
  have c0 := h.cell (i := 21) (by decide)
  rw [h0] at c0
  have c2 := h.cell (i := 23) (by decide)
  rw [h2] at c2
  have f2 := h.frozen 23
  clear h h0 h2
  go_enter Tryz.func65, Tryz.ntmps65
  go_wp2_with fail
  go_loopg [3] 0 (fun q s3 wx => q = 0 ∧ s3 = .int .i64 0 ∧ w = wx)
  case atStart => exact ⟨rfl, rfl, rfl⟩
  case round =>
    obtain ⟨rfl, rfl, rfl⟩ := hrel
    go_wp2_with fail
    go_end0
    exact ⟨rfl, rfl⟩
set_option maxHeartbeats 1600000 in
set_option maxRecDepth 100000 in
theorem book_growSlots (bk : Nat) (f : Nat → Value) (w : World) (h : w.rowIs bk 43 39 f) (h0 : f 24 = .slice none 0 0) (h2 : f 26 = .int .i64 0) :
    Calls Tryz.prog 66 #[.pointer (some ⟨bk, 0, none⟩)] w fun e w' => e = .returned (.tuple #[]) ∧ w' = w.setCell ⟨bk, 26, none⟩ (.int .i64 0) := by
  have c0 := h.cell (i := 24) (by decide)
  rw [h0] at c0
  have c2 := h.cell (i := 26) (by decide)
  rw [h2] at c2
  have f2 := h.frozen 26
  clear h h0 h2
  go_enter Tryz.func66, Tryz.ntmps66
  go_wp2_with fail
  go_loopg [3] 0 (fun q s3 wx => q = 0 ∧ s3 = .int .i64 0 ∧ w = wx)
  case atStart => exact ⟨rfl, rfl, rfl⟩
  case round =>
    obtain ⟨rfl, rfl, rfl⟩ := hrel
    go_wp2_with fail
    go_end0
    exact ⟨rfl, rfl⟩
set_option maxHeartbeats 1600000 in
set_option maxRecDepth 100000 in
theorem book_growFlights (bk : Nat) (f : Nat → Value) (w : World) (h : w.rowIs bk 43 39 f) (h0 : f 30 = .slice none 0 0) (h2 : f 32 = .int .i64 0) :
    Calls Tryz.prog 68 #[.pointer (some ⟨bk, 0, none⟩)] w fun e w' => e = .returned (.tuple #[]) ∧ w' = w.setCell ⟨bk, 32, none⟩ (.int .i64 0) := by
  have c0 := h.cell (i := 30) (by decide)
  rw [h0] at c0
  have c2 := h.cell (i := 32) (by decide)
  rw [h2] at c2
  have f2 := h.frozen 32
  clear h h0 h2
  go_enter Tryz.func68, Tryz.ntmps68
  go_wp2_with fail
  go_loopg [3] 0 (fun q s3 wx => q = 0 ∧ s3 = .int .i64 0 ∧ w = wx)
  case atStart => exact ⟨rfl, rfl, rfl⟩
  case round =>
    obtain ⟨rfl, rfl, rfl⟩ := hrel
    go_wp2_with fail
    go_end0
    exact ⟨rfl, rfl⟩
set_option maxHeartbeats 1600000 in
set_option maxRecDepth 100000 in
theorem book_growFiles (bk : Nat) (f : Nat → Value) (w : World) (h : w.rowIs bk 43 39 f) (h0 : f 33 = .slice none 0 0) (h2 : f 35 = .int .i64 0) :
    Calls Tryz.prog 69 #[.pointer (some ⟨bk, 0, none⟩)] w fun e w' => e = .returned (.tuple #[]) ∧ w' = w.setCell ⟨bk, 35, none⟩ (.int .i64 0) := by
  have c0 := h.cell (i := 33) (by decide)
  rw [h0] at c0
  have c2 := h.cell (i := 35) (by decide)
  rw [h2] at c2
  have f2 := h.frozen 35
  clear h h0 h2
  go_enter Tryz.func69, Tryz.ntmps69
  go_wp2_with fail
  go_loopg [3] 0 (fun q s3 wx => q = 0 ∧ s3 = .int .i64 0 ∧ w = wx)
  case atStart => exact ⟨rfl, rfl, rfl⟩
  case round =>
    obtain ⟨rfl, rfl, rfl⟩ := hrel
    go_wp2_with fail
    go_end0
    exact ⟨rfl, rfl⟩
def mrk (n k : Nat) : Nat := if k % 2 = 0 then 1 + n % 251 else 1 + (7 * n + n / 251) % 251
theorem mrk_lt (n k : Nat) : mrk n k < 256 := by
  unfold mrk
  split <;> omega
theorem at_any' (n k : Nat) (w : World) (hn : n ≤ 10000000000000000) : Calls Tryz.prog 80 #[.int .i64 n, .int .i64 k] w fun e w' => e = .returned (.int .u8 (mrk n k : Nat)) ∧ w' = w := by
  by_cases h2 : k % 2 = 0
  · have e : mrk n k = 1 + n % 251 := if_pos h2
    rw [e]
    have h1 : Int.tmod (k : Int) 2 = 0 := by
      have := Int.ofNat_tmod k 2
      rw [h2] at this
      exact this.symm
    obtain ⟨r, hr, hr2⟩ : ∃ r : Nat, Int.tmod (n : Int) 251 = (r : Int) ∧ r = n % 251 := ⟨n % 251, (Int.ofNat_tmod n 251).symm, rfl⟩
    obtain ⟨q, hq, hq2⟩ : ∃ q : Nat, (1 : Int) + (r : Int) = (q : Int) ∧ q = 1 + r := ⟨1 + r, by omega, rfl⟩
    have hw : IntKind.i64.wrap (q : Int) = (q : Int) := by rw [IntKind.wrap_i64]; omega
    have hw8 : IntKind.u8.wrap (q : Int) = (q : Int) := by rw [IntKind.wrap_u8']; omega
    have hfin : q = 1 + n % 251 := by omega
    clear hq2 hr2
    rw [← hfin]
    clear hfin
    go_enter Tryz.func80, Tryz.ntmps80
    go_wp2_with fail
    go_ret
    exact ⟨rfl, rfl⟩
  · have e : mrk n k = 1 + (7 * n + n / 251) % 251 := if_neg h2
    rw [e]
    have h1 : Int.tmod (k : Int) 2 = 1 := by
      have := Int.ofNat_tmod k 2
      rw [show k % 2 = 1 by omega] at this
      exact this.symm
    obtain ⟨s, hs, hs2⟩ : ∃ s : Nat, (7 : Int) * (n : Int) = (s : Int) ∧ s = 7 * n := ⟨7 * n, by omega, rfl⟩
    have hws : IntKind.i64.wrap (s : Int) = (s : Int) := by rw [IntKind.wrap_i64]; omega
    obtain ⟨d, hd, hd2⟩ : ∃ d : Nat, Int.tdiv (n : Int) 251 = (d : Int) ∧ d = n / 251 := ⟨n / 251, (Int.ofNat_tdiv n 251).symm, rfl⟩
    obtain ⟨c, hc, hc2⟩ : ∃ c : Nat, (s : Int) + (d : Int) = (c : Int) ∧ c = s + d := ⟨s + d, by omega, rfl⟩
    have hwd : IntKind.i64.wrap (d : Int) = (d : Int) := by rw [IntKind.wrap_i64]; omega
    have hwc : IntKind.i64.wrap (c : Int) = (c : Int) := by rw [IntKind.wrap_i64]; omega
    obtain ⟨r, hr, hr2⟩ : ∃ r : Nat, Int.tmod (c : Int) 251 = (r : Int) ∧ r = c % 251 := ⟨c % 251, (Int.ofNat_tmod c 251).symm, rfl⟩
    obtain ⟨q, hq, hq2⟩ : ∃ q : Nat, (1 : Int) + (r : Int) = (q : Int) ∧ q = 1 + r := ⟨1 + r, by omega, rfl⟩
    have hw : IntKind.i64.wrap (q : Int) = (q : Int) := by rw [IntKind.wrap_i64]; omega
    have hw8 : IntKind.u8.wrap (q : Int) = (q : Int) := by rw [IntKind.wrap_u8']; omega
    have hfin : q = 1 + (7 * n + n / 251) % 251 := by omega
    clear hq2 hr2 hc2 hd2 hs2
    rw [← hfin]
    clear hfin
    go_enter Tryz.func80, Tryz.ntmps80
    go_wp2_with fail
    go_ret
    exact ⟨rfl, rfl⟩
set_option maxRecDepth 100000 in
theorem tight_any (bk used k : Nat) (f : Nat → Value) (w : World) (h : w.rowIs bk 43 39 f) (hf : f 38 = .int .i64 (used : Nat)) (hu : used ≤ 16777216) (hk : k ≤ 4611686018427387904) :
    Calls Tryz.prog 53 #[.pointer (some ⟨bk, 0, none⟩), .int .i64 k] w fun e w' => (16777216 < used + k ∧ e = .returned (.bool true) ∧ w' = w) ∨ (used + k ≤ 16777216 ∧ e = .returned (.bool false) ∧ w' = w.setCell ⟨bk, 38, none⟩ (.int .i64 ((used + k : Nat) : Int))) := by
  have c := h.cell (i := 38) (by decide)
  rw [hf] at c
  have fz := h.frozen 38
  obtain ⟨s, hs, hs2⟩ : ∃ s : Nat, (used : Int) + (k : Int) = (s : Int) ∧ s = used + k := ⟨used + k, by omega, rfl⟩
  have hw : IntKind.i64.wrap (s : Int) = (s : Int) := by rw [IntKind.wrap_i64]; omega
  rw [← hs2]
  by_cases hg : 16777216 < s
  · have hgz : (16777216 : Int) < (s : Int) := by omega
    clear hs2
    go_enter Tryz.func53, Tryz.ntmps53
    go_wp2_with fail
    go_ret
    exact Or.inl ⟨hg, rfl, rfl⟩
  · have hgz : ¬ ((16777216 : Int) < (s : Int)) := by omega
    clear hs2
    go_enter Tryz.func53, Tryz.ntmps53
    go_wp2_with fail
    go_ret
    exact ⟨by omega, rfl, rfl⟩
end Go.Proofs.YtdhhjdacidhmjaaGreat

/- A Book that keeps lists of bytes and of messages: what it is in memory; its numbers; one list more. -/
namespace Go.Proofs.YtdhhjdacidhmjaaGreat
open Go.RowKit
set_option maxRecDepth 100000
set_option maxRecDepth 100000
/-- A kind's lists. -/
structure KI (O own : Nat → Nat) (W : World) (cl ci ce t tl sz : Nat) (mk : Nat → Nat → Value) (lv ov : Value) (n : Nat) (L : Nat → Value) (ln M : Nat → Nat) : Prop where
  li : Li O cl W tl 1 lv n L
  lo : Li O ci W 3 1 ov n (fun i => .int .i64 (M i : Nat))
  ok : ∀ i, i < n → KOk O ce own W t sz mk (L i) (ln i) (M i)
section
variable {O O' own : Nat → Nat} {W W' : World} {cl ci ce t tl sz lo hi : Nat} {mk : Nat → Nat → Value} {lv ov : Value} {n : Nat} {L : Nat → Value} {ln M : Nat → Nat}
theorem KI.keepR (h : KI O own W cl ci ce t tl sz mk lv ov n L ln M) (k : ChR lo hi O O' W W') (h1 : cl < lo ∨ hi ≤ cl) (h2 : ci < lo ∨ hi ≤ ci) (h3 : ce < lo ∨ hi ≤ ce) : KI O' own W' cl ci ce t tl sz mk lv ov n L ln M :=
  ⟨h.li.keepR k h1, h.lo.keepR k h2, fun i hi => (h.ok i hi).keepR k h3⟩
theorem KI.lay (h : KI O own W cl ci ce t tl sz mk lv ov n L ln M) {nb m2 : Nat} (hn : W.heap.size ≤ nb) : KI O (fun k => if k = nb then m2 else own k) W cl ci ce t tl sz mk lv ov n L ln M :=
  ⟨h.li, h.lo, fun i hi => (h.ok i hi).up hn⟩
theorem infoIn : (Tryz.prog.info? 3).map (fun i => (i.zero, i.size, i.bytes)) = some (some (.int .i64 0), 1, 8) := by kernel_rfl
theorem KI.len (h : KI O own W cl ci ce t tl sz mk lv ov n L ln M) : ∃ la lc oa oc, lv = .slice la n lc ∧ ov = .slice oa n oc ∧ (∀ j, j < n → ∃ g, la = some ⟨g, 0, none⟩ ∧ W.cell? ⟨g, j, none⟩ = some (L j)) ∧ (∀ j, j < n → ∃ g, oa = some ⟨g, 0, none⟩ ∧ W.cell? ⟨g, j, none⟩ = some (.int .i64 (M j : Nat))) := by
  obtain ⟨la, lc, e1⟩ := h.li.form
  obtain ⟨oa, oc, e2⟩ := h.lo.form
  subst e1 e2
  refine ⟨la, lc, oa, oc, rfl, rfl, fun j hj => ?_, fun j hj => ?_⟩
  · obtain ⟨g, e, hc⟩ := li_cell h.li (by omega)
    exact ⟨g, e, hc j (by omega)⟩
  · obtain ⟨g, e, hc⟩ := li_cell h.lo (by omega)
    exact ⟨g, e, hc j (by omega)⟩
set_option maxHeartbeats 1000000 in
/-- One list more. -/
theorem KI.push {bk p v0 len m : Nat} {f : Nat → Value} {v : Value} {tyl : TypeId} (row : RowC O 1003 W bk 43 39 f) (hp : p < 38) (hf : f p = lv) (hf1 : f (p + 1) = ov) (h : KI O own W cl ci ce t tl sz mk lv ov n L ln M) (htl : Tryz.prog.underlying tyl = some (.slice tl)) (hin : (Tryz.prog.info? tl).map (fun i => (i.zero, i.size, i.bytes)) = some (some (.slice none 0 0), 1, v0)) (hv0 : v0 = 24) (hv : KOk O ce own W t sz mk v len m) (hn : n ≤ 1000000000000)
    (c1 : lo ≤ cl ∧ cl < hi) (c2 : lo ≤ ci ∧ ci < hi) (c3 : lo ≤ 1003 ∧ 1003 < hi) (c4 : ce < lo ∨ hi ≤ ce) (c5 : cl ≠ ci ∧ cl ≠ 1003 ∧ ci ≠ 1003) :
    ∃ la lc W2 W3 oa oc W5 W6, (Builtin.append_ #[tyl, tyl] tyl #[lv, .slice (some ⟨W.heap.size, 0, none⟩) 1 1]).run Tryz.prog (W.alloc (.cells #[v] tl)) = .ok (.slice la (n + 1) lc) W2 ∧ W.cell? ⟨bk, p, none⟩ = some lv ∧ W2.cell? ⟨bk, p, none⟩ = some lv ∧ W2.frozen? ⟨bk, p, none⟩ = false ∧ Hid (W2.setCell ⟨bk, p, none⟩ (.slice la (n + 1) lc) = W3) ∧
      W3.cell? ⟨bk, p + 1, none⟩ = some ov ∧ (Builtin.append_ #[30, 30] 30 #[ov, .slice (some ⟨W3.heap.size, 0, none⟩) 1 1]).run Tryz.prog (W3.alloc (.cells #[.int .i64 (m : Nat)] 3)) = .ok (.slice oa (n + 1) oc) W5 ∧ W5.cell? ⟨bk, p + 1, none⟩ = some ov ∧ W5.frozen? ⟨bk, p + 1, none⟩ = false ∧ Hid (W5.setCell ⟨bk, p + 1, none⟩ (.slice oa (n + 1) oc) = W6) ∧
      ∃ O', RowC O' 1003 W6 bk 43 39 (fun i => if i = p + 1 then .slice oa (n + 1) oc else if i = p then .slice la (n + 1) lc else f i) ∧ KI O' own W6 cl ci ce t tl sz mk (.slice la (n + 1) lc) (.slice oa (n + 1) oc) (n + 1) (up L n v) (up ln n len) (up M n m) ∧ ChR lo hi O O' W W6 := by
  subst hv0
  obtain ⟨a0, cp0, hvf⟩ := hv.form
  obtain ⟨v', W2, e1, k1, l1⟩ := h.li.app (P := Tryz.prog) htl hin rfl (by decide) [v] rfl (fun u hu => by
    obtain rfl := List.mem_singleton.1 hu
    rw [hvf]
    rfl) (by omega) (by omega)
  obtain ⟨la, lc, rfl⟩ := l1.form
  obtain ⟨O1, hO1⟩ : ∃ f : Nat → Nat, f = fun k => if k < W.heap.size then O k else cl := ⟨_, rfl⟩
  rw [← hO1] at k1 l1
  have r1 := row.keep k1 (fun e => c5.2.1 e.symm)
  have k2 : Ch 1003 O1 O1 W2 (W2.setCell ⟨bk, p, none⟩ (.slice la (n + 1) lc)) := Ch.set r1.2 p _
  have r2 := r1.set p (.slice la (n + 1) lc)
  obtain ⟨v'', W5, e3, k3, l3⟩ := ((h.lo.keep k1 (fun e => c5.1 e.symm)).keep k2 c5.2.2).app (P := Tryz.prog) Tryz.underlying30 infoIn rfl (by decide) [.int .i64 (m : Nat)] rfl (fun u hu => by
    obtain rfl := List.mem_singleton.1 hu
    rfl) (by omega) (by omega)
  obtain ⟨oa, oc, rfl⟩ := l3.form
  obtain ⟨O2, hO2⟩ : ∃ f : Nat → Nat, f = fun k => if k < (W2.setCell ⟨bk, p, none⟩ (.slice la (n + 1) lc)).heap.size then O1 k else ci := ⟨_, rfl⟩
  rw [← hO2] at k3 l3
  have r3 := r2.keep k3 (fun e => c5.2.2 e.symm)
  have k4 : Ch 1003 O2 O2 W5 (W5.setCell ⟨bk, p + 1, none⟩ (.slice oa (n + 1) oc)) := Ch.set r3.2 (p + 1) _
  have r4 := r3.set (p + 1) (.slice oa (n + 1) oc)
  have kk : ChR lo hi O O2 W (W5.setCell ⟨bk, p + 1, none⟩ (.slice oa (n + 1) oc)) := (((ChR.of k1 c1.1 c1.2).trans (ChR.of k2 c3.1 c3.2)).trans (ChR.of k3 c2.1 c2.2)).trans (ChR.of k4 c3.1 c3.2)
  have q0 := row.1.cell (i := p) (by omega)
  have q1 := r1.1.cell (i := p) (by omega)
  have q2 := r2.1.cell (i := p + 1) (by omega)
  have q3 := r3.1.cell (i := p + 1) (by omega)
  rw [hf] at q0 q1
  rw [if_neg (by omega), hf1] at q2 q3
  refine ⟨la, lc, W2, _, oa, oc, W5, _, e1, q0, q1, r1.1.frozen p, rfl, q2, e3, q3, r3.1.frozen (p + 1), rfl, O2, r4, ⟨(((l1.keep k2 c5.2.1).keep k3 c5.1).keep k4 c5.2.1).congr fun j hj => ?_, (l3.keep k4 c5.2.2).congr fun j hj => ?_, fun i hi => ?_⟩, kk⟩
  · rw [Nat.mul_one] at hj ⊢
    show _ = (if j = n then v else L j)
    by_cases e : j = n
    · rw [if_neg (by omega), if_pos e, e, Nat.sub_self]
      rfl
    · rw [if_pos (by omega), if_neg e]
  · rw [Nat.mul_one] at hj ⊢
    show _ = Value.int .i64 ((if j = n then m else M j : Nat) : Int)
    by_cases e : j = n
    · rw [if_neg (by omega), if_pos e, e, Nat.sub_self]
      rfl
    · rw [if_pos (by omega), if_neg e]
  · show KOk O2 ce own _ t sz mk (if i = n then v else L i) (if i = n then len else ln i) (if i = n then m else M i)
    by_cases e : i = n
    · rw [if_pos e, if_pos e, if_pos e]
      exact hv.keepR kk c4
    · rw [if_neg e, if_neg e, if_neg e]
      exact (h.ok i (by omega)).keepR kk c4
end
/-- The marks. -/
def mkB (m j : Nat) : Value := .int .u8 (mrk m j : Nat)
def mkMl (k : Int) : List Value := [.int .i64 k, .int .i64 0, .int .i64 0, .int .i64 0, .int .u64 0, .int .u64 0, .int .u64 0, .int .u64 0, .int .i64 0, .int .u64 0, .slice none 0 0, .int .i64 0, .int .u64 0, .string ⟨#[]⟩, .string ⟨#[]⟩, .int .u64 0, .int .u64 0, .int .u64 0, .int .i64 0, .int .i64 0, .int .i64 0, .int .i64 0]
def mkM (m j : Nat) : Value := (mkMl ((1000 + m : Nat) : Int)).getD (j % 22) undef
theorem mkM_one (m j : Nat) : (mkM m j).oneCell' = true := by
  unfold mkM
  have h : j % 22 < 22 := Nat.mod_lt _ (by decide)
  generalize j % 22 = i at *
  match i, h with
  | 0, _ => rfl
  | 1, _ => rfl
  | 2, _ => rfl
  | 3, _ => rfl
  | 4, _ => rfl
  | 5, _ => rfl
  | 6, _ => rfl
  | 7, _ => rfl
  | 8, _ => rfl
  | 9, _ => rfl
  | 10, _ => rfl
  | 11, _ => rfl
  | 12, _ => rfl
  | 13, _ => rfl
  | 14, _ => rfl
  | 15, _ => rfl
  | 16, _ => rfl
  | 17, _ => rfl
  | 18, _ => rfl
  | 19, _ => rfl
  | 20, _ => rfl
  | 21, _ => rfl
  | k + 22, h => exact absurd h (by omega)
theorem mkM_L (m len : Nat) : mkL mkM m len 22 = mkMl ((1000 + m : Nat) : Int) := by
  apply List.ext_getElem?
  intro j
  by_cases hj : j < 22
  · rw [mkL_get _ _ _ _ hj]
    unfold mkM
    have : (len * 22 + j) % 22 = j := by omega
    rw [this, List.getD_eq_getElem?_getD]
    match j, hj with
    | 0, _ => rfl
    | 1, _ => rfl
    | 2, _ => rfl
    | 3, _ => rfl
    | 4, _ => rfl
    | 5, _ => rfl
    | 6, _ => rfl
    | 7, _ => rfl
    | 8, _ => rfl
    | 9, _ => rfl
    | 10, _ => rfl
    | 11, _ => rfl
    | 12, _ => rfl
    | 13, _ => rfl
    | 14, _ => rfl
    | 15, _ => rfl
    | 16, _ => rfl
    | 17, _ => rfl
    | 18, _ => rfl
    | 19, _ => rfl
    | 20, _ => rfl
    | 21, _ => rfl
    | k + 22, h => exact absurd h (by omega)
  · rw [List.getElem?_eq_none (by rw [mkL_len]; omega), List.getElem?_eq_none (by show 22 ≤ j; omega)]
theorem mkB_L (m len : Nat) : mkL mkB m len 1 = [.int .u8 (mrk m len : Nat)] := by
  unfold mkL mkB
  simp
theorem infoBb : (Tryz.prog.info? 5).map (fun i => (i.zero, i.size, i.bytes)) = some (some (.int .u8 0), 1, 1) := by kernel_rfl
theorem infoBl : (Tryz.prog.info? 103).map (fun i => (i.zero, i.size, i.bytes)) = some (some (.slice none 0 0), 1, 24) := by kernel_rfl
theorem infoMl : (Tryz.prog.info? 94).map (fun i => (i.zero, i.size, i.bytes)) = some (some (.slice none 0 0), 1, 24) := by kernel_rfl
/-- A Book as plain data. -/
structure Bd where
  lb : Value
  ob : Value
  lm : Value
  om : Value
  nb : Nat
  nm : Nat
  ab : Nat
  am : Nat
  tu : Nat
  dn : Nat
  us : Nat
  LB : Nat → Value
  lB : Nat → Nat
  mB : Nat → Nat
  LM : Nat → Value
  lM : Nat → Nat
  mM : Nat → Nat
def bdC (d : Bd) (i : Nat) : Value := if i = 0 then d.lb else if i = 1 then d.ob else if i = 2 then .int .i64 (d.ab : Nat) else if i = 27 then d.lm else if i = 28 then d.om else if i = 29 then .int .i64 (d.am : Nat) else if i = 36 then .int .i64 (d.tu : Nat) else if i = 37 then .int .i64 (d.dn : Nat) else if i = 38 then .int .i64 (d.us : Nat) else if i % 3 = 2 then .int .i64 0 else .slice none 0 0
/-- A Book in memory: colours 1000 to 1006. -/
structure BM (O own : Nat → Nat) (W : World) (bk : Nat) (d : Bd) : Prop where
  row : RowC O 1003 W bk 43 39 (bdC d)
  kb : KI O own W 1001 1002 1000 5 103 1 mkB d.lb d.ob d.nb d.LB d.lB d.mB
  km : KI O own W 1004 1005 1006 108 94 22 mkM d.lm d.om d.nm d.LM d.lM d.mM
  tb : ∀ i, i < d.nb → 1 ≤ d.mB i ∧ d.mB i ≤ d.tu
  tm : ∀ i, i < d.nm → 1 ≤ d.mM i ∧ d.mM i ≤ d.tu
  lb : ∀ i, i < d.nb → d.lB i ≤ 1000000096
  lm : ∀ i, i < d.nm → d.lM i ≤ 1000000032
section
variable {O O' own : Nat → Nat} {W W' : World} {bk lo hi : Nat} {d : Bd}
theorem BM.keepR (h : BM O own W bk d) (k : ChR lo hi O O' W W') (hx : 1007 ≤ lo ∨ hi ≤ 1000) : BM O' own W' bk d :=
  ⟨h.row.keepR k (by omega), h.kb.keepR k (by omega) (by omega) (by omega), h.km.keepR k (by omega) (by omega) (by omega), h.tb, h.tm, h.lb, h.lm⟩
theorem BM.since (h : BM O own W bk d) (s : W.Since W.heap.size W') : BM O own W' bk d := h.keepR (lo := 0) (hi := 0) (ChR.since s) (.inr (by omega))
/-- A number of the Book's is another one. -/
theorem BM.num (h : BM O own W bk d) (c : Nat) (u : Nat) (d2 : Bd) (hr : ∀ i, i < 39 → bdC d2 i = if i = c then .int .i64 (u : Nat) else bdC d i) (e1 : d2.lb = d.lb ∧ d2.ob = d.ob ∧ d2.lm = d.lm ∧ d2.om = d.om ∧ d2.nb = d.nb ∧ d2.nm = d.nm) (e2 : d2.LB = d.LB ∧ d2.lB = d.lB ∧ d2.mB = d.mB ∧ d2.LM = d.LM ∧ d2.lM = d.lM ∧ d2.mM = d.mM) (hb : d.tu ≤ d2.tu) :
    BM O own (W.setCell ⟨bk, c, none⟩ (.int .i64 (u : Nat))) bk d2 ∧ ChR 1003 1004 O O W (W.setCell ⟨bk, c, none⟩ (.int .i64 (u : Nat))) := by
  have k : ChR 1003 1004 O O W (W.setCell ⟨bk, c, none⟩ (.int .i64 (u : Nat))) := ChR.of (Ch.set h.row.2 c _) (Nat.le_refl _) (Nat.lt_succ_self _)
  have hrow := h.row.set c (.int .i64 (u : Nat))
  have kb := h.kb.keepR k (by omega) (by omega) (by omega)
  have km := h.km.keepR k (by omega) (by omega) (by omega)
  obtain ⟨g1, g2, g3, g4, g5, g6⟩ := e1
  obtain ⟨f1, f2, f3, f4, f5, f6⟩ := e2
  refine ⟨⟨⟨hrow.1.congr fun i hi => (hr i hi).symm, hrow.2⟩, by rw [g1, g2, g5, f1, f2, f3]; exact kb, by rw [g3, g4, g6, f4, f5, f6]; exact km, fun i hi => ?_, fun i hi => ?_, fun i hi => ?_, fun i hi => ?_⟩, k⟩
  · rw [f3]
    have := h.tb i (by omega)
    omega
  · rw [f6]
    have := h.tm i (by omega)
    omega
  · rw [f2]
    exact h.lb i (by omega)
  · rw [f5]
    exact h.lm i (by omega)
/-- One list of bytes more. -/
theorem BM.pushB {v : Value} {len m : Nat} (h : BM O own W bk d) (hv : KOk O 1000 own W 5 1 mkB v len m) (hm : 1 ≤ m ∧ m ≤ d.tu) (hl : len ≤ 1000000096) (hn : d.nb ≤ 1000000000000) :
    ∃ la lc W2 W3 oa oc W5 W6, (Builtin.append_ #[29, 29] 29 #[d.lb, .slice (some ⟨W.heap.size, 0, none⟩) 1 1]).run Tryz.prog (W.alloc (.cells #[v] 103)) = .ok (.slice la (d.nb + 1) lc) W2 ∧ W.cell? ⟨bk, 0, none⟩ = some d.lb ∧ W2.cell? ⟨bk, 0, none⟩ = some d.lb ∧ W2.frozen? ⟨bk, 0, none⟩ = false ∧ Hid (W2.setCell ⟨bk, 0, none⟩ (.slice la (d.nb + 1) lc) = W3) ∧
      W3.cell? ⟨bk, 1, none⟩ = some d.ob ∧ (Builtin.append_ #[30, 30] 30 #[d.ob, .slice (some ⟨W3.heap.size, 0, none⟩) 1 1]).run Tryz.prog (W3.alloc (.cells #[.int .i64 (m : Nat)] 3)) = .ok (.slice oa (d.nb + 1) oc) W5 ∧ W5.cell? ⟨bk, 1, none⟩ = some d.ob ∧ W5.frozen? ⟨bk, 1, none⟩ = false ∧ Hid (W5.setCell ⟨bk, 1, none⟩ (.slice oa (d.nb + 1) oc) = W6) ∧
      ∃ O', BM O' own W6 bk { d with lb := .slice la (d.nb + 1) lc, ob := .slice oa (d.nb + 1) oc, nb := d.nb + 1, LB := up d.LB d.nb v, lB := up d.lB d.nb len, mB := up d.mB d.nb m } ∧ ChR 1001 1004 O O' W W6 := by
  obtain ⟨la, lc, W2, W3, oa, oc, W5, W6, q1, q2, q3, q4, q5, q6, q7, q8, q9, q10, O', hr, hk, kk⟩ := KI.push (p := 0) (lo := 1001) (hi := 1004) h.row (by decide) rfl rfl h.kb Tryz.underlying29 infoBl rfl hv hn (by decide) (by decide) (by decide) (by decide) (by decide)
  refine ⟨la, lc, W2, W3, oa, oc, W5, W6, q1, q2, q3, q4, q5, q6, q7, q8, q9, q10, O', ⟨⟨hr.1.congr fun i hi => ?_, hr.2⟩, hk, h.km.keepR kk (by omega) (by omega) (by omega), fun i hi => ?_, h.tm, fun i hi => ?_, h.lm⟩, kk⟩
  · unfold bdC
    by_cases e1 : i = 1
    · subst e1; rfl
    · by_cases e0 : i = 0
      · subst e0; rfl
      · rw [if_neg (show ¬ i = 0 + 1 by omega), if_neg e0, if_neg e0, if_neg e0, if_neg e1, if_neg e1]
  · show 1 ≤ (if i = d.nb then m else d.mB i) ∧ (if i = d.nb then m else d.mB i) ≤ d.tu
    split
    · exact hm
    · exact h.tb i (by have : i < d.nb + 1 := hi; omega)
  · show (if i = d.nb then len else d.lB i) ≤ 1000000096
    split
    · exact hl
    · exact h.lb i (by have : i < d.nb + 1 := hi; omega)
/-- One list of messages more. -/
theorem BM.pushM {v : Value} {len m : Nat} (h : BM O own W bk d) (hv : KOk O 1006 own W 108 22 mkM v len m) (hm : 1 ≤ m ∧ m ≤ d.tu) (hl : len ≤ 1000000032) (hn : d.nm ≤ 1000000000000) :
    ∃ la lc W2 W3 oa oc W5 W6, (Builtin.append_ #[39, 39] 39 #[d.lm, .slice (some ⟨W.heap.size, 0, none⟩) 1 1]).run Tryz.prog (W.alloc (.cells #[v] 94)) = .ok (.slice la (d.nm + 1) lc) W2 ∧ W.cell? ⟨bk, 27, none⟩ = some d.lm ∧ W2.cell? ⟨bk, 27, none⟩ = some d.lm ∧ W2.frozen? ⟨bk, 27, none⟩ = false ∧ Hid (W2.setCell ⟨bk, 27, none⟩ (.slice la (d.nm + 1) lc) = W3) ∧
      W3.cell? ⟨bk, 28, none⟩ = some d.om ∧ (Builtin.append_ #[30, 30] 30 #[d.om, .slice (some ⟨W3.heap.size, 0, none⟩) 1 1]).run Tryz.prog (W3.alloc (.cells #[.int .i64 (m : Nat)] 3)) = .ok (.slice oa (d.nm + 1) oc) W5 ∧ W5.cell? ⟨bk, 28, none⟩ = some d.om ∧ W5.frozen? ⟨bk, 28, none⟩ = false ∧ Hid (W5.setCell ⟨bk, 28, none⟩ (.slice oa (d.nm + 1) oc) = W6) ∧
      ∃ O', BM O' own W6 bk { d with lm := .slice la (d.nm + 1) lc, om := .slice oa (d.nm + 1) oc, nm := d.nm + 1, LM := up d.LM d.nm v, lM := up d.lM d.nm len, mM := up d.mM d.nm m } ∧ ChR 1003 1006 O O' W W6 := by
  obtain ⟨la, lc, W2, W3, oa, oc, W5, W6, q1, q2, q3, q4, q5, q6, q7, q8, q9, q10, O', hr, hk, kk⟩ := KI.push (p := 27) (lo := 1003) (hi := 1006) h.row (by decide) rfl rfl h.km Tryz.underlying39 infoMl rfl hv hn (by decide) (by decide) (by decide) (by decide) (by decide)
  refine ⟨la, lc, W2, W3, oa, oc, W5, W6, q1, q2, q3, q4, q5, q6, q7, q8, q9, q10, O', ⟨⟨hr.1.congr fun i hi => ?_, hr.2⟩, h.kb.keepR kk (by omega) (by omega) (by omega), hk, h.tb, fun i hi => ?_, h.lb, fun i hi => ?_⟩, kk⟩
  · by_cases e1 : i = 28
    · subst e1; rfl
    · by_cases e0 : i = 27
      · subst e0; rfl
      · rw [if_neg (show ¬ i = 27 + 1 by omega), if_neg e0]
        unfold bdC
        by_cases g0 : i = 0
        · subst g0; rfl
        · by_cases g1 : i = 1
          · subst g1; rfl
          · by_cases g2 : i = 2
            · subst g2; rfl
            · rw [if_neg g0, if_neg g1, if_neg g2, if_neg e0, if_neg e1, if_neg g0, if_neg g1, if_neg g2, if_neg e0, if_neg e1]
  · show 1 ≤ (if i = d.nm then m else d.mM i) ∧ (if i = d.nm then m else d.mM i) ≤ d.tu
    split
    · exact hm
    · exact h.tm i (by have : i < d.nm + 1 := hi; omega)
  · show (if i = d.nm then len else d.lM i) ≤ 1000000032
    split
    · exact hl
    · exact h.lm i (by have : i < d.nm + 1 := hi; omega)
theorem infoMq : (Tryz.prog.info? 108).map (fun i => (i.zero, i.size, i.bytes)) = some (some (.agg (mkMl 0).toArray), 22, 208) := by kernel_rfl
/-- A list of messages grows by one. -/
theorem BM.appM {v : Value} {len m : Nat} (h : BM O own W bk d) (hv : KOk O 1006 own W 108 22 mkM v len m) (hl : len ≤ 1000000100) :
    ∃ a c W2 O' own', (Builtin.append_ #[94, 94] 94 #[v, .slice (some ⟨W.heap.size, 0, none⟩) 1 1]).run Tryz.prog (W.alloc (.cells (mkMl ((1000 + m : Nat) : Int)).toArray 108)) = .ok (.slice a (len + 1) c) W2 ∧ BM O' own' W2 bk d ∧ KOk O' 1006 own' W2 108 22 mkM (.slice a (len + 1) c) (len + 1) m ∧ ChR 1006 1007 O O' W W2 := by
  obtain ⟨v', W2, O', own', e, h1, h2, h3⟩ := KOk.app (P := Tryz.prog) Tryz.underlying94 infoMq rfl (by decide) (mkM_one m) hv (by omega) (by omega)
  obtain ⟨a, c, rfl⟩ := h1.form
  rw [mkM_L] at e
  have kk : ChR 1006 1007 O O' W W2 := ChR.of h3 (Nat.le_refl _) (Nat.lt_succ_self _)
  exact ⟨a, c, W2, O', own', e, ⟨h.row.keepR kk (by omega), ⟨h.kb.li.keepR kk (by omega), h.kb.lo.keepR kk (by omega), fun i hi => h2 _ _ _ _ _ _ _ (fun e => by omega) (h.kb.ok i hi)⟩, ⟨h.km.li.keepR kk (by omega), h.km.lo.keepR kk (by omega), fun i hi => h2 _ _ _ _ _ _ _ (fun _ => ⟨rfl, rfl, rfl⟩) (h.km.ok i hi)⟩, h.tb, h.tm, h.lb, h.lm⟩, h1, kk⟩
/-- A list of bytes grows by one. -/
theorem BM.appB {v : Value} {len m : Nat} (h : BM O own W bk d) (hv : KOk O 1000 own W 5 1 mkB v len m) (hl : len ≤ 1000000100) :
    ∃ a c W2 O' own', (Builtin.append_ #[103, 103] 103 #[v, .slice (some ⟨W.heap.size, 0, none⟩) 1 1]).run Tryz.prog (W.alloc (.cells #[.int .u8 (mrk m len : Nat)] 5)) = .ok (.slice a (len + 1) c) W2 ∧ BM O' own' W2 bk d ∧ KOk O' 1000 own' W2 5 1 mkB (.slice a (len + 1) c) (len + 1) m ∧ ChR 1000 1001 O O' W W2 := by
  obtain ⟨v', W2, O', own', e, h1, h2, h3⟩ := KOk.app (P := Tryz.prog) Tryz.underlying103 infoBb rfl (by decide) (fun j => rfl) hv (by omega) (by omega)
  obtain ⟨a, c, rfl⟩ := h1.form
  rw [mkB_L] at e
  have kk : ChR 1000 1001 O O' W W2 := ChR.of h3 (Nat.le_refl _) (Nat.lt_succ_self _)
  exact ⟨a, c, W2, O', own', e, ⟨h.row.keepR kk (by omega), ⟨h.kb.li.keepR kk (by omega), h.kb.lo.keepR kk (by omega), fun i hi => h2 _ _ _ _ _ _ _ (fun _ => ⟨rfl, rfl, rfl⟩) (h.kb.ok i hi)⟩, ⟨h.km.li.keepR kk (by omega), h.km.lo.keepR kk (by omega), fun i hi => h2 _ _ _ _ _ _ _ (fun e => by omega) (h.km.ok i hi)⟩, h.tb, h.tm, h.lb, h.lm⟩, h1, kk⟩
/-- What no list lies on may be written, and given a number. -/
theorem KOk.apart {c : Nat} {t sz : Nat} {mk : Nat → Nat → Value} {v : Value} {len m b : Nat} (h : KOk O c own W t sz mk v len m) (hm : 1 ≤ m) (hb : own b = 0) (hw : ∀ k, k < W.heap.size → k ≠ b → W'.heap[k]? = W.heap[k]?) (u : Nat) : KOk O c own W' t sz mk v len m ∧ KOk O c (fun k => if k = b then u else own k) W t sz mk v len m := by
  rcases h with h | ⟨b2, cap, F, hv, hc, ho, h1, h2, h3, h4⟩
  · exact ⟨.inl h, .inl h⟩
  · have hne : b2 ≠ b := fun e => by rw [e, hb] at ho; omega
    refine ⟨.inr ⟨b2, cap, F, hv, hc, ho, h1, h2, h3.of_block (hw b2 h3.lt hne), h4⟩, .inr ⟨b2, cap, F, hv, hc, ?_, h1, h2, h3, h4⟩⟩
    show (if b2 = b then u else own b2) = m
    rw [if_neg hne]
    exact ho
theorem BM.write {b : Nat} (h : BM O own W bk d) (hb : own b = 0) (k : Ch 1006 O O W W') (hw : ∀ k, k < W.heap.size → k ≠ b → W'.heap[k]? = W.heap[k]?) : BM O own W' bk d := by
  have kk : ChR 1006 1007 O O W W' := ChR.of k (Nat.le_refl _) (Nat.lt_succ_self _)
  exact ⟨h.row.keepR kk (by omega), h.kb.keepR kk (by omega) (by omega) (by omega), ⟨h.km.li.keepR kk (by omega), h.km.lo.keepR kk (by omega), fun i hi => ((h.km.ok i hi).apart (h.tm i hi).1 hb hw 0).1⟩, h.tb, h.tm, h.lb, h.lm⟩
theorem BM.give {b : Nat} (h : BM O own W bk d) (hb : own b = 0) (u : Nat) : BM O (fun k => if k = b then u else own k) W bk d :=
  ⟨h.row, ⟨h.kb.li, h.kb.lo, fun i hi => ((h.kb.ok i hi).apart (W' := W) (h.tb i hi).1 hb (fun _ _ _ => rfl) u).2⟩, ⟨h.km.li, h.km.lo, fun i hi => ((h.km.ok i hi).apart (W' := W) (h.tm i hi).1 hb (fun _ _ _ => rfl) u).2⟩, h.tb, h.tm, h.lb, h.lm⟩
theorem BM.lay (h : BM O own W bk d) {b u : Nat} (hb : W.heap.size ≤ b) : BM O (fun k => if k = b then u else own k) W bk d :=
  ⟨h.row, h.kb.lay hb, h.km.lay hb, h.tb, h.tm, h.lb, h.lm⟩
end
end Go.Proofs.YtdhhjdacidhmjaaGreat

/- The Book: growMsgs, where lists of that kind are kept (kb3_gen.py). -/
namespace Go.Proofs.YtdhhjdacidhmjaaGreat
open Go.RowKit
set_option maxRecDepth 100000
set_option maxRecDepth 100000
/-- How many lists have been kept while one grows. -/
def cnt (i : Nat) : Nat := if i ≤ 4 then i - 1 else 3 + (i - 1) / 16
theorem cnt_step (i : Nat) (hi : 1 ≤ i) : cnt (i + 1) = cnt i + (if i < 4 ∨ i % 16 = 0 then 1 else 0) := by
  unfold cnt
  split <;> split <;> split <;> omega
theorem cnt_le (i : Nat) : cnt i ≤ i + 3 := by
  unfold cnt
  split <;> omega
theorem mk_row (W : World) (kq : Int) : ∃ W1, Hid (W.alloc (.cells #[.int .i64 0, .int .i64 0, .int .i64 0, .int .i64 0, .int .u64 0, .int .u64 0, .int .u64 0, .int .u64 0, .int .i64 0, .int .u64 0, .slice none 0 0, .int .i64 0, .int .u64 0, .string ⟨#[]⟩, .string ⟨#[]⟩, .int .u64 0, .int .u64 0, .int .u64 0, .int .i64 0, .int .i64 0, .int .i64 0, .int .i64 0] 108) = W1) ∧ Hid (W1.there W.heap.size 0 22) ∧ ∃ W2, Hid (W1.setCells W.heap.size 0 (#[.int .i64 kq, .int .i64 0, .int .i64 0, .int .i64 0, .int .u64 0, .int .u64 0, .int .u64 0, .int .u64 0, .int .i64 0, .int .u64 0, .slice none 0 0, .int .i64 0, .int .u64 0, .string ⟨#[]⟩, .string ⟨#[]⟩, .int .u64 0, .int .u64 0, .int .u64 0, .int .i64 0, .int .i64 0, .int .i64 0, .int .i64 0] : Array Value).toList = W2) ∧ Hid (W2.heap[W.heap.size]? = some (.cells #[.int .i64 kq, .int .i64 0, .int .i64 0, .int .i64 0, .int .u64 0, .int .u64 0, .int .u64 0, .int .u64 0, .int .i64 0, .int .u64 0, .slice none 0 0, .int .i64 0, .int .u64 0, .string ⟨#[]⟩, .string ⟨#[]⟩, .int .u64 0, .int .u64 0, .int .u64 0, .int .i64 0, .int .i64 0, .int .i64 0, .int .i64 0] 108 (0, 0))) ∧ W.Since W.heap.size W2 := by
  have s1 : W.Since W.heap.size (W.alloc (.cells #[.int .i64 0, .int .i64 0, .int .i64 0, .int .i64 0, .int .u64 0, .int .u64 0, .int .u64 0, .int .u64 0, .int .i64 0, .int .u64 0, .slice none 0 0, .int .i64 0, .int .u64 0, .string ⟨#[]⟩, .string ⟨#[]⟩, .int .u64 0, .int .u64 0, .int .u64 0, .int .i64 0, .int .i64 0, .int .i64 0, .int .i64 0] 108)) := (World.Since.refl _ _).alloc (Nat.le_refl _) _
  have r1 : (W.alloc (.cells #[.int .i64 0, .int .i64 0, .int .i64 0, .int .i64 0, .int .u64 0, .int .u64 0, .int .u64 0, .int .u64 0, .int .i64 0, .int .u64 0, .slice none 0 0, .int .i64 0, .int .u64 0, .string ⟨#[]⟩, .string ⟨#[]⟩, .int .u64 0, .int .u64 0, .int .u64 0, .int .i64 0, .int .i64 0, .int .i64 0, .int .i64 0] 108)).rowIs W.heap.size 108 22 (fun i => (#[.int .i64 0, .int .i64 0, .int .i64 0, .int .i64 0, .int .u64 0, .int .u64 0, .int .u64 0, .int .u64 0, .int .i64 0, .int .u64 0, .slice none 0 0, .int .i64 0, .int .u64 0, .string ⟨#[]⟩, .string ⟨#[]⟩, .int .u64 0, .int .u64 0, .int .u64 0, .int .i64 0, .int .i64 0, .int .i64 0, .int .i64 0] : Array Value).toList.getD i undef) := World.rowIs_alloc W _ _ _ (fun i hi => by
    rw [List.getD_eq_getElem?_getD, Array.getElem?_toList, Array.getElem?_eq_getElem hi]
    rfl)
  have r2 := rowIs_setCells (#[.int .i64 kq, .int .i64 0, .int .i64 0, .int .i64 0, .int .u64 0, .int .u64 0, .int .u64 0, .int .u64 0, .int .i64 0, .int .u64 0, .slice none 0 0, .int .i64 0, .int .u64 0, .string ⟨#[]⟩, .string ⟨#[]⟩, .int .u64 0, .int .u64 0, .int .u64 0, .int .i64 0, .int .i64 0, .int .i64 0, .int .i64 0] : Array Value).toList 0 _ _ r1
  refine ⟨_, rfl, row_there r1, _, rfl, ?_, since_setCells (Nat.le_refl _) _ _ _ s1⟩
  have hh := row_heap r2
  refine hh.trans ?_
  kernel_rfl
set_option maxHeartbeats 2000000 in
theorem msgsMark_any (m : Nat) (hm : m ≤ 1000000000) (kq : Int) (hk : ((1000 + m : Nat) : Int) = kq) (w : World) : Calls Tryz.prog 52 #[.int .i64 (m : Nat)] w fun e w' => e = .returned (.agg #[.int .i64 kq, .int .i64 0, .int .i64 0, .int .i64 0, .int .u64 0, .int .u64 0, .int .u64 0, .int .u64 0, .int .i64 0, .int .u64 0, .slice none 0 0, .int .i64 0, .int .u64 0, .string ⟨#[]⟩, .string ⟨#[]⟩, .int .u64 0, .int .u64 0, .int .u64 0, .int .i64 0, .int .i64 0, .int .i64 0, .int .i64 0]) ∧ w.Since w.heap.size w' := by
  have hs : (1000 : Int) + (m : Int) = kq := by omega
  have hw : IntKind.i64.wrap kq = kq := by rw [IntKind.wrap_i64]; omega
  obtain ⟨W1, HW1, HT, W2, HW2, HH, hsn⟩ := mk_row w kq
  obtain ⟨vb, HVB⟩ : ∃ y, Hid (w.heap.size = y) := ⟨_, rfl⟩
  rw [HVB.out] at HT HW2 HH
  clear hk hm
  go_enter Tryz.func52, Tryz.ntmps52
  go_upto_region 1 with fail
  rw [HW1.out, HVB.out]
  clear HW1
  go_wp2_with (refine wpList_store_mid rfl 108 _ _ rfl vb 0 #[.int .i64 kq, .int .i64 0, .int .i64 0, .int .i64 0, .int .u64 0, .int .u64 0, .int .u64 0, .int .u64 0, .int .i64 0, .int .u64 0, .slice none 0 0, .int .i64 0, .int .u64 0, .string ⟨#[]⟩, .string ⟨#[]⟩, .int .u64 0, .int .u64 0, .int .u64 0, .int .i64 0, .int .i64 0, .int .i64 0, .int .i64 0] rfl rfl HT.out infoMg (by kernel_rfl) ?_; rw [HW2.out])
  exact bodyPost_ret_by (results_cell_row rfl _ _ vb 108 _ (0, 0) _ rfl HH.out Tryz.underlying108 rfl infoMg) rfl ⟨rfl, hsn⟩

def setM (d : Bd) (lv ov : Value) (n : Nat) (L : Nat → Value) (l m : Nat → Nat) : Bd := { d with lm := lv, om := ov, nm := n, LM := L, lM := l, mM := m }
/-- The Book while lists of that kind are added. -/
def GSM (O0 : Nat → Nat) (w : World) (bk : Nat) (d : Bd) (n : Nat) (W : World) : Prop := ∃ O own la lc oa oc L l m, BM O own W bk (setM d (.slice la n lc) (.slice oa n oc) n L l m) ∧ (∀ j, j < d.nm → L j = d.LM j ∧ l j = d.lM j ∧ m j = d.mM j) ∧ ChR 1000 1007 O0 O w W
/-- A list under way beside it. -/
def GIM (O0 : Nat → Nat) (w : World) (bk : Nat) (d : Bd) (n : Nat) (a : Option Addr) (len c mm : Nat) (W : World) : Prop := ∃ O own la lc oa oc L l m, BM O own W bk (setM d (.slice la n lc) (.slice oa n oc) n L l m) ∧ (∀ j, j < d.nm → L j = d.LM j ∧ l j = d.lM j ∧ m j = d.mM j) ∧ KOk O 1006 own W 108 22 mkM (.slice a len c) len mm ∧ (1 ≤ mm ∧ mm ≤ d.tu) ∧ ChR 1000 1007 O0 O w W
theorem GIM.gs {O0 : Nat → Nat} {w W : World} {bk n len c mm : Nat} {d : Bd} {a : Option Addr} (h : GIM O0 w bk d n a len c mm W) : GSM O0 w bk d n W := by
  obtain ⟨O, own, la, lc, oa, oc, L, l, m, h1, h2, _, _, h5⟩ := h
  exact ⟨O, own, la, lc, oa, oc, L, l, m, h1, h2, h5⟩
theorem GSM.start {O : Nat → Nat} {own : Nat → Nat} {w : World} {bk : Nat} {d : Bd} (h : BM O own w bk d) : GSM O w bk d d.nm w := by
  obtain ⟨la, lc, oa, oc, e1, e2, _⟩ := h.km.len
  refine ⟨O, own, la, lc, oa, oc, d.LM, d.lM, d.mM, ?_, fun j _ => ⟨rfl, rfl, rfl⟩, ChR.refl⟩
  have : setM d (.slice la d.nm lc) (.slice oa d.nm oc) d.nm d.LM d.lM d.mM = d := by
    rw [← e1, ← e2]
    rfl
  rw [this]
  exact h
theorem GSM.at0 {O0 : Nat → Nat} {w W : World} {bk n : Nat} {d : Bd} (h : GSM O0 w bk d n W) : ∃ la lc, W.cell? ⟨bk, 27, none⟩ = some (.slice la n lc) ∧ W.cell? ⟨bk, 29, none⟩ = some (.int .i64 (d.am : Nat)) ∧ W.frozen? ⟨bk, 29, none⟩ = false := by
  obtain ⟨O, own, la, lc, oa, oc, L, l, m, h1, _⟩ := h
  exact ⟨la, lc, h1.row.1.cell (i := 27) (by decide), h1.row.1.cell (i := 29) (by decide), h1.row.1.frozen 29⟩
theorem GSM.take {O0 : Nat → Nat} {w W : World} {bk n k : Nat} {d : Bd} (h : GSM O0 w bk d n W) (hk : k < d.nm) (hn : d.nm ≤ n) : ∃ gv lc go oc a len c mm, W.cell? ⟨bk, 27, none⟩ = some (.slice (some ⟨gv, 0, none⟩) n lc) ∧ W.cell? ⟨bk, 28, none⟩ = some (.slice (some ⟨go, 0, none⟩) n oc) ∧ W.cell? ⟨gv, k, none⟩ = some (.slice a len c) ∧ W.cell? ⟨go, k, none⟩ = some (.int .i64 (mm : Nat)) ∧ len = d.lM k ∧ Hid (GIM O0 w bk d n a len c mm W) := by
  obtain ⟨O, own, la, lc, oa, oc, L, l, m, h1, h2, h5⟩ := h
  obtain ⟨la', lc', oa', oc', e1, e2, hl, ho⟩ := h1.km.len
  have e1' : Value.slice la n lc = .slice la' n lc' := e1
  have e2' : Value.slice oa n oc = .slice oa' n oc' := e2
  injection e1' with q1 _ q2
  injection e2' with q3 _ q4
  subst q1 q2 q3 q4
  have hkn : k < (setM d (.slice la n lc) (.slice oa n oc) n L l m).nm := by show k < n; omega
  obtain ⟨gv, rfl, c1⟩ := hl k hkn
  obtain ⟨go, rfl, c2⟩ := ho k hkn
  have hok := h1.km.ok k hkn
  obtain ⟨a, c, hf⟩ := hok.form
  have hf' : L k = .slice a (l k) c := hf
  have c1' : W.cell? ⟨gv, k, none⟩ = some (L k) := c1
  rw [hf'] at c1'
  have hok' : KOk O 1006 own W 108 22 mkM (L k) (l k) (m k) := hok
  rw [hf'] at hok'
  exact ⟨gv, lc, go, oc, a, l k, c, m k, h1.row.1.cell (i := 27) (by decide), h1.row.1.cell (i := 28) (by decide), c1', c2, (h2 k hk).2.1, O, own, _, lc, _, oc, L, l, m, h1, h2, hok', h1.tm k hkn, h5⟩
theorem GIM.since {O0 : Nat → Nat} {w W W' : World} {bk n len c mm : Nat} {d : Bd} {a : Option Addr} (h : GIM O0 w bk d n a len c mm W) (sn : W.Since W.heap.size W') : GIM O0 w bk d n a len c mm W' := by
  obtain ⟨O, own, la, lc, oa, oc, L, l, m, h1, h2, h3, h4, h5⟩ := h
  exact ⟨O, own, la, lc, oa, oc, L, l, m, h1.since sn, h2, h3.keepR (lo := 0) (hi := 0) (ChR.since sn) (.inr (Nat.zero_le _)), h4, h5.trans (ChR.since sn)⟩
/-- The list grows by one. -/
theorem GIM.more {O0 : Nat → Nat} {w W : World} {bk n len c mm : Nat} {d : Bd} {a : Option Addr} (h : GIM O0 w bk d n a len c mm W) (hl : len ≤ 1000000100) : ∃ a2 c2 W2, Hid ((Builtin.append_ #[94, 94] 94 #[.slice a len c, .slice (some ⟨W.heap.size, 0, none⟩) 1 1]).run Tryz.prog (W.alloc (.cells (mkMl ((1000 + mm : Nat) : Int)).toArray 108)) = .ok (.slice a2 (len + 1) c2) W2) ∧ Hid (GIM O0 w bk d n a2 (len + 1) c2 mm W2) := by
  obtain ⟨O, own, la, lc, oa, oc, L, l, m, h1, h2, h3, h4, h5⟩ := h
  obtain ⟨a2, c2, W2, O', own', e, g1, g2, g3⟩ := h1.appM h3 (by omega)
  exact ⟨a2, c2, W2, e, O', own', la, lc, oa, oc, L, l, m, g1, h2, g2, h4, h5.trans (g3.wide (by omega) (by omega))⟩
/-- And is kept. -/
theorem GIM.kept {O0 : Nat → Nat} {w W : World} {bk n len c mm : Nat} {d : Bd} {a : Option Addr} (h : GIM O0 w bk d n a len c mm W) (hl : len ≤ 1000000032) (hn : n ≤ 1000000000000) (hnd : d.nm ≤ n) :
    ∃ lv ov la2 lc2 W2 W3 oa2 oc2 W5 W6, W.cell? ⟨bk, 27, none⟩ = some lv ∧ Hid ((Builtin.append_ #[39, 39] 39 #[lv, .slice (some ⟨W.heap.size, 0, none⟩) 1 1]).run Tryz.prog (W.alloc (.cells #[.slice a len c] 94)) = .ok (.slice la2 (n + 1) lc2) W2) ∧ W2.cell? ⟨bk, 27, none⟩ = some lv ∧ W2.frozen? ⟨bk, 27, none⟩ = false ∧ Hid (W2.setCell ⟨bk, 27, none⟩ (.slice la2 (n + 1) lc2) = W3) ∧
      W3.cell? ⟨bk, 28, none⟩ = some ov ∧ Hid ((Builtin.append_ #[30, 30] 30 #[ov, .slice (some ⟨W3.heap.size, 0, none⟩) 1 1]).run Tryz.prog (W3.alloc (.cells #[.int .i64 (mm : Nat)] 3)) = .ok (.slice oa2 (n + 1) oc2) W5) ∧ W5.cell? ⟨bk, 28, none⟩ = some ov ∧ W5.frozen? ⟨bk, 28, none⟩ = false ∧ Hid (W5.setCell ⟨bk, 28, none⟩ (.slice oa2 (n + 1) oc2) = W6) ∧ Hid (GIM O0 w bk d (n + 1) a len c mm W6) := by
  obtain ⟨O, own, la, lc, oa, oc, L, l, m, h1, h2, h3, h4, h5⟩ := h
  obtain ⟨la2, lc2, W2, W3, oa2, oc2, W5, W6, q1, q2, q3, q4, q5, q6, q7, q8, q9, q10, O', hb, kk⟩ := h1.pushM h3 h4 hl hn
  refine ⟨_, _, la2, lc2, W2, W3, oa2, oc2, W5, W6, q2, q1, q3, q4, q5, q6, q7, q8, q9, q10, O', own, la2, lc2, oa2, oc2, _, _, _, hb, fun j hj => ?_, h3.keepR kk (by omega), h4, h5.trans (kk.wide (by omega) (by omega))⟩
  obtain ⟨p1, p2, p3⟩ := h2 j hj
  have hne : ¬ j = n := by omega
  refine ⟨?_, ?_, ?_⟩
  · show (if j = n then _ else L j) = _
    rw [if_neg hne]
    exact p1
  · show (if j = n then _ else l j) = _
    rw [if_neg hne]
    exact p2
  · show (if j = n then _ else m j) = _
    rw [if_neg hne]
    exact p3
/-- What growing leaves. -/
def GEM (O0 : Nat → Nat) (w : World) (bk : Nat) (d : Bd) (n : Nat) (W : World) : Prop := ∃ O own lv ov L l m, BM O own W bk { setM d lv ov n L l m with am := n } ∧ ChR 1000 1007 O0 O w W
theorem GSM.fin {O0 : Nat → Nat} {w W : World} {bk n : Nat} {d : Bd} (h : GSM O0 w bk d n W) : GEM O0 w bk d n (W.setCell ⟨bk, 29, none⟩ (.int .i64 (n : Nat))) := by
  obtain ⟨O, own, la, lc, oa, oc, L, l, m, h1, _, h5⟩ := h
  obtain ⟨g1, g2⟩ := h1.num 29 n { setM d (.slice la n lc) (.slice oa n oc) n L l m with am := n } (fun i hi => by
    unfold bdC
    by_cases e : i = 29
    · subst e; rfl
    · rw [if_neg e]
      simp only [if_neg e]) ⟨rfl, rfl, rfl, rfl, rfl, rfl⟩ ⟨rfl, rfl, rfl, rfl, rfl, rfl⟩ (Nat.le_refl _)
  exact ⟨O, own, _, _, L, l, m, g1, h5.trans (g2.wide (by omega) (by omega))⟩
set_option maxHeartbeats 8000000 in
theorem growM_any {O : Nat → Nat} {own : Nat → Nat} {w : World} {bk : Nat} {d : Bd} (h : BM O own w bk d) (ha : d.am ≤ d.nm) (hn : d.nm ≤ 1000000000) (ht : d.tu ≤ 1000000000) (hl : ∀ i, d.am ≤ i → i < d.nm → d.lM i ≤ 1000000000) :
    Calls Tryz.prog 67 #[.pointer (some ⟨bk, 0, none⟩)] w fun e w' => e = .returned (.tuple #[]) ∧ Hid (GEM O w bk d (d.nm + 5 * (d.nm - d.am)) w') := by
  have HS := hide (GSM.start h)
  obtain ⟨N0, hN0⟩ : ∃ x, d.nm = x := ⟨_, rfl⟩
  obtain ⟨A0, hA0⟩ : ∃ x, d.am = x := ⟨_, rfl⟩
  have HN0 := hide hN0
  have HA0 := hide hA0
  have HT := hide ht
  have HL : Hid (∀ i, A0 ≤ i → i < N0 → d.lM i ≤ 1000000000) := by rw [← hN0, ← hA0]; exact hl
  obtain ⟨la0, lc0, c0, c2, _⟩ := HS.out.at0
  rw [hN0] at c0
  rw [hA0] at c2
  rw [hN0, hA0]
  rw [hN0] at hn ha HS
  rw [hA0] at ha
  clear h hl ht hN0 hA0
  go_enter Tryz.func67, Tryz.ntmps67
  go_wp2_with fail
  clear c0 c2
  go_loopg [3] (N0 - A0) (fun q s3 wx => ∃ k n : Nat, A0 ≤ k ∧ k ≤ N0 ∧ q = N0 - k ∧ s3 = .int .i64 (k : Nat) ∧ n = N0 + 5 * (k - A0) ∧ Hid (GSM O w bk d n wx))
  case atStart => exact ⟨A0, N0, Nat.le_refl _, ha, rfl, rfl, by omega, HS.out⟩
  case round =>
    clear HS
    obtain ⟨k, n, hk1, hk2, rfl, rfl, hn2, HS⟩ := hrel
    by_cases hlt : k < N0
    · have z1 : (k : Int) < (N0 : Int) := by omega
      have hwk : IntKind.i64.wrap ((k : Int) + 1) = (k : Int) + 1 := by rw [IntKind.wrap_i64]; omega
      have hmk : N0 - (k + 1) < N0 - k := by omega
      obtain ⟨gv, lc, go, oc, a0, len0, c0, mm, d0, d1, dv, dm, hl0, HI⟩ := HS.out.take (by rw [HN0.out]; exact hlt) (by rw [HN0.out]; omega)
      have hlen0 : len0 ≤ 1000000000 := by rw [hl0]; exact HL.out k hk1 hlt
      have hmm : mm ≤ 1000000000 := by
        obtain ⟨_, _, _, _, _, _, _, _, _, _, _, _, h4, _⟩ := HI.out
        have := HT.out
        omega
      have z2 : (k : Int) < (n : Int) := by omega
      have z3 : (0 : Int) ≤ (k : Int) := by omega
      have HK1 := hide hk1
      have HK2 := hide hlt
      have HN2 := hide hn2
      have HLN := hide hlen0
      have HHN := hide hn
      clear hl0 HS hk1 hk2 hn2 hlt
      go_wp2_with fail
      clear d0 d1 dv dm z1 z2
      go_loopg [4, 6] 32 (fun q s4 s6 wx => ∃ (i len c n2 : Nat) (a : Option Addr), 1 ≤ i ∧ i ≤ 33 ∧ len + 1 = len0 + i ∧ q = 33 - i ∧ s6 = .int .i64 (i : Nat) ∧ s4 = .slice a len c ∧ n2 = n + cnt i ∧ Hid (GIM O w bk d n2 a len c mm wx))
      case atStart => exact ⟨1, len0, c0, n, a0, Nat.le_refl _, by decide, rfl, rfl, rfl, rfl, rfl, HI.out⟩
      case round =>
        clear HI
        obtain ⟨i, len, c, n2, a, hi1, hi2, hle, rfl, rfl, rfl, hn2, HI⟩ := hrel
        by_cases hif : i ≤ 32
        · have z6 : (i : Int) ≤ 32 := by omega
          have hwi : IntKind.i64.wrap ((i : Int) + 1) = (i : Int) + 1 := by rw [IntKind.wrap_i64]; omega
          have hmi : 33 - (i + 1) < 33 - i := by omega
          have hcs := cnt_step i hi1
          have hll : len + 1 ≤ 1000000032 := by have := HLN.out; omega
          have hnn : n2 ≤ 1000000000000 := by
            have := HHN.out
            have := HN2.out
            have := cnt_le i
            omega
          have hlm : len ≤ 1000000100 := by have := HLN.out; omega
          have HI1 := hide hi1
          have HIF := hide hif
          have HLE := hide hle
          have HNN := hide hn2
          obtain ⟨kq, hkq⟩ : ∃ kq : Int, ((1000 + mm : Nat) : Int) = kq := ⟨_, rfl⟩
          have HMK : Hid (Calls Tryz.prog 52 #[.int .i64 (mm : Nat)] wr fun e w4 => e = .returned (.agg #[.int .i64 kq, .int .i64 0, .int .i64 0, .int .i64 0, .int .u64 0, .int .u64 0, .int .u64 0, .int .u64 0, .int .i64 0, .int .u64 0, .slice none 0 0, .int .i64 0, .int .u64 0, .string ⟨#[]⟩, .string ⟨#[]⟩, .int .u64 0, .int .u64 0, .int .u64 0, .int .i64 0, .int .i64 0, .int .i64 0, .int .i64 0]) ∧ ∃ a2 c2 W2, Hid ((Builtin.append_ #[94, 94] 94 #[.slice a len c, .slice (some ⟨w4.heap.size, 0, none⟩) 1 1]).run Tryz.prog (w4.alloc (.cells #[.int .i64 kq, .int .i64 0, .int .i64 0, .int .i64 0, .int .u64 0, .int .u64 0, .int .u64 0, .int .u64 0, .int .i64 0, .int .u64 0, .slice none 0 0, .int .i64 0, .int .u64 0, .string ⟨#[]⟩, .string ⟨#[]⟩, .int .u64 0, .int .u64 0, .int .u64 0, .int .i64 0, .int .i64 0, .int .i64 0, .int .i64 0] 108)) = .ok (.slice a2 (len + 1) c2) W2) ∧ Hid (GIM O w bk d n2 a2 (len + 1) c2 mm W2)) := by
            refine (msgsMark_any mm hmm kq hkq wr).mono fun e w4 ⟨he, hs⟩ => ⟨he, ?_⟩
            obtain ⟨a2, c2, W2, q1, q2⟩ := (GIM.since HI.out hs).more hlm
            rw [hkq] at q1
            exact ⟨a2, c2, W2, q1, q2⟩
          have HCSS := hide hcs
          have HLLL := hide hll
          have HNNN := hide hnn
          clear HI hlm hle hn2 hcs hll hnn hi1 hi2 hif
          go_upto_region 10 with (first
            | (go_at_call 52; refine HMK.out.mono ?_; rintro e w4 ⟨rfl, a2, c2, W2, HAP, HI2⟩)
            | (at_builtin; refine wpList_append_eq rfl _ _ 94 rfl _ _ _ (by rfl) (by rfl) HAP.out ?_))
          clear HMK HAP
          have hcs := HCSS.out
          have hll := HLLL.out
          have hnn := HNNN.out
          clear HCSS HLLL HNNN
          by_cases hkp : i < 4 ∨ i % 16 = 0
          · rw [if_pos hkp] at hcs
            obtain ⟨lv, ov, la2, lc2, W3, W4, oa2, oc2, W5, W6, p0, HB1, p1, p2, HW4, p3, HB2, p4, p5, HW6, HI3⟩ := HI2.out.kept hll hnn (by have := HN2.out; have := HNN.out; have := HN0.out; omega)
            obtain ⟨r, hr, hr2⟩ : ∃ r : Nat, Int.tmod (i : Int) 16 = (r : Int) ∧ r = i % 16 := ⟨i % 16, (Int.ofNat_tmod i 16).symm, rfl⟩
            have hr0 : ¬ (i < 4) → ((r : Int) == 0) = true := fun h4 => by
              have : r = 0 := by omega
              subst this; rfl
            have HCS := hide hcs
            clear HI2 hcs hll hnn hkp
            by_cases h4 : i < 4
            · have h4y : (i : Int) < 4 := by omega
              clear hr0 hr2
              go_wp2_with (first
                | (at_builtin; refine wpList_append_eq rfl _ _ 39 rfl _ _ _ (by rfl) (by rfl) HB1.out ?_)
                | (rw [HW4.out]; clear HW4)
                | (at_builtin; refine wpList_append_eq rfl _ _ 30 rfl _ _ _ (by rfl) (by rfl) HB2.out ?_)
                | (rw [HW6.out]; clear HW6))
              try rw [HW6.out]
              go_roundg (33 - (i + 1))
              case measure => go_light; exact hmi
              case rel => go_light; exact ⟨i + 1, len + 1, c2, n2 + 1, a2, by omega, by have := HIF.out; omega, by have := HLE.out; omega, rfl, by simp, rfl, by have := HNN.out; have := HCS.out; omega, HI3.out⟩
            · have h4y : ¬ ((i : Int) < 4) := by omega
              have hr1 := hr0 h4
              clear hr0 hr2
              go_wp2_with (first
                | (at_builtin; refine wpList_append_eq rfl _ _ 39 rfl _ _ _ (by rfl) (by rfl) HB1.out ?_)
                | (rw [HW4.out]; clear HW4)
                | (at_builtin; refine wpList_append_eq rfl _ _ 30 rfl _ _ _ (by rfl) (by rfl) HB2.out ?_)
                | (rw [HW6.out]; clear HW6))
              try rw [HW6.out]
              go_roundg (33 - (i + 1))
              case measure => go_light; exact hmi
              case rel => go_light; exact ⟨i + 1, len + 1, c2, n2 + 1, a2, by omega, by have := HIF.out; omega, by have := HLE.out; omega, rfl, by simp, rfl, by have := HNN.out; have := HCS.out; omega, HI3.out⟩
          · rw [if_neg hkp] at hcs
            have hi4 : ¬ ((i : Int) < 4) := by omega
            obtain ⟨r, hr, hr2⟩ : ∃ r : Nat, Int.tmod (i : Int) 16 = (r : Int) ∧ r = i % 16 := ⟨i % 16, (Int.ofNat_tmod i 16).symm, rfl⟩
            have hr0 : ((r : Int) == 0) = false := by
              have : ¬ ((r : Int) = 0) := by omega
              simpa using this
            have HCS := hide hcs
            clear hr2 hcs hll hnn hkp
            go_wp2_with fail
            go_roundg (33 - (i + 1))
            case measure => go_light; exact hmi
            case rel => go_light; exact ⟨i + 1, len + 1, c2, n2, a2, by omega, by have := HIF.out; omega, by have := HLE.out; omega, rfl, by simp, rfl, by have := HNN.out; have := HCS.out; omega, HI2.out⟩
        · have z6 : ¬ (i : Int) ≤ 32 := by omega
          obtain rfl : i = 33 := by omega
          have HG := hide (GIM.gs HI.out)
          have hc9 : cnt 33 = 5 := rfl
          rw [hc9] at hn2
          have HNN := hide hn2
          clear HI hi1 hi2 hle hn2 hif
          go_wp2_with fail
          go_roundg (N0 - (k + 1))
          case measure => go_light; exact hmk
          case rel => go_light; exact ⟨k + 1, n2, by have := HK1.out; omega, by have := HK2.out; omega, rfl, by simp, by have := HNN.out; have := HN2.out; have := HK1.out; omega, HG.out⟩
    · obtain rfl : k = N0 := by omega
      have z1 : ¬ (k : Int) < (k : Int) := by omega
      subst hn2
      obtain ⟨la, lc, d0, d2, f2⟩ := HS.out.at0
      have HF := hide (GSM.fin HS.out)
      clear HS hk1 hk2 hlt
      go_wp2_with fail
      go_end0
      exact ⟨rfl, HF⟩
end Go.Proofs.YtdhhjdacidhmjaaGreat

/- The Book: growBytes, where lists of that kind are kept (kb3_gen.py). -/
namespace Go.Proofs.YtdhhjdacidhmjaaGreat
open Go.RowKit
set_option maxRecDepth 100000
set_option maxRecDepth 100000

def setB (d : Bd) (lv ov : Value) (n : Nat) (L : Nat → Value) (l m : Nat → Nat) : Bd := { d with lb := lv, ob := ov, nb := n, LB := L, lB := l, mB := m }
/-- The Book while lists of that kind are added. -/
def GSB (O0 : Nat → Nat) (w : World) (bk : Nat) (d : Bd) (n : Nat) (W : World) : Prop := ∃ O own la lc oa oc L l m, BM O own W bk (setB d (.slice la n lc) (.slice oa n oc) n L l m) ∧ (∀ j, j < d.nb → L j = d.LB j ∧ l j = d.lB j ∧ m j = d.mB j) ∧ ChR 1000 1007 O0 O w W
/-- A list under way beside it. -/
def GIB (O0 : Nat → Nat) (w : World) (bk : Nat) (d : Bd) (n : Nat) (a : Option Addr) (len c mm : Nat) (W : World) : Prop := ∃ O own la lc oa oc L l m, BM O own W bk (setB d (.slice la n lc) (.slice oa n oc) n L l m) ∧ (∀ j, j < d.nb → L j = d.LB j ∧ l j = d.lB j ∧ m j = d.mB j) ∧ KOk O 1000 own W 5 1 mkB (.slice a len c) len mm ∧ (1 ≤ mm ∧ mm ≤ d.tu) ∧ ChR 1000 1007 O0 O w W
theorem GIB.gs {O0 : Nat → Nat} {w W : World} {bk n len c mm : Nat} {d : Bd} {a : Option Addr} (h : GIB O0 w bk d n a len c mm W) : GSB O0 w bk d n W := by
  obtain ⟨O, own, la, lc, oa, oc, L, l, m, h1, h2, _, _, h5⟩ := h
  exact ⟨O, own, la, lc, oa, oc, L, l, m, h1, h2, h5⟩
theorem GSB.start {O : Nat → Nat} {own : Nat → Nat} {w : World} {bk : Nat} {d : Bd} (h : BM O own w bk d) : GSB O w bk d d.nb w := by
  obtain ⟨la, lc, oa, oc, e1, e2, _⟩ := h.kb.len
  refine ⟨O, own, la, lc, oa, oc, d.LB, d.lB, d.mB, ?_, fun j _ => ⟨rfl, rfl, rfl⟩, ChR.refl⟩
  have : setB d (.slice la d.nb lc) (.slice oa d.nb oc) d.nb d.LB d.lB d.mB = d := by
    rw [← e1, ← e2]
    rfl
  rw [this]
  exact h
theorem GSB.at0 {O0 : Nat → Nat} {w W : World} {bk n : Nat} {d : Bd} (h : GSB O0 w bk d n W) : ∃ la lc, W.cell? ⟨bk, 0, none⟩ = some (.slice la n lc) ∧ W.cell? ⟨bk, 2, none⟩ = some (.int .i64 (d.ab : Nat)) ∧ W.frozen? ⟨bk, 2, none⟩ = false := by
  obtain ⟨O, own, la, lc, oa, oc, L, l, m, h1, _⟩ := h
  exact ⟨la, lc, h1.row.1.cell (i := 0) (by decide), h1.row.1.cell (i := 2) (by decide), h1.row.1.frozen 2⟩
theorem GSB.take {O0 : Nat → Nat} {w W : World} {bk n k : Nat} {d : Bd} (h : GSB O0 w bk d n W) (hk : k < d.nb) (hn : d.nb ≤ n) : ∃ gv lc go oc a len c mm, W.cell? ⟨bk, 0, none⟩ = some (.slice (some ⟨gv, 0, none⟩) n lc) ∧ W.cell? ⟨bk, 1, none⟩ = some (.slice (some ⟨go, 0, none⟩) n oc) ∧ W.cell? ⟨gv, k, none⟩ = some (.slice a len c) ∧ W.cell? ⟨go, k, none⟩ = some (.int .i64 (mm : Nat)) ∧ len = d.lB k ∧ Hid (GIB O0 w bk d n a len c mm W) := by
  obtain ⟨O, own, la, lc, oa, oc, L, l, m, h1, h2, h5⟩ := h
  obtain ⟨la', lc', oa', oc', e1, e2, hl, ho⟩ := h1.kb.len
  have e1' : Value.slice la n lc = .slice la' n lc' := e1
  have e2' : Value.slice oa n oc = .slice oa' n oc' := e2
  injection e1' with q1 _ q2
  injection e2' with q3 _ q4
  subst q1 q2 q3 q4
  have hkn : k < (setB d (.slice la n lc) (.slice oa n oc) n L l m).nb := by show k < n; omega
  obtain ⟨gv, rfl, c1⟩ := hl k hkn
  obtain ⟨go, rfl, c2⟩ := ho k hkn
  have hok := h1.kb.ok k hkn
  obtain ⟨a, c, hf⟩ := hok.form
  have hf' : L k = .slice a (l k) c := hf
  have c1' : W.cell? ⟨gv, k, none⟩ = some (L k) := c1
  rw [hf'] at c1'
  have hok' : KOk O 1000 own W 5 1 mkB (L k) (l k) (m k) := hok
  rw [hf'] at hok'
  exact ⟨gv, lc, go, oc, a, l k, c, m k, h1.row.1.cell (i := 0) (by decide), h1.row.1.cell (i := 1) (by decide), c1', c2, (h2 k hk).2.1, O, own, _, lc, _, oc, L, l, m, h1, h2, hok', h1.tb k hkn, h5⟩
theorem GIB.since {O0 : Nat → Nat} {w W W' : World} {bk n len c mm : Nat} {d : Bd} {a : Option Addr} (h : GIB O0 w bk d n a len c mm W) (sn : W.Since W.heap.size W') : GIB O0 w bk d n a len c mm W' := by
  obtain ⟨O, own, la, lc, oa, oc, L, l, m, h1, h2, h3, h4, h5⟩ := h
  exact ⟨O, own, la, lc, oa, oc, L, l, m, h1.since sn, h2, h3.keepR (lo := 0) (hi := 0) (ChR.since sn) (.inr (Nat.zero_le _)), h4, h5.trans (ChR.since sn)⟩
/-- The list grows by one. -/
theorem GIB.more {O0 : Nat → Nat} {w W : World} {bk n len c mm : Nat} {d : Bd} {a : Option Addr} (h : GIB O0 w bk d n a len c mm W) (hl : len ≤ 1000000100) : ∃ a2 c2 W2, Hid ((Builtin.append_ #[103, 103] 103 #[.slice a len c, .slice (some ⟨W.heap.size, 0, none⟩) 1 1]).run Tryz.prog (W.alloc (.cells #[.int .u8 (mrk mm len : Nat)] 5)) = .ok (.slice a2 (len + 1) c2) W2) ∧ Hid (GIB O0 w bk d n a2 (len + 1) c2 mm W2) := by
  obtain ⟨O, own, la, lc, oa, oc, L, l, m, h1, h2, h3, h4, h5⟩ := h
  obtain ⟨a2, c2, W2, O', own', e, g1, g2, g3⟩ := h1.appB h3 (by omega)
  exact ⟨a2, c2, W2, e, O', own', la, lc, oa, oc, L, l, m, g1, h2, g2, h4, h5.trans (g3.wide (by omega) (by omega))⟩
/-- And is kept. -/
theorem GIB.kept {O0 : Nat → Nat} {w W : World} {bk n len c mm : Nat} {d : Bd} {a : Option Addr} (h : GIB O0 w bk d n a len c mm W) (hl : len ≤ 1000000096) (hn : n ≤ 1000000000000) (hnd : d.nb ≤ n) :
    ∃ lv ov la2 lc2 W2 W3 oa2 oc2 W5 W6, W.cell? ⟨bk, 0, none⟩ = some lv ∧ Hid ((Builtin.append_ #[29, 29] 29 #[lv, .slice (some ⟨W.heap.size, 0, none⟩) 1 1]).run Tryz.prog (W.alloc (.cells #[.slice a len c] 103)) = .ok (.slice la2 (n + 1) lc2) W2) ∧ W2.cell? ⟨bk, 0, none⟩ = some lv ∧ W2.frozen? ⟨bk, 0, none⟩ = false ∧ Hid (W2.setCell ⟨bk, 0, none⟩ (.slice la2 (n + 1) lc2) = W3) ∧
      W3.cell? ⟨bk, 1, none⟩ = some ov ∧ Hid ((Builtin.append_ #[30, 30] 30 #[ov, .slice (some ⟨W3.heap.size, 0, none⟩) 1 1]).run Tryz.prog (W3.alloc (.cells #[.int .i64 (mm : Nat)] 3)) = .ok (.slice oa2 (n + 1) oc2) W5) ∧ W5.cell? ⟨bk, 1, none⟩ = some ov ∧ W5.frozen? ⟨bk, 1, none⟩ = false ∧ Hid (W5.setCell ⟨bk, 1, none⟩ (.slice oa2 (n + 1) oc2) = W6) ∧ Hid (GIB O0 w bk d (n + 1) a len c mm W6) := by
  obtain ⟨O, own, la, lc, oa, oc, L, l, m, h1, h2, h3, h4, h5⟩ := h
  obtain ⟨la2, lc2, W2, W3, oa2, oc2, W5, W6, q1, q2, q3, q4, q5, q6, q7, q8, q9, q10, O', hb, kk⟩ := h1.pushB h3 h4 hl hn
  refine ⟨_, _, la2, lc2, W2, W3, oa2, oc2, W5, W6, q2, q1, q3, q4, q5, q6, q7, q8, q9, q10, O', own, la2, lc2, oa2, oc2, _, _, _, hb, fun j hj => ?_, h3.keepR kk (by omega), h4, h5.trans (kk.wide (by omega) (by omega))⟩
  obtain ⟨p1, p2, p3⟩ := h2 j hj
  have hne : ¬ j = n := by omega
  refine ⟨?_, ?_, ?_⟩
  · show (if j = n then _ else L j) = _
    rw [if_neg hne]
    exact p1
  · show (if j = n then _ else l j) = _
    rw [if_neg hne]
    exact p2
  · show (if j = n then _ else m j) = _
    rw [if_neg hne]
    exact p3
/-- What growing leaves. -/
def GEB (O0 : Nat → Nat) (w : World) (bk : Nat) (d : Bd) (n : Nat) (W : World) : Prop := ∃ O own lv ov L l m, BM O own W bk { setB d lv ov n L l m with ab := n } ∧ ChR 1000 1007 O0 O w W
theorem GSB.fin {O0 : Nat → Nat} {w W : World} {bk n : Nat} {d : Bd} (h : GSB O0 w bk d n W) : GEB O0 w bk d n (W.setCell ⟨bk, 2, none⟩ (.int .i64 (n : Nat))) := by
  obtain ⟨O, own, la, lc, oa, oc, L, l, m, h1, _, h5⟩ := h
  obtain ⟨g1, g2⟩ := h1.num 2 n { setB d (.slice la n lc) (.slice oa n oc) n L l m with ab := n } (fun i hi => by
    unfold bdC
    by_cases e : i = 2
    · subst e; rfl
    · rw [if_neg e]
      simp only [if_neg e]) ⟨rfl, rfl, rfl, rfl, rfl, rfl⟩ ⟨rfl, rfl, rfl, rfl, rfl, rfl⟩ (Nat.le_refl _)
  exact ⟨O, own, _, _, L, l, m, g1, h5.trans (g2.wide (by omega) (by omega))⟩
set_option maxHeartbeats 8000000 in
theorem growB_any {O : Nat → Nat} {own : Nat → Nat} {w : World} {bk : Nat} {d : Bd} (h : BM O own w bk d) (ha : d.ab ≤ d.nb) (hn : d.nb ≤ 1000000000) (ht : d.tu ≤ 1000000000) (hl : ∀ i, d.ab ≤ i → i < d.nb → d.lB i ≤ 1000000000) :
    Calls Tryz.prog 58 #[.pointer (some ⟨bk, 0, none⟩)] w fun e w' => e = .returned (.tuple #[]) ∧ Hid (GEB O w bk d (d.nb + 9 * (d.nb - d.ab)) w') := by
  have HS := hide (GSB.start h)
  obtain ⟨N0, hN0⟩ : ∃ x, d.nb = x := ⟨_, rfl⟩
  obtain ⟨A0, hA0⟩ : ∃ x, d.ab = x := ⟨_, rfl⟩
  have HN0 := hide hN0
  have HA0 := hide hA0
  have HT := hide ht
  have HL : Hid (∀ i, A0 ≤ i → i < N0 → d.lB i ≤ 1000000000) := by rw [← hN0, ← hA0]; exact hl
  obtain ⟨la0, lc0, c0, c2, _⟩ := HS.out.at0
  rw [hN0] at c0
  rw [hA0] at c2
  rw [hN0, hA0]
  rw [hN0] at hn ha HS
  rw [hA0] at ha
  clear h hl ht hN0 hA0
  go_enter Tryz.func58, Tryz.ntmps58
  go_wp2_with fail
  clear c0 c2
  go_loopg [3] (N0 - A0) (fun q s3 wx => ∃ k n : Nat, A0 ≤ k ∧ k ≤ N0 ∧ q = N0 - k ∧ s3 = .int .i64 (k : Nat) ∧ n = N0 + 9 * (k - A0) ∧ Hid (GSB O w bk d n wx))
  case atStart => exact ⟨A0, N0, Nat.le_refl _, ha, rfl, rfl, by omega, HS.out⟩
  case round =>
    clear HS
    obtain ⟨k, n, hk1, hk2, rfl, rfl, hn2, HS⟩ := hrel
    by_cases hlt : k < N0
    · have z1 : (k : Int) < (N0 : Int) := by omega
      have hwk : IntKind.i64.wrap ((k : Int) + 1) = (k : Int) + 1 := by rw [IntKind.wrap_i64]; omega
      have hmk : N0 - (k + 1) < N0 - k := by omega
      obtain ⟨gv, lc, go, oc, a0, len0, c0, mm, d0, d1, dv, dm, hl0, HI⟩ := HS.out.take (by rw [HN0.out]; exact hlt) (by rw [HN0.out]; omega)
      have hlen0 : len0 ≤ 1000000000 := by rw [hl0]; exact HL.out k hk1 hlt
      have hmm : mm ≤ 1000000000 := by
        obtain ⟨_, _, _, _, _, _, _, _, _, _, _, _, h4, _⟩ := HI.out
        have := HT.out
        omega
      have z2 : (k : Int) < (n : Int) := by omega
      have z3 : (0 : Int) ≤ (k : Int) := by omega
      have HK1 := hide hk1
      have HK2 := hide hlt
      have HN2 := hide hn2
      have HLN := hide hlen0
      have HHN := hide hn
      clear hl0 HS hk1 hk2 hn2 hlt
      go_wp2_with fail
      clear d0 d1 dv dm z1 z2
      go_loopg [4, 6] 96 (fun q s4 s6 wx => ∃ (i len c n2 : Nat) (a : Option Addr), 1 ≤ i ∧ i ≤ 97 ∧ len + 1 = len0 + i ∧ q = 97 - i ∧ s6 = .int .i64 (i : Nat) ∧ s4 = .slice a len c ∧ n2 = n + cnt i ∧ Hid (GIB O w bk d n2 a len c mm wx))
      case atStart => exact ⟨1, len0, c0, n, a0, Nat.le_refl _, by decide, rfl, rfl, rfl, rfl, rfl, HI.out⟩
      case round =>
        clear HI
        obtain ⟨i, len, c, n2, a, hi1, hi2, hle, rfl, rfl, rfl, hn2, HI⟩ := hrel
        by_cases hif : i ≤ 96
        · have z6 : (i : Int) ≤ 96 := by omega
          have hwi : IntKind.i64.wrap ((i : Int) + 1) = (i : Int) + 1 := by rw [IntKind.wrap_i64]; omega
          have hmi : 97 - (i + 1) < 97 - i := by omega
          have hcs := cnt_step i hi1
          have hll : len + 1 ≤ 1000000096 := by have := HLN.out; omega
          have hnn : n2 ≤ 1000000000000 := by
            have := HHN.out
            have := HN2.out
            have := cnt_le i
            omega
          have hlm : len ≤ 1000000100 := by have := HLN.out; omega
          have HI1 := hide hi1
          have HIF := hide hif
          have HLE := hide hle
          have HNN := hide hn2
          have HMK : Hid (Calls Tryz.prog 80 #[.int .i64 (mm : Nat), .int .i64 (len : Nat)] wr fun e w4 => e = .returned (.int .u8 (mrk mm len : Nat)) ∧ ∃ a2 c2 W2, Hid ((Builtin.append_ #[103, 103] 103 #[.slice a len c, .slice (some ⟨w4.heap.size, 0, none⟩) 1 1]).run Tryz.prog (w4.alloc (.cells #[.int .u8 (mrk mm len : Nat)] 5)) = .ok (.slice a2 (len + 1) c2) W2) ∧ Hid (GIB O w bk d n2 a2 (len + 1) c2 mm W2)) := by
            refine (at_any' mm len wr (by omega)).mono fun e w4 ⟨he, hs⟩ => ⟨he, ?_⟩
            subst hs
            obtain ⟨a2, c2, W2, q1, q2⟩ := GIB.more HI.out hlm
            exact ⟨a2, c2, W2, q1, q2⟩
          generalize mrk mm len = mb at HMK
          have HCSS := hide hcs
          have HLLL := hide hll
          have HNNN := hide hnn
          clear HI hlm hle hn2 hcs hll hnn hi1 hi2 hif
          go_upto_region 10 with (first
            | (go_at_call 80; refine HMK.out.mono ?_; rintro e w4 ⟨rfl, a2, c2, W2, HAP, HI2⟩)
            | (at_builtin; refine wpList_append_eq rfl _ _ 103 rfl _ _ _ (by rfl) (by rfl) HAP.out ?_))
          clear HMK HAP
          have hcs := HCSS.out
          have hll := HLLL.out
          have hnn := HNNN.out
          clear HCSS HLLL HNNN
          by_cases hkp : i < 4 ∨ i % 16 = 0
          · rw [if_pos hkp] at hcs
            obtain ⟨lv, ov, la2, lc2, W3, W4, oa2, oc2, W5, W6, p0, HB1, p1, p2, HW4, p3, HB2, p4, p5, HW6, HI3⟩ := HI2.out.kept hll hnn (by have := HN2.out; have := HNN.out; have := HN0.out; omega)
            obtain ⟨r, hr, hr2⟩ : ∃ r : Nat, Int.tmod (i : Int) 16 = (r : Int) ∧ r = i % 16 := ⟨i % 16, (Int.ofNat_tmod i 16).symm, rfl⟩
            have hr0 : ¬ (i < 4) → ((r : Int) == 0) = true := fun h4 => by
              have : r = 0 := by omega
              subst this; rfl
            have HCS := hide hcs
            clear HI2 hcs hll hnn hkp
            by_cases h4 : i < 4
            · have h4y : (i : Int) < 4 := by omega
              clear hr0 hr2
              go_wp2_with (first
                | (at_builtin; refine wpList_append_eq rfl _ _ 29 rfl _ _ _ (by rfl) (by rfl) HB1.out ?_)
                | (rw [HW4.out]; clear HW4)
                | (at_builtin; refine wpList_append_eq rfl _ _ 30 rfl _ _ _ (by rfl) (by rfl) HB2.out ?_)
                | (rw [HW6.out]; clear HW6))
              try rw [HW6.out]
              go_roundg (97 - (i + 1))
              case measure => go_light; exact hmi
              case rel => go_light; exact ⟨i + 1, len + 1, c2, n2 + 1, a2, by omega, by have := HIF.out; omega, by have := HLE.out; omega, rfl, by simp, rfl, by have := HNN.out; have := HCS.out; omega, HI3.out⟩
            · have h4y : ¬ ((i : Int) < 4) := by omega
              have hr1 := hr0 h4
              clear hr0 hr2
              go_wp2_with (first
                | (at_builtin; refine wpList_append_eq rfl _ _ 29 rfl _ _ _ (by rfl) (by rfl) HB1.out ?_)
                | (rw [HW4.out]; clear HW4)
                | (at_builtin; refine wpList_append_eq rfl _ _ 30 rfl _ _ _ (by rfl) (by rfl) HB2.out ?_)
                | (rw [HW6.out]; clear HW6))
              try rw [HW6.out]
              go_roundg (97 - (i + 1))
              case measure => go_light; exact hmi
              case rel => go_light; exact ⟨i + 1, len + 1, c2, n2 + 1, a2, by omega, by have := HIF.out; omega, by have := HLE.out; omega, rfl, by simp, rfl, by have := HNN.out; have := HCS.out; omega, HI3.out⟩
          · rw [if_neg hkp] at hcs
            have hi4 : ¬ ((i : Int) < 4) := by omega
            obtain ⟨r, hr, hr2⟩ : ∃ r : Nat, Int.tmod (i : Int) 16 = (r : Int) ∧ r = i % 16 := ⟨i % 16, (Int.ofNat_tmod i 16).symm, rfl⟩
            have hr0 : ((r : Int) == 0) = false := by
              have : ¬ ((r : Int) = 0) := by omega
              simpa using this
            have HCS := hide hcs
            clear hr2 hcs hll hnn hkp
            go_wp2_with fail
            go_roundg (97 - (i + 1))
            case measure => go_light; exact hmi
            case rel => go_light; exact ⟨i + 1, len + 1, c2, n2, a2, by omega, by have := HIF.out; omega, by have := HLE.out; omega, rfl, by simp, rfl, by have := HNN.out; have := HCS.out; omega, HI2.out⟩
        · have z6 : ¬ (i : Int) ≤ 96 := by omega
          obtain rfl : i = 97 := by omega
          have HG := hide (GIB.gs HI.out)
          have hc9 : cnt 97 = 9 := rfl
          rw [hc9] at hn2
          have HNN := hide hn2
          clear HI hi1 hi2 hle hn2 hif
          go_wp2_with fail
          go_roundg (N0 - (k + 1))
          case measure => go_light; exact hmk
          case rel => go_light; exact ⟨k + 1, n2, by have := HK1.out; omega, by have := HK2.out; omega, rfl, by simp, by have := HNN.out; have := HN2.out; have := HK1.out; omega, HG.out⟩
    · obtain rfl : k = N0 := by omega
      have z1 : ¬ (k : Int) < (k : Int) := by omega
      subst hn2
      obtain ⟨la, lc, d0, d2, f2⟩ := HS.out.at0
      have HF := hide (GSB.fin HS.out)
      clear HS hk1 hk2 hlt
      go_wp2_with fail
      go_end0
      exact ⟨rfl, HF⟩
end Go.Proofs.YtdhhjdacidhmjaaGreat

/- The Book: plain and told, where lists of bytes and of messages are kept; holds. -/
namespace Go.Proofs.YtdhhjdacidhmjaaGreat
open Go.RowKit
set_option maxRecDepth 100000
set_option maxRecDepth 100000
/-- The Book as it reads: whatever has been drawn. -/
theorem BM.drewN {O own : Nat → Nat} {W : World} {bk : Nat} {d : Bd} (h : BM O own W bk d) (n : Nat) : BM O own (W.drewN n) bk d := h.since (since_drew _ _)
set_option maxHeartbeats 4000000 in
theorem bm_plain {O own : Nat → Nat} {w : World} {bk : Nat} {d : Bd} (h : BM O own w bk d) (ht : d.tu ≤ 1000000000) (hn : d.nb ≤ 1000000000) :
    Calls Tryz.prog 54 #[.pointer (some ⟨bk, 0, none⟩)] w fun e w' => e = .returned (.bool true) ∧ ∃ m, w' = w.drewN m := by
  obtain ⟨va, vc, oa, oc, e1, e2, hvc, hoc⟩ := h.kb.len
  obtain ⟨n, hnn⟩ : ∃ x, d.nb = x := ⟨_, rfl⟩
  rw [hnn] at e1 e2 hvc hoc
  have c0 : ∀ m, (w.drewN m).cell? ⟨bk, 0, none⟩ = some (.slice va n vc) := fun m => by rw [← e1]; exact h.row.1.cell (i := 0) (by decide)
  have c1 : ∀ m, (w.drewN m).cell? ⟨bk, 1, none⟩ = some (.slice oa n oc) := fun m => by rw [← e2]; exact h.row.1.cell (i := 1) (by decide)
  have c3 : ∀ m, (w.drewN m).cell? ⟨bk, 3, none⟩ = some (.slice none 0 0) := fun m => h.row.1.cell (i := 3) (by decide)
  have hent : ∀ i, i < n → ∃ gv go a c, va = some ⟨gv, 0, none⟩ ∧ oa = some ⟨go, 0, none⟩ ∧ (∀ m, (w.drewN m).cell? ⟨gv, i, none⟩ = some (.slice a (d.lB i) c)) ∧ (∀ m, (w.drewN m).cell? ⟨go, i, none⟩ = some (.int .i64 (d.mB i : Nat))) ∧ ∀ k, k < d.lB i → ∃ b, a = some ⟨b, 0, none⟩ ∧ ∀ m, (w.drewN m).cell? ⟨b, k, none⟩ = some (.int .u8 (mrk (d.mB i) k : Nat)) := fun i hi => by
    obtain ⟨gv, q1, q2⟩ := hvc i hi
    obtain ⟨go, q3, q4⟩ := hoc i hi
    have hok := h.kb.ok i (by omega)
    obtain ⟨a, c, hf⟩ := hok.form
    rw [hf] at q2 hok
    refine ⟨gv, go, a, c, q1, q3, fun m => q2, fun m => q4, fun k hk => ?_⟩
    obtain ⟨b, r1, r2⟩ := hok.cell (j := k) (by omega)
    exact ⟨b, r1, fun m => r2⟩
  have hM : ∀ i, i < n → d.mB i ≤ 1000000000 := fun i hi => Nat.le_trans (h.tb i (by omega)).2 ht
  have hL : ∀ i, i < n → d.lB i ≤ 1000000096 := fun i hi => h.lb i (by omega)
  rw [hnn] at hn
  obtain ⟨lf, hlf⟩ : ∃ f, d.lB = f := ⟨_, rfl⟩
  obtain ⟨mf, hmf⟩ : ∃ f, d.mB = f := ⟨_, rfl⟩
  rw [hlf, hmf] at hent
  rw [hlf] at hL
  rw [hmf] at hM
  have HEN := hide hent
  have HHM := hide hM
  have HHL := hide hL
  have HC3 := hide c3
  have HC0 := hide c0
  have HC1 := hide c1
  have d00 : w.cell? ⟨bk, 0, none⟩ = some (.slice va n vc) := c0 0
  clear h e1 e2 hvc hoc hnn hlf hmf hent hM hL c3 c0 c1 ht
  go_enter Tryz.func54, Tryz.ntmps54
  go_wp2_with fail
  clear d00
  go_loopg [3] n (fun q s3 wx => ∃ (i m : Nat), i ≤ n ∧ q = n - i ∧ s3 = .int .i64 (i : Nat) ∧ wx = w.drewN m)
  case atStart => exact ⟨0, 0, Nat.zero_le _, rfl, by simp, rfl⟩
  case round =>
    obtain ⟨i, m, hi, rfl, rfl, rfl⟩ := hrel
    have d0 := HC0.out m
    by_cases hlt : i < n
    · obtain ⟨gv, go, a, c, rfl, rfl, cv, co, hby⟩ := HEN.out i hlt
      have dv := cv m
      have hz : (i : Int) < (n : Int) := by omega
      have hz0 : (0 : Int) ≤ (i : Int) := by omega
      have hwi : IntKind.i64.wrap ((i : Int) + 1) = (i : Int) + 1 := by rw [IntKind.wrap_i64]; omega
      have hmi : n - (i + 1) < n - i := by omega
      have hli := HHL.out i hlt
      have hMi := HHM.out i hlt
      have HI := hide hlt
      have HBY := hide hby
      have HCV := hide cv
      have HCO := hide co
      generalize lf i = tl at *
      generalize mf i = mi at *
      clear hby cv co hi hlt
      go_wp2_with fail
      clear d0 dv
      go_loopg [4] tl (fun q s4 wx => ∃ (k m : Nat), k ≤ tl ∧ q = tl - k ∧ s4 = .int .i64 (k : Nat) ∧ wx = w.drewN m)
      case atStart => exact ⟨0, m, Nat.zero_le _, rfl, by simp, rfl⟩
      case round =>
        obtain ⟨k, m2, hk, rfl, rfl, rfl⟩ := hrel
        have e0 := HC0.out m2
        have e1 := HC1.out m2
        have ev := HCV.out m2
        have eo := HCO.out m2
        by_cases hkl : k < tl
        · obtain ⟨b, rfl, cb⟩ := HBY.out k hkl
          have eb := cb m2
          have hkz : (k : Int) < (tl : Int) := by omega
          have hkz0 : (0 : Int) ≤ (k : Int) := by omega
          have hwk : IntKind.i64.wrap ((k : Int) + 1) = (k : Int) + 1 := by rw [IntKind.wrap_i64]; omega
          have hmk : tl - (k + 1) < tl - k := by omega
          have HK := hide hkl
          have hac : ∀ W, Calls Tryz.prog 80 #[.int .i64 (mi : Nat), .int .i64 (k : Nat)] W fun e w' => e = .returned (.int .u8 (mrk mi k : Nat)) ∧ w' = W := fun W => at_any' mi k W (by omega)
          generalize mrk mi k = mk1 at *
          have HAC : Hid (∀ q, Calls Tryz.prog 80 #[.int .i64 (mi : Nat), .int .i64 (k : Nat)] ((w.drewN m2).drewN q) fun e w' => e = .returned (.int .u8 (mk1 : Nat)) ∧ w' = (w.drewN m2).drewN q) := fun q => hac _
          have HD : Hid (∀ n, (w.drewN m2).drewN n = w.drewN (m2 + n)) := fun n => World.drewN_drewN _ _ _
          have zb : (mk1 != mk1) = false := by simp
          have zb2 : ((mk1 : Int) != (mk1 : Int)) = false := by simp
          clear hac cb hk hkl
          generalize w.drewN m2 = wd at *
          go_upto_region 7 with fail
          go_quiet (with_reducible exact Calls.quiet_of_same (HAC.out _))
          go_wp2_with fail
          go_roundg (tl - (k + 1))
          case measure => go_light; exact hmk
          case rel => go_light; exact ⟨k + 1, m2 + nq, HK.out, rfl, by simp, HD.out nq⟩
        · have hkz : ¬ ((k : Int) < (tl : Int)) := by omega
          clear hk hkl
          go_wp2_with fail
          go_roundg (n - (i + 1))
          case measure => go_light; exact hmi
          case rel => go_light; exact ⟨i + 1, m2, HI.out, rfl, by simp, rfl⟩
    · have hz : ¬ ((i : Int) < (n : Int)) := by omega
      have d3 := HC3.out m
      clear hi hlt
      go_wp2_with fail
      go_loopg [5] 0 (fun q s5 wx => q = 0 ∧ s5 = .int .i64 0 ∧ w.drewN m = wx)
      case atStart => exact ⟨rfl, rfl, rfl⟩
      case round =>
        obtain ⟨rfl, rfl, rfl⟩ := hrel
        go_wp2_with fail
        go_ret
        exact ⟨rfl, m, rfl⟩
end Go.Proofs.YtdhhjdacidhmjaaGreat

/- The Book: told, where lists of messages are kept; holds. -/
namespace Go.Proofs.YtdhhjdacidhmjaaGreat
open Go.RowKit
set_option maxRecDepth 100000
set_option maxRecDepth 100000
/-- A message of the mark, loaded into a variable. -/
theorem mk_cells (W : World) (kq : Int) : ∃ W1 W2, Hid (W.alloc (.cells #[.int .i64 0, .int .i64 0, .int .i64 0, .int .i64 0, .int .u64 0, .int .u64 0, .int .u64 0, .int .u64 0, .int .i64 0, .int .u64 0, .slice none 0 0, .int .i64 0, .int .u64 0, .string ⟨#[]⟩, .string ⟨#[]⟩, .int .u64 0, .int .u64 0, .int .u64 0, .int .i64 0, .int .i64 0, .int .i64 0, .int .i64 0] 108) = W1) ∧ Hid (W1.there W.heap.size 0 22) ∧ Hid (W1.setCells W.heap.size 0 (#[.int .i64 kq, .int .i64 0, .int .i64 0, .int .i64 0, .int .u64 0, .int .u64 0, .int .u64 0, .int .u64 0, .int .i64 0, .int .u64 0, .slice none 0 0, .int .i64 0, .int .u64 0, .string ⟨#[]⟩, .string ⟨#[]⟩, .int .u64 0, .int .u64 0, .int .u64 0, .int .i64 0, .int .i64 0, .int .i64 0, .int .i64 0] : Array Value).toList = W2) ∧ W2.cell? ⟨W.heap.size, 0, none⟩ = some (.int .i64 kq) ∧ W2.cell? ⟨W.heap.size, 4, none⟩ = some (.int .u64 0) ∧ W2.cell? ⟨W.heap.size, 10, none⟩ = some (.slice none 0 0) ∧ W2.cell? ⟨W.heap.size, 13, none⟩ = some (.string ⟨#[]⟩) ∧ W.Since W.heap.size W2 := by
  obtain ⟨W1, HW1, HT, W2, HW2, HH, hsn⟩ := mk_row W kq
  refine ⟨W1, W2, HW1, HT, HW2, ?_, ?_, ?_, ?_, hsn⟩ <;> simp [World.cell?, HH.out]
theorem mkM_range {O own : Nat → Nat} {W : World} {a : Option Addr} {len c m k : Nat} (h : KOk O 1006 own W 108 22 mkM (.slice a len c) len m) (hk : k < len) : ∃ b, a = some ⟨b, 0, none⟩ ∧ W.rangeAt b (k * 22) (mkMl ((1000 + m : Nat) : Int)) ∧ b < W.heap.size := by
  obtain ⟨b, rfl, c0⟩ := h.cell (j := k * 22) (by omega)
  refine ⟨b, rfl, fun j v hv => ?_, World.block_lt_of_cell? _ _ c0⟩
  have hj : j < 22 := (List.getElem?_eq_some_iff.1 hv).1
  obtain ⟨b2, e, c1⟩ := h.cell (j := k * 22 + j) (by omega)
  obtain rfl : b = b2 := congrArg Addr.block (Option.some.inj e)
  rw [c1]
  unfold mkM
  have : (k * 22 + j) % 22 = j := by omega
  rw [this, List.getD_eq_getElem?_getD, hv]
  rfl
theorem infoMk : (Tryz.prog.info? 108).map (·.size) = some 22 := by kernel_rfl
set_option maxHeartbeats 4000000 in
theorem bm_told {O own : Nat → Nat} {w : World} {bk : Nat} {d : Bd} (h : BM O own w bk d) (ht : d.tu ≤ 1000000000) (hn : d.nm ≤ 1000000000) :
    Calls Tryz.prog 56 #[.pointer (some ⟨bk, 0, none⟩)] w fun e w' => e = .returned (.bool true) ∧ w.Since w.heap.size w' := by
  obtain ⟨va, vc, oa, oc, e1, e2, hvc, hoc⟩ := h.km.len
  obtain ⟨n, hnn⟩ : ∃ x, d.nm = x := ⟨_, rfl⟩
  rw [hnn] at e1 e2 hvc hoc
  have HC0 : Hid (∀ W, w.Since w.heap.size W → W.cell? ⟨bk, 27, none⟩ = some (.slice va n vc)) := fun W s => by rw [← e1]; exact cell_later s (h.row.1.cell (i := 27) (by decide))
  have HC1 : Hid (∀ W, w.Since w.heap.size W → W.cell? ⟨bk, 28, none⟩ = some (.slice oa n oc)) := fun W s => by rw [← e2]; exact cell_later s (h.row.1.cell (i := 28) (by decide))
  have d18 : w.cell? ⟨bk, 18, none⟩ = some (.slice none 0 0) := h.row.1.cell (i := 18) (by decide)
  have d21 : w.cell? ⟨bk, 21, none⟩ = some (.slice none 0 0) := h.row.1.cell (i := 21) (by decide)
  have d24 : w.cell? ⟨bk, 24, none⟩ = some (.slice none 0 0) := h.row.1.cell (i := 24) (by decide)
  have d27 : w.cell? ⟨bk, 27, none⟩ = some (.slice va n vc) := HC0.out _ (World.Since.refl _ _)
  have HEN : Hid (∀ i, i < n → ∃ gv go a c, va = some ⟨gv, 0, none⟩ ∧ oa = some ⟨go, 0, none⟩ ∧ (∀ W, w.Since w.heap.size W → W.cell? ⟨gv, i, none⟩ = some (.slice a (d.lM i) c)) ∧ (∀ W, w.Since w.heap.size W → W.cell? ⟨go, i, none⟩ = some (.int .i64 (d.mM i : Nat))) ∧ ∀ k, k < d.lM i → ∃ b, a = some ⟨b, 0, none⟩ ∧ ∀ W, w.Since w.heap.size W → W.rangeAt b (k * 22) (mkMl ((1000 + d.mM i : Nat) : Int))) := fun i hi => by
    obtain ⟨gv, q1, q2⟩ := hvc i hi
    obtain ⟨go, q3, q4⟩ := hoc i hi
    have hok := h.km.ok i (by omega)
    obtain ⟨a, c, hf⟩ := hok.form
    rw [hf] at q2 hok
    refine ⟨gv, go, a, c, q1, q3, fun W s => cell_later s q2, fun W s => cell_later s q4, fun k hk => ?_⟩
    obtain ⟨b, r1, r2, r3⟩ := mkM_range hok hk
    exact ⟨b, r1, fun W s => rangeAt_on r2 (s.block b r3)⟩
  have HHM : Hid (∀ i, i < n → d.mM i ≤ 1000000000) := fun i hi => Nat.le_trans (h.tm i (by omega)).2 ht
  have HHL : Hid (∀ i, i < n → d.lM i ≤ 1000000032) := fun i hi => h.lm i (by omega)
  rw [hnn] at hn
  have HNN := hide hn
  obtain ⟨lf, hlf⟩ : ∃ f, d.lM = f := ⟨_, rfl⟩
  obtain ⟨mf, hmf⟩ : ∃ f, d.mM = f := ⟨_, rfl⟩
  rw [hlf, hmf] at HEN
  rw [hlf] at HHL
  rw [hmf] at HHM
  clear h e1 e2 hvc hoc hnn hlf hmf ht hn
  go_enter Tryz.func56, Tryz.ntmps56
  go_wp2_with fail
  go_loopg [3] 0 (fun q s3 wx => q = 0 ∧ s3 = .int .i64 0 ∧ w = wx)
  case atStart => exact ⟨rfl, rfl, rfl⟩
  case round =>
    obtain ⟨rfl, rfl, rfl⟩ := hrel
    go_wp2_with fail
    go_loopg [5] 0 (fun q s5 wx => q = 0 ∧ s5 = .int .i64 0 ∧ w = wx)
    case atStart => exact ⟨rfl, rfl, rfl⟩
    case round =>
      obtain ⟨rfl, rfl, rfl⟩ := hrel
      go_wp2_with fail
      go_loopg [7] 0 (fun q s7 wx => q = 0 ∧ s7 = .int .i64 0 ∧ w = wx)
      case atStart => exact ⟨rfl, rfl, rfl⟩
      case round =>
        obtain ⟨rfl, rfl, rfl⟩ := hrel
        go_wp2_with fail
        clear d18 d21 d24 d27
        go_loopg [9] n (fun q s9 wx => ∃ i : Nat, i ≤ n ∧ q = n - i ∧ s9 = .int .i64 (i : Nat) ∧ Hid (w.Since w.heap.size wx))
        case atStart => exact ⟨0, Nat.zero_le _, rfl, by simp, World.Since.refl _ _⟩
        case round =>
          obtain ⟨i, hi, rfl, rfl, HS⟩ := hrel
          have d0 := HC0.out wr HS.out
          by_cases hlt : i < n
          · obtain ⟨gv, go, a, c, rfl, rfl, cv, co, hby⟩ := HEN.out i hlt
            have d1 := HC1.out wr HS.out
            have dv := cv wr HS.out
            have dm := co wr HS.out
            have hz : (i : Int) < (n : Int) := by omega
            have hz0 : (0 : Int) ≤ (i : Int) := by omega
            have hwi : IntKind.i64.wrap ((i : Int) + 1) = (i : Int) + 1 := by have := HNN.out; rw [IntKind.wrap_i64]; omega
            have hmi : n - (i + 1) < n - i := by omega
            have HLI := hide (HHL.out i hlt)
            have HMI := hide (HHM.out i hlt)
            have HI := hide hlt
            have HBY := hide hby
            have HCV := hide cv
            generalize lf i = tl at *
            generalize mf i = mi at *
            clear hby cv co hi hlt
            go_wp2_with fail
            clear d0 d1 dv dm
            go_loopg [11] tl (fun q s11 wx => ∃ k : Nat, k ≤ tl ∧ q = tl - k ∧ s11 = .int .i64 (k : Nat) ∧ Hid (w.Since w.heap.size wx))
            case atStart => exact ⟨0, Nat.zero_le _, rfl, by simp, HS.out⟩
            case round =>
              clear HS
              obtain ⟨k, hk, rfl, rfl, HS⟩ := hrel
              have e0 := HC0.out wr HS.out
              have ev := HCV.out wr HS.out
              by_cases hkl : k < tl
              · obtain ⟨b, rfl, cb⟩ := HBY.out k hkl
                have hkz : (k : Int) < (tl : Int) := by omega
                have hkz0 : (0 : Int) ≤ (k : Int) := by omega
                have hwk : IntKind.i64.wrap ((k : Int) + 1) = (k : Int) + 1 := by have := HLI.out; rw [IntKind.wrap_i64]; omega
                have hmk : tl - (k + 1) < tl - k := by omega
                have HK := hide hkl
                obtain ⟨kq, hkq⟩ : ∃ kq : Int, ((1000 + mi : Nat) : Int) = kq := ⟨_, rfl⟩
                have HRG : Hid (wr.rangeAt b (k * 22) (#[.int .i64 kq, .int .i64 0, .int .i64 0, .int .i64 0, .int .u64 0, .int .u64 0, .int .u64 0, .int .u64 0, .int .i64 0, .int .u64 0, .slice none 0 0, .int .i64 0, .int .u64 0, .string ⟨#[]⟩, .string ⟨#[]⟩, .int .u64 0, .int .u64 0, .int .u64 0, .int .i64 0, .int .i64 0, .int .i64 0, .int .i64 0] : Array Value).toList) := by
                  have := cb wr HS.out
                  rw [hkq] at this
                  exact this
                have hs1 : (1000 : Int) + (mi : Int) = kq := by omega
                have hs2 : IntKind.i64.wrap kq = kq := by have := HMI.out; rw [IntKind.wrap_i64]; omega
                have zq : (kq == kq) = true := by simp
                obtain ⟨W1, W2, HW1, HT, HW2, g0, g4, g10, g13, hsn⟩ := mk_cells wr kq
                have HS2 := hide (HS.out.trans (since_mono hsn HS.out.size))
                obtain ⟨vb, HVB⟩ : ∃ y, Hid (wr.heap.size = y) := ⟨_, rfl⟩
                rw [HVB.out] at HT HW2 g0 g4 g10 g13
                clear cb hk hkl hsn hkq
                go_wp2_with (first
                  | (refine wpList_load_mid rfl 108 _ rfl b (k * 22) rfl _ _ HRG.out Tryz.underlying108 rfl infoMk ?_)
                  | (rw [HW1.out, HVB.out]; clear HW1)
                  | (refine wpList_store_mid rfl 108 _ _ rfl vb 0 #[.int .i64 kq, .int .i64 0, .int .i64 0, .int .i64 0, .int .u64 0, .int .u64 0, .int .u64 0, .int .u64 0, .int .i64 0, .int .u64 0, .slice none 0 0, .int .i64 0, .int .u64 0, .string ⟨#[]⟩, .string ⟨#[]⟩, .int .u64 0, .int .u64 0, .int .u64 0, .int .i64 0, .int .i64 0, .int .i64 0, .int .i64 0] rfl rfl HT.out infoMk (by kernel_rfl) ?_; rw [HW2.out]; clear HW2))
                go_roundg (tl - (k + 1))
                case measure => go_light; exact hmk
                case rel => go_light; exact ⟨k + 1, HK.out, rfl, by simp, HS2.out⟩
              · have hkz : ¬ ((k : Int) < (tl : Int)) := by omega
                clear hk hkl
                go_wp2_with fail
                go_roundg (n - (i + 1))
                case measure => go_light; exact hmi
                case rel => go_light; exact ⟨i + 1, HI.out, rfl, by simp, HS.out⟩
          · have hz : ¬ ((i : Int) < (n : Int)) := by omega
            clear hi hlt
            go_wp2_with fail
            go_ret
            exact ⟨rfl, HS.out⟩
end Go.Proofs.YtdhhjdacidhmjaaGreat

/- The Book: holds, grow, Look, where lists of bytes and of messages are kept (kb7_gen.py). -/
namespace Go.Proofs.YtdhhjdacidhmjaaGreat
open Go.RowKit
set_option maxRecDepth 100000
set_option maxRecDepth 100000
set_option maxHeartbeats 2000000 in
theorem bm_holds {O own : Nat → Nat} {w : World} {bk : Nat} {d : Bd} (h : BM O own w bk d) (ht : d.tu ≤ 1000000000) (hnb : d.nb ≤ 1000000000) (hnm : d.nm ≤ 1000000000) :
    Calls Tryz.prog 32 #[.pointer (some ⟨bk, 0, none⟩)] w fun e w' => e = .returned (.bool true) ∧ Hid (w.Since w.heap.size w') := by
  have HP := hide (bm_plain h ht hnb)
  have HK : Hid (∀ m, Calls Tryz.prog 55 #[.pointer (some ⟨bk, 0, none⟩)] (w.drewN m) fun e w' => e = .returned (.bool true) ∧ w' = w.drewN m) := fun m => book_kept bk _ _ (h.drewN m).row.1 rfl rfl rfl rfl
  have HT : Hid (∀ m, Calls Tryz.prog 56 #[.pointer (some ⟨bk, 0, none⟩)] (w.drewN m) fun e w' => e = .returned (.bool true) ∧ (w.drewN m).Since (w.drewN m).heap.size w') := fun m => bm_told (h.drewN m) ht hnm
  have HH : Hid (∀ W, w.Since w.heap.size W → Calls Tryz.prog 57 #[.pointer (some ⟨bk, 0, none⟩)] W fun e w' => e = .returned (.bool true) ∧ w' = W) := fun W s => book_held bk _ _ (h.since s).row.1 rfl rfl
  have HD : Hid (∀ m W, (w.drewN m).Since (w.drewN m).heap.size W → w.Since w.heap.size W) := fun m W s => (since_drew w m).trans (since_mono s (since_drew w m).size)
  clear h ht hnb hnm
  go_enter Tryz.func32, Tryz.ntmps32
  go_wp2_with fail
  refine HP.out.mono ?_
  rintro e w1 ⟨rfl, m, rfl⟩
  go_wp2_with fail
  refine (HK.out m).mono ?_
  rintro e w2 ⟨rfl, rfl⟩
  go_wp2_with fail
  refine (HT.out m).mono ?_
  rintro e w3 ⟨rfl, hs⟩
  have HS3 := hide (HD.out m w3 hs)
  clear hs HP HK HT HD
  go_wp2_with fail
  refine (HH.out w3 HS3.out).mono ?_
  rintro e w4 ⟨rfl, rfl⟩
  go_wp2_with fail
  go_ret
  exact ⟨rfl, HS3⟩
/-- The Book's numbers. -/
structure BL (d : Bd) : Prop where
  ab : d.ab ≤ d.nb
  am : d.am ≤ d.nm
  cb : d.nb + 9 * (d.nb - d.ab) ≤ 10 * d.tu
  cm : d.nm + 5 * (d.nm - d.am) ≤ 10 * d.tu
  us : d.us ≤ 16777216
  tu : d.tu ≤ 10000000
  lb : ∀ i, d.ab ≤ i → i < d.nb → d.lB i ≤ 1000000000
  lm : ∀ i, d.am ≤ i → i < d.nm → d.lM i ≤ 1000000000
/-- Where growing stands. -/
def GR (O0 : Nat → Nat) (w : World) (bk : Nat) (d : Bd) (W : World) : Prop := ∃ O own, BM O own W bk d ∧ ChR 1000 1007 O0 O w W
theorem GR.row {O0 : Nat → Nat} {w W : World} {bk : Nat} {d : Bd} (h : GR O0 w bk d W) : W.rowIs bk 43 39 (bdC d) := by
  obtain ⟨O, own, h1, _⟩ := h
  exact h1.row.1
theorem GR.nilk {O0 : Nat → Nat} {w W : World} {bk : Nat} {d : Bd} (h : GR O0 w bk d W) (c : Nat) (h3 : c % 3 = 2) (hc : c ≠ 2 ∧ c ≠ 29 ∧ c ≠ 38 ∧ c ≤ 35) : GR O0 w bk d (W.setCell ⟨bk, c, none⟩ (.int .i64 0)) := by
  obtain ⟨O, own, h1, h2⟩ := h
  obtain ⟨g1, g2⟩ := h1.num c 0 d (fun i _ => by
    by_cases e : i = c
    · subst e
      rw [if_pos rfl]
      unfold bdC
      rw [if_neg (by omega), if_neg (by omega), if_neg (by omega), if_neg (by omega), if_neg (by omega), if_neg (by omega), if_neg (by omega), if_neg (by omega), if_neg (by omega), if_pos h3]
      rfl
    · rw [if_neg e]) ⟨rfl, rfl, rfl, rfl, rfl, rfl⟩ ⟨rfl, rfl, rfl, rfl, rfl, rfl⟩ (Nat.le_refl _)
  exact ⟨O, own, g1, h2.trans (g2.wide (by omega) (by omega))⟩
/-- Behind growing. -/
def GD (O0 : Nat → Nat) (w : World) (bk : Nat) (t : Nat) (W : World) : Prop := ∃ d, GR O0 w bk d W ∧ BL d ∧ d.tu = t
set_option maxHeartbeats 4000000 in
theorem bm_grow {O own : Nat → Nat} {w : World} {bk : Nat} {d : Bd} (h : BM O own w bk d) (hb : BL d) :
    Calls Tryz.prog 33 #[.pointer (some ⟨bk, 0, none⟩)] w fun e w' => e = .returned (.tuple #[]) ∧ Hid (GD O w bk d.tu w') := by
  have ht : d.tu ≤ 1000000000 := by have := hb.tu; omega
  have hnb : d.nb ≤ 1000000000 := by have := hb.cb; have := hb.tu; omega
  have hnm : d.nm ≤ 1000000000 := by have := hb.cm; have := hb.tu; omega
  have HQ : Hid (Calls Tryz.prog 58 #[.pointer (some ⟨bk, 0, none⟩)] w fun e w' => e = .returned (.tuple #[]) ∧ ∃ lv ov L l m, Hid (GR O w bk { setB d lv ov (d.nb + 9 * (d.nb - d.ab)) L l m with ab := d.nb + 9 * (d.nb - d.ab) } w')) :=
    (growB_any h hb.ab hnb ht hb.lb).mono fun e w' ⟨he, hh⟩ => by
      obtain ⟨O', own', lv, ov, L, l, m, g1, g2⟩ := hh.out
      exact ⟨he, lv, ov, L, l, m, O', own', g1, g2⟩
  have HBL := hide hb
  clear h hb ht hnb hnm
  go_enter Tryz.func33, Tryz.ntmps33
  go_wp2_with fail
  refine HQ.out.mono ?_
  rintro e w0 ⟨rfl, lv, ov, L, l, m, HG0⟩
  clear HQ
  have q0 := book_growRows bk _ _ HG0.out.row rfl rfl
  have HG1 := hide (HG0.out.nilk 5 (by decide) (by decide))
  generalize hw0 : World.setCell _ ⟨bk, 5, none⟩ (.int .i64 0) = w1 at q0 HG1
  clear HG0
  go_wp2_with fail
  refine q0.mono ?_
  rintro e w1' ⟨rfl, hww⟩
  rw [hww]
  clear q0 hw0 hww
  have q1 := book_growTexts bk _ _ HG1.out.row rfl rfl
  have HG2 := hide (HG1.out.nilk 8 (by decide) (by decide))
  generalize hw1 : World.setCell _ ⟨bk, 8, none⟩ (.int .i64 0) = w2 at q1 HG2
  clear HG1
  go_wp2_with fail
  refine q1.mono ?_
  rintro e w2' ⟨rfl, hww⟩
  rw [hww]
  clear q1 hw1 hww
  have q2 := book_growInts bk _ _ HG2.out.row rfl rfl
  have HG3 := hide (HG2.out.nilk 11 (by decide) (by decide))
  generalize hw2 : World.setCell _ ⟨bk, 11, none⟩ (.int .i64 0) = w3 at q2 HG3
  clear HG2
  go_wp2_with fail
  refine q2.mono ?_
  rintro e w3' ⟨rfl, hww⟩
  rw [hww]
  clear q2 hw2 hww
  have q3 := book_growWords bk _ _ HG3.out.row rfl rfl
  have HG4 := hide (HG3.out.nilk 14 (by decide) (by decide))
  generalize hw3 : World.setCell _ ⟨bk, 14, none⟩ (.int .i64 0) = w4 at q3 HG4
  clear HG3
  go_wp2_with fail
  refine q3.mono ?_
  rintro e w4' ⟨rfl, hww⟩
  rw [hww]
  clear q3 hw3 hww
  have q4 := book_growDones bk _ _ HG4.out.row rfl rfl
  have HG5 := hide (HG4.out.nilk 17 (by decide) (by decide))
  generalize hw4 : World.setCell _ ⟨bk, 17, none⟩ (.int .i64 0) = w5 at q4 HG5
  clear HG4
  go_wp2_with fail
  refine q4.mono ?_
  rintro e w5' ⟨rfl, hww⟩
  rw [hww]
  clear q4 hw4 hww
  have q5 := book_growAccts bk _ _ HG5.out.row rfl rfl
  have HG6 := hide (HG5.out.nilk 20 (by decide) (by decide))
  generalize hw5 : World.setCell _ ⟨bk, 20, none⟩ (.int .i64 0) = w6 at q5 HG6
  clear HG5
  go_wp2_with fail
  refine q5.mono ?_
  rintro e w6' ⟨rfl, hww⟩
  rw [hww]
  clear q5 hw5 hww
  have q6 := book_growQueue bk _ _ HG6.out.row rfl rfl
  have HG7 := hide (HG6.out.nilk 23 (by decide) (by decide))
  generalize hw6 : World.setCell _ ⟨bk, 23, none⟩ (.int .i64 0) = w7 at q6 HG7
  clear HG6
  go_wp2_with fail
  refine q6.mono ?_
  rintro e w7' ⟨rfl, hww⟩
  rw [hww]
  clear q6 hw6 hww
  have q7 := book_growSlots bk _ _ HG7.out.row rfl rfl
  have HG8 := hide (HG7.out.nilk 26 (by decide) (by decide))
  generalize hw7 : World.setCell _ ⟨bk, 26, none⟩ (.int .i64 0) = w8 at q7 HG8
  clear HG7
  go_wp2_with fail
  refine q7.mono ?_
  rintro e w8' ⟨rfl, hww⟩
  rw [hww]
  clear q7 hw7 hww
  have HM : Hid (Calls Tryz.prog 67 #[.pointer (some ⟨bk, 0, none⟩)] w8 fun e w' => e = .returned (.tuple #[]) ∧ ∃ lv2 ov2 L2 l2 m2, Hid (GR O w bk { setM { setB d lv ov (d.nb + 9 * (d.nb - d.ab)) L l m with ab := d.nb + 9 * (d.nb - d.ab) } lv2 ov2 (d.nm + 5 * (d.nm - d.am)) L2 l2 m2 with am := d.nm + 5 * (d.nm - d.am) } w')) := by
    obtain ⟨O1, own1, h1, h2⟩ := HG8.out
    have hb := HBL.out
    refine (growM_any h1 hb.am (by show d.nm ≤ _; have := hb.cm; have := hb.tu; omega) (by show d.tu ≤ _; have := hb.tu; omega) hb.lm).mono fun e w' ⟨he, hh⟩ => ?_
    obtain ⟨O', own', lv2, ov2, L2, l2, m2, g1, g2⟩ := hh.out
    exact ⟨he, lv2, ov2, L2, l2, m2, O', own', g1, h2.trans g2⟩
  clear HG8
  go_wp2_with fail
  refine HM.out.mono ?_
  rintro e x0 ⟨rfl, lv2, ov2, L2, l2, m2, HX0⟩
  clear HM
  have p0 := book_growFlights bk _ _ HX0.out.row rfl rfl
  have HX1 := hide (HX0.out.nilk 32 (by decide) (by decide))
  generalize hx0 : World.setCell _ ⟨bk, 32, none⟩ (.int .i64 0) = x1 at p0 HX1
  clear HX0
  go_wp2_with fail
  refine p0.mono ?_
  rintro e x1' ⟨rfl, hww⟩
  rw [hww]
  clear p0 hx0 hww
  have p1 := book_growFiles bk _ _ HX1.out.row rfl rfl
  have HX2 := hide (HX1.out.nilk 35 (by decide) (by decide))
  generalize hx1 : World.setCell _ ⟨bk, 35, none⟩ (.int .i64 0) = x2 at p1 HX2
  clear HX1
  go_wp2_with fail
  refine p1.mono ?_
  rintro e x2' ⟨rfl, hww⟩
  rw [hww]
  clear p1 hx1 hww
  have d36 : x2.cell? ⟨bk, 36, none⟩ = some (.int .i64 (d.tu : Nat)) := HX2.out.row.cell (i := 36) (by decide)
  have d37 : x2.cell? ⟨bk, 37, none⟩ = some (.int .i64 (d.dn : Nat)) := HX2.out.row.cell (i := 37) (by decide)
  have f37 := HX2.out.row.frozen 37
  have HF : Hid (GD O w bk d.tu (x2.setCell ⟨bk, 37, none⟩ (.int .i64 (d.tu : Nat)))) := by
    obtain ⟨O1, own1, h1, h2⟩ := HX2.out
    have hb := HBL.out
    obtain ⟨g1, g2⟩ := h1.num 37 d.tu { setM { setB d lv ov (d.nb + 9 * (d.nb - d.ab)) L l m with ab := d.nb + 9 * (d.nb - d.ab) } lv2 ov2 (d.nm + 5 * (d.nm - d.am)) L2 l2 m2 with am := d.nm + 5 * (d.nm - d.am), dn := d.tu } (fun i hi => by
      unfold bdC
      by_cases e : i = 37
      · subst e; rfl
      · simp only [if_neg e]) ⟨rfl, rfl, rfl, rfl, rfl, rfl⟩ ⟨rfl, rfl, rfl, rfl, rfl, rfl⟩ (Nat.le_refl _)
    refine ⟨_, ⟨O1, own1, g1, h2.trans (g2.wide (by omega) (by omega))⟩, ⟨Nat.le_refl _, Nat.le_refl _, ?_, ?_, hb.us, hb.tu, fun i h1 h2 => absurd h2 (Nat.not_lt.2 h1), fun i h1 h2 => absurd h2 (Nat.not_lt.2 h1)⟩, rfl⟩
    · show (d.nb + 9 * (d.nb - d.ab)) + 9 * ((d.nb + 9 * (d.nb - d.ab)) - (d.nb + 9 * (d.nb - d.ab))) ≤ 10 * d.tu
      rw [Nat.sub_self]
      exact hb.cb
    · show (d.nm + 5 * (d.nm - d.am)) + 5 * ((d.nm + 5 * (d.nm - d.am)) - (d.nm + 5 * (d.nm - d.am))) ≤ 10 * d.tu
      rw [Nat.sub_self]
      exact hb.cm
  clear HX2
  go_wp2_with fail
  go_end0
  exact ⟨rfl, HF⟩
set_option maxHeartbeats 4000000 in
theorem bm_look {O own : Nat → Nat} {w : World} {bk : Nat} {d : Bd} (h : BM O own w bk d) (hb : BL d) :
    Calls Tryz.prog 11 #[.pointer (some ⟨bk, 0, none⟩)] w fun e w' => e = .returned (.bool true) ∧ Hid (GD O w bk d.tu w') := by
  have HO : Hid (Calls Tryz.prog 32 #[.pointer (some ⟨bk, 0, none⟩)] w fun e w' => e = .returned (.bool true) ∧ Hid (BM O own w' bk d ∧ ChR 1000 1007 O O w w')) :=
    (bm_holds h (by have := hb.tu; omega) (by have := hb.cb; have := hb.tu; omega) (by have := hb.cm; have := hb.tu; omega)).mono fun e w' ⟨he, hs⟩ => ⟨he, h.since hs.out, ChR.since hs.out⟩
  have HBL := hide hb
  obtain ⟨tu, htu⟩ : ∃ x, d.tu = x := ⟨_, rfl⟩
  obtain ⟨dn, hdn⟩ : ∃ x, d.dn = x := ⟨_, rfl⟩
  rw [htu]
  clear h hb
  go_enter Tryz.func11, Tryz.ntmps11
  go_wp2_with fail
  refine HO.out.mono ?_
  rintro e w1 ⟨rfl, HB1⟩
  clear HO
  have c36 : w1.cell? ⟨bk, 36, none⟩ = some (.int .i64 (tu : Nat)) := by rw [← htu]; exact HB1.out.1.row.1.cell (i := 36) (by decide)
  have c37 : w1.cell? ⟨bk, 37, none⟩ = some (.int .i64 (dn : Nat)) := by rw [← hdn]; exact HB1.out.1.row.1.cell (i := 37) (by decide)
  have HBD : Hid (∀ n, GR O w bk d (w1.drewN n)) := fun n => ⟨O, own, HB1.out.1.drewN n, HB1.out.2.trans (ChR.since (since_drew _ _))⟩
  by_cases hdt : dn = tu
  · rw [hdt] at c37
    have HF : Hid (∀ n, GD O w bk tu (w1.drewN n)) := fun n => ⟨d, HBD.out n, HBL.out, htu⟩
    clear HB1 HBD HBL hdt htu hdn
    go_wp2_with fail
    go_quiet (fail)
    go_wp2_with fail
    go_ret
    exact ⟨rfl, HF.out _⟩
  · have hdb : ((dn : Int) == (tu : Int)) = false := by
      have : ¬ ((dn : Int) = (tu : Int)) := by omega
      simpa using this
    have HG : Hid (∀ n, Calls Tryz.prog 33 #[.pointer (some ⟨bk, 0, none⟩)] (w1.drewN n) fun e w2 => e = .returned (.tuple #[]) ∧ Hid (Calls Tryz.prog 32 #[.pointer (some ⟨bk, 0, none⟩)] w2 fun e w3 => e = .returned (.bool true) ∧ Hid (GD O w bk tu w3))) := fun n => by
      obtain ⟨O1, own1, h1, h2⟩ := HBD.out n
      refine (bm_grow h1 HBL.out).mono fun e w2 ⟨he, hh⟩ => ⟨he, ?_⟩
      obtain ⟨d2, ⟨O2, own2, g1, g2⟩, g3, g4⟩ := hh.out
      refine (bm_holds g1 (by have := g3.tu; omega) (by have := g3.cb; have := g3.tu; omega) (by have := g3.cm; have := g3.tu; omega)).mono fun e w3 ⟨he, hs⟩ => ⟨he, d2, ⟨O2, own2, g1.since hs.out, (h2.trans g2).trans (ChR.since hs.out)⟩, g3, g4.trans htu⟩
    clear HB1 HBD HBL hdt htu hdn
    go_wp2_with fail
    go_quiet (fail)
    go_wp2_with fail
    refine (HG.out _).mono ?_
    rintro e w2 ⟨rfl, HH2⟩
    clear HG
    go_wp2_with fail
    refine HH2.out.mono ?_
    rintro e w3 ⟨rfl, HF⟩
    go_wp2_with fail
    go_ret
    exact ⟨rfl, HF⟩
end Go.Proofs.YtdhhjdacidhmjaaGreat
