/- A list of a Book's grows by one int of its mark; the walk of Book.growInts. -/
import Derived.Test.YtbebnjeamlmclaaGreatIB5
import Derived.Test.YtbebnjeamlmclaaGreatSpread4
namespace Go.Proofs.YtbebnjeamlmclaaGreat
open Go.RowKit
set_option maxRecDepth 100000

/-- A list under way, beside the Book that keeps some of its beginnings. -/
structure Und (w0 w : World) (F0 : Nat → Prop) (B bk n lo hi : Nat) (A : Nat → Option Addr) (ln M : Nat → Nat) (bv ov v : Value) (len m : Nat) : Prop where
  own : w.ownsRow B 3 1 v len (List.replicate len (mkI m))
  far : ∀ b, v.ownBlock = some b → b ≠ bk ∧ bv.ownBlock ≠ some b ∧ ov.ownBlock ≠ some b
  ent : ∀ j a, j < n → A j = some a → v.ownBlock = some a.block → a = ⟨a.block, 0, none⟩ ∧ ln j ≤ len ∧ M j = m
  dis : ∀ j a, lo ≤ j → j < hi → A j = some a → v.ownBlock ≠ some a.block
  foot : ∀ b, v.ownBlock = some b → F0 b ∨ w0.heap.size ≤ b

theorem IBook.app {w0 w : World} {F0 : Nat → Prop} {B bk n lo hi : Nat} {A : Nat → Option Addr} {ln C M : Nat → Nat} {bv ov : Value} {at' turn done used : Nat} (h : IBook w B bk n lo hi A ln C M bv ov at' turn done used) (hB : B ≤ w.heap.size) {v : Value} {len m : Nat} (hu : Und w0 w F0 B bk n lo hi A ln M bv ov v len m) (hmv : Mv F0 (BF bk n A bv ov) w0 w) (hmax : len ≤ 1050000) :
    ∃ a c w2, (Builtin.append_ #[31, 31] 31 #[v, .slice (some ⟨w.heap.size, 0, none⟩) 1 1]).run Tryz.prog (w.alloc (.cells #[mkI m] 3)) = .ok (.slice a (len + 1) c) w2 ∧
      IBook w2 B bk n lo hi A ln C M bv ov at' turn done used ∧ Und w0 w2 F0 B bk n lo hi A ln M bv ov (.slice a (len + 1) c) (len + 1) m ∧ Mv F0 (BF bk n A bv ov) w0 w2 ∧ B ≤ w2.heap.size := by
  obtain ⟨v', w2, hr, ho, hg, hl⟩ := app_txt hu.own ((1000 + m : Nat) : Int) hmax hB
  have ho' : w2.ownsRow B 3 1 v' (len + 1) (List.replicate (len + 1) (mkI m)) := by rw [List.replicate_succ']; exact ho
  obtain ⟨a, c, rfl, _, hform⟩ := own_slice ho'
  have zg := hg.size
  have nn : ∀ b, (none : Option Nat) ≠ some b := fun _ e => by cases e
  have lies : ∀ b, (Value.slice a (len + 1) c).ownBlock = some b → v.ownBlock = some b ∨ w.heap.size ≤ b := fun b e => by
    rcases hl with e2 | ⟨b', e2, hb'⟩
    · exact Or.inl (e2 ▸ e)
    · rw [e2] at e; exact Or.inr ((Option.some.inj e) ▸ hb')
  have keep : ∀ k, BF bk n A bv ov k → v.ownBlock ≠ some k → w2.heap[k]? = w.heap[k]? := fun k hf hn => hg.block k (h.ge k hf).2 hn (nn k)
  refine ⟨a, c, w2, hr, ?_, ⟨ho', fun b e => ?_, fun j ad hj he e => ?_, fun j ad h1 h2 he e => ?_, fun b e => ?_⟩, ⟨hg.os.trans hmv.os, hg.tape.trans hmv.tape, hg.output.trans hmv.output, Nat.le_trans hmv.size zg, fun k hk hn => (hg.block k (Nat.lt_of_lt_of_le hk hmv.size) (fun e => by
      rcases hu.foot k e with q | q
      · exact hn q
      · omega) (nn k)).trans (hmv.block k hk hn), hmv.foot⟩, by omega⟩
  · refine ⟨h.row.of_block (keep bk (Or.inl rfl) (fun e => (hu.far bk e).1 rfl)), own_block h.ob (fun k e => keep k (Or.inr (Or.inl e)) (fun e2 => (hu.far k e2).2.1 e)), own_block h.oo (fun k e => keep k (Or.inr (Or.inr (Or.inl e))) (fun e2 => (hu.far k e2).2.2 e)), fun j hj q hq => ?_, fun j h1 h2 => own_block (h.own j h1 h2) (fun k e => ?_), fun j ad hj he => ?_, h.dis, h.nb, h.no, h.hn, h.lb, h.mt⟩
    · obtain ⟨b, e, hc⟩ := h.cel j hj q hq
      by_cases hvb : v.ownBlock = some b
      · have he := hu.ent j ⟨b, 0, none⟩ hj e hvb
        refine ⟨b, e, ?_⟩
        rw [he.2.2]
        exact (hg.cell b q (mkI m) hvb (nn b) (by omega) (own_cel hu.own hvb (by rw [List.getElem?_replicate, if_pos (by omega)]))).cell
      · exact ⟨b, e, by rw [World.cell?_of_block (w := w) (keep b (Or.inr (Or.inr (Or.inr ⟨j, _, hj, e, rfl⟩))) hvb)]; exact hc⟩
    · match hAj : A j, e with
      | some ad, e =>
        have e' : ad.block = k := by simpa [Value.ownBlock] using e
        rw [← e']
        exact keep _ (Or.inr (Or.inr (Or.inr ⟨j, ad, Nat.lt_of_lt_of_le h2 h.hn, hAj, rfl⟩))) (hu.dis j ad h1 h2 hAj)
      | none, e => simp [Value.ownBlock] at e
    · have := h.blk j ad hj he
      exact ⟨this.1, by omega, this.2.2⟩
  · rcases lies b e with e2 | e2
    · exact hu.far b e2
    · exact ⟨by have := h.row.lt; omega, fun e3 => by have := (h.ob.lt b e3).2; omega, fun e3 => by have := (h.oo.lt b e3).2; omega⟩
  · rcases lies _ e with e2 | e2
    · have := hu.ent j ad hj he e2
      exact ⟨this.1, by omega, this.2.2⟩
    · have := (h.blk j ad hj he).2.1
      omega
  · rcases lies _ e with e2 | e2
    · exact hu.dis j ad h1 h2 he e2
    · have := (h.blk j ad (Nat.lt_of_lt_of_le h2 h.hn) he).2.1
      omega
  · rcases lies b e with e2 | e2
    · exact hu.foot b e2
    · exact Or.inr (by have := hmv.size; omega)
/-- A beginning of the list under way is kept. -/
theorem Und.push {w0 w w' : World} {F0 : Nat → Prop} {B bk n lo hi : Nat} {A : Nat → Option Addr} {ln M : Nat → Nat} {bv ov bv' ov' : Value} {a : Option Addr} {len c m : Nat} (hu : Und w0 w F0 B bk n lo hi A ln M bv ov (.slice a len c) len m) (hn : hi ≤ n) (hs : ∀ k, (Value.slice a len c).ownBlock = some k → w'.heap[k]? = w.heap[k]?)
    (hfar : ∀ b, (Value.slice a len c).ownBlock = some b → bv'.ownBlock ≠ some b ∧ ov'.ownBlock ≠ some b) : Und w0 w' F0 B bk (n + 1) lo hi (put A n a) (put ln n len) (put M n m) bv' ov' (.slice a len c) len m := by
  refine ⟨own_block hu.own hs, fun b e => ⟨(hu.far b e).1, hfar b e⟩, fun j ad hj he e => ?_, fun j ad h1 h2 he => ?_, hu.foot⟩
  · by_cases ej : j = n
    · subst ej
      rw [put_at] at he
      rw [put_at, put_at]
      refine ⟨?_, Nat.le_refl _, rfl⟩
      rcases hu.own.2 with ⟨e2, _⟩ | ⟨g, cap, cur, e2, _⟩
      · rw [he] at e2; cases e2
      · rw [he] at e2; cases e2; rfl
    · rw [put_ne _ _ _ ej] at he
      rw [put_ne _ _ _ ej, put_ne _ _ _ ej]
      exact hu.ent j ad (by omega) he e
  · rw [put_ne _ _ _ (by omega)] at he
    exact hu.dis j ad h1 h2 he
/-- How many beginnings are kept ahead of round i. -/
def cnt (i : Nat) : Nat := if i ≤ 4 then i - 1 else 3 + (i - 1) / 16
theorem cnt_step (i : Nat) (h : 1 ≤ i) : cnt (i + 1) = cnt i + if i < 4 ∨ i % 16 = 0 then 1 else 0 := by
  unfold cnt
  by_cases h4 : i < 4
  · rw [if_pos (by omega), if_pos (by omega), if_pos (Or.inl h4)]; omega
  · by_cases h16 : i % 16 = 0
    · rw [if_neg (by omega), if_neg (by omega), if_pos (Or.inr h16)]; omega
    · rw [if_neg (show ¬ (i < 4 ∨ i % 16 = 0) by omega)]
      by_cases e : i = 4
      · subst e; decide
      · rw [if_neg (by omega), if_neg (by omega)]; omega
theorem IBook.weaken {w : World} {B bk n lo hi lo' : Nat} {A : Nat → Option Addr} {ln C M : Nat → Nat} {bv ov : Value} {at' turn done used : Nat} (h : IBook w B bk n lo hi A ln C M bv ov at' turn done used) (hl : lo ≤ lo') : IBook w B bk n lo' hi A ln C M bv ov at' turn done used :=
  ⟨h.row, h.ob, h.oo, h.cel, fun i h1 h2 => h.own i (by omega) h2, h.blk, fun i j a a' h1 h2 => h.dis i j a a' (by omega) h2, h.nb, h.no, h.hn, h.lb, h.mt⟩
theorem IBook.grown {w : World} {B bk n lo hi : Nat} {A : Nat → Option Addr} {ln C M : Nat → Nat} {bv ov : Value} {at' turn done used : Nat} (h : IBook w B bk n lo hi A ln C M bv ov at' turn done used) : IBook w B bk n n n A ln C M bv ov at' turn done used :=
  ⟨h.row, h.ob, h.oo, h.cel, fun i h1 h2 => by omega, h.blk, fun i j a a' h1 h2 => by omega, h.nb, h.no, Nat.le_refl _, h.lb, h.mt⟩
theorem owns_at_b {w : World} {B e n : Nat} {v : Value} {f : Nat → Value} (h : w.ownsRow B e 1 v n ((List.range n).map f)) (hn : 0 < n) : ∃ g c, v = .slice (some ⟨g, 0, none⟩) n c ∧ ∀ j, j < n → w.cell? ⟨g, j, none⟩ = some (f j) := by
  rcases h.2 with ⟨_, h0⟩ | ⟨g, c, cur, rfl, _⟩
  · omega
  · exact ⟨g, c, rfl, fun j hj => by rw [h.cellAt j (by omega)]; simp [hj]⟩
/-- The list k as it lies, ahead of its growing. -/
theorem IBook.und {w0 w : World} {F0 : Nat → Prop} {B bk n hi k : Nat} {A : Nat → Option Addr} {ln C M : Nat → Nat} {bv ov : Value} {at' turn done used : Nat} (h : IBook w B bk n k hi A ln C M bv ov at' turn done used) (hk : k < hi) (hmv : Mv F0 (BF bk n A bv ov) w0 w) : Und w0 w F0 B bk n (k + 1) hi A ln M bv ov (.slice (A k) (ln k) (C k)) (ln k) (M k) := by
  have hkn : k < n := Nat.lt_of_lt_of_le hk h.hn
  have form : ∀ b, (Value.slice (A k) (ln k) (C k)).ownBlock = some b → A k = some ⟨b, 0, none⟩ := fun b e => by
    rcases (h.own k (Nat.le_refl _) hk).2 with ⟨e2, _⟩ | ⟨g, cap, cur, e2, _⟩
    · rw [e2] at e; simp [Value.ownBlock] at e
    · rw [e2] at e
      have : g = b := by simpa [Value.ownBlock] using e
      have e3 : A k = some ⟨g, 0, none⟩ := by injection e2
      rw [e3, this]
  refine ⟨h.own k (Nat.le_refl _) hk, fun b e => ?_, fun j ad hj he e => ?_, fun j ad h1 h2 he e => ?_, fun b e => ?_⟩
  · have := h.blk k _ hkn (form b e)
    exact this.2.2
  · have ek := form _ e
    by_cases ej : j = k
    · subst ej
      rw [he] at ek
      exact ⟨Option.some.inj ek, Nat.le_refl _, rfl⟩
    · exact absurd rfl (h.dis k j ⟨ad.block, 0, none⟩ ad (Nat.le_refl _) hk hj (fun e => ej e.symm) ek he)
  · exact absurd rfl (h.dis k j ⟨ad.block, 0, none⟩ ad (Nat.le_refl _) hk (Nat.lt_of_lt_of_le h2 h.hn) (by omega) (form _ e) he)
  · exact hmv.foot b (Or.inr (Or.inr (Or.inr ⟨k, _, hkn, form b e, rfl⟩)))

set_option maxHeartbeats 6400000 in
set_option maxRecDepth 100000 in
theorem book_growInts {w : World} {B bk n : Nat} {A : Nat → Option Addr} {ln C M : Nat → Nat} {bv ov : Value} {at' turn done used : Nat} (h : IBook w B bk n at' n A ln C M bv ov at' turn done used) (hB : B ≤ w.heap.size) (ht : turn ≤ 1000000000) (hat : at' ≤ n) (hU : n * 1000 + (n - at') * 5000 ≤ used) (hu : used ≤ 16777216)
    (hln : ∀ i, i < n → ln i ≤ 1048608) (hln2 : ∀ i, at' ≤ i → i < n → ln i ≤ 1048576) :
    Calls Tryz.prog 62 #[.pointer (some ⟨bk, 0, none⟩)] w fun e w' => e = .returned (.tuple #[]) ∧ ∃ n' A' ln' C' M' bv' ov', IBook w' B bk n' n' n' A' ln' C' M' bv' ov' n' turn done used ∧ n' * 1000 ≤ used ∧ (∀ i, i < n' → ln' i ≤ 1048608) ∧ Mv (BF bk n A bv ov) (BF bk n' A' bv' ov') w w' ∧ B ≤ w'.heap.size := by
  obtain ⟨va, vc, ebv, _⟩ := owns_form h.ob
  have c0 : w.cell? ⟨bk, 9, none⟩ = some (.slice va n vc) := by rw [← ebv]; exact h.row.cell (i := 9) (by decide)
  have c2 : w.cell? ⟨bk, 11, none⟩ = some (.int .i64 (at' : Nat)) := h.row.cell (i := 11) (by decide)
  clear ebv
  generalize hF0 : BF bk n A bv ov = F0
  have hmv0 : Mv F0 (BF bk n A bv ov) w w := by rw [hF0]; exact Mv.refl _ _
  go_enter Tryz.func62, Tryz.ntmps62
  go_wp2_with fail
  go_loopg [3] (n - at') (fun q s3 wx => ∃ (k n' : Nat) (A' : Nat → Option Addr) (ln' C' M' : Nat → Nat) (bv' ov' : Value), at' ≤ k ∧ k ≤ n ∧ q = n - k ∧ s3 = .int .i64 k ∧ IBook wx B bk n' k n A' ln' C' M' bv' ov' at' turn done used ∧ n' * 1000 + (n - k) * 5000 ≤ used ∧ (∀ i, i < n' → ln' i ≤ 1048608) ∧ (∀ i, k ≤ i → i < n → ln' i ≤ 1048576) ∧ Mv F0 (BF bk n' A' bv' ov') w wx ∧ B ≤ wx.heap.size)
  case atStart => exact ⟨at', n, A, ln, C, M, bv, ov, Nat.le_refl _, hat, rfl, rfl, h, hU, hln, hln2, hmv0, hB⟩
  case round =>
    obtain ⟨k, n', A', ln', C', M', bv', ov', hk1, hk2, rfl, rfl, hb, hU', hl1, hl2, hmv, hBx⟩ := hrel
    clear h c0 c2 hmv0
    by_cases hlt : k < n
    · have hnn := hb.hn
      have hz : (k : Int) < (n : Int) := by omega
      obtain ⟨gv, vc', rfl, hcv⟩ := owns_at_b hb.ob (by omega)
      obtain ⟨go, oc', rfl, hco⟩ := owns_at_b hb.oo (by omega)
      have d0 : wr.cell? ⟨bk, 9, none⟩ = some (.slice (some ⟨gv, 0, none⟩) n' vc') := hb.row.cell (i := 9) (by decide)
      have d1 : wr.cell? ⟨bk, 10, none⟩ = some (.slice (some ⟨go, 0, none⟩) n' oc') := hb.row.cell (i := 10) (by decide)
      have dv := hcv k (by omega)
      have do' := hco k (by omega)
      have hz2 : (k : Int) < (n' : Int) := by omega
      have hun := hb.und hlt hmv
      have hbw := hb.weaken (Nat.le_succ k)
      have hMk : M' k ≤ 1000000000 := Nat.le_trans (hb.mt k (by omega)) ht
      have hMt : M' k ≤ turn := hb.mt k (by omega)
      have hLk := hl2 k (Nat.le_refl _) hlt
      generalize hAk : A' k = ka at hun dv
      generalize hLk2 : ln' k = L0 at hun dv hLk
      generalize C' k = kc at hun dv
      generalize M' k = m at hun do' hMk hMt
      clear hcv hco
      go_wp2_with fail
      go_loopg [4, 6] 32 (fun q s4 s6 wx => ∃ (i n2 len : Nat) (A2 : Nat → Option Addr) (ln2 C2 M2 : Nat → Nat) (bv2 ov2 : Value) (a : Option Addr) (c : Nat), 1 ≤ i ∧ i ≤ 33 ∧ len + 1 = L0 + i ∧ q = 33 - i ∧ s6 = .int .i64 i ∧ s4 = .slice a len c ∧ IBook wx B bk n2 (k + 1) n A2 ln2 C2 M2 bv2 ov2 at' turn done used ∧ Und w wx F0 B bk n2 (k + 1) n A2 ln2 M2 bv2 ov2 (.slice a len c) len m ∧ Mv F0 (BF bk n2 A2 bv2 ov2) w wx ∧ B ≤ wx.heap.size ∧ n2 = n' + cnt i ∧ (∀ j, j < n2 → ln2 j ≤ 1048608) ∧ ∀ j, k + 1 ≤ j → j < n → ln2 j ≤ 1048576)
      case atStart => exact ⟨1, n', L0, A', ln', C', M', _, _, ka, kc, Nat.le_refl _, by decide, rfl, rfl, rfl, rfl, hbw, hun, hmv, hBx, rfl, hl1, fun j h1 h2 => hl2 j (by omega) h2⟩
      case round =>
        obtain ⟨i, n2, len, A2, ln2, C2, M2, bv2, ov2, a, c, hi1, hi2, hlen, rfl, rfl, rfl, hb2, hu2, hmv2, hB2, hn2, hm1, hm2⟩ := hrel
        clear d0 d1 dv do' hun hbw hb hmv hl1 hl2 hAk hLk2 hBx
        have hcn := cnt_step i hi1
        have hc9 : cnt i ≤ 5 := by unfold cnt; split <;> omega
        have hlb : len ≤ 1048608 := by omega
        have hlb2 : i ≤ 32 → len + 1 ≤ 1048608 := by omega
        have HL := hide hlen
        have HN := hide hn2
        have hnb : n2 ≤ 900000 := by omega
        clear hlen hn2
        by_cases hle : i ≤ 32
        · have hlb3 := hlb2 hle
          clear hlb2
          have hz6 : (i : Int) ≤ 32 := by omega
          have hac : ∀ W, _ := fun W => intsMark_any m hMk W
          obtain ⟨a3, c3, w3, hr3, hb3, hu3, hmv3, hB3⟩ := hb2.app hB2 hu2 hmv2 (by omega)
          unfold mkI at hr3 hac
          generalize 1000 + m = mb at hr3 hac
          have H3 := hide hr3
          clear hr3 hb2 hu2 hmv2 hB2
          by_cases hkp : i < 4 ∨ i % 16 = 0
          · rw [if_pos hkp] at hcn
            have hbt3 : ∀ j, j < len + 1 → ∃ b, a3 = some ⟨b, 0, none⟩ ∧ w3.cell? ⟨b, j, none⟩ = some (mkI m) := fun j hj => by
              obtain ⟨b, c', e1, e2, _, _, _⟩ := own_some hu3.own (by omega)
              cases e1
              exact ⟨b, rfl, (own_cel hu3.own e2 (by rw [List.getElem?_replicate, if_pos hj])).cell⟩
            obtain ⟨ba, bc, w6, oa, oc, w9, hr1, p0, p1, p2, p3, hr2, p4, p5, hfin, mvf, kall, hnv, hno⟩ := hb3.push hB3 a3 (len + 1) c3 m n hnb hbt3 hMt (fun ad he => by
              have e1 : (Value.slice a3 (len + 1) c3).ownBlock = some ad.block := by rw [he]; rfl
              have := hu3.far ad.block e1
              exact ⟨(hu3.own.lt _ e1).1, (hu3.own.lt _ e1).2, this.1, this.2.1, this.2.2⟩) (by have := hb3.hn; omega) (fun j hj => Or.inl hj) (fun hj => by have := hb3.hn; omega) (fun hj => by have := hb3.hn; omega) (fun j ad a' h1 h2 _ he hA e => by
              have e1 : (Value.slice a3 (len + 1) c3).ownBlock = some ad.block := by rw [he]; rfl
              exact hu3.dis j a' h1 h2 hA (e ▸ e1))
            have hvlt := fun k e => (hu3.own.lt k e).2
            have hu9 := hu3.push hb3.hn (w' := w9.setCell ⟨bk, 10, none⟩ (.slice oa (n2 + 1) oc)) (fun k e => kall k (hvlt k e) (hu3.far k e).1 (hu3.far k e).2.1 (hu3.far k e).2.2) (fun b e => ⟨hnv b (hvlt b e) (hu3.far b e).2.1, hno b (hvlt b e) (hu3.far b e).2.2⟩)
            have hmv9 : Mv F0 (BF bk (n2 + 1) (put A2 n2 a3) (.slice ba (n2 + 1) bc) (.slice oa (n2 + 1) oc)) w (w9.setCell ⟨bk, 10, none⟩ (.slice oa (n2 + 1) oc)) := by
              refine ⟨mvf.os.trans hmv3.os, mvf.tape.trans hmv3.tape, mvf.output.trans hmv3.output, Nat.le_trans hmv3.size mvf.size, fun q hq hn => (mvf.block q (Nat.lt_of_lt_of_le hq hmv3.size) (fun hf => ?_)).trans (hmv3.block q hq hn), fun q hf => ?_⟩
              · rcases hf with hf | ⟨ad, he, e⟩
                · rcases hmv3.foot q hf with h5 | h5
                  · exact hn h5
                  · omega
                · rcases hu3.foot q (by rw [he, ← e]; rfl) with h5 | h5
                  · exact hn h5
                  · omega
              · rcases mvf.foot q hf with hf | hf
                · rcases hf with hf | ⟨ad, he, e⟩
                  · exact hmv3.foot q hf
                  · exact hu3.foot q (by rw [he, ← e]; rfl)
                · exact Or.inr (Nat.le_trans hmv3.size hf)
            have hB9 : B ≤ (w9.setCell ⟨bk, 10, none⟩ (.slice oa (n2 + 1) oc)).heap.size := Nat.le_trans hB3 mvf.size
            have hm1' : ∀ j, j < n2 + 1 → put ln2 n2 (len + 1) j ≤ 1048608 := fun j hj => by
              by_cases e : j = n2
              · subst e; rw [put_at]; omega
              · rw [put_ne _ _ _ e]; exact hm1 j (by omega)
            have hm2' : ∀ j, k + 1 ≤ j → j < n → put ln2 n2 (len + 1) j ≤ 1048576 := fun j h1 h2 => by
              have := hb3.hn
              rw [put_ne _ _ _ (by omega)]; exact hm2 j h1 h2
            have H1 := hide hr1
            have H2 := hide hr2
            obtain ⟨r, hr, hr2⟩ : ∃ r : Nat, Int.tmod (i : Int) 16 = (r : Int) ∧ r = i % 16 := ⟨i % 16, (Int.ofNat_tmod i 16).symm, rfl⟩
            have hr0 : ¬ (i < 4) → ((r : Int) == 0) = true := fun h4 => by
              have : r = 0 := by omega
              subst this; rfl
            have HK := hide hkp
            clear hr1 hr2 hb3 hu3 hmv3 hB3 hvlt kall hnv hno mvf hbt3 hm1 hm2 hcn hkp hc9
            by_cases h4 : i < 4
            all_goals
              have h4z : (i : Int) < 4 ∨ ¬ (i : Int) < 4 := by omega
              first
                | (have h4y : (i : Int) < 4 := by omega)
                | (have h4y : ¬ ((i : Int) < 4) := by omega)
              first
                | (have hr1 := hr0 h4)
                | skip
              clear hr0 h4z
              go_wp2_with (first
                | (go_at_call 53; refine (hac _).mono ?_; rintro e w4 ⟨rfl, rfl⟩)
                | (at_builtin; refine wpList_apps rfl _ _ 31 rfl _ _ _ (by rfl) (by rfl) (unhide H3) ?_)
                | (at_builtin; refine wpList_apps rfl _ _ 24 rfl _ _ _ (by rfl) (by rfl) (unhide H1) ?_)
                | (at_builtin; refine wpList_apps rfl _ _ 31 rfl _ _ _ (by rfl) (by rfl) (unhide H2) ?_))
              go_roundg (33 - (i + 1))
              case measure => go_light; omega
              case rel => go_light; exact ⟨i + 1, n2 + 1, len + 1, _, _, _, _, _, _, a3, c3, by omega, by omega, (by have := unhide HL; omega), rfl, by simp, rfl, hfin, hu9, hmv9, hB9, (by have := unhide HN; have := cnt_step i hi1; rw [if_pos (unhide HK)] at this; omega), hm1', hm2'⟩
          · rw [if_neg hkp] at hcn
            have hi4 : ¬ ((i : Int) < 4) := by omega
            obtain ⟨r, hr, hr2⟩ : ∃ r : Nat, Int.tmod (i : Int) 16 = (r : Int) ∧ r = i % 16 := ⟨i % 16, (Int.ofNat_tmod i 16).symm, rfl⟩
            have hr0 : ((r : Int) == 0) = false := by
              have : ¬ ((r : Int) = 0) := by omega
              simpa using this
            clear hr2
            go_wp2_with (first
              | (go_at_call 53; refine (hac _).mono ?_; rintro e w4 ⟨rfl, rfl⟩)
              | (at_builtin; refine wpList_apps rfl _ _ 31 rfl _ _ _ (by rfl) (by rfl) (unhide H3) ?_))
            go_roundg (33 - (i + 1))
            case measure => go_light; omega
            case rel => go_light; exact ⟨i + 1, n2, len + 1, A2, ln2, C2, M2, bv2, ov2, a3, c3, by omega, by omega, (by have := unhide HL; omega), rfl, by simp, rfl, hb3, hu3, hmv3, hB3, (by have := unhide HN; omega), hm1, hm2⟩
        · have hz6 : ¬ ((i : Int) ≤ 32) := by omega
          obtain rfl : i = 33 := by omega
          have hn2 := unhide HN
          rw [show cnt 33 = 5 from rfl] at hn2
          clear HN HL hlb2 hcn hc9
          have hfinU : n2 * 1000 + (n - (k + 1)) * 5000 ≤ used := by omega
          clear hn2
          go_wp2_with fail
          go_roundg (n - (k + 1))
          case measure => go_light; omega
          case rel => go_light; exact ⟨k + 1, n2, A2, ln2, C2, M2, bv2, ov2, by omega, by omega, rfl, by simp, hb2, hfinU, hm1, hm2, hmv2, hB2⟩
    · obtain rfl : k = n := by omega
      obtain ⟨va', vc', rfl, _⟩ := owns_form hb.ob
      have d0 : wr.cell? ⟨bk, 9, none⟩ = some (.slice va' n' vc') := hb.row.cell (i := 9) (by decide)
      have d2 : wr.cell? ⟨bk, 11, none⟩ = some (.int .i64 (at' : Nat)) := hb.row.cell (i := 11) (by decide)
      have f2 := hb.row.frozen 11
      obtain ⟨h3, mv3⟩ := hb.setNum (at2 := n') (turn2 := turn) (done2 := done) (used2 := used) 11 (.int .i64 (n' : Nat)) (Nat.le_refl _) (fun i hi => by
        unfold ibCell
        by_cases e : i = 11
        · subst e; rfl
        · rw [if_neg e, if_neg e, if_neg e])
      have hz3 : (wr.setCell ⟨bk, 11, none⟩ (.int .i64 (n' : Nat))).heap.size = wr.heap.size := by simp [World.setCell]
      have hB3 : B ≤ (wr.setCell ⟨bk, 11, none⟩ (.int .i64 (n' : Nat))).heap.size := by omega
      have hmvf := hmv.trans mv3
      have hz : ¬ ((k : Int) < (k : Int)) := by omega
      clear hz3
      go_wp2_with fail
      go_end0
      exact ⟨rfl, n', A', ln', C', M', _, _, h3.grown, by omega, hl1, hF0 ▸ hmvf, hB3⟩
end Go.Proofs.YtbebnjeamlmclaaGreat
