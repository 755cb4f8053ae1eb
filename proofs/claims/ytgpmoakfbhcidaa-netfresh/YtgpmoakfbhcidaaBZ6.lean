/- A list of a Book's grows by one byte of its mark. -/
import Derived.Test.YtgpmoakfbhcidaaBZ5
namespace Go.Proofs.Ytgpmoakfbhcidaa
open Go.RowKit
set_option maxRecDepth 100000

/-- A list under way, beside the Book that keeps some of its beginnings. -/
structure Und (w0 w : World) (F0 : Nat → Prop) (B bk n lo hi : Nat) (A : Nat → Option Addr) (ln M : Nat → Nat) (bv ov v : Value) (len m : Nat) : Prop where
  own : OwnZ w B v len (mrk m)
  far : ∀ b, v.ownBlock = some b → b ≠ bk ∧ bv.ownBlock ≠ some b ∧ ov.ownBlock ≠ some b
  ent : ∀ j a, j < n → A j = some a → v.ownBlock = some a.block → a = ⟨a.block, 0, none⟩ ∧ ln j ≤ len ∧ M j = m
  dis : ∀ j a, lo ≤ j → j < hi → A j = some a → v.ownBlock ≠ some a.block
  foot : ∀ b, v.ownBlock = some b → F0 b ∨ w0.heap.size ≤ b
theorem mv_grow {F0 F : Nat → Prop} {w0 w w' : World} {v : Value} (h : Mv F0 F w0 w) (hz : w.heap.size ≤ w'.heap.size) (hg : w.grownBy w' v.ownBlock) (hf : ∀ b, v.ownBlock = some b → F0 b ∨ w0.heap.size ≤ b) : Mv F0 F w0 w' :=
  ⟨hg.os.trans h.os, hg.tape.trans h.tape, hg.output.trans h.output, Nat.le_trans h.size hz, fun k hk hn => (hg.block k (Nat.lt_of_lt_of_le hk h.size) (fun e => by
    rcases hf k e.symm with q | q
    · exact hn q
    · omega)).trans (h.block k hk hn), h.foot⟩

theorem BookIs.app {w0 w : World} {F0 : Nat → Prop} {B bk n lo hi : Nat} {A : Nat → Option Addr} {ln C M : Nat → Nat} {bv ov : Value} {at' turn done used : Nat} (h : BookIs w B bk n lo hi A ln C M bv ov at' turn done used) (hB : B ≤ w.heap.size) {v : Value} {len m : Nat} (hu : Und w0 w F0 B bk n lo hi A ln M bv ov v len m) (hmv : Mv F0 (BF bk n A bv ov) w0 w) (hmax : len + 1 ≤ 140737488355328) :
    ∃ a c w2, (Builtin.append_ #[53, 53] 53 #[v, .slice (some ⟨w.heap.size, 0, none⟩) 1 1]).run Try.prog (w.alloc (.cells #[.int .u8 (mrk m len : Nat)] 5)) = .ok (.slice a (len + 1) c) w2 ∧
      BookIs w2 B bk n lo hi A ln C M bv ov at' turn done used ∧ Und w0 w2 F0 B bk n lo hi A ln M bv ov (.slice a (len + 1) c) (len + 1) m ∧ Mv F0 (BF bk n A bv ov) w0 w2 ∧ B ≤ w2.heap.size := by
  have sA : w.Since w.heap.size (w.alloc (.cells #[.int .u8 (mrk m len : Nat)] 5)) := (World.Since.refl _ _).alloc (Nat.le_refl _) _
  have zA : (w.alloc (.cells #[.int .u8 (mrk m len : Nat)] 5)).heap.size = w.heap.size + 1 := by simp
  have hA := h.since sA
  have hownA := ownZ_since hu.own sA
  have hmvA : Mv F0 (BF bk n A bv ov) w0 (w.alloc (.cells #[.int .u8 (mrk m len : Nat)] 5)) := hmv.trans (Mv.of_since sA)
  obtain ⟨v', w2, hr, ho, hg, hl⟩ := app_mark (w.alloc (.cells #[.int .u8 (mrk m len : Nat)] 5)) B v len (mrk m) hownA w.heap.size (mrk m len) (by simp) hmax (by omega)
  generalize w.alloc (.cells #[.int .u8 (mrk m len : Nat)] 5) = wa at *
  have ho' : OwnZ w2 B v' (len + 1) (mrk m) := ownZ_congr ho (fun j hj => by
    unfold cat
    by_cases e : j < len
    · rw [if_pos e]
    · rw [if_neg e, show j = len by omega])
  obtain ⟨a, c, rfl⟩ := ownZ_form ho'
  have zg := hg.size
  have hvl := ownZ_lt hu.own
  have lies : ∀ b, (Value.slice a (len + 1) c).ownBlock = some b → v.ownBlock = some b ∨ b = wa.heap.size := fun b e => by
    rcases hl with e2 | ⟨e2, _⟩
    · exact Or.inl (e2 ▸ e)
    · rw [e2] at e; exact Or.inr (Option.some.inj e).symm
  have keep : ∀ k, BF bk n A bv ov k → v.ownBlock ≠ some k → w2.heap[k]? = wa.heap[k]? := fun k hf hn => hg.block k (hA.ge k hf).2 (fun e => hn e.symm)
  refine ⟨a, c, w2, hr, ?_, ⟨ho', fun b e => ?_, fun j ad hj he e => ?_, fun j ad h1 h2 he e => ?_, fun b e => ?_⟩, mv_grow hmvA zg hg hu.foot, by omega⟩
  · refine ⟨hA.row.of_block (keep bk (Or.inl rfl) (fun e => (hu.far bk e).1 rfl)), owns_keep hA.ob (fun k e => keep k (Or.inr (Or.inl e)) (fun e2 => (hu.far k e2).2.1 e)), owns_keep hA.oo (fun k e => keep k (Or.inr (Or.inr (Or.inl e))) (fun e2 => (hu.far k e2).2.2 e)), fun j hj q hq => ?_, fun j h1 h2 => ownZ_keep (hA.own j h1 h2) (fun k e => ?_), fun j ad hj he => ?_, h.dis, h.nb, h.no, h.hn, h.lb, h.mt⟩
    · obtain ⟨b, off, e, hc⟩ := hA.byt j hj q hq
      by_cases hvb : v.ownBlock = some b
      · rcases hl with e2 | ⟨_, hs⟩
        · have he := hu.ent j ⟨b, off, none⟩ hj e hvb
          have eoff : off = 0 := by have := he.1; simpa using this
          subst eoff
          have hb2 : Byt w2 a (len + 1) (mrk m) := by
            obtain ⟨_, _, e3, h1, _⟩ := ownZ_byt' ho'
            cases e3
            exact h1
          obtain ⟨b', off', e3, hc3⟩ := hb2 q (by omega)
          obtain ⟨g', _, _, e4, _, _, _, _⟩ := ownZ_row ho' (by omega)
          cases e4
          cases e3
          have eb : b' = b := by
            have : (Value.slice (some ⟨b', 0, none⟩) (len + 1) c).ownBlock = some b := by rw [e2]; exact hvb
            simpa [Value.ownBlock] using this
          subst eb
          exact ⟨b', 0, e, by rw [he.2.2]; exact hc3⟩
        · exact ⟨b, off, e, by rw [World.cell?_of_block (w := wa) (hs.block b (World.block_lt_of_cell? _ _ hc))]; exact hc⟩
      · exact ⟨b, off, e, by rw [World.cell?_of_block (w := wa) (hg.block b (World.block_lt_of_cell? _ _ hc) (fun e => hvb e.symm))]; exact hc⟩
    · match hAj : A j, e with
      | some ad, e =>
        have e' : ad.block = k := by simpa [Value.ownBlock] using e
        rw [← e']
        exact keep _ (Or.inr (Or.inr (Or.inr ⟨j, ad, Nat.lt_of_lt_of_le h2 h.hn, hAj, rfl⟩))) (hu.dis j ad h1 h2 hAj)
      | none, e => simp [Value.ownBlock] at e
    · have := hA.blk j ad hj he
      exact ⟨this.1, by omega, this.2.2⟩
  · rcases lies b e with e2 | e2
    · exact hu.far b e2
    · exact ⟨by have := hA.row.lt; omega, fun e3 => by have := (hA.ob.lt b e3).2; omega, fun e3 => by have := (hA.oo.lt b e3).2; omega⟩
  · rcases lies _ e with e2 | e2
    · have := hu.ent j ad hj he e2
      exact ⟨this.1, by omega, this.2.2⟩
    · have := (hA.blk j ad hj he).2.1
      omega
  · rcases lies _ e with e2 | e2
    · exact hu.dis j ad h1 h2 he e2
    · have := (hA.blk j ad (Nat.lt_of_lt_of_le h2 h.hn) he).2.1
      omega
  · rcases lies b e with e2 | e2
    · exact hu.foot b e2
    · exact Or.inr (by have := hmvA.size; omega)
/-- A beginning of the list under way is kept. -/
theorem Und.push {w0 w w' : World} {F0 : Nat → Prop} {B bk n lo hi : Nat} {A : Nat → Option Addr} {ln M : Nat → Nat} {bv ov bv' ov' : Value} {a : Option Addr} {len c m : Nat} (hu : Und w0 w F0 B bk n lo hi A ln M bv ov (.slice a len c) len m) (hn : hi ≤ n) (hs : ∀ k, (Value.slice a len c).ownBlock = some k → w'.heap[k]? = w.heap[k]?)
    (hfar : ∀ b, (Value.slice a len c).ownBlock = some b → bv'.ownBlock ≠ some b ∧ ov'.ownBlock ≠ some b) : Und w0 w' F0 B bk (n + 1) lo hi (put A n a) (put ln n len) (put M n m) bv' ov' (.slice a len c) len m := by
  refine ⟨ownZ_keep hu.own hs, fun b e => ⟨(hu.far b e).1, hfar b e⟩, fun j ad hj he e => ?_, fun j ad h1 h2 he => ?_, hu.foot⟩
  · by_cases ej : j = n
    · subst ej
      rw [put_at] at he
      rw [put_at, put_at]
      refine ⟨?_, Nat.le_refl _, rfl⟩
      rcases hu.own.2 with ⟨e2, _⟩ | ⟨g, cap, cur, e2, _⟩
      · rw [he] at e2; cases e2
      · rw [he] at e2; cases e2; rfl
    · rw [put_ne _ _ _ ej] at he
      rw [put_ne _ _ _ ej, put_ne _ _ _ ej]
      exact hu.ent j ad (by omega) he e
  · rw [put_ne _ _ _ (by omega)] at he
    exact hu.dis j ad h1 h2 he
/-- How many beginnings are kept ahead of round i. -/
def cnt (i : Nat) : Nat := if i ≤ 4 then i - 1 else 3 + (i - 1) / 16
theorem cnt_step (i : Nat) (h : 1 ≤ i) : cnt (i + 1) = cnt i + if i < 4 ∨ i % 16 = 0 then 1 else 0 := by
  unfold cnt
  by_cases h4 : i < 4
  · rw [if_pos (by omega), if_pos (by omega), if_pos (Or.inl h4)]; omega
  · by_cases h16 : i % 16 = 0
    · rw [if_neg (by omega), if_neg (by omega), if_pos (Or.inr h16)]; omega
    · rw [if_neg (show ¬ (i < 4 ∨ i % 16 = 0) by omega)]
      by_cases e : i = 4
      · subst e; decide
      · rw [if_neg (by omega), if_neg (by omega)]; omega
end Go.Proofs.Ytgpmoakfbhcidaa
