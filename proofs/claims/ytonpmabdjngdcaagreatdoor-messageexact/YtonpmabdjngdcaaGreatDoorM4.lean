/- Own texts, joined: Book6, Book7, Book8, Book9, Eye, FormMath, Eye2, EyeMath. -/
import Derived.Test.YtonpmabdjngdcaaGreatDoorM3
import Derived.Test.YtonpmabdjngdcaaGreatDoorM2
import Derived.Deep.RegionHeld3
import Derived.BigQuiet

/- The walks of Book.plain and Book.holds. -/
namespace Go.Proofs.YtonpmabdjngdcaaGreatDoor
open Go.RowKit
set_option maxRecDepth 100000

theorem owns_form {w : World} {B e n : Nat} {v : Value} {f : Nat → Value} (h : w.ownsRow B e 1 v n ((List.range n).map f)) : ∃ a c, v = .slice a n c ∧ ∀ j, j < n → ∃ g, a = some ⟨g, 0, none⟩ ∧ w.cell? ⟨g, j, none⟩ = some (f j) := by
  rcases h.2 with ⟨rfl, h0⟩ | ⟨g, c, cur, rfl, _⟩
  · subst h0; exact ⟨none, 0, rfl, fun j hj => absurd hj (Nat.not_lt_zero _)⟩
  · exact ⟨_, c, rfl, fun j hj => ⟨g, rfl, by rw [h.cellAt j (by omega)]; simp [hj]⟩⟩

set_option maxHeartbeats 3200000 in
set_option maxRecDepth 100000 in
theorem book_plain {w : World} {B bk n lo hi : Nat} {A : Nat → Option Addr} {ln C M : Nat → Nat} {bv ov : Value} {at' turn done used : Nat} (h : BookIs w B bk n lo hi A ln C M bv ov at' turn done used) (ht : turn ≤ 10000000000000000) (hn : n ≤ 1000000) (hln : ∀ i, i < n → ln i ≤ 140737488355328) :
    Calls Tryz.prog 92 #[.pointer (some ⟨bk, 0, none⟩)] w fun e w' => e = .returned (.bool true) ∧ ∃ m, w' = w.drewN m := by
  obtain ⟨va, vc, rfl, hvc⟩ := owns_form h.ob
  obtain ⟨oa, oc, rfl, hoc⟩ := owns_form h.oo
  have c0 : ∀ m, (w.drewN m).cell? ⟨bk, 0, none⟩ = some (.slice va n vc) := fun m => h.row.cell (i := 0) (by decide)
  have c1 : ∀ m, (w.drewN m).cell? ⟨bk, 1, none⟩ = some (.slice oa n oc) := fun m => h.row.cell (i := 1) (by decide)
  have c3 : ∀ m, (w.drewN m).cell? ⟨bk, 3, none⟩ = some (.slice none 0 0) := fun m => h.row.cell (i := 3) (by decide)
  have hent : ∀ i, i < n → ∃ gv go, va = some ⟨gv, 0, none⟩ ∧ oa = some ⟨go, 0, none⟩ ∧ (∀ m, (w.drewN m).cell? ⟨gv, i, none⟩ = some (.slice (A i) (ln i) (C i))) ∧ (∀ m, (w.drewN m).cell? ⟨go, i, none⟩ = some (.int .i64 (M i : Nat))) := fun i hi => by
    obtain ⟨gv, e1, q1⟩ := hvc i hi
    obtain ⟨go, e2, q2⟩ := hoc i hi
    exact ⟨gv, go, e1, e2, fun m => q1, fun m => q2⟩
  have hby : ∀ i k, i < n → k < ln i → ∃ b off, A i = some ⟨b, off, none⟩ ∧ ∀ m, (w.drewN m).cell? ⟨b, off + k, none⟩ = some (.int .u8 (mrk (M i) k : Nat)) := fun i k hi hk => by
    obtain ⟨b, off, e, hc⟩ := h.byt i hi k hk
    exact ⟨b, off, e, fun m => hc⟩
  have hM : ∀ i, i < n → M i ≤ 10000000000000000 := fun i hi => Nat.le_trans (h.mt i hi) ht
  clear h hvc hoc
  go_enter Tryz.func92, Tryz.ntmps92
  go_wp2_with fail
  go_loopg [3] n (fun q s3 wx => ∃ (i m : Nat), i ≤ n ∧ q = n - i ∧ s3 = .int .i64 i ∧ wx = w.drewN m)
  case atStart => exact ⟨0, 0, Nat.zero_le _, rfl, rfl, rfl⟩
  case round =>
    obtain ⟨i, m, hi, rfl, rfl, rfl⟩ := hrel
    have d0 := c0 m
    by_cases hlt : i < n
    · obtain ⟨gv, go, rfl, rfl, cv, co⟩ := hent i hlt
      have dv := cv m
      have hz : (i : Int) < (n : Int) := by omega
      have hli := hln i hlt
      have hMi := hM i hlt
      have hb2 := fun k hk => hby i k hlt hk
      generalize A i = ta at *
      generalize ln i = tl at *
      generalize C i = tc at *
      generalize M i = mi at *
      go_wp2_with fail
      go_loopg [4] tl (fun q s4 wx => ∃ (k m : Nat), k ≤ tl ∧ q = tl - k ∧ s4 = .int .i64 k ∧ wx = w.drewN m)
      case atStart => exact ⟨0, m, Nat.zero_le _, rfl, rfl, rfl⟩
      case round =>
        obtain ⟨k, m2, hk, rfl, rfl, rfl⟩ := hrel
        have e0 := c0 m2
        have e1 := c1 m2
        have ev := cv m2
        have eo := co m2
        by_cases hkl : k < tl
        · obtain ⟨b, off, rfl, cb⟩ := hb2 k hkl
          have eb := cb m2
          have hkz : (k : Int) < (tl : Int) := by omega
          have hac : ∀ W, _ := fun W => at_any' mi k W hMi
          generalize mrk mi k = mk1 at *
          have HD : Hid (∀ n, (w.drewN m2).drewN n = w.drewN (m2 + n)) := fun n => World.drewN_drewN _ _ _
          generalize w.drewN m2 = wd at *
          go_upto_region 7 with fail
          go_region_held3 (fun W => W.cell? ⟨bk, 0, none⟩ = some (.slice (some ⟨gv, 0, none⟩) n vc) ∧ W.cell? ⟨bk, 1, none⟩ = some (.slice (some ⟨go, 0, none⟩) n oc) ∧ W.cell? ⟨gv, i, none⟩ = some (.slice (some ⟨b, off, none⟩) tl tc) ∧ W.cell? ⟨go, i, none⟩ = some (.int .i64 (mi : Nat)) ∧ W.cell? ⟨b, off + k, none⟩ = some (.int .u8 (mk1 : Nat)))
            (exact ⟨e0, e1, ev, eo, eb⟩)
            ((first | (go_at_call 45; refine (hac _).mono ?_; rintro e w3 ⟨rfl, rfl⟩)))
          all_goals
            clear hac
            go_wp2_with fail
            go_roundg (tl - (k + 1))
            case measure => go_light; omega
            case rel => go_light; exact ⟨k + 1, m2 + 1, by omega, rfl, by simp, (unhide HD) 1⟩
        · have hkz : ¬ ((k : Int) < (tl : Int)) := by omega
          have HD : Hid (w.drewN m2 = w.drewN m2) := rfl
          go_wp2_with fail
          go_roundg (n - (i + 1))
          case measure => go_light; omega
          case rel => go_light; exact ⟨i + 1, m2, by omega, rfl, by simp, rfl⟩
    · have hz : ¬ ((i : Int) < (n : Int)) := by omega
      have d3 := c3 m
      go_wp2_with fail
      go_loopg [5] 0 (fun q s5 wx => q = 0 ∧ s5 = .int .i64 0 ∧ w.drewN m = wx)
      case atStart => exact ⟨rfl, rfl, rfl⟩
      case round =>
        obtain ⟨rfl, rfl, rfl⟩ := hrel
        go_wp2_with fail
        go_ret
        exact ⟨rfl, m, rfl⟩

set_option maxHeartbeats 1600000 in
set_option maxRecDepth 100000 in
theorem book_holds {w : World} {B bk n lo hi : Nat} {A : Nat → Option Addr} {ln C M : Nat → Nat} {bv ov : Value} {at' turn done used : Nat} (h : BookIs w B bk n lo hi A ln C M bv ov at' turn done used) (ht : turn ≤ 10000000000000000) (hn : n ≤ 1000000) (hln : ∀ i, i < n → ln i ≤ 140737488355328) :
    Calls Tryz.prog 47 #[.pointer (some ⟨bk, 0, none⟩)] w fun e w' => e = .returned (.bool true) ∧ ∃ m, w' = w.drewN m := by
  have hp := book_plain h ht hn hln
  have hk : ∀ m, Calls Tryz.prog 93 #[.pointer (some ⟨bk, 0, none⟩)] (w.drewN m) fun e w' => e = .returned (.bool true) ∧ w' = w.drewN m := fun m => book_kept bk _ _ (h.since (since_drewN' (World.Since.refl _ _) m)).row rfl rfl rfl rfl
  have ht' : ∀ m, Calls Tryz.prog 94 #[.pointer (some ⟨bk, 0, none⟩)] (w.drewN m) fun e w' => e = .returned (.bool true) ∧ w' = w.drewN m := fun m => book_told bk _ _ (h.since (since_drewN' (World.Since.refl _ _) m)).row rfl rfl rfl rfl
  have hh : ∀ m, Calls Tryz.prog 95 #[.pointer (some ⟨bk, 0, none⟩)] (w.drewN m) fun e w' => e = .returned (.bool true) ∧ w' = w.drewN m := fun m => book_held bk _ _ (h.since (since_drewN' (World.Since.refl _ _) m)).row rfl rfl
  clear h
  go_enter Tryz.func47, Tryz.ntmps47
  go_wp2_with fail
  refine hp.mono ?_
  rintro e w1 ⟨rfl, m, rfl⟩
  go_wp2_with fail
  refine (hk m).mono ?_
  rintro e w2 ⟨rfl, rfl⟩
  go_wp2_with fail
  refine (ht' m).mono ?_
  rintro e w3 ⟨rfl, rfl⟩
  go_wp2_with fail
  refine (hh m).mono ?_
  rintro e w4 ⟨rfl, rfl⟩
  go_wp2_with fail
  go_ret
  exact ⟨rfl, m, rfl⟩
end Go.Proofs.YtonpmabdjngdcaaGreatDoor

/- A list of a Book's grows by one byte of its mark. -/
namespace Go.Proofs.YtonpmabdjngdcaaGreatDoor
open Go.RowKit
set_option maxRecDepth 100000

/-- A list under way, beside the Book that keeps some of its beginnings. -/
structure Und (w0 w : World) (F0 : Nat → Prop) (B bk n lo hi : Nat) (A : Nat → Option Addr) (ln M : Nat → Nat) (bv ov v : Value) (len m : Nat) : Prop where
  own : Own w B v len (mrk m)
  far : ∀ b, v.ownBlock = some b → b ≠ bk ∧ bv.ownBlock ≠ some b ∧ ov.ownBlock ≠ some b
  ent : ∀ j a, j < n → A j = some a → v.ownBlock = some a.block → a = ⟨a.block, 0, none⟩ ∧ ln j ≤ len ∧ M j = m
  dis : ∀ j a, lo ≤ j → j < hi → A j = some a → v.ownBlock ≠ some a.block
  foot : ∀ b, v.ownBlock = some b → F0 b ∨ w0.heap.size ≤ b
theorem mv_grow {F0 F : Nat → Prop} {w0 w w' : World} {v : Value} (h : Mv F0 F w0 w) (hz : w.heap.size ≤ w'.heap.size) (hg : w.grownBy w' v.ownBlock) (hf : ∀ b, v.ownBlock = some b → F0 b ∨ w0.heap.size ≤ b) : Mv F0 F w0 w' :=
  ⟨hg.os.trans h.os, hg.tape.trans h.tape, hg.output.trans h.output, Nat.le_trans h.size hz, fun k hk hn => (hg.block k (Nat.lt_of_lt_of_le hk h.size) (fun e => by
    rcases hf k e.symm with q | q
    · exact hn q
    · omega)).trans (h.block k hk hn), h.foot⟩

theorem BookIs.app {w0 w : World} {F0 : Nat → Prop} {B bk n lo hi : Nat} {A : Nat → Option Addr} {ln C M : Nat → Nat} {bv ov : Value} {at' turn done used : Nat} (h : BookIs w B bk n lo hi A ln C M bv ov at' turn done used) (hB : B ≤ w.heap.size) {v : Value} {len m : Nat} (hu : Und w0 w F0 B bk n lo hi A ln M bv ov v len m) (hmv : Mv F0 (BF bk n A bv ov) w0 w) (hmax : len + 1 ≤ 140737488355328) :
    ∃ a c w2, (Builtin.append_ #[32, 32] 32 #[v, .slice (some ⟨w.heap.size, 0, none⟩) 1 1]).run Tryz.prog (w.alloc (.cells #[.int .u8 (mrk m len : Nat)] 5)) = .ok (.slice a (len + 1) c) w2 ∧
      BookIs w2 B bk n lo hi A ln C M bv ov at' turn done used ∧ Und w0 w2 F0 B bk n lo hi A ln M bv ov (.slice a (len + 1) c) (len + 1) m ∧ Mv F0 (BF bk n A bv ov) w0 w2 ∧ B ≤ w2.heap.size := by
  have sA : w.Since w.heap.size (w.alloc (.cells #[.int .u8 (mrk m len : Nat)] 5)) := (World.Since.refl _ _).alloc (Nat.le_refl _) _
  have zA : (w.alloc (.cells #[.int .u8 (mrk m len : Nat)] 5)).heap.size = w.heap.size + 1 := by simp
  have hA := h.since sA
  have hownA := own_since hu.own sA
  have hmvA : Mv F0 (BF bk n A bv ov) w0 (w.alloc (.cells #[.int .u8 (mrk m len : Nat)] 5)) := hmv.trans (Mv.of_since sA)
  obtain ⟨v', w2, hr, ho, hg, hl⟩ := app_mark (w.alloc (.cells #[.int .u8 (mrk m len : Nat)] 5)) B v len (mrk m) hownA w.heap.size (mrk m len) (by simp) hmax (by omega)
  generalize w.alloc (.cells #[.int .u8 (mrk m len : Nat)] 5) = wa at *
  have ho' : Own w2 B v' (len + 1) (mrk m) := own_congr ho (fun j hj => by
    unfold cat
    by_cases e : j < len
    · rw [if_pos e]
    · rw [if_neg e, show j = len by omega])
  obtain ⟨a, c, rfl⟩ := own_form ho'
  have zg := hg.size
  have hvl := own_lt hu.own
  have lies : ∀ b, (Value.slice a (len + 1) c).ownBlock = some b → v.ownBlock = some b ∨ b = wa.heap.size := fun b e => by
    rcases hl with e2 | ⟨e2, _⟩
    · exact Or.inl (e2 ▸ e)
    · rw [e2] at e; exact Or.inr (Option.some.inj e).symm
  have keep : ∀ k, BF bk n A bv ov k → v.ownBlock ≠ some k → w2.heap[k]? = wa.heap[k]? := fun k hf hn => hg.block k (hA.ge k hf).2 (fun e => hn e.symm)
  refine ⟨a, c, w2, hr, ?_, ⟨ho', fun b e => ?_, fun j ad hj he e => ?_, fun j ad h1 h2 he e => ?_, fun b e => ?_⟩, mv_grow hmvA zg hg hu.foot, by omega⟩
  · refine ⟨hA.row.of_block (keep bk (Or.inl rfl) (fun e => (hu.far bk e).1 rfl)), owns_keep hA.ob (fun k e => keep k (Or.inr (Or.inl e)) (fun e2 => (hu.far k e2).2.1 e)), owns_keep hA.oo (fun k e => keep k (Or.inr (Or.inr (Or.inl e))) (fun e2 => (hu.far k e2).2.2 e)), fun j hj q hq => ?_, fun j h1 h2 => own_keep (hA.own j h1 h2) (fun k e => ?_), fun j ad hj he => ?_, h.dis, h.nb, h.no, h.hn, h.lb, h.mt⟩
    · obtain ⟨b, off, e, hc⟩ := hA.byt j hj q hq
      by_cases hvb : v.ownBlock = some b
      · rcases hl with e2 | ⟨_, hs⟩
        · have he := hu.ent j ⟨b, off, none⟩ hj e hvb
          have eoff : off = 0 := by have := he.1; simpa using this
          subst eoff
          have hb2 : Byt w2 a (len + 1) (mrk m) := by
            obtain ⟨_, _, e3, h1, _⟩ := own_byt' ho'
            cases e3
            exact h1
          obtain ⟨b', off', e3, hc3⟩ := hb2 q (by omega)
          obtain ⟨g', _, _, e4, _, _, _, _⟩ := own_row ho' (by omega)
          cases e4
          cases e3
          have eb : b' = b := by
            have : (Value.slice (some ⟨b', 0, none⟩) (len + 1) c).ownBlock = some b := by rw [e2]; exact hvb
            simpa [Value.ownBlock] using this
          subst eb
          exact ⟨b', 0, e, by rw [he.2.2]; exact hc3⟩
        · exact ⟨b, off, e, by rw [World.cell?_of_block (w := wa) (hs.block b (World.block_lt_of_cell? _ _ hc))]; exact hc⟩
      · exact ⟨b, off, e, by rw [World.cell?_of_block (w := wa) (hg.block b (World.block_lt_of_cell? _ _ hc) (fun e => hvb e.symm))]; exact hc⟩
    · match hAj : A j, e with
      | some ad, e =>
        have e' : ad.block = k := by simpa [Value.ownBlock] using e
        rw [← e']
        exact keep _ (Or.inr (Or.inr (Or.inr ⟨j, ad, Nat.lt_of_lt_of_le h2 h.hn, hAj, rfl⟩))) (hu.dis j ad h1 h2 hAj)
      | none, e => simp [Value.ownBlock] at e
    · have := hA.blk j ad hj he
      exact ⟨this.1, by omega, this.2.2⟩
  · rcases lies b e with e2 | e2
    · exact hu.far b e2
    · exact ⟨by have := hA.row.lt; omega, fun e3 => by have := (hA.ob.lt b e3).2; omega, fun e3 => by have := (hA.oo.lt b e3).2; omega⟩
  · rcases lies _ e with e2 | e2
    · have := hu.ent j ad hj he e2
      exact ⟨this.1, by omega, this.2.2⟩
    · have := (hA.blk j ad hj he).2.1
      omega
  · rcases lies _ e with e2 | e2
    · exact hu.dis j ad h1 h2 he e2
    · have := (hA.blk j ad (Nat.lt_of_lt_of_le h2 h.hn) he).2.1
      omega
  · rcases lies b e with e2 | e2
    · exact hu.foot b e2
    · exact Or.inr (by have := hmvA.size; omega)
/-- A beginning of the list under way is kept. -/
theorem Und.push {w0 w w' : World} {F0 : Nat → Prop} {B bk n lo hi : Nat} {A : Nat → Option Addr} {ln M : Nat → Nat} {bv ov bv' ov' : Value} {a : Option Addr} {len c m : Nat} (hu : Und w0 w F0 B bk n lo hi A ln M bv ov (.slice a len c) len m) (hn : hi ≤ n) (hs : ∀ k, (Value.slice a len c).ownBlock = some k → w'.heap[k]? = w.heap[k]?)
    (hfar : ∀ b, (Value.slice a len c).ownBlock = some b → bv'.ownBlock ≠ some b ∧ ov'.ownBlock ≠ some b) : Und w0 w' F0 B bk (n + 1) lo hi (put A n a) (put ln n len) (put M n m) bv' ov' (.slice a len c) len m := by
  refine ⟨own_keep hu.own hs, fun b e => ⟨(hu.far b e).1, hfar b e⟩, fun j ad hj he e => ?_, fun j ad h1 h2 he => ?_, hu.foot⟩
  · by_cases ej : j = n
    · subst ej
      rw [put_at] at he
      rw [put_at, put_at]
      refine ⟨?_, Nat.le_refl _, rfl⟩
      rcases hu.own.2 with ⟨e2, _⟩ | ⟨g, cap, cur, e2, _⟩
      · rw [he] at e2; cases e2
      · rw [he] at e2; cases e2; rfl
    · rw [put_ne _ _ _ ej] at he
      rw [put_ne _ _ _ ej, put_ne _ _ _ ej]
      exact hu.ent j ad (by omega) he e
  · rw [put_ne _ _ _ (by omega)] at he
    exact hu.dis j ad h1 h2 he
/-- How many beginnings are kept ahead of round i. -/
def cnt (i : Nat) : Nat := if i ≤ 4 then i - 1 else 3 + (i - 1) / 16
theorem cnt_step (i : Nat) (h : 1 ≤ i) : cnt (i + 1) = cnt i + if i < 4 ∨ i % 16 = 0 then 1 else 0 := by
  unfold cnt
  by_cases h4 : i < 4
  · rw [if_pos (by omega), if_pos (by omega), if_pos (Or.inl h4)]; omega
  · by_cases h16 : i % 16 = 0
    · rw [if_neg (by omega), if_neg (by omega), if_pos (Or.inr h16)]; omega
    · rw [if_neg (show ¬ (i < 4 ∨ i % 16 = 0) by omega)]
      by_cases e : i = 4
      · subst e; decide
      · rw [if_neg (by omega), if_neg (by omega)]; omega
end Go.Proofs.YtonpmabdjngdcaaGreatDoor

/- The walk of Book.growBytes. -/
namespace Go.Proofs.YtonpmabdjngdcaaGreatDoor
open Go.RowKit
set_option maxRecDepth 100000

theorem BookIs.weaken {w : World} {B bk n lo hi lo' : Nat} {A : Nat → Option Addr} {ln C M : Nat → Nat} {bv ov : Value} {at' turn done used : Nat} (h : BookIs w B bk n lo hi A ln C M bv ov at' turn done used) (hl : lo ≤ lo') : BookIs w B bk n lo' hi A ln C M bv ov at' turn done used :=
  ⟨h.row, h.ob, h.oo, h.byt, fun i h1 h2 => h.own i (by omega) h2, h.blk, fun i j a a' h1 h2 => h.dis i j a a' (by omega) h2, h.nb, h.no, h.hn, h.lb, h.mt⟩
theorem BookIs.grown {w : World} {B bk n lo hi : Nat} {A : Nat → Option Addr} {ln C M : Nat → Nat} {bv ov : Value} {at' turn done used : Nat} (h : BookIs w B bk n lo hi A ln C M bv ov at' turn done used) : BookIs w B bk n n n A ln C M bv ov at' turn done used :=
  ⟨h.row, h.ob, h.oo, h.byt, fun i h1 h2 => by omega, h.blk, fun i j a a' h1 h2 => by omega, h.nb, h.no, Nat.le_refl _, h.lb, h.mt⟩
theorem owns_at_b {w : World} {B e n : Nat} {v : Value} {f : Nat → Value} (h : w.ownsRow B e 1 v n ((List.range n).map f)) (hn : 0 < n) : ∃ g c, v = .slice (some ⟨g, 0, none⟩) n c ∧ ∀ j, j < n → w.cell? ⟨g, j, none⟩ = some (f j) := by
  rcases h.2 with ⟨_, h0⟩ | ⟨g, c, cur, rfl, _⟩
  · omega
  · exact ⟨g, c, rfl, fun j hj => by rw [h.cellAt j (by omega)]; simp [hj]⟩
/-- The list k as it lies, ahead of its growing. -/
theorem BookIs.und {w0 w : World} {F0 : Nat → Prop} {B bk n hi k : Nat} {A : Nat → Option Addr} {ln C M : Nat → Nat} {bv ov : Value} {at' turn done used : Nat} (h : BookIs w B bk n k hi A ln C M bv ov at' turn done used) (hk : k < hi) (hmv : Mv F0 (BF bk n A bv ov) w0 w) : Und w0 w F0 B bk n (k + 1) hi A ln M bv ov (.slice (A k) (ln k) (C k)) (ln k) (M k) := by
  have hkn : k < n := Nat.lt_of_lt_of_le hk h.hn
  have form : ∀ b, (Value.slice (A k) (ln k) (C k)).ownBlock = some b → A k = some ⟨b, 0, none⟩ := fun b e => by
    rcases (h.own k (Nat.le_refl _) hk).2 with ⟨e2, _⟩ | ⟨g, cap, cur, e2, _⟩
    · rw [e2] at e; simp [Value.ownBlock] at e
    · rw [e2] at e
      have : g = b := by simpa [Value.ownBlock] using e
      have e3 : A k = some ⟨g, 0, none⟩ := by injection e2
      rw [e3, this]
  refine ⟨h.own k (Nat.le_refl _) hk, fun b e => ?_, fun j ad hj he e => ?_, fun j ad h1 h2 he e => ?_, fun b e => ?_⟩
  · have := h.blk k _ hkn (form b e)
    exact this.2.2
  · have ek := form _ e
    by_cases ej : j = k
    · subst ej
      rw [he] at ek
      exact ⟨Option.some.inj ek, Nat.le_refl _, rfl⟩
    · exact absurd rfl (h.dis k j ⟨ad.block, 0, none⟩ ad (Nat.le_refl _) hk hj (fun e => ej e.symm) ek he)
  · exact absurd rfl (h.dis k j ⟨ad.block, 0, none⟩ ad (Nat.le_refl _) hk (Nat.lt_of_lt_of_le h2 h.hn) (by omega) (form _ e) he)
  · exact hmv.foot b (Or.inr (Or.inr (Or.inr ⟨k, _, hkn, form b e, rfl⟩)))

set_option maxHeartbeats 6400000 in
set_option maxRecDepth 100000 in
theorem book_growBytes {w : World} {B bk n : Nat} {A : Nat → Option Addr} {ln C M : Nat → Nat} {bv ov : Value} {at' turn done used : Nat} (h : BookIs w B bk n at' n A ln C M bv ov at' turn done used) (hB : B ≤ w.heap.size) (ht : turn ≤ 10000000000000000) (hat : at' ≤ n) (hU : n * 120 + (n - at') * 1080 ≤ used) (hu : used ≤ 16777216)
    (hln : ∀ i, i < n → ln i ≤ 1099511627872) (hln2 : ∀ i, at' ≤ i → i < n → ln i ≤ 1099511627776) :
    Calls Tryz.prog 96 #[.pointer (some ⟨bk, 0, none⟩)] w fun e w' => e = .returned (.tuple #[]) ∧ ∃ n' A' ln' C' M' bv' ov', BookIs w' B bk n' n' n' A' ln' C' M' bv' ov' n' turn done used ∧ n' * 120 ≤ used ∧ (∀ i, i < n' → ln' i ≤ 1099511627872) ∧ Mv (BF bk n A bv ov) (BF bk n' A' bv' ov') w w' ∧ B ≤ w'.heap.size := by
  obtain ⟨va, vc, ebv, _⟩ := owns_form h.ob
  have c0 : w.cell? ⟨bk, 0, none⟩ = some (.slice va n vc) := by rw [← ebv]; exact h.row.cell (i := 0) (by decide)
  have c2 : w.cell? ⟨bk, 2, none⟩ = some (.int .i64 (at' : Nat)) := h.row.cell (i := 2) (by decide)
  clear ebv
  generalize hF0 : BF bk n A bv ov = F0
  have hmv0 : Mv F0 (BF bk n A bv ov) w w := by rw [hF0]; exact Mv.refl _ _
  go_enter Tryz.func96, Tryz.ntmps96
  go_wp2_with fail
  go_loopg [3] (n - at') (fun q s3 wx => ∃ (k n' : Nat) (A' : Nat → Option Addr) (ln' C' M' : Nat → Nat) (bv' ov' : Value), at' ≤ k ∧ k ≤ n ∧ q = n - k ∧ s3 = .int .i64 k ∧ BookIs wx B bk n' k n A' ln' C' M' bv' ov' at' turn done used ∧ n' * 120 + (n - k) * 1080 ≤ used ∧ (∀ i, i < n' → ln' i ≤ 1099511627872) ∧ (∀ i, k ≤ i → i < n → ln' i ≤ 1099511627776) ∧ Mv F0 (BF bk n' A' bv' ov') w wx ∧ B ≤ wx.heap.size)
  case atStart => exact ⟨at', n, A, ln, C, M, bv, ov, Nat.le_refl _, hat, rfl, rfl, h, hU, hln, hln2, hmv0, hB⟩
  case round =>
    obtain ⟨k, n', A', ln', C', M', bv', ov', hk1, hk2, rfl, rfl, hb, hU', hl1, hl2, hmv, hBx⟩ := hrel
    clear h c0 c2 hmv0
    by_cases hlt : k < n
    · have hnn := hb.hn
      have hz : (k : Int) < (n : Int) := by omega
      obtain ⟨gv, vc', rfl, hcv⟩ := owns_at_b hb.ob (by omega)
      obtain ⟨go, oc', rfl, hco⟩ := owns_at_b hb.oo (by omega)
      have d0 : wr.cell? ⟨bk, 0, none⟩ = some (.slice (some ⟨gv, 0, none⟩) n' vc') := hb.row.cell (i := 0) (by decide)
      have d1 : wr.cell? ⟨bk, 1, none⟩ = some (.slice (some ⟨go, 0, none⟩) n' oc') := hb.row.cell (i := 1) (by decide)
      have dv := hcv k (by omega)
      have do' := hco k (by omega)
      have hz2 : (k : Int) < (n' : Int) := by omega
      have hun := hb.und hlt hmv
      have hbw := hb.weaken (Nat.le_succ k)
      have hMk : M' k ≤ 10000000000000000 := Nat.le_trans (hb.mt k (by omega)) ht
      have hMt : M' k ≤ turn := hb.mt k (by omega)
      have hLk := hl2 k (Nat.le_refl _) hlt
      generalize hAk : A' k = ka at hun dv
      generalize hLk2 : ln' k = L0 at hun dv hLk
      generalize C' k = kc at hun dv
      generalize M' k = m at hun do' hMk hMt
      clear hcv hco
      go_wp2_with fail
      go_loopg [4, 6] 96 (fun q s4 s6 wx => ∃ (i n2 len : Nat) (A2 : Nat → Option Addr) (ln2 C2 M2 : Nat → Nat) (bv2 ov2 : Value) (a : Option Addr) (c : Nat), 1 ≤ i ∧ i ≤ 97 ∧ len + 1 = L0 + i ∧ q = 97 - i ∧ s6 = .int .i64 i ∧ s4 = .slice a len c ∧ BookIs wx B bk n2 (k + 1) n A2 ln2 C2 M2 bv2 ov2 at' turn done used ∧ Und w wx F0 B bk n2 (k + 1) n A2 ln2 M2 bv2 ov2 (.slice a len c) len m ∧ Mv F0 (BF bk n2 A2 bv2 ov2) w wx ∧ B ≤ wx.heap.size ∧ n2 = n' + cnt i ∧ (∀ j, j < n2 → ln2 j ≤ 1099511627872) ∧ ∀ j, k + 1 ≤ j → j < n → ln2 j ≤ 1099511627776)
      case atStart => exact ⟨1, n', L0, A', ln', C', M', _, _, ka, kc, Nat.le_refl _, by decide, rfl, rfl, rfl, rfl, hbw, hun, hmv, hBx, rfl, hl1, fun j h1 h2 => hl2 j (by omega) h2⟩
      case round =>
        obtain ⟨i, n2, len, A2, ln2, C2, M2, bv2, ov2, a, c, hi1, hi2, hlen, rfl, rfl, rfl, hb2, hu2, hmv2, hB2, hn2, hm1, hm2⟩ := hrel
        clear d0 d1 dv do' hun hbw hb hmv hl1 hl2 hAk hLk2 hBx
        have hcn := cnt_step i hi1
        have hc9 : cnt i ≤ 9 := by unfold cnt; split <;> omega
        have hlb : len ≤ 1099511627872 := by omega
        have hlb2 : i ≤ 96 → len + 1 ≤ 1099511627872 := by omega
        have HL := hide hlen
        have HN := hide hn2
        have hnb : n2 ≤ 900000 := by omega
        clear hlen hn2
        by_cases hle : i ≤ 96
        · have hlb3 := hlb2 hle
          clear hlb2
          have hz6 : (i : Int) ≤ 96 := by omega
          have hac := at_any' m len wr hMk
          obtain ⟨a3, c3, w3, hr3, hb3, hu3, hmv3, hB3⟩ := hb2.app hB2 hu2 hmv2 (by omega)
          generalize mrk m len = mb at *
          have H3 := hide hr3
          clear hr3 hb2 hu2 hmv2 hB2
          by_cases hkp : i < 4 ∨ i % 16 = 0
          · rw [if_pos hkp] at hcn
            have hbt3 : Byt w3 a3 (len + 1) (mrk m) := by
              obtain ⟨_, _, e3, h1, _⟩ := own_byt' hu3.own
              cases e3
              exact h1
            obtain ⟨ba, bc, w6, oa, oc, w9, hr1, p0, p1, p2, p3, hr2, p4, p5, hfin, mvf, kall, hnv, hno⟩ := hb3.push hB3 a3 (len + 1) c3 m n hnb hbt3 hMt (fun ad he => by
              have e1 : (Value.slice a3 (len + 1) c3).ownBlock = some ad.block := by rw [he]; rfl
              have := hu3.far ad.block e1
              exact ⟨own_block hu3.own _ e1, own_lt hu3.own _ e1, this.1, this.2.1, this.2.2⟩) (by have := hb3.hn; omega) (fun j hj => Or.inl hj) (fun hj => by have := hb3.hn; omega) (fun hj => by have := hb3.hn; omega) (fun j ad a' h1 h2 _ he hA e => by
              have e1 : (Value.slice a3 (len + 1) c3).ownBlock = some ad.block := by rw [he]; rfl
              exact hu3.dis j a' h1 h2 hA (e ▸ e1))
            have hvlt := own_lt hu3.own
            have hu9 := hu3.push hb3.hn (w' := w9.setCell ⟨bk, 1, none⟩ (.slice oa (n2 + 1) oc)) (fun k e => kall k (hvlt k e) (hu3.far k e).1 (hu3.far k e).2.1 (hu3.far k e).2.2) (fun b e => ⟨hnv b (hvlt b e) (hu3.far b e).2.1, hno b (hvlt b e) (hu3.far b e).2.2⟩)
            have hmv9 : Mv F0 (BF bk (n2 + 1) (put A2 n2 a3) (.slice ba (n2 + 1) bc) (.slice oa (n2 + 1) oc)) w (w9.setCell ⟨bk, 1, none⟩ (.slice oa (n2 + 1) oc)) := by
              refine ⟨mvf.os.trans hmv3.os, mvf.tape.trans hmv3.tape, mvf.output.trans hmv3.output, Nat.le_trans hmv3.size mvf.size, fun q hq hn => (mvf.block q (Nat.lt_of_lt_of_le hq hmv3.size) (fun hf => ?_)).trans (hmv3.block q hq hn), fun q hf => ?_⟩
              · rcases hf with hf | ⟨ad, he, e⟩
                · rcases hmv3.foot q hf with h5 | h5
                  · exact hn h5
                  · omega
                · rcases hu3.foot q (by rw [he, ← e]; rfl) with h5 | h5
                  · exact hn h5
                  · omega
              · rcases mvf.foot q hf with hf | hf
                · rcases hf with hf | ⟨ad, he, e⟩
                  · exact hmv3.foot q hf
                  · exact hu3.foot q (by rw [he, ← e]; rfl)
                · exact Or.inr (Nat.le_trans hmv3.size hf)
            have hB9 : B ≤ (w9.setCell ⟨bk, 1, none⟩ (.slice oa (n2 + 1) oc)).heap.size := Nat.le_trans hB3 mvf.size
            have hm1' : ∀ j, j < n2 + 1 → put ln2 n2 (len + 1) j ≤ 1099511627872 := fun j hj => by
              by_cases e : j = n2
              · subst e; rw [put_at]; omega
              · rw [put_ne _ _ _ e]; exact hm1 j (by omega)
            have hm2' : ∀ j, k + 1 ≤ j → j < n → put ln2 n2 (len + 1) j ≤ 1099511627776 := fun j h1 h2 => by
              have := hb3.hn
              rw [put_ne _ _ _ (by omega)]; exact hm2 j h1 h2
            have H1 := hide hr1
            have H2 := hide hr2
            obtain ⟨r, hr, hr2⟩ : ∃ r : Nat, Int.tmod (i : Int) 16 = (r : Int) ∧ r = i % 16 := ⟨i % 16, (Int.ofNat_tmod i 16).symm, rfl⟩
            have hr0 : ¬ (i < 4) → ((r : Int) == 0) = true := fun h4 => by
              have : r = 0 := by omega
              subst this; rfl
            have HK := hide hkp
            clear hr1 hr2 hb3 hu3 hmv3 hB3 hvlt kall hnv hno mvf hbt3 hm1 hm2 hcn hkp hc9
            by_cases h4 : i < 4
            all_goals
              have h4z : (i : Int) < 4 ∨ ¬ (i : Int) < 4 := by omega
              first
                | (have h4y : (i : Int) < 4 := by omega)
                | (have h4y : ¬ ((i : Int) < 4) := by omega)
              first
                | (have hr1 := hr0 h4)
                | skip
              clear hr0 h4z
              go_wp2_with (first
                | (go_at_call 45; refine hac.mono ?_; rintro e w4 ⟨rfl, rfl⟩)
                | (at_builtin; refine wpList_append_eq rfl _ _ 32 rfl _ _ _ (by rfl) (by rfl) (unhide H3) ?_)
                | (at_builtin; refine wpList_append_eq rfl _ _ 23 rfl _ _ _ (by rfl) (by rfl) (unhide H1) ?_)
                | (at_builtin; refine wpList_append_eq rfl _ _ 57 rfl _ _ _ (by rfl) (by rfl) (unhide H2) ?_))
              go_roundg (97 - (i + 1))
              case measure => go_light; omega
              case rel => go_light; exact ⟨i + 1, n2 + 1, len + 1, _, _, _, _, _, _, a3, c3, by omega, by omega, (by have := unhide HL; omega), rfl, by simp, rfl, hfin, hu9, hmv9, hB9, (by have := unhide HN; have := cnt_step i hi1; rw [if_pos (unhide HK)] at this; omega), hm1', hm2'⟩
          · rw [if_neg hkp] at hcn
            have hi4 : ¬ ((i : Int) < 4) := by omega
            obtain ⟨r, hr, hr2⟩ : ∃ r : Nat, Int.tmod (i : Int) 16 = (r : Int) ∧ r = i % 16 := ⟨i % 16, (Int.ofNat_tmod i 16).symm, rfl⟩
            have hr0 : ((r : Int) == 0) = false := by
              have : ¬ ((r : Int) = 0) := by omega
              simpa using this
            clear hr2
            go_wp2_with (first
              | (go_at_call 45; refine hac.mono ?_; rintro e w4 ⟨rfl, rfl⟩)
              | (at_builtin; refine wpList_append_eq rfl _ _ 32 rfl _ _ _ (by rfl) (by rfl) (unhide H3) ?_))
            go_roundg (97 - (i + 1))
            case measure => go_light; omega
            case rel => go_light; exact ⟨i + 1, n2, len + 1, A2, ln2, C2, M2, bv2, ov2, a3, c3, by omega, by omega, (by have := unhide HL; omega), rfl, by simp, rfl, hb3, hu3, hmv3, hB3, (by have := unhide HN; omega), hm1, hm2⟩
        · have hz6 : ¬ ((i : Int) ≤ 96) := by omega
          obtain rfl : i = 97 := by omega
          have hn2 := unhide HN
          rw [show cnt 97 = 9 from rfl] at hn2
          clear HN HL hlb2 hcn hc9
          have hfinU : n2 * 120 + (n - (k + 1)) * 1080 ≤ used := by omega
          clear hn2
          go_wp2_with fail
          go_roundg (n - (k + 1))
          case measure => go_light; omega
          case rel => go_light; exact ⟨k + 1, n2, A2, ln2, C2, M2, bv2, ov2, by omega, by omega, rfl, by simp, hb2, hfinU, hm1, hm2, hmv2, hB2⟩
    · obtain rfl : k = n := by omega
      obtain ⟨va', vc', rfl, _⟩ := owns_form hb.ob
      have d0 : wr.cell? ⟨bk, 0, none⟩ = some (.slice va' n' vc') := hb.row.cell (i := 0) (by decide)
      have d2 : wr.cell? ⟨bk, 2, none⟩ = some (.int .i64 (at' : Nat)) := hb.row.cell (i := 2) (by decide)
      have f2 := hb.row.frozen 2
      obtain ⟨h3, mv3⟩ := hb.setNum (at2 := n') (turn2 := turn) (done2 := done) (used2 := used) 2 (.int .i64 (n' : Nat)) (Nat.le_refl _) (fun i hi => by
        unfold bookCell
        by_cases e : i = 2
        · subst e; rfl
        · rw [if_neg e, if_neg e, if_neg e])
      have hz3 : (wr.setCell ⟨bk, 2, none⟩ (.int .i64 (n' : Nat))).heap.size = wr.heap.size := by simp [World.setCell]
      have hB3 : B ≤ (wr.setCell ⟨bk, 2, none⟩ (.int .i64 (n' : Nat))).heap.size := by omega
      have hmvf := hmv.trans mv3
      have hz : ¬ ((k : Int) < (k : Int)) := by omega
      clear hz3
      go_wp2_with fail
      go_end0
      exact ⟨rfl, n', A', ln', C', M', _, _, h3.grown, by omega, hl1, hF0 ▸ hmvf, hB3⟩
end Go.Proofs.YtonpmabdjngdcaaGreatDoor

/- The walks of Book.grow and Book.Look. -/
namespace Go.Proofs.YtonpmabdjngdcaaGreatDoor
open Go.RowKit
set_option maxRecDepth 100000

theorem BookIs.same {w : World} {B bk n lo hi : Nat} {A : Nat → Option Addr} {ln C M : Nat → Nat} {bv ov : Value} {at' turn done used : Nat} (h : BookIs w B bk n lo hi A ln C M bv ov at' turn done used) (c : Nat) (h3 : c % 3 = 2) (h5 : 5 ≤ c) (h35 : c ≤ 35) :
    BookIs (w.setCell ⟨bk, c, none⟩ (.int .i64 0)) B bk n lo hi A ln C M bv ov at' turn done used ∧ Mv (BF bk n A bv ov) (BF bk n A bv ov) w (w.setCell ⟨bk, c, none⟩ (.int .i64 0)) :=
  h.setNum c (.int .i64 0) (Nat.le_refl _) (fun i _ => by
    by_cases e : i = c
    · subst e
      rw [if_pos rfl]
      unfold bookCell
      rw [if_neg (by omega), if_neg (by omega), if_neg (by omega), if_neg (by omega), if_neg (by omega), if_neg (by omega), if_pos h3]
    · rw [if_neg e])
/-- What grow leaves. -/
structure Grown (w w' : World) (B bk n : Nat) (A : Nat → Option Addr) (ln C M : Nat → Nat) (bv ov : Value) (turn done used : Nat) (F : Nat → Prop) : Prop where
  is : BookIs w' B bk n n n A ln C M bv ov n turn done used
  mv : Mv F (BF bk n A bv ov) w w'
theorem Grown.step {w w' : World} {B bk n : Nat} {A : Nat → Option Addr} {ln C M : Nat → Nat} {bv ov : Value} {turn done used : Nat} {F : Nat → Prop} (h : Grown w w' B bk n A ln C M bv ov turn done used F) (c : Nat) (h3 : c % 3 = 2) (h5 : 5 ≤ c) (h35 : c ≤ 35) : Grown w (w'.setCell ⟨bk, c, none⟩ (.int .i64 0)) B bk n A ln C M bv ov turn done used F := by
  obtain ⟨a, b⟩ := h.is.same c h3 h5 h35
  exact ⟨a, h.mv.trans b⟩

set_option maxHeartbeats 3200000 in
set_option maxRecDepth 100000 in
theorem book_grow {w : World} {B bk n : Nat} {A : Nat → Option Addr} {ln C M : Nat → Nat} {bv ov : Value} {at' turn done used : Nat} (h : BookIs w B bk n at' n A ln C M bv ov at' turn done used) (hB : B ≤ w.heap.size) (ht : turn ≤ 10000000000000000) (hat : at' ≤ n) (hU : n * 120 + (n - at') * 1080 ≤ used) (hu : used ≤ 16777216)
    (hln : ∀ i, i < n → ln i ≤ 1099511627872) (hln2 : ∀ i, at' ≤ i → i < n → ln i ≤ 1099511627776) :
    Calls Tryz.prog 48 #[.pointer (some ⟨bk, 0, none⟩)] w fun e w' => e = .returned (.tuple #[]) ∧ ∃ n' A' ln' C' M' bv' ov', BookIs w' B bk n' n' n' A' ln' C' M' bv' ov' n' turn turn used ∧ n' * 120 ≤ used ∧ (∀ i, i < n' → ln' i ≤ 1099511627872) ∧ Mv (BF bk n A bv ov) (BF bk n' A' bv' ov') w w' := by
  have hg := book_growBytes h hB ht hat hU hu hln hln2
  generalize BF bk n A bv ov = F0 at *
  clear h hB hln hln2
  go_enter Tryz.func48, Tryz.ntmps48
  go_wp2_with fail
  refine hg.mono ?_
  rintro e w1 ⟨rfl, n', A', ln', C', M', bv', ov', h1, hU1, hl1, mv1, _⟩
  have g1 : Grown w w1 B bk n' A' ln' C' M' bv' ov' turn done used F0 := ⟨h1, mv1⟩
  clear hg h1 mv1
  have q0 := book_growRows bk _ _ g1.is.row rfl rfl
  have g2 := g1.step 5 (by decide) (by decide) (by decide)
  generalize hw2 : World.setCell _ ⟨bk, 5, none⟩ (.int .i64 0) = w2 at q0 g2
  go_wp2_with fail
  refine q0.mono ?_
  rintro e w2' ⟨rfl, rfl⟩
  clear q0 hw2 g1
  have q1 := book_growTexts bk _ _ g2.is.row rfl rfl
  have g3 := g2.step 8 (by decide) (by decide) (by decide)
  generalize hw3 : World.setCell _ ⟨bk, 8, none⟩ (.int .i64 0) = w3 at q1 g3
  go_wp2_with fail
  refine q1.mono ?_
  rintro e w3' ⟨rfl, rfl⟩
  clear q1 hw3 g2
  have q2 := book_growInts bk _ _ g3.is.row rfl rfl
  have g4 := g3.step 11 (by decide) (by decide) (by decide)
  generalize hw4 : World.setCell _ ⟨bk, 11, none⟩ (.int .i64 0) = w4 at q2 g4
  go_wp2_with fail
  refine q2.mono ?_
  rintro e w4' ⟨rfl, rfl⟩
  clear q2 hw4 g3
  have q3 := book_growWords bk _ _ g4.is.row rfl rfl
  have g5 := g4.step 14 (by decide) (by decide) (by decide)
  generalize hw5 : World.setCell _ ⟨bk, 14, none⟩ (.int .i64 0) = w5 at q3 g5
  go_wp2_with fail
  refine q3.mono ?_
  rintro e w5' ⟨rfl, rfl⟩
  clear q3 hw5 g4
  have q4 := book_growDones bk _ _ g5.is.row rfl rfl
  have g6 := g5.step 17 (by decide) (by decide) (by decide)
  generalize hw6 : World.setCell _ ⟨bk, 17, none⟩ (.int .i64 0) = w6 at q4 g6
  go_wp2_with fail
  refine q4.mono ?_
  rintro e w6' ⟨rfl, rfl⟩
  clear q4 hw6 g5
  have q5 := book_growAccts bk _ _ g6.is.row rfl rfl
  have g7 := g6.step 20 (by decide) (by decide) (by decide)
  generalize hw7 : World.setCell _ ⟨bk, 20, none⟩ (.int .i64 0) = w7 at q5 g7
  go_wp2_with fail
  refine q5.mono ?_
  rintro e w7' ⟨rfl, rfl⟩
  clear q5 hw7 g6
  have q6 := book_growQueue bk _ _ g7.is.row rfl rfl
  have g8 := g7.step 23 (by decide) (by decide) (by decide)
  generalize hw8 : World.setCell _ ⟨bk, 23, none⟩ (.int .i64 0) = w8 at q6 g8
  go_wp2_with fail
  refine q6.mono ?_
  rintro e w8' ⟨rfl, rfl⟩
  clear q6 hw8 g7
  have q7 := book_growSlots bk _ _ g8.is.row rfl rfl
  have g9 := g8.step 26 (by decide) (by decide) (by decide)
  generalize hw9 : World.setCell _ ⟨bk, 26, none⟩ (.int .i64 0) = w9 at q7 g9
  go_wp2_with fail
  refine q7.mono ?_
  rintro e w9' ⟨rfl, rfl⟩
  clear q7 hw9 g8
  have q8 := book_growMsgs bk _ _ g9.is.row rfl rfl
  have g10 := g9.step 29 (by decide) (by decide) (by decide)
  generalize hw10 : World.setCell _ ⟨bk, 29, none⟩ (.int .i64 0) = w10 at q8 g10
  go_wp2_with fail
  refine q8.mono ?_
  rintro e w10' ⟨rfl, rfl⟩
  clear q8 hw10 g9
  have q9 := book_growFlights bk _ _ g10.is.row rfl rfl
  have g11 := g10.step 32 (by decide) (by decide) (by decide)
  generalize hw11 : World.setCell _ ⟨bk, 32, none⟩ (.int .i64 0) = w11 at q9 g11
  go_wp2_with fail
  refine q9.mono ?_
  rintro e w11' ⟨rfl, rfl⟩
  clear q9 hw11 g10
  have q10 := book_growFiles bk _ _ g11.is.row rfl rfl
  have g12 := g11.step 35 (by decide) (by decide) (by decide)
  generalize hw12 : World.setCell _ ⟨bk, 35, none⟩ (.int .i64 0) = w12 at q10 g12
  go_wp2_with fail
  refine q10.mono ?_
  rintro e w12' ⟨rfl, rfl⟩
  clear q10 hw12 g11
  have d36 := g12.is.row.cell (i := 36) (by decide)
  have d37 := g12.is.row.cell (i := 37) (by decide)
  have f37 := g12.is.row.frozen 37
  obtain ⟨h3, mv3⟩ := g12.is.setNum (at2 := n') (turn2 := turn) (done2 := turn) (used2 := used) 37 (.int .i64 (turn : Nat)) (Nat.le_refl _) (fun i hi => by
    unfold bookCell
    by_cases e : i = 37
    · subst e; rfl
    · rw [if_neg e, if_neg e, if_neg e])
  have mvf := g12.mv.trans mv3
  clear g12
  have e36 : bookCell bv' ov' n' turn done used 36 = .int .i64 (turn : Nat) := rfl
  have e37 : bookCell bv' ov' n' turn done used 37 = .int .i64 (done : Nat) := rfl
  rw [e36] at d36
  rw [e37] at d37
  clear e36 e37
  go_wp2_with fail
  go_end0
  exact ⟨rfl, n', A', ln', C', M', bv', ov', h3, hU1, hl1, mvf⟩

/-- A Book as it is between two calls. -/
structure BookOk (w : World) (B bk n : Nat) (A : Nat → Option Addr) (ln C M : Nat → Nat) (bv ov : Value) (at' turn done used : Nat) : Prop where
  is : BookIs w B bk n at' n A ln C M bv ov at' turn done used
  hat : at' ≤ n
  hU : n * 120 + (n - at') * 1080 ≤ used
  hu : used ≤ 16777216
  hl : ∀ i, i < n → ln i ≤ 1099511627872
  hl2 : ∀ i, at' ≤ i → i < n → ln i ≤ 1099511627776

set_option maxHeartbeats 3200000 in
set_option maxRecDepth 100000 in
theorem book_look {w : World} {B bk n : Nat} {A : Nat → Option Addr} {ln C M : Nat → Nat} {bv ov : Value} {at' turn done used : Nat} (h : BookOk w B bk n A ln C M bv ov at' turn done used) (hB : B ≤ w.heap.size) (ht : turn ≤ 10000000000000000) :
    Calls Tryz.prog 21 #[.pointer (some ⟨bk, 0, none⟩)] w fun e w' => e = .returned (.bool true) ∧ ∃ n' A' ln' C' M' bv' ov' at2 done2, BookOk w' B bk n' A' ln' C' M' bv' ov' at2 turn done2 used ∧ Mv (BF bk n A bv ov) (BF bk n' A' bv' ov') w w' := by
  have hnb : n ≤ 1000000 := by have := h.hU; have := h.hu; omega
  have hh := book_holds h.is ht hnb (fun i hi => by have := h.hl i hi; omega)
  have hd : ∀ m, w.Since w.heap.size (w.drewN m) := fun m => since_drewN' (World.Since.refl _ _) m
  have d36 : ∀ m, (w.drewN m).cell? ⟨bk, 36, none⟩ = some (.int .i64 (turn : Nat)) := fun m => h.is.row.cell (i := 36) (by decide)
  have d37 : ∀ m, (w.drewN m).cell? ⟨bk, 37, none⟩ = some (.int .i64 (done : Nat)) := fun m => h.is.row.cell (i := 37) (by decide)
  have hok : ∀ m, BookOk (w.drewN m) B bk n A ln C M bv ov at' turn done used := fun m => ⟨h.is.since (hd m), h.hat, h.hU, h.hu, h.hl, h.hl2⟩
  have hgr : ∀ m, _ := fun m => book_grow (hok m).is hB ht h.hat h.hU h.hu h.hl h.hl2
  have hmv : ∀ m, Mv (BF bk n A bv ov) (BF bk n A bv ov) w (w.drewN m) := fun m => Mv.of_since (hd m)
  have hu := h.hu
  clear h
  go_enter Tryz.func21, Tryz.ntmps21
  go_wp2_with fail
  refine hh.mono ?_
  rintro e w1 ⟨rfl, m, rfl⟩
  have c36 := d36 m
  have c37 := d37 m
  by_cases hdt : done = turn
  · subst hdt
    have HD : Hid (∀ n, (w.drewN m).drewN n = w.drewN (m + n)) := fun n => World.drewN_drewN _ _ _
    generalize w.drewN m = wd at *
    clear hh hgr
    go_wp2_with fail
    go_quiet (fail)
    go_wp2_with fail
    go_ret
    refine ⟨rfl, n, A, ln, C, M, bv, ov, at', done, ?_, ?_⟩
    · rw [unhide HD]; exact hok _
    · rw [unhide HD]; exact hmv _
  · have hdb : ((done : Int) == (turn : Int)) = false := by
      have : ¬ ((done : Int) = (turn : Int)) := by omega
      simpa using this
    have HG := hide hgr
    have HV := hide hmv
    have HD : Hid (∀ n, (w.drewN m).drewN n = w.drewN (m + n)) := fun n => World.drewN_drewN _ _ _
    clear hh hgr hmv hok d36 d37 hd
    generalize w.drewN m = wd at *
    go_wp2_with fail
    go_quiet (fail)
    go_wp2_with fail
    rw [unhide HD]
    refine ((unhide HG) _).mono ?_
    rintro e w2 ⟨rfl, n', A', ln', C', M', bv', ov', h2, hU2, hl2, mv2⟩
    have hh2 := book_holds h2 ht (by omega) (fun i hi => by have := hl2 i hi; omega)
    have mvf := ((unhide HV) _).trans mv2
    clear HG HV HD mv2
    go_wp2_with fail
    refine hh2.mono ?_
    rintro e w3 ⟨rfl, m3, rfl⟩
    clear hh2
    go_wp2_with fail
    go_ret
    refine ⟨rfl, n', A', ln', C', M', bv', ov', n', turn, ⟨h2.since (since_drewN' (World.Since.refl _ _) m3), Nat.le_refl _, by omega, hu, hl2, fun i h1 h2 => by omega⟩, mvf.trans (Mv.of_since (since_drewN' (World.Since.refl _ _) m3))⟩
end Go.Proofs.YtonpmabdjngdcaaGreatDoor

/- The document's Reader (Eye): what it is in memory, its Left, Raw, fixed reads and End. -/
namespace Go.Proofs.YtonpmabdjngdcaaGreatDoor
open Go.RowKit
set_option maxRecDepth 100000

structure IsE (w : World) (eb hb n : Nat) (z : Nat → Nat) (at' bad : Nat) : Prop where
  rd : w.rowIs eb 144 3 (rdCell hb n at' bad)
  row : w.rowIs hb 5 n (fun j => .int .u8 (z j : Nat))
  ne : hb ≠ eb
  byte : ∀ j, z j < 256
  le : at' ≤ n
  room : n ≤ 281474976710656
theorem IsE.since {w w' : World} {eb hb n at' bad : Nat} {z : Nat → Nat} (h : IsE w eb hb n z at' bad) (hs : w.Since w.heap.size w') : IsE w' eb hb n z at' bad :=
  ⟨row_since h.rd hs, row_since h.row hs, h.ne, h.byte, h.le, h.room⟩
theorem IsE.but {r : Nat} {w w' : World} {eb hb n at' bad : Nat} {z : Nat → Nat} (h : IsE w eb hb n z at' bad) (hs : But r w w') (h1 : eb ≠ r) (h2 : hb ≠ r) : IsE w' eb hb n z at' bad :=
  ⟨hs.row h.rd h1, hs.row h.row h2, h.ne, h.byte, h.le, h.room⟩
theorem IsE.setAt {w : World} {eb hb n at' bad : Nat} {z : Nat → Nat} (h : IsE w eb hb n z at' bad) (q : Nat) (hq : q ≤ n) : IsE (w.setCell ⟨eb, 1, none⟩ (.int .i64 q)) eb hb n z q bad :=
  ⟨(h.rd.set 1 _).congr (fun i hi => by
      match i, hi with
      | 0, _ => rfl
      | 1, _ => rfl
      | 2, _ => rfl), h.row.setOther (by show hb ≠ eb; exact h.ne) _, h.ne, h.byte, hq, h.room⟩
theorem IsE.setBad {w : World} {eb hb n at' bad : Nat} {z : Nat → Nat} (h : IsE w eb hb n z at' bad) (q : Nat) : IsE (w.setCell ⟨eb, 2, none⟩ (.int .i64 q)) eb hb n z at' q :=
  ⟨(h.rd.set 2 _).congr (fun i hi => by
      match i, hi with
      | 0, _ => rfl
      | 1, _ => rfl
      | 2, _ => rfl), h.row.setOther (by show hb ≠ eb; exact h.ne) _, h.ne, h.byte, h.le, h.room⟩
theorem IsE.drew {w : World} {eb hb n at' bad : Nat} {z : Nat → Nat} (h : IsE w eb hb n z at' bad) : IsE w.drew eb hb n z at' bad := ⟨h.rd.drew, h.row.drew, h.ne, h.byte, h.le, h.room⟩
theorem IsE.c0 {w : World} {eb hb n at' bad : Nat} {z : Nat → Nat} (h : IsE w eb hb n z at' bad) : w.cell? ⟨eb, 0, none⟩ = some (.slice (some ⟨hb, 0, none⟩) n n) := h.rd.cell (by decide)
theorem IsE.c1 {w : World} {eb hb n at' bad : Nat} {z : Nat → Nat} (h : IsE w eb hb n z at' bad) : w.cell? ⟨eb, 1, none⟩ = some (.int .i64 at') := h.rd.cell (by decide)
theorem IsE.c2 {w : World} {eb hb n at' bad : Nat} {z : Nat → Nat} (h : IsE w eb hb n z at' bad) : w.cell? ⟨eb, 2, none⟩ = some (.int .i64 bad) := h.rd.cell (by decide)

theorem IsE.setOther {w : World} {eb hb n at' bad : Nat} {z : Nat → Nat} (h : IsE w eb hb n z at' bad) {a : Addr} (h1 : eb ≠ a.block) (h2 : hb ≠ a.block) (v : Value) : IsE (w.setCell a v) eb hb n z at' bad :=
  ⟨h.rd.setOther h1 v, h.row.setOther h2 v, h.ne, h.byte, h.le, h.room⟩


theorem eyeLeft (eb hb n at' bad : Nat) (z : Nat → Nat) (w : World) (h : IsE w eb hb n z at' bad) : Calls Tryz.prog 168 #[.pointer (some ⟨eb, 0, none⟩)] w fun e w' => e = .returned (.int .i64 ((n - at' : Nat) : Int)) ∧ ∃ m, w' = w.drewN m := by
  have c1 := h.c1
  have c0 := h.c0
  have hle := h.le
  have hroom := h.room
  go_enter Tryz.func168, Tryz.ntmps168
  go_wp2_with fail
  go_quiet (fail)
  go_wp2
  go_ret
  exact ⟨ret_int (by omega), nq, rfl⟩
theorem isE_eq {w : World} {rb hb n a b c d : Nat} {z : Nat → Nat} (h : IsE w rb hb n z a c) (e : a = b) (f : c = d) : IsE w rb hb n z b d := by subst e; subst f; exact h
theorem eye_place {w W : World} {rb hb n at' bad : Nat} {z : Nat → Nat} (h : IsE w rb hb n z at' bad) (hW : w.Since w.heap.size W) (o k : Nat) (hk : k ≤ n - at') (ho : n ≠ at' → o = at') : Byt W (some ⟨hb, o, none⟩) k (fun j => z (at' + j)) := fun j hj => by
  have hrow := row_since h.row hW
  have := hrow.cell (i := at' + j) (by omega)
  exact ⟨hb, o, rfl, by rw [ho (by omega)]; exact this⟩

set_option maxHeartbeats 1600000 in
set_option maxRecDepth 100000 in
theorem eyeRaw (eb hb n at' bad : Nat) (k : Int) (z : Nat → Nat) (w : World) (h : IsE w eb hb n z at' bad) (hm : k ≤ 9223372036854775807) :
    Calls Tryz.prog 169 #[.pointer (some ⟨eb, 0, none⟩), .int .i64 k] w fun e w' => (∃ ta, e = .returned (.slice ta (rawAns n k at' bad).1 (rawAns n k at' bad).1) ∧ Txt w.heap.size w' ta (rawAns n k at' bad).1 (fun j => z ((rawAns n k at' bad).2.1 + j))) ∧ But eb w w' ∧ IsE w' eb hb n z (rawAns n k at' bad).2.2.1 (rawAns n k at' bad).2.2.2 := by
  have c2 := h.c2
  unfold rawAns
  by_cases hbad : bad = 0
  · subst hbad
    rw [if_neg (by simp)]
    by_cases hneg : k < 0
    · rw [if_pos hneg]
      have f2 := h.rd.frozen 2
      have hI := h.setBad 14
      have hB : But eb w (w.setCell ⟨eb, 2, none⟩ (.int .i64 14)) := (But.of_since (World.Since.refl _ _)).setCell 2 _
      go_enter Tryz.func169, Tryz.ntmps169
      go_wp2_with fail
      go_ret
      exact ⟨⟨none, rfl, txt_none _ _ _ _ rfl⟩, hB, hI⟩
    · rw [if_neg hneg]
      obtain ⟨M, rfl⟩ : ∃ M : Nat, k = (M : Nat) := ⟨k.toNat, by omega⟩
      rw [Int.toNat_natCast]
      unfold rlook
      have hlf := eyeLeft eb hb n at' 0 z w h
      have hle := h.le
      have hroom := h.room
      by_cases hsh : n - at' < M
      · rw [if_pos hsh]
        have hgt : ((n - at' : Nat) : Int) < (M : Int) := by omega
        generalize ((n - at' : Nat) : Int) = LL at *
        go_enter Tryz.func169, Tryz.ntmps169
        go_wp2_with fail
        refine hlf.mono ?_
        rintro e w1 ⟨rfl, m1, rfl⟩
        have hs1 := since_drewN' (World.Since.refl w.heap.size w) m1
        have h1 := h.since hs1
        have f2 := h1.rd.frozen 2
        have c3 := h1.c2
        have hI := h1.setBad 10
        have hB : But eb w ((w.drewN m1).setCell ⟨eb, 2, none⟩ (.int .i64 10)) := (But.of_since hs1).setCell 2 _
        generalize w.drewN m1 = w1 at *
        clear hlf
        go_wp2_with fail
        go_ret
        exact ⟨⟨none, rfl, txt_none _ _ _ _ rfl⟩, hB, hI⟩
      · rw [if_neg hsh]
        have hgt : ¬ (((n - at' : Nat) : Int) < (M : Int)) := by omega
        obtain ⟨E, hE, hsum⟩ : ∃ E : Nat, E - at' = M ∧ (at' : Int) + (M : Int) = (E : Int) := ⟨at' + M, by omega, by omega⟩
        have hxa : (E : Int) ≤ (n : Int) := by omega
        have hxb : (at' : Int) ≤ (E : Int) := by omega
        have hwE : IntKind.i64.wrap (E : Int) = (E : Int) := by rw [IntKind.wrap_i64]; omega
        have hwS : IntKind.i64.wrap ((at' : Int) + (M : Int)) = (E : Int) := by rw [hsum]; exact hwE
        have hxc : at' ≤ E := by omega
        have hxd : E ≤ n := by omega
        have hcp : ∀ W, w.Since w.heap.size W → Calls Tryz.prog 15 #[.slice (if n = at' then some ⟨hb, 0, none⟩ else some ⟨hb, at', none⟩) (E - at') (n - at')] W fun e w' => e = .returned (.slice (some ⟨W.heap.size, 0, none⟩) M M) ∧ W.Since W.heap.size w' ∧ w'.rowIs W.heap.size 5 M (fun j => .int .u8 (z (at' + j) : Nat)) := fun W hs => by
          rw [hE]
          by_cases hna : n = at'
          · rw [if_pos hna]
            exact (copy_any _ M (n - at') (fun j => z (at' + j)) W (by omega) (eye_place h hs 0 M (by omega) (fun hh => absurd hna hh))).mono fun e w' ⟨h1, h2, _, h4⟩ => ⟨h1, h2, h4⟩
          · rw [if_neg hna]
            exact (copy_any _ M (n - at') (fun j => z (at' + j)) W (by omega) (eye_place h hs at' M (by omega) (fun _ => rfl))).mono fun e w' ⟨h1, h2, _, h4⟩ => ⟨h1, h2, h4⟩
        have HL := hide hcp
        clear hcp
        go_enter Tryz.func169, Tryz.ntmps169
        generalize hLL : ((n - at' : Nat) : Int) = LL at *
        go_wp2_with fail
        refine hlf.mono ?_
        rintro e w1 ⟨rfl, m1, rfl⟩
        have hs1 := since_drewN' (World.Since.refl w.heap.size w) m1
        have h1 := h.since hs1
        have hlt := h1.rd.lt
        generalize w.drewN m1 = w1 at *
        clear hlf c2 hLL hE
        have d0 := h1.c0
        have d1 := h1.c1
        have hwz : w.heap.size ≤ w1.heap.size := hs1.size
        go_upto_region 9 with fail
        go_cut [5] from 26 to 51 (fun s5 wx => ∃ g, s5 = .slice (some ⟨g, 0, none⟩) M M ∧ w.heap.size ≤ g ∧ w1.Since w1.heap.size wx ∧ wx.rowIs g 5 M (fun j => .int .u8 (z (at' + j) : Nat)))
        case first =>
          by_cases hna : n = at'
          · subst hna
            obtain rfl : n = E := by omega
            obtain rfl : M = 0 := by omega
            rw [if_pos rfl, Nat.sub_self] at HL
            go_region_held3 (fun W => w1.Since w1.heap.size W ∧ W.cell? ⟨eb, 0, none⟩ = some (.slice (some ⟨hb, 0, none⟩) n n) ∧ W.cell? ⟨eb, 1, none⟩ = some (.int .i64 n))
              ((first | exact ⟨(World.Since.refl _ _).drew, d0, d1⟩ | exact ⟨hs2, (h1.since hs2).c0, (h1.since hs2).c1⟩))
              ((first | (go_at_call 15; refine ((unhide HL) _ (hs1.trans (since_mono (B := w1.heap.size) (World.Since.refl _ _).drew (by omega)))).mono ?_; rintro e w2 ⟨rfl, hs2', hr2⟩; have hs2 : w1.Since w1.heap.size w2 := (World.Since.refl _ _).drew.trans hs2')))
            all_goals
              go_wp2_with fail
              go_meet
              case rel => go_light; exact ⟨_, rfl, hwz, hs2, hr2⟩
          · rw [if_neg hna] at HL
            go_region_held3 (fun W => w1.Since w1.heap.size W ∧ W.cell? ⟨eb, 0, none⟩ = some (.slice (some ⟨hb, 0, none⟩) n n) ∧ W.cell? ⟨eb, 1, none⟩ = some (.int .i64 at'))
              ((first | exact ⟨(World.Since.refl _ _).drew, d0, d1⟩ | exact ⟨hs2, (h1.since hs2).c0, (h1.since hs2).c1⟩))
              ((first | (go_at_call 15; refine ((unhide HL) _ (hs1.trans (since_mono (B := w1.heap.size) (World.Since.refl _ _).drew (by omega)))).mono ?_; rintro e w2 ⟨rfl, hs2', hr2⟩; have hs2 : w1.Since w1.heap.size w2 := (World.Since.refl _ _).drew.trans hs2')))
            all_goals
              go_wp2_with fail
              go_meet
              case rel => go_light; exact ⟨_, rfl, hwz, hs2, hr2⟩
        case rest =>
          obtain ⟨g, rfl, hg, hs2, hr2⟩ := hcut
          have h2 := h1.since hs2
          have t1 := h2.c1
          have tf := h2.rd.frozen 1
          have hI := h2.setAt (at' + M) (by omega)
          have hsw := hs1.trans (since_mono hs2 hwz)
          have hB : But eb w (wc.setCell ⟨eb, 1, none⟩ (.int .i64 ((at' + M : Nat) : Int))) := (But.of_since hsw).setCell 1 _
          have hge : g ≠ eb := fun e => by
            subst e
            have := hr2.lt
            have hh := h.rd.lt
            omega
          have hT : Txt w.heap.size (wc.setCell ⟨eb, 1, none⟩ (.int .i64 ((at' + M : Nat) : Int))) (some ⟨g, 0, none⟩) M (fun j => z (at' + j)) := Or.inr ⟨g, rfl, hg, hr2.setOther (by show g ≠ eb; exact hge) _⟩
          have ec : ((at' + M : Nat) : Int) = (at' : Int) + (M : Int) := by omega
          rw [ec, hsum] at hI hB hT
          clear HL d0 d1 hlt
          go_wp2_with fail
          go_ret
          exact ⟨⟨_, rfl, hT⟩, hB, hI⟩
  · rw [if_pos hbad]
    have hq : ((bad : Int) != 0) = true := by simp; omega
    go_enter Tryz.func169, Tryz.ntmps169
    go_wp2_with fail
    go_ret
    exact ⟨⟨none, rfl, txt_none _ _ _ _ rfl⟩, But.of_since (World.Since.refl _ _), h⟩
end Go.Proofs.YtonpmabdjngdcaaGreatDoor

/- What is read, written anew, is the bytes that were read: the plain mathematics. -/
namespace Go.Proofs.YtonpmabdjngdcaaGreatDoor
open Go.RowKit

theorem be_div (z : Nat → Nat) (hz : ∀ j, z j < 256) (k : Nat) : ∀ d, be z (k + d) / 256 ^ d = be z k
  | 0 => by simp
  | d + 1 => by
    have e : be z (k + (d + 1)) = be z (k + d) * 256 + z (k + d) := rfl
    have h := hz (k + d)
    rw [e, Nat.pow_succ, Nat.mul_comm (256 ^ d) 256, ← Nat.div_div_eq_div_mul, show (be z (k + d) * 256 + z (k + d)) / 256 = be z (k + d) by omega]
    exact be_div z hz k d
theorem fl_be (z : Nat → Nat) (hz : ∀ j, z j < 256) (width : Nat) : fl width (be z width) = (List.range width).map z := by
  unfold fl
  apply List.map_congr_left
  intro i hi
  have hi := List.mem_range.1 hi
  have e : width = (i + 1) + (width - 1 - i) := by omega
  have h1 := be_div z hz (i + 1) (width - 1 - i)
  rw [← e] at h1
  rw [h1]
  show (be z i * 256 + z i) % 256 = z i
  have := hz i
  omega
theorem range_cat (z : Nat → Nat) (a b : Nat) : (List.range a).map z ++ (List.range b).map (fun j => z (a + j)) = (List.range (a + b)).map z := by
  rw [List.range_add, List.map_append, List.map_map]; rfl

theorem vs_shift (z : Nat → Nat) : ∀ s, vs z (s + 1) = z 0 % 128 + 128 * vs (fun j => z (j + 1)) s
  | 0 => by simp [vs]
  | s + 1 => by
    have h := vs_shift z s
    have e1 : vs z (s + 1 + 1) = vs z (s + 1) + z (s + 1) % 128 * 128 ^ (s + 1) := rfl
    have e2 : vs (fun j => z (j + 1)) (s + 1) = vs (fun j => z (j + 1)) s + z (s + 1) % 128 * 128 ^ s := rfl
    rw [e1, e2, h, Nat.pow_succ, Nat.mul_add]
    have : z (s + 1) % 128 * (128 ^ s * 128) = 128 * (z (s + 1) % 128 * 128 ^ s) := by rw [← Nat.mul_assoc, Nat.mul_comm]
    omega
/-- A number in its shortest form: digits that go on, a last one that doesn't, and that isn't 0 but alone. -/
structure Shape (z : Nat → Nat) (s : Nat) : Prop where
  pos : 0 < s
  byte : ∀ j, z j < 256
  more : ∀ j, j + 1 < s → 128 ≤ z j
  last : z (s - 1) < 128
  nz : z (s - 1) = 0 → s = 1
theorem vl_shape : ∀ (s f : Nat) (z : Nat → Nat), Shape z s → s ≤ f + 1 → vl f (vs z s) = (List.range s).map z
  | 0, f, z, h, _ => absurd h.pos (Nat.lt_irrefl _)
  | 1, f, z, h, _ => by
    have h1 := h.last
    have h2 : z 0 < 128 := h1
    have e : vs z 1 = z 0 := by simp [vs]; omega
    rw [e]
    cases f with
    | zero => show [z 0 % 256] = [z 0]; rw [Nat.mod_eq_of_lt (by omega)]
    | succ f => unfold vl; rw [if_pos h2]; rfl
  | s + 2, f, z, h, hf => by
    have h0 := h.more 0 (by omega)
    have hb := h.byte 0
    have hS : Shape (fun j => z (j + 1)) (s + 1) := ⟨by omega, fun j => h.byte _, fun j hj => h.more (j + 1) (by omega), h.last, fun e => by have := h.nz e; omega⟩
    obtain ⟨g, rfl⟩ : ∃ g, f = g + 1 := ⟨f - 1, by omega⟩
    have ih := vl_shape (s + 1) g (fun j => z (j + 1)) hS (by omega)
    have hpos : 0 < vs (fun j => z (j + 1)) (s + 1) := by
      have e : vs (fun j => z (j + 1)) (s + 1) = vs (fun j => z (j + 1)) s + z (s + 1) % 128 * 128 ^ s := rfl
      have hl : z (s + 1) < 128 := h.last
      have hn : z (s + 1) ≠ 0 := fun e => by have := h.nz e; omega
      have : 0 < z (s + 1) % 128 * 128 ^ s := Nat.mul_pos (by omega) (Nat.pow_pos (by decide))
      omega
    have hN := vs_shift z (s + 1)
    rw [hN]
    unfold vl
    rw [if_neg (by omega), show (z 0 % 128 + 128 * vs (fun j => z (j + 1)) (s + 1)) / 128 = vs (fun j => z (j + 1)) (s + 1) by omega, ih, show (z 0 % 128 + 128 * vs (fun j => z (j + 1)) (s + 1)) % 128 + 128 = z 0 by omega]
    have er : (List.range (s + 2)).map z = z 0 :: (List.range (s + 1)).map (fun j => z (j + 1)) := by
      rw [show s + 2 = (s + 1) + 1 from rfl, List.range_succ_eq_map, List.map_cons, List.map_map]; rfl
    rw [er]
theorem vres_shape (z : Nat → Nat) (hz : ∀ j, z j < 256) (m most : Nat) : ∀ f i, (vres z m most f i).2.2 = 0 → (∀ j, i ≤ j → j + 1 < (vres z m most f i).2.1 → 128 ≤ z j) ∧ z ((vres z m most f i).2.1 - 1) < 128 ∧ (z ((vres z m most f i).2.1 - 1) = 0 → (vres z m most f i).2.1 = 1) ∧ (vres z m most f i).2.1 ≤ i + f
  | 0, i, h => by simp [vres] at h
  | f + 1, i, h => by
    unfold vres at h ⊢
    split at h
    · simp at h
    · next h1 =>
      rw [if_neg h1]
      split at h
      · simp at h
      · next h2 =>
        rw [if_neg h2]
        split at h
        · next h3 =>
          rw [if_pos h3]
          have := vres_shape z hz m most f (i + 1) h
          refine ⟨fun j hj hj2 => ?_, this.2.1, this.2.2.1, by omega⟩
          rcases Nat.eq_or_lt_of_le hj with e | e
          · rw [← e]; exact h3
          · exact this.1 j (by omega) hj2
        · next h3 =>
          rw [if_neg h3]
          split at h
          · simp at h
          · next h4 =>
            rw [if_neg h4]
            split at h
            · simp at h
            · next h5 =>
              rw [if_neg h5]
              refine ⟨fun j hj hj2 => ?_, ?_, ?_, by show i + 1 ≤ i + (f + 1); omega⟩
              · have : j + 1 < i + 1 := hj2
                omega
              · show z (i + 1 - 1) < 128
                rw [Nat.add_sub_cancel]; omega
              · show z (i + 1 - 1) = 0 → i + 1 = 1
                rw [Nat.add_sub_cancel]; omega
/-- WHAT IS READ AS A NUMBER, WRITTEN ANEW. -/
theorem vl_read (z : Nat → Nat) (hz : ∀ j, z j < 256) (m most : Nat) (h : (vlook z m most).2.2 = 0) : vl 9 (vlook z m most).1 = (List.range (vlook z m most).2.1).map z := by
  obtain ⟨h1, h2, h3, h4⟩ := vlook_size z m most h
  obtain ⟨g1, g2, g3, g4⟩ := vres_shape z hz m most 10 0 h
  rw [h3]
  exact vl_shape _ 9 z ⟨h2, hz, fun j hj => g1 j (Nat.zero_le _) hj, g2, g3⟩ (by have : (vlook z m most).2.1 ≤ 0 + 10 := g4; omega)
theorem vlook_lt (z : Nat → Nat) (hz : ∀ j, z j < 256) (m most : Nat) (hm : most < 18446744073709551616) : (vlook z m most).1 < 18446744073709551616 := by
  by_cases h : (vlook z m most).2.2 = 0
  · have := (vlook_size z m most h).2.2.2; have := hz 0; omega
  · rw [(vlook_bad z m most h).1]; decide
end Go.Proofs.YtonpmabdjngdcaaGreatDoor

/- The document's Reader: numbers of fixed size, End, and the place of a number's last byte. -/
namespace Go.Proofs.YtonpmabdjngdcaaGreatDoor
open Go.RowKit
set_option maxRecDepth 100000

theorem txt_byt' {B : Nat} {w : World} {ta : Option Addr} {l : Nat} {tx : Nat → Nat} (h : Txt B w ta l tx) : Byt w ta l tx ∧ (ta = none → l = 0 ∧ l = 0) ∧ ∀ b off, ta = some ⟨b, off, none⟩ → B ≤ b := by
  rcases h with ⟨rfl, rfl⟩ | ⟨t, rfl, hb, hr⟩
  · exact ⟨fun j hj => absurd hj (Nat.not_lt_zero _), fun _ => ⟨rfl, rfl⟩, fun b off e => by cases e⟩
  · exact ⟨Byt.of_row hr, (fun e => by cases e), (fun b off e => by cases e; exact hb)⟩
theorem fix_raw (z : Nat → Nat) (n k at' bad : Nat) : fixAns z n k at' bad = (be (fun j => z (at' + j)) (rawAns n k at' bad).1, (rawAns n k at' bad).2.2.1, (rawAns n k at' bad).2.2.2) := by
  unfold fixAns rawAns
  by_cases hb : bad ≠ 0
  · rw [if_pos hb, if_pos hb]; rfl
  · rw [if_neg hb, if_neg hb, if_neg (show ¬ ((k : Int) < 0) by omega), Int.toNat_natCast]
    unfold rlook
    by_cases hs : n - at' < k
    · rw [if_pos hs, if_pos hs]; rfl
    · rw [if_neg hs, if_neg hs]
theorem raw_from (n : Nat) (k : Int) (at' bad : Nat) : (rawAns n k at' bad).2.1 = at' := by
  unfold rawAns
  split
  · rfl
  · split <;> rfl
theorem raw_le (n k at' bad : Nat) : (rawAns n k at' bad).1 ≤ k := by
  unfold rawAns
  split
  · exact Nat.zero_le _
  · rw [if_neg (by omega), Int.toNat_natCast]
    unfold rlook
    split
    · exact Nat.zero_le _
    · exact Nat.le_refl _

set_option maxHeartbeats 800000 in
theorem eyeFixed (eb hb n at' bad k : Nat) (z : Nat → Nat) (w : World) (h : IsE w eb hb n z at' bad) (hk : k ≤ 8) :
    Calls Tryz.prog 166 #[.pointer (some ⟨eb, 0, none⟩), .int .i64 k] w fun e w' => e = .returned (.int .u64 ((fixAns z n k at' bad).1 : Nat)) ∧ But eb w w' ∧ IsE w' eb hb n z (fixAns z n k at' bad).2.1 (fixAns z n k at' bad).2.2 := by
  have hr := eyeRaw eb hb n at' bad k z w h (by omega)
  have hkl := raw_le n k at' bad
  rw [fix_raw]
  rw [raw_from] at hr
  have hz := h.byte
  generalize rawAns n k at' bad = V at *
  obtain ⟨l, fr, at2, bad2⟩ := V
  replace hkl : l ≤ k := hkl
  go_enter Tryz.func166, Tryz.ntmps166
  go_wp2_with fail
  refine hr.mono ?_
  rintro e w1 ⟨⟨ta, rfl, htx⟩, hB, hI⟩
  obtain ⟨hy, _, _⟩ := txt_byt' htx
  clear hr htx
  go_wp2_with fail
  go_loopg [6, 7] l (fun q s6 s7 wx => ∃ i : Nat, i ≤ l ∧ q = l - i ∧ s6 = .int .u64 (be (fun j => z (at' + j)) i : Nat) ∧ s7 = .int .i64 i ∧ wx = w1)
  case atStart => exact ⟨0, Nat.zero_le _, rfl, rfl, rfl, rfl⟩
  case round =>
    obtain ⟨i, hi, rfl, rfl, rfl, hwx⟩ := hrel
    subst hwx
    by_cases hlt : i < l
    · have hlz : (i : Int) < (l : Int) := by omega
      obtain ⟨b, off, rfl, hc0⟩ := hy i hlt
      have hc : wr.cell? ⟨b, off + i, none⟩ = some (.int .u8 (z (at' + i) : Nat)) := hc0
      have b1 := be_lt64 (fun j => z (at' + j)) (fun j => hz _) (i + 1) (by omega)
      have e1 : be (fun j => z (at' + j)) (i + 1) = be (fun j => z (at' + j)) i * 256 + z (at' + i) := rfl
      have b2 : be (fun j => z (at' + j)) i * 256 < 18446744073709551616 := by omega
      have b3 := hz (at' + i)
      have hsum : ((be (fun j => z (at' + j)) i : Nat) : Int) * 256 + ((z (at' + i) : Nat) : Int) = ((be (fun j => z (at' + j)) (i + 1) : Nat) : Int) := by omega
      clear hy e1 hc0
      generalize hN1 : be (fun j => z (at' + j)) (i + 1) = N1 at *
      generalize be (fun j => z (at' + j)) i = N0 at *
      generalize z (at' + i) = c at *
      go_wp2_with fail
      go_roundg (l - (i + 1))
      case measure => go_light; omega
      case rel => go_light; exact ⟨i + 1, by omega, rfl, by rw [hN1], by simp, rfl⟩
    · obtain rfl : i = l := by omega
      go_wp2_with fail
      go_ret
      exact ⟨rfl, hB, hI⟩

theorem eyeU8 (eb hb n at' bad : Nat) (z : Nat → Nat) (w : World) (h : IsE w eb hb n z at' bad) :
    Calls Tryz.prog 143 #[.pointer (some ⟨eb, 0, none⟩)] w fun e w' => e = .returned (.int .u8 ((fixAns z n 1 at' bad).1 : Nat)) ∧ But eb w w' ∧ IsE w' eb hb n z (fixAns z n 1 at' bad).2.1 (fixAns z n 1 at' bad).2.2 := by
  have hr := eyeFixed eb hb n at' bad 1 z w h (by decide)
  have hlt : (fixAns z n 1 at' bad).1 < 256 := by
    rw [fix_raw]
    exact Nat.lt_of_lt_of_le (be_lt _ (fun j => h.byte _) _) (Nat.pow_le_pow_right (n := 256) (by decide) (raw_le n 1 at' bad))
  generalize fixAns z n 1 at' bad = V at *
  obtain ⟨A, a2, b2⟩ := V
  go_enter Tryz.func143, Tryz.ntmps143
  go_wp2_with fail
  refine hr.mono ?_
  rintro e w1 ⟨rfl, hB, hI⟩
  go_wp2
  go_ret
  exact ⟨rfl, hB, hI⟩

/-- The first place of the first ten that has a byte below 128. -/
def lastAt (z : Nat → Nat) (m : Nat) : Nat → Nat → Option Nat
  | 0, _ => none
  | f + 1, i => if i < m then (if z i < 128 then some i else lastAt z m f (i + 1)) else none

set_option maxHeartbeats 1600000 in
theorem eyeLast (eb hb n at' bad : Nat) (z : Nat → Nat) (w : World) (h : IsE w eb hb n z at' bad) (R : Option Nat) (hR : lastAt (fun j => z (at' + j)) (n - at') 10 0 = R) :
    Calls Tryz.prog 167 #[.pointer (some ⟨eb, 0, none⟩)] w fun e w' => e = .returned (.int .i64 (match R with | none => -1 | some i => ((at' + i : Nat) : Int))) ∧ w.Since w.heap.size w' := by
  have hle := h.le
  have hroom := h.room
  go_enter Tryz.func167, Tryz.ntmps167
  go_wp2_with fail
  go_loopg [3] 10 (fun q s3 wx => ∃ i : Nat, i ≤ 10 ∧ q = 10 - i ∧ s3 = .int .i64 i ∧ w.Since w.heap.size wx ∧ lastAt (fun j => z (at' + j)) (n - at') (10 - i) i = R)
  case atStart => exact ⟨0, by omega, rfl, rfl, World.Since.refl _ _, hR⟩
  case round =>
    obtain ⟨i, hi, rfl, rfl, hs, hv⟩ := hrel
    have h1 := h.since hs
    have c0 := h1.c0
    have c1 := h1.c1
    by_cases h10 : i = 10
    · subst h10
      obtain rfl : none = R := hv
      go_wp2_with fail
      go_quiet (fail)
      go_wp2_with fail
      go_ret
      exact ⟨rfl, since_drewN' hs _⟩
    · obtain ⟨f, hf⟩ : ∃ f, 10 - i = f + 1 := ⟨9 - i, by omega⟩
      rw [hf] at hv
      unfold lastAt at hv
      have hi10 : (i : Int) < 10 := by omega
      obtain ⟨E, hE, hsum⟩ : ∃ E : Nat, at' + i = E ∧ (at' : Int) + (i : Int) = (E : Int) := ⟨at' + i, rfl, by omega⟩
      have hwE : IntKind.i64.wrap (E : Int) = (E : Int) := by rw [IntKind.wrap_i64]; omega
      have hwS : IntKind.i64.wrap ((at' : Int) + (i : Int)) = (E : Int) := by rw [hsum]; exact hwE
      have hf' : f = 9 - i := by omega
      by_cases hin : i < n - at'
      · rw [if_pos hin] at hv
        have hlt : (E : Int) < (n : Int) := by omega
        have cz : wr.cell? ⟨hb, E, none⟩ = some (.int .u8 (z E : Nat)) := h1.row.cell (i := E) (by omega)
        have hv1 : (if z E < 128 then some i else lastAt (fun j => z (at' + j)) (n - at') f (i + 1)) = R := by rw [← hE]; exact hv
        clear hv hf
        go_wp2_with fail
        go_quiet (fail)
        have hs2 := since_drewN' hs nq
        have h2 := h.since hs2
        have c0' := h2.c0
        have c1' := h2.c1
        have cz' : (wr.drewN nq).cell? ⟨hb, E, none⟩ = some (.int .u8 (z E : Nat)) := h2.row.cell (i := E) (by omega)
        generalize wr.drewN nq = wq at *
        clear c0 c1 cz h1
        by_cases hz : z E < 128
        · rw [if_pos hz] at hv1
          subst hv1
          have hz' : (z E : Int) < 128 := by omega
          go_wp2_with fail
          go_quiet (fail)
          have hs3 := since_drewN' hs2 nq
          have c1'' := (h.since hs3).c1
          generalize wq.drewN nq = wq2 at *
          go_wp2_with fail
          go_ret
          exact ⟨ret_int (by first | (simp; omega) | simp), hs3⟩
        · rw [if_neg hz] at hv1
          have hz' : ¬ ((z E : Int) < 128) := by omega
          go_wp2_with fail
          go_quiet (fail)
          have hs3 := since_drewN' hs2 nq
          generalize wq.drewN nq = wq2 at *
          go_wp2_with fail
          go_roundg (10 - (i + 1))
          case measure => go_light; omega
          case rel => go_light; exact ⟨i + 1, by omega, rfl, by simp, hs3, by rw [show 10 - (i + 1) = f by omega]; exact hv1⟩
      · rw [if_neg hin] at hv
        subst hv
        have hlt : ¬ ((E : Int) < (n : Int)) := by omega
        clear hf
        go_wp2_with fail
        go_quiet (fail)
        have hs2 := since_drewN' hs nq
        generalize wr.drewN nq = wq at *
        go_wp2_with fail
        go_ret
        exact ⟨rfl, hs2⟩
end Go.Proofs.YtonpmabdjngdcaaGreatDoor

/- What the document's Reader takes for a number, against package code's: the plain mathematics; Eq of bytes that differ. -/
namespace Go.Proofs.YtonpmabdjngdcaaGreatDoor
open Go.RowKit
set_option maxRecDepth 100000

theorem vres_last (z : Nat → Nat) (m most : Nat) : ∀ f i, i + f = 10 → i ≤ m → vres z m most f i = match lastAt z m f i with
    | none => if m < 10 then (0, 0, 10) else (0, 0, 11)
    | some k => if (k = 9 ∧ 1 < z k) ∨ (z k = 0 ∧ 0 < k) then (0, 0, 11) else if most < vs z (k + 1) then (0, 0, 12) else (vs z (k + 1), k + 1, 0)
  | 0, i, hi, him => by
    show ((0, 0, 11) : Nat × Nat × Nat) = if m < 10 then (0, 0, 10) else (0, 0, 11)
    rw [if_neg (by omega)]
  | f + 1, i, hi, him => by
    unfold vres lastAt
    by_cases h1 : i = m
    · rw [if_pos h1, if_neg (by omega)]
      show _ = if m < 10 then (0, 0, 10) else (0, 0, 11)
      rw [if_pos (by omega)]
    · rw [if_neg h1, if_pos (show i < m by omega)]
      by_cases h3 : 128 ≤ z i
      · rw [if_neg (show ¬ z i < 128 by omega)]
        by_cases h2 : i = 9 ∧ 1 < z i
        · rw [if_pos h2]
          obtain rfl : f = 0 := by omega
          show _ = if m < 10 then (0, 0, 10) else (0, 0, 11)
          rw [if_neg (by omega)]
        · rw [if_neg h2, if_pos h3]
          exact vres_last z m most f (i + 1) (by omega) (by omega)
      · rw [if_pos (show z i < 128 by omega)]
        show _ = if (i = 9 ∧ 1 < z i) ∨ (z i = 0 ∧ 0 < i) then ((0, 0, 11) : Nat × Nat × Nat) else if most < vs z (i + 1) then (0, 0, 12) else (vs z (i + 1), i + 1, 0)
        by_cases h2 : i = 9 ∧ 1 < z i
        · rw [if_pos h2, if_pos (Or.inl h2)]
        · rw [if_neg h2, if_neg h3]
          by_cases h4 : z i = 0 ∧ 0 < i
          · rw [if_pos h4, if_pos (Or.inr h4)]
          · rw [if_neg h4, if_neg (show ¬ ((i = 9 ∧ 1 < z i) ∨ (z i = 0 ∧ 0 < i)) from fun h => h.elim h2 h4)]
theorem last_some (z : Nat → Nat) (m : Nat) : ∀ f i k, lastAt z m f i = some k → i ≤ k ∧ k < i + f ∧ k < m ∧ z k < 128 ∧ ∀ j, i ≤ j → j < k → 128 ≤ z j
  | 0, i, k, h => by simp [lastAt] at h
  | f + 1, i, k, h => by
    unfold lastAt at h
    split at h
    · next h1 =>
      split at h
      · next h2 => cases h; exact ⟨Nat.le_refl _, by omega, h1, h2, fun j _ _ => by omega⟩
      · next h2 =>
        obtain ⟨a, b, c, d, e⟩ := last_some z m f (i + 1) k h
        refine ⟨by omega, by omega, c, d, fun j hj hk => ?_⟩
        rcases Nat.eq_or_lt_of_le hj with ee | ee
        · rw [← ee]; omega
        · exact e j (by omega) hk
    · cases h
theorem vs_congr {x y : Nat → Nat} : ∀ s, (∀ j, j < s → x j = y j) → vs x s = vs y s
  | 0, _ => rfl
  | s + 1, h => by
    show vs x s + x s % 128 * 128 ^ s = vs y s + y s % 128 * 128 ^ s
    rw [vs_congr s (fun j hj => h j (by omega)), h s (by omega)]
theorem vs_one (x : Nat → Nat) : vs x 1 = x 0 % 128 := by simp [vs]
theorem vs_vl : ∀ f N, N < 128 ^ (f + 1) → vs (fun j => (vl f N).getD j 0) (vl f N).length = N
  | 0, N, h => by
    show vs (fun j => [N % 256].getD j 0) 1 = N
    rw [vs_one]
    show N % 256 % 128 = N
    have : N < 128 := by simpa using h
    omega
  | f + 1, N, h => by
    unfold vl
    by_cases h1 : N < 128
    · rw [if_pos h1]
      show vs (fun j => [N].getD j 0) 1 = N
      rw [vs_one]
      show N % 128 = N
      omega
    · rw [if_neg h1]
      have ih := vs_vl f (N / 128) (by rw [Nat.pow_succ] at h; omega)
      show vs (fun j => ((N % 128 + 128) :: vl f (N / 128)).getD j 0) ((vl f (N / 128)).length + 1) = N
      rw [vs_shift]
      show (N % 128 + 128) % 128 + 128 * vs (fun j => (vl f (N / 128)).getD j 0) (vl f (N / 128)).length = N
      rw [ih]
      omega
theorem eye_vl_pos (f N : Nat) : 0 < (vl f N).length := by
  cases f with
  | zero => exact Nat.zero_lt_one
  | succ f => unfold vl; split <;> simp
theorem vl_last : ∀ f N, 0 < N → N < 128 ^ (f + 1) → (vl f N).getD ((vl f N).length - 1) 0 ≠ 0
  | 0, N, hp, h => by
    show [N % 256].getD 0 0 ≠ 0
    show N % 256 ≠ 0
    have : N < 128 := by simpa using h
    omega
  | f + 1, N, hp, h => by
    unfold vl
    by_cases h1 : N < 128
    · rw [if_pos h1]
      show N ≠ 0
      omega
    · rw [if_neg h1]
      have ih := vl_last f (N / 128) (by omega) (by rw [Nat.pow_succ] at h; omega)
      have hl := eye_vl_pos f (N / 128)
      show ((N % 128 + 128) :: vl f (N / 128)).getD ((vl f (N / 128)).length + 1 - 1) 0 ≠ 0
      have hL : (vl f (N / 128)).length + 1 - 1 = ((vl f (N / 128)).length - 1) + 1 := by omega
      rw [hL, List.getD_cons_succ]
      exact ih
/-- Bytes that are no number's shortest form. -/
theorem vl_ne (z : Nat → Nat) (k : Nat) (hk : k < 10) (hb : (k = 9 ∧ 1 < z k) ∨ (z k = 0 ∧ 0 < k)) (hz : z k < 128) : ¬ ((vl 9 (vs z (k + 1) % 18446744073709551616)).length = k + 1 ∧ ∀ j, j < k + 1 → (vl 9 (vs z (k + 1) % 18446744073709551616)).getD j 0 = z j) := by
  rintro ⟨h1, h2⟩
  have hlt : vs z (k + 1) % 18446744073709551616 < 18446744073709551616 := Nat.mod_lt _ (by decide)
  generalize hN : vs z (k + 1) % 18446744073709551616 = N at *
  have hp : N < 128 ^ (9 + 1) := Nat.lt_of_lt_of_le hlt (by decide)
  have e1 := vs_vl 9 N hp
  rw [h1, vs_congr (k + 1) h2] at e1
  rcases hb with ⟨rfl, h9⟩ | ⟨h0, hpos⟩
  · have e : vs z (9 + 1) = vs z 9 + z 9 % 128 * 128 ^ 9 := rfl
    have h3 : 2 * 128 ^ 9 ≤ z 9 % 128 * 128 ^ 9 := Nat.mul_le_mul_right _ (by omega)
    omega
  · by_cases hN0 : N = 0
    · subst hN0
      have : (vl 9 0).length = 1 := by decide
      omega
    · have := vl_last 9 N (by omega) hp
      rw [h1, Nat.add_sub_cancel, h2 k (by omega)] at this
      exact this h0
/-- Bytes that are one. -/
theorem vl_eq (z : Nat → Nat) (hz : ∀ j, z j < 256) (k : Nat) (hk : k < 10) (hb : ¬ ((k = 9 ∧ 1 < z k) ∨ (z k = 0 ∧ 0 < k))) (hl : z k < 128) (hm : ∀ j, j < k → 128 ≤ z j) : vs z (k + 1) % 18446744073709551616 = vs z (k + 1) ∧ vl 9 (vs z (k + 1)) = (List.range (k + 1)).map z := by
  have hlt : vs z (k + 1) < 18446744073709551616 := by
    have e : vs z (k + 1) = vs z k + z k % 128 * 128 ^ k := rfl
    by_cases e9 : k = 9
    · subst e9
      have := vs_lt z 9
      have h3 : z 9 % 128 * 128 ^ 9 ≤ 1 * 128 ^ 9 := Nat.mul_le_mul_right _ (by omega)
      omega
    · have h1 := vs_lt z (k + 1)
      have h2 : 128 ^ (k + 1) ≤ 128 ^ 9 := Nat.pow_le_pow_right (by decide) (by omega)
      omega
  exact ⟨Nat.mod_eq_of_lt hlt, vl_shape (k + 1) 9 z ⟨by omega, hz, fun j hj => hm j (by omega), hl, fun e => by
    have e : z k = 0 := e
    omega⟩ (by omega)⟩

set_option maxHeartbeats 800000 in
/-- Cmp of bytes that differ. -/
theorem cmp_diff (a b : Option Addr) (n m c d : Nat) (x y : Nat → Nat) (w : World) (ha : Byt w a n x) (hb : Byt w b m y) (hn : n ≤ 140737488355328) (_hm : m ≤ 140737488355328) (hne : ¬ (n = m ∧ ∀ j, j < n → x j = y j)) :
    Calls Tryz.prog 43 #[.slice a n c, .slice b m d] w fun e w' => (e = .returned (.int .i64 (-1)) ∨ e = .returned (.int .i64 1)) ∧ ∃ k, w' = w.drewN k := by
  go_enter Tryz.func43, Tryz.ntmps43
  go_wp2_with fail
  go_loopg [5] n (fun q s5 wx => ∃ i k : Nat, i ≤ n ∧ i ≤ m ∧ q = n - i ∧ s5 = .int .i64 i ∧ wx = w.drewN k ∧ ∀ j, j < i → x j = y j)
  case atStart => exact ⟨0, 0, Nat.zero_le _, Nat.zero_le _, rfl, rfl, rfl, fun j hj => absurd hj (Nat.not_lt_zero _)⟩
  case round =>
    obtain ⟨i, k, hi, him, rfl, rfl, rfl, hq⟩ := hrel
    by_cases hlt : i < n ∧ i < m
    · obtain ⟨b1, o1, rfl, hc1⟩ := ha i hlt.1
      obtain ⟨b2, o2, rfl, hc2⟩ := hb i hlt.2
      have hc1' : (w.drewN k).cell? ⟨b1, o1 + i, none⟩ = some (.int .u8 (x i : Nat)) := hc1
      have hc2' : (w.drewN k).cell? ⟨b2, o2 + i, none⟩ = some (.int .u8 (y i : Nat)) := hc2
      have hz : (i : Int) < (n : Int) := by omega
      have hz2 : (i : Int) < (m : Int) := by omega
      have HD : Hid (∀ n, (w.drewN k).drewN n = w.drewN (k + n)) := fun n => World.drewN_drewN _ _ _
      generalize w.drewN k = wd at *
      clear hc1 hc2 ha hb
      by_cases h1 : x i < y i
      · have h1' : (x i : Int) < (y i : Int) := by omega
        clear hne hq
        go_wp2_with fail
        go_quiet (fail)
        go_wp2_with fail
        go_ret
        exact ⟨Or.inl rfl, _, (unhide HD) _⟩
      · have h1' : ¬ ((x i : Int) < (y i : Int)) := by omega
        by_cases h2 : y i < x i
        · have h2' : (y i : Int) < (x i : Int) := by omega
          clear hne hq
          go_wp2_with fail
          go_quiet (fail)
          go_wp2_with fail
          go_quiet (fail)
          go_wp2_with fail
          go_ret
          exact ⟨Or.inr rfl, _, by rw [World.drewN_drewN]; exact (unhide HD) _⟩
        · have h2' : ¬ ((y i : Int) < (x i : Int)) := by omega
          have hxy : ∀ j, j < i + 1 → x j = y j := fun j hj => by
            rcases Nat.lt_or_ge j i with h | h
            · exact hq j h
            · obtain rfl : j = i := by omega
              omega
          clear hne hq h1 h2
          have HX := hide hxy
          clear hxy
          go_wp2_with fail
          go_quiet (fail)
          go_wp2_with fail
          go_quiet (fail)
          go_wp2_with fail
          go_roundg (n - (i + 1))
          case measure => go_light; omega
          case rel => go_light; exact ⟨i + 1, _, by omega, by omega, rfl, by simp, by first | exact (unhide HD) _ | (rw [World.drewN_drewN]; exact (unhide HD) _), unhide HX⟩
    · clear ha hb
      have hnm : n ≠ m := fun e => hne ⟨e, fun j hj => hq j (by omega)⟩
      clear hq hne
      have hil : (i : Int) < (n : Int) → ¬ ((i : Int) < (m : Int)) := by omega
      by_cases hin : (i : Int) < (n : Int)
      · have := hil hin
        have h3 : ¬ ((n : Int) < (m : Int)) := by omega
        have h4 : (m : Int) < (n : Int) := by omega
        clear hil
        go_wp2_with fail
        go_ret
        exact ⟨Or.inr rfl, k, rfl⟩
      · have h4 : (n : Int) < (m : Int) := by omega
        clear hil
        go_wp2_with fail
        go_ret
        exact ⟨Or.inl rfl, k, rfl⟩
theorem eq_diff (a b : Option Addr) (n m c d : Nat) (x y : Nat → Nat) (w : World) (ha : Byt w a n x) (hb : Byt w b m y) (hn : n ≤ 140737488355328) (hm : m ≤ 140737488355328) (hne : ¬ (n = m ∧ ∀ j, j < n → x j = y j)) :
    Calls Tryz.prog 13 #[.slice a n c, .slice b m d] w fun e w' => e = .returned (.bool false) ∧ ∃ m, w' = w.drewN m := by
  have hc := cmp_diff a b n m c d x y w ha hb hn hm hne
  go_enter Tryz.func13, Tryz.ntmps13
  go_wp2_with fail
  refine hc.mono ?_
  rintro e w1 ⟨rfl | rfl, k, rfl⟩
  · go_wp2
    go_ret
    exact ⟨rfl, k, rfl⟩
  · go_wp2
    go_ret
    exact ⟨rfl, k, rfl⟩
end Go.Proofs.YtonpmabdjngdcaaGreatDoor
