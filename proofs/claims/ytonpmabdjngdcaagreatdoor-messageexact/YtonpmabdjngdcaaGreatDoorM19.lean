/- Own texts, joined: Book6, Book7, Book8, Book9, TurnM, FamB, BackM, ExactB. -/
import Derived.Test.YtonpmabdjngdcaaGreatDoorM18
import Derived.Test.YtonpmabdjngdcaaGreatDoorM2
import Derived.Deep.RegionHeld3
import Derived.BigQuiet
import Derived.Test.YtonpmabdjngdcaaGreatDoorM4
import Derived.Test.YtonpmabdjngdcaaGreatDoorM10
import Derived.Test.YtonpmabdjngdcaaGreatDoorProg
import Derived.WalkKit
import Derived.OwnWalk
import Derived.Below
import Derived.Deep.OwnRows
import Derived.Deep.Onto
import Derived.Deep.DeepAppendWide
import Derived.Test.YtonpmabdjngdcaaGreatDoorM17

/- The walks of Book.plain and Book.holds. -/
namespace Go.Proofs.YtonpmabdjngdcaaGreatDoor
open Go.RowKit
set_option maxRecDepth 100000

theorem owns_form {w : World} {B e n : Nat} {v : Value} {f : Nat → Value} (h : w.ownsRow B e 1 v n ((List.range n).map f)) : ∃ a c, v = .slice a n c ∧ ∀ j, j < n → ∃ g, a = some ⟨g, 0, none⟩ ∧ w.cell? ⟨g, j, none⟩ = some (f j) := by
  rcases h.2 with ⟨rfl, h0⟩ | ⟨g, c, cur, rfl, _⟩
  · subst h0; exact ⟨none, 0, rfl, fun j hj => absurd hj (Nat.not_lt_zero _)⟩
  · exact ⟨_, c, rfl, fun j hj => ⟨g, rfl, by rw [h.cellAt j (by omega)]; simp [hj]⟩⟩

set_option maxHeartbeats 3200000 in
set_option maxRecDepth 100000 in
theorem book_plain {w : World} {B bk n lo hi : Nat} {A : Nat → Option Addr} {ln C M : Nat → Nat} {bv ov : Value} {at' turn done used : Nat} (h : BookIs w B bk n lo hi A ln C M bv ov at' turn done used) (ht : turn ≤ 10000000000000000) (hn : n ≤ 1000000) (hln : ∀ i, i < n → ln i ≤ 140737488355328) :
    Calls Tryz.prog 92 #[.pointer (some ⟨bk, 0, none⟩)] w fun e w' => e = .returned (.bool true) ∧ ∃ m, w' = w.drewN m := by
  obtain ⟨va, vc, rfl, hvc⟩ := owns_form h.ob
  obtain ⟨oa, oc, rfl, hoc⟩ := owns_form h.oo
  have c0 : ∀ m, (w.drewN m).cell? ⟨bk, 0, none⟩ = some (.slice va n vc) := fun m => h.row.cell (i := 0) (by decide)
  have c1 : ∀ m, (w.drewN m).cell? ⟨bk, 1, none⟩ = some (.slice oa n oc) := fun m => h.row.cell (i := 1) (by decide)
  have c3 : ∀ m, (w.drewN m).cell? ⟨bk, 3, none⟩ = some (.slice none 0 0) := fun m => h.row.cell (i := 3) (by decide)
  have hent : ∀ i, i < n → ∃ gv go, va = some ⟨gv, 0, none⟩ ∧ oa = some ⟨go, 0, none⟩ ∧ (∀ m, (w.drewN m).cell? ⟨gv, i, none⟩ = some (.slice (A i) (ln i) (C i))) ∧ (∀ m, (w.drewN m).cell? ⟨go, i, none⟩ = some (.int .i64 (M i : Nat))) := fun i hi => by
    obtain ⟨gv, e1, q1⟩ := hvc i hi
    obtain ⟨go, e2, q2⟩ := hoc i hi
    exact ⟨gv, go, e1, e2, fun m => q1, fun m => q2⟩
  have hby : ∀ i k, i < n → k < ln i → ∃ b off, A i = some ⟨b, off, none⟩ ∧ ∀ m, (w.drewN m).cell? ⟨b, off + k, none⟩ = some (.int .u8 (mrk (M i) k : Nat)) := fun i k hi hk => by
    obtain ⟨b, off, e, hc⟩ := h.byt i hi k hk
    exact ⟨b, off, e, fun m => hc⟩
  have hM : ∀ i, i < n → M i ≤ 10000000000000000 := fun i hi => Nat.le_trans (h.mt i hi) ht
  clear h hvc hoc
  go_enter Tryz.func92, Tryz.ntmps92
  go_wp2_with fail
  go_loopg [3] n (fun q s3 wx => ∃ (i m : Nat), i ≤ n ∧ q = n - i ∧ s3 = .int .i64 i ∧ wx = w.drewN m)
  case atStart => exact ⟨0, 0, Nat.zero_le _, rfl, rfl, rfl⟩
  case round =>
    obtain ⟨i, m, hi, rfl, rfl, rfl⟩ := hrel
    have d0 := c0 m
    by_cases hlt : i < n
    · obtain ⟨gv, go, rfl, rfl, cv, co⟩ := hent i hlt
      have dv := cv m
      have hz : (i : Int) < (n : Int) := by omega
      have hli := hln i hlt
      have hMi := hM i hlt
      have hb2 := fun k hk => hby i k hlt hk
      generalize A i = ta at *
      generalize ln i = tl at *
      generalize C i = tc at *
      generalize M i = mi at *
      go_wp2_with fail
      go_loopg [4] tl (fun q s4 wx => ∃ (k m : Nat), k ≤ tl ∧ q = tl - k ∧ s4 = .int .i64 k ∧ wx = w.drewN m)
      case atStart => exact ⟨0, m, Nat.zero_le _, rfl, rfl, rfl⟩
      case round =>
        obtain ⟨k, m2, hk, rfl, rfl, rfl⟩ := hrel
        have e0 := c0 m2
        have e1 := c1 m2
        have ev := cv m2
        have eo := co m2
        by_cases hkl : k < tl
        · obtain ⟨b, off, rfl, cb⟩ := hb2 k hkl
          have eb := cb m2
          have hkz : (k : Int) < (tl : Int) := by omega
          have hac : ∀ W, _ := fun W => at_any' mi k W hMi
          generalize mrk mi k = mk1 at *
          have HD : Hid (∀ n, (w.drewN m2).drewN n = w.drewN (m2 + n)) := fun n => World.drewN_drewN _ _ _
          generalize w.drewN m2 = wd at *
          go_upto_region 7 with fail
          go_region_held3 (fun W => W.cell? ⟨bk, 0, none⟩ = some (.slice (some ⟨gv, 0, none⟩) n vc) ∧ W.cell? ⟨bk, 1, none⟩ = some (.slice (some ⟨go, 0, none⟩) n oc) ∧ W.cell? ⟨gv, i, none⟩ = some (.slice (some ⟨b, off, none⟩) tl tc) ∧ W.cell? ⟨go, i, none⟩ = some (.int .i64 (mi : Nat)) ∧ W.cell? ⟨b, off + k, none⟩ = some (.int .u8 (mk1 : Nat)))
            (exact ⟨e0, e1, ev, eo, eb⟩)
            ((first | (go_at_call 45; refine (hac _).mono ?_; rintro e w3 ⟨rfl, rfl⟩)))
          all_goals
            clear hac
            go_wp2_with fail
            go_roundg (tl - (k + 1))
            case measure => go_light; omega
            case rel => go_light; exact ⟨k + 1, m2 + 1, by omega, rfl, by simp, (unhide HD) 1⟩
        · have hkz : ¬ ((k : Int) < (tl : Int)) := by omega
          have HD : Hid (w.drewN m2 = w.drewN m2) := rfl
          go_wp2_with fail
          go_roundg (n - (i + 1))
          case measure => go_light; omega
          case rel => go_light; exact ⟨i + 1, m2, by omega, rfl, by simp, rfl⟩
    · have hz : ¬ ((i : Int) < (n : Int)) := by omega
      have d3 := c3 m
      go_wp2_with fail
      go_loopg [5] 0 (fun q s5 wx => q = 0 ∧ s5 = .int .i64 0 ∧ w.drewN m = wx)
      case atStart => exact ⟨rfl, rfl, rfl⟩
      case round =>
        obtain ⟨rfl, rfl, rfl⟩ := hrel
        go_wp2_with fail
        go_ret
        exact ⟨rfl, m, rfl⟩

set_option maxHeartbeats 1600000 in
set_option maxRecDepth 100000 in
theorem book_holds {w : World} {B bk n lo hi : Nat} {A : Nat → Option Addr} {ln C M : Nat → Nat} {bv ov : Value} {at' turn done used : Nat} (h : BookIs w B bk n lo hi A ln C M bv ov at' turn done used) (ht : turn ≤ 10000000000000000) (hn : n ≤ 1000000) (hln : ∀ i, i < n → ln i ≤ 140737488355328) :
    Calls Tryz.prog 47 #[.pointer (some ⟨bk, 0, none⟩)] w fun e w' => e = .returned (.bool true) ∧ ∃ m, w' = w.drewN m := by
  have hp := book_plain h ht hn hln
  have hk : ∀ m, Calls Tryz.prog 93 #[.pointer (some ⟨bk, 0, none⟩)] (w.drewN m) fun e w' => e = .returned (.bool true) ∧ w' = w.drewN m := fun m => book_kept bk _ _ (h.since (since_drewN' (World.Since.refl _ _) m)).row rfl rfl rfl rfl
  have ht' : ∀ m, Calls Tryz.prog 94 #[.pointer (some ⟨bk, 0, none⟩)] (w.drewN m) fun e w' => e = .returned (.bool true) ∧ w' = w.drewN m := fun m => book_told bk _ _ (h.since (since_drewN' (World.Since.refl _ _) m)).row rfl rfl rfl rfl
  have hh : ∀ m, Calls Tryz.prog 95 #[.pointer (some ⟨bk, 0, none⟩)] (w.drewN m) fun e w' => e = .returned (.bool true) ∧ w' = w.drewN m := fun m => book_held bk _ _ (h.since (since_drewN' (World.Since.refl _ _) m)).row rfl rfl
  clear h
  go_enter Tryz.func47, Tryz.ntmps47
  go_wp2_with fail
  refine hp.mono ?_
  rintro e w1 ⟨rfl, m, rfl⟩
  go_wp2_with fail
  refine (hk m).mono ?_
  rintro e w2 ⟨rfl, rfl⟩
  go_wp2_with fail
  refine (ht' m).mono ?_
  rintro e w3 ⟨rfl, rfl⟩
  go_wp2_with fail
  refine (hh m).mono ?_
  rintro e w4 ⟨rfl, rfl⟩
  go_wp2_with fail
  go_ret
  exact ⟨rfl, m, rfl⟩
end Go.Proofs.YtonpmabdjngdcaaGreatDoor

/- A list of a Book's grows by one byte of its mark. -/
namespace Go.Proofs.YtonpmabdjngdcaaGreatDoor
open Go.RowKit
set_option maxRecDepth 100000

/-- A list under way, beside the Book that keeps some of its beginnings. -/
structure Und (w0 w : World) (F0 : Nat → Prop) (B bk n lo hi : Nat) (A : Nat → Option Addr) (ln M : Nat → Nat) (bv ov v : Value) (len m : Nat) : Prop where
  own : Own w B v len (mrk m)
  far : ∀ b, v.ownBlock = some b → b ≠ bk ∧ bv.ownBlock ≠ some b ∧ ov.ownBlock ≠ some b
  ent : ∀ j a, j < n → A j = some a → v.ownBlock = some a.block → a = ⟨a.block, 0, none⟩ ∧ ln j ≤ len ∧ M j = m
  dis : ∀ j a, lo ≤ j → j < hi → A j = some a → v.ownBlock ≠ some a.block
  foot : ∀ b, v.ownBlock = some b → F0 b ∨ w0.heap.size ≤ b
theorem mv_grow {F0 F : Nat → Prop} {w0 w w' : World} {v : Value} (h : Mv F0 F w0 w) (hz : w.heap.size ≤ w'.heap.size) (hg : w.grownBy w' v.ownBlock) (hf : ∀ b, v.ownBlock = some b → F0 b ∨ w0.heap.size ≤ b) : Mv F0 F w0 w' :=
  ⟨hg.os.trans h.os, hg.tape.trans h.tape, hg.output.trans h.output, Nat.le_trans h.size hz, fun k hk hn => (hg.block k (Nat.lt_of_lt_of_le hk h.size) (fun e => by
    rcases hf k e.symm with q | q
    · exact hn q
    · omega)).trans (h.block k hk hn), h.foot⟩

theorem BookIs.app {w0 w : World} {F0 : Nat → Prop} {B bk n lo hi : Nat} {A : Nat → Option Addr} {ln C M : Nat → Nat} {bv ov : Value} {at' turn done used : Nat} (h : BookIs w B bk n lo hi A ln C M bv ov at' turn done used) (hB : B ≤ w.heap.size) {v : Value} {len m : Nat} (hu : Und w0 w F0 B bk n lo hi A ln M bv ov v len m) (hmv : Mv F0 (BF bk n A bv ov) w0 w) (hmax : len + 1 ≤ 140737488355328) :
    ∃ a c w2, (Builtin.append_ #[32, 32] 32 #[v, .slice (some ⟨w.heap.size, 0, none⟩) 1 1]).run Tryz.prog (w.alloc (.cells #[.int .u8 (mrk m len : Nat)] 5)) = .ok (.slice a (len + 1) c) w2 ∧
      BookIs w2 B bk n lo hi A ln C M bv ov at' turn done used ∧ Und w0 w2 F0 B bk n lo hi A ln M bv ov (.slice a (len + 1) c) (len + 1) m ∧ Mv F0 (BF bk n A bv ov) w0 w2 ∧ B ≤ w2.heap.size := by
  have sA : w.Since w.heap.size (w.alloc (.cells #[.int .u8 (mrk m len : Nat)] 5)) := (World.Since.refl _ _).alloc (Nat.le_refl _) _
  have zA : (w.alloc (.cells #[.int .u8 (mrk m len : Nat)] 5)).heap.size = w.heap.size + 1 := by simp
  have hA := h.since sA
  have hownA := own_since hu.own sA
  have hmvA : Mv F0 (BF bk n A bv ov) w0 (w.alloc (.cells #[.int .u8 (mrk m len : Nat)] 5)) := hmv.trans (Mv.of_since sA)
  obtain ⟨v', w2, hr, ho, hg, hl⟩ := app_mark (w.alloc (.cells #[.int .u8 (mrk m len : Nat)] 5)) B v len (mrk m) hownA w.heap.size (mrk m len) (by simp) hmax (by omega)
  generalize w.alloc (.cells #[.int .u8 (mrk m len : Nat)] 5) = wa at *
  have ho' : Own w2 B v' (len + 1) (mrk m) := own_congr ho (fun j hj => by
    unfold cat
    by_cases e : j < len
    · rw [if_pos e]
    · rw [if_neg e, show j = len by omega])
  obtain ⟨a, c, rfl⟩ := own_form ho'
  have zg := hg.size
  have hvl := own_lt hu.own
  have lies : ∀ b, (Value.slice a (len + 1) c).ownBlock = some b → v.ownBlock = some b ∨ b = wa.heap.size := fun b e => by
    rcases hl with e2 | ⟨e2, _⟩
    · exact Or.inl (e2 ▸ e)
    · rw [e2] at e; exact Or.inr (Option.some.inj e).symm
  have keep : ∀ k, BF bk n A bv ov k → v.ownBlock ≠ some k → w2.heap[k]? = wa.heap[k]? := fun k hf hn => hg.block k (hA.ge k hf).2 (fun e => hn e.symm)
  refine ⟨a, c, w2, hr, ?_, ⟨ho', fun b e => ?_, fun j ad hj he e => ?_, fun j ad h1 h2 he e => ?_, fun b e => ?_⟩, mv_grow hmvA zg hg hu.foot, by omega⟩
  · refine ⟨hA.row.of_block (keep bk (Or.inl rfl) (fun e => (hu.far bk e).1 rfl)), owns_keep hA.ob (fun k e => keep k (Or.inr (Or.inl e)) (fun e2 => (hu.far k e2).2.1 e)), owns_keep hA.oo (fun k e => keep k (Or.inr (Or.inr (Or.inl e))) (fun e2 => (hu.far k e2).2.2 e)), fun j hj q hq => ?_, fun j h1 h2 => own_keep (hA.own j h1 h2) (fun k e => ?_), fun j ad hj he => ?_, h.dis, h.nb, h.no, h.hn, h.lb, h.mt⟩
    · obtain ⟨b, off, e, hc⟩ := hA.byt j hj q hq
      by_cases hvb : v.ownBlock = some b
      · rcases hl with e2 | ⟨_, hs⟩
        · have he := hu.ent j ⟨b, off, none⟩ hj e hvb
          have eoff : off = 0 := by have := he.1; simpa using this
          subst eoff
          have hb2 : Byt w2 a (len + 1) (mrk m) := by
            obtain ⟨_, _, e3, h1, _⟩ := own_byt' ho'
            cases e3
            exact h1
          obtain ⟨b', off', e3, hc3⟩ := hb2 q (by omega)
          obtain ⟨g', _, _, e4, _, _, _, _⟩ := own_row ho' (by omega)
          cases e4
          cases e3
          have eb : b' = b := by
            have : (Value.slice (some ⟨b', 0, none⟩) (len + 1) c).ownBlock = some b := by rw [e2]; exact hvb
            simpa [Value.ownBlock] using this
          subst eb
          exact ⟨b', 0, e, by rw [he.2.2]; exact hc3⟩
        · exact ⟨b, off, e, by rw [World.cell?_of_block (w := wa) (hs.block b (World.block_lt_of_cell? _ _ hc))]; exact hc⟩
      · exact ⟨b, off, e, by rw [World.cell?_of_block (w := wa) (hg.block b (World.block_lt_of_cell? _ _ hc) (fun e => hvb e.symm))]; exact hc⟩
    · match hAj : A j, e with
      | some ad, e =>
        have e' : ad.block = k := by simpa [Value.ownBlock] using e
        rw [← e']
        exact keep _ (Or.inr (Or.inr (Or.inr ⟨j, ad, Nat.lt_of_lt_of_le h2 h.hn, hAj, rfl⟩))) (hu.dis j ad h1 h2 hAj)
      | none, e => simp [Value.ownBlock] at e
    · have := hA.blk j ad hj he
      exact ⟨this.1, by omega, this.2.2⟩
  · rcases lies b e with e2 | e2
    · exact hu.far b e2
    · exact ⟨by have := hA.row.lt; omega, fun e3 => by have := (hA.ob.lt b e3).2; omega, fun e3 => by have := (hA.oo.lt b e3).2; omega⟩
  · rcases lies _ e with e2 | e2
    · have := hu.ent j ad hj he e2
      exact ⟨this.1, by omega, this.2.2⟩
    · have := (hA.blk j ad hj he).2.1
      omega
  · rcases lies _ e with e2 | e2
    · exact hu.dis j ad h1 h2 he e2
    · have := (hA.blk j ad (Nat.lt_of_lt_of_le h2 h.hn) he).2.1
      omega
  · rcases lies b e with e2 | e2
    · exact hu.foot b e2
    · exact Or.inr (by have := hmvA.size; omega)
/-- A beginning of the list under way is kept. -/
theorem Und.push {w0 w w' : World} {F0 : Nat → Prop} {B bk n lo hi : Nat} {A : Nat → Option Addr} {ln M : Nat → Nat} {bv ov bv' ov' : Value} {a : Option Addr} {len c m : Nat} (hu : Und w0 w F0 B bk n lo hi A ln M bv ov (.slice a len c) len m) (hn : hi ≤ n) (hs : ∀ k, (Value.slice a len c).ownBlock = some k → w'.heap[k]? = w.heap[k]?)
    (hfar : ∀ b, (Value.slice a len c).ownBlock = some b → bv'.ownBlock ≠ some b ∧ ov'.ownBlock ≠ some b) : Und w0 w' F0 B bk (n + 1) lo hi (put A n a) (put ln n len) (put M n m) bv' ov' (.slice a len c) len m := by
  refine ⟨own_keep hu.own hs, fun b e => ⟨(hu.far b e).1, hfar b e⟩, fun j ad hj he e => ?_, fun j ad h1 h2 he => ?_, hu.foot⟩
  · by_cases ej : j = n
    · subst ej
      rw [put_at] at he
      rw [put_at, put_at]
      refine ⟨?_, Nat.le_refl _, rfl⟩
      rcases hu.own.2 with ⟨e2, _⟩ | ⟨g, cap, cur, e2, _⟩
      · rw [he] at e2; cases e2
      · rw [he] at e2; cases e2; rfl
    · rw [put_ne _ _ _ ej] at he
      rw [put_ne _ _ _ ej, put_ne _ _ _ ej]
      exact hu.ent j ad (by omega) he e
  · rw [put_ne _ _ _ (by omega)] at he
    exact hu.dis j ad h1 h2 he
/-- How many beginnings are kept ahead of round i. -/
def cnt (i : Nat) : Nat := if i ≤ 4 then i - 1 else 3 + (i - 1) / 16
theorem cnt_step (i : Nat) (h : 1 ≤ i) : cnt (i + 1) = cnt i + if i < 4 ∨ i % 16 = 0 then 1 else 0 := by
  unfold cnt
  by_cases h4 : i < 4
  · rw [if_pos (by omega), if_pos (by omega), if_pos (Or.inl h4)]; omega
  · by_cases h16 : i % 16 = 0
    · rw [if_neg (by omega), if_neg (by omega), if_pos (Or.inr h16)]; omega
    · rw [if_neg (show ¬ (i < 4 ∨ i % 16 = 0) by omega)]
      by_cases e : i = 4
      · subst e; decide
      · rw [if_neg (by omega), if_neg (by omega)]; omega
end Go.Proofs.YtonpmabdjngdcaaGreatDoor

/- The walk of Book.growBytes. -/
namespace Go.Proofs.YtonpmabdjngdcaaGreatDoor
open Go.RowKit
set_option maxRecDepth 100000

theorem BookIs.weaken {w : World} {B bk n lo hi lo' : Nat} {A : Nat → Option Addr} {ln C M : Nat → Nat} {bv ov : Value} {at' turn done used : Nat} (h : BookIs w B bk n lo hi A ln C M bv ov at' turn done used) (hl : lo ≤ lo') : BookIs w B bk n lo' hi A ln C M bv ov at' turn done used :=
  ⟨h.row, h.ob, h.oo, h.byt, fun i h1 h2 => h.own i (by omega) h2, h.blk, fun i j a a' h1 h2 => h.dis i j a a' (by omega) h2, h.nb, h.no, h.hn, h.lb, h.mt⟩
theorem BookIs.grown {w : World} {B bk n lo hi : Nat} {A : Nat → Option Addr} {ln C M : Nat → Nat} {bv ov : Value} {at' turn done used : Nat} (h : BookIs w B bk n lo hi A ln C M bv ov at' turn done used) : BookIs w B bk n n n A ln C M bv ov at' turn done used :=
  ⟨h.row, h.ob, h.oo, h.byt, fun i h1 h2 => by omega, h.blk, fun i j a a' h1 h2 => by omega, h.nb, h.no, Nat.le_refl _, h.lb, h.mt⟩
theorem owns_at_b {w : World} {B e n : Nat} {v : Value} {f : Nat → Value} (h : w.ownsRow B e 1 v n ((List.range n).map f)) (hn : 0 < n) : ∃ g c, v = .slice (some ⟨g, 0, none⟩) n c ∧ ∀ j, j < n → w.cell? ⟨g, j, none⟩ = some (f j) := by
  rcases h.2 with ⟨_, h0⟩ | ⟨g, c, cur, rfl, _⟩
  · omega
  · exact ⟨g, c, rfl, fun j hj => by rw [h.cellAt j (by omega)]; simp [hj]⟩
/-- The list k as it lies, ahead of its growing. -/
theorem BookIs.und {w0 w : World} {F0 : Nat → Prop} {B bk n hi k : Nat} {A : Nat → Option Addr} {ln C M : Nat → Nat} {bv ov : Value} {at' turn done used : Nat} (h : BookIs w B bk n k hi A ln C M bv ov at' turn done used) (hk : k < hi) (hmv : Mv F0 (BF bk n A bv ov) w0 w) : Und w0 w F0 B bk n (k + 1) hi A ln M bv ov (.slice (A k) (ln k) (C k)) (ln k) (M k) := by
  have hkn : k < n := Nat.lt_of_lt_of_le hk h.hn
  have form : ∀ b, (Value.slice (A k) (ln k) (C k)).ownBlock = some b → A k = some ⟨b, 0, none⟩ := fun b e => by
    rcases (h.own k (Nat.le_refl _) hk).2 with ⟨e2, _⟩ | ⟨g, cap, cur, e2, _⟩
    · rw [e2] at e; simp [Value.ownBlock] at e
    · rw [e2] at e
      have : g = b := by simpa [Value.ownBlock] using e
      have e3 : A k = some ⟨g, 0, none⟩ := by injection e2
      rw [e3, this]
  refine ⟨h.own k (Nat.le_refl _) hk, fun b e => ?_, fun j ad hj he e => ?_, fun j ad h1 h2 he e => ?_, fun b e => ?_⟩
  · have := h.blk k _ hkn (form b e)
    exact this.2.2
  · have ek := form _ e
    by_cases ej : j = k
    · subst ej
      rw [he] at ek
      exact ⟨Option.some.inj ek, Nat.le_refl _, rfl⟩
    · exact absurd rfl (h.dis k j ⟨ad.block, 0, none⟩ ad (Nat.le_refl _) hk hj (fun e => ej e.symm) ek he)
  · exact absurd rfl (h.dis k j ⟨ad.block, 0, none⟩ ad (Nat.le_refl _) hk (Nat.lt_of_lt_of_le h2 h.hn) (by omega) (form _ e) he)
  · exact hmv.foot b (Or.inr (Or.inr (Or.inr ⟨k, _, hkn, form b e, rfl⟩)))

set_option maxHeartbeats 6400000 in
set_option maxRecDepth 100000 in
theorem book_growBytes {w : World} {B bk n : Nat} {A : Nat → Option Addr} {ln C M : Nat → Nat} {bv ov : Value} {at' turn done used : Nat} (h : BookIs w B bk n at' n A ln C M bv ov at' turn done used) (hB : B ≤ w.heap.size) (ht : turn ≤ 10000000000000000) (hat : at' ≤ n) (hU : n * 120 + (n - at') * 1080 ≤ used) (hu : used ≤ 16777216)
    (hln : ∀ i, i < n → ln i ≤ 1099511627872) (hln2 : ∀ i, at' ≤ i → i < n → ln i ≤ 1099511627776) :
    Calls Tryz.prog 96 #[.pointer (some ⟨bk, 0, none⟩)] w fun e w' => e = .returned (.tuple #[]) ∧ ∃ n' A' ln' C' M' bv' ov', BookIs w' B bk n' n' n' A' ln' C' M' bv' ov' n' turn done used ∧ n' * 120 ≤ used ∧ (∀ i, i < n' → ln' i ≤ 1099511627872) ∧ Mv (BF bk n A bv ov) (BF bk n' A' bv' ov') w w' ∧ B ≤ w'.heap.size := by
  obtain ⟨va, vc, ebv, _⟩ := owns_form h.ob
  have c0 : w.cell? ⟨bk, 0, none⟩ = some (.slice va n vc) := by rw [← ebv]; exact h.row.cell (i := 0) (by decide)
  have c2 : w.cell? ⟨bk, 2, none⟩ = some (.int .i64 (at' : Nat)) := h.row.cell (i := 2) (by decide)
  clear ebv
  generalize hF0 : BF bk n A bv ov = F0
  have hmv0 : Mv F0 (BF bk n A bv ov) w w := by rw [hF0]; exact Mv.refl _ _
  go_enter Tryz.func96, Tryz.ntmps96
  go_wp2_with fail
  go_loopg [3] (n - at') (fun q s3 wx => ∃ (k n' : Nat) (A' : Nat → Option Addr) (ln' C' M' : Nat → Nat) (bv' ov' : Value), at' ≤ k ∧ k ≤ n ∧ q = n - k ∧ s3 = .int .i64 k ∧ BookIs wx B bk n' k n A' ln' C' M' bv' ov' at' turn done used ∧ n' * 120 + (n - k) * 1080 ≤ used ∧ (∀ i, i < n' → ln' i ≤ 1099511627872) ∧ (∀ i, k ≤ i → i < n → ln' i ≤ 1099511627776) ∧ Mv F0 (BF bk n' A' bv' ov') w wx ∧ B ≤ wx.heap.size)
  case atStart => exact ⟨at', n, A, ln, C, M, bv, ov, Nat.le_refl _, hat, rfl, rfl, h, hU, hln, hln2, hmv0, hB⟩
  case round =>
    obtain ⟨k, n', A', ln', C', M', bv', ov', hk1, hk2, rfl, rfl, hb, hU', hl1, hl2, hmv, hBx⟩ := hrel
    clear h c0 c2 hmv0
    by_cases hlt : k < n
    · have hnn := hb.hn
      have hz : (k : Int) < (n : Int) := by omega
      obtain ⟨gv, vc', rfl, hcv⟩ := owns_at_b hb.ob (by omega)
      obtain ⟨go, oc', rfl, hco⟩ := owns_at_b hb.oo (by omega)
      have d0 : wr.cell? ⟨bk, 0, none⟩ = some (.slice (some ⟨gv, 0, none⟩) n' vc') := hb.row.cell (i := 0) (by decide)
      have d1 : wr.cell? ⟨bk, 1, none⟩ = some (.slice (some ⟨go, 0, none⟩) n' oc') := hb.row.cell (i := 1) (by decide)
      have dv := hcv k (by omega)
      have do' := hco k (by omega)
      have hz2 : (k : Int) < (n' : Int) := by omega
      have hun := hb.und hlt hmv
      have hbw := hb.weaken (Nat.le_succ k)
      have hMk : M' k ≤ 10000000000000000 := Nat.le_trans (hb.mt k (by omega)) ht
      have hMt : M' k ≤ turn := hb.mt k (by omega)
      have hLk := hl2 k (Nat.le_refl _) hlt
      generalize hAk : A' k = ka at hun dv
      generalize hLk2 : ln' k = L0 at hun dv hLk
      generalize C' k = kc at hun dv
      generalize M' k = m at hun do' hMk hMt
      clear hcv hco
      go_wp2_with fail
      go_loopg [4, 6] 96 (fun q s4 s6 wx => ∃ (i n2 len : Nat) (A2 : Nat → Option Addr) (ln2 C2 M2 : Nat → Nat) (bv2 ov2 : Value) (a : Option Addr) (c : Nat), 1 ≤ i ∧ i ≤ 97 ∧ len + 1 = L0 + i ∧ q = 97 - i ∧ s6 = .int .i64 i ∧ s4 = .slice a len c ∧ BookIs wx B bk n2 (k + 1) n A2 ln2 C2 M2 bv2 ov2 at' turn done used ∧ Und w wx F0 B bk n2 (k + 1) n A2 ln2 M2 bv2 ov2 (.slice a len c) len m ∧ Mv F0 (BF bk n2 A2 bv2 ov2) w wx ∧ B ≤ wx.heap.size ∧ n2 = n' + cnt i ∧ (∀ j, j < n2 → ln2 j ≤ 1099511627872) ∧ ∀ j, k + 1 ≤ j → j < n → ln2 j ≤ 1099511627776)
      case atStart => exact ⟨1, n', L0, A', ln', C', M', _, _, ka, kc, Nat.le_refl _, by decide, rfl, rfl, rfl, rfl, hbw, hun, hmv, hBx, rfl, hl1, fun j h1 h2 => hl2 j (by omega) h2⟩
      case round =>
        obtain ⟨i, n2, len, A2, ln2, C2, M2, bv2, ov2, a, c, hi1, hi2, hlen, rfl, rfl, rfl, hb2, hu2, hmv2, hB2, hn2, hm1, hm2⟩ := hrel
        clear d0 d1 dv do' hun hbw hb hmv hl1 hl2 hAk hLk2 hBx
        have hcn := cnt_step i hi1
        have hc9 : cnt i ≤ 9 := by unfold cnt; split <;> omega
        have hlb : len ≤ 1099511627872 := by omega
        have hlb2 : i ≤ 96 → len + 1 ≤ 1099511627872 := by omega
        have HL := hide hlen
        have HN := hide hn2
        have hnb : n2 ≤ 900000 := by omega
        clear hlen hn2
        by_cases hle : i ≤ 96
        · have hlb3 := hlb2 hle
          clear hlb2
          have hz6 : (i : Int) ≤ 96 := by omega
          have hac := at_any' m len wr hMk
          obtain ⟨a3, c3, w3, hr3, hb3, hu3, hmv3, hB3⟩ := hb2.app hB2 hu2 hmv2 (by omega)
          generalize mrk m len = mb at *
          have H3 := hide hr3
          clear hr3 hb2 hu2 hmv2 hB2
          by_cases hkp : i < 4 ∨ i % 16 = 0
          · rw [if_pos hkp] at hcn
            have hbt3 : Byt w3 a3 (len + 1) (mrk m) := by
              obtain ⟨_, _, e3, h1, _⟩ := own_byt' hu3.own
              cases e3
              exact h1
            obtain ⟨ba, bc, w6, oa, oc, w9, hr1, p0, p1, p2, p3, hr2, p4, p5, hfin, mvf, kall, hnv, hno⟩ := hb3.push hB3 a3 (len + 1) c3 m n hnb hbt3 hMt (fun ad he => by
              have e1 : (Value.slice a3 (len + 1) c3).ownBlock = some ad.block := by rw [he]; rfl
              have := hu3.far ad.block e1
              exact ⟨own_block hu3.own _ e1, own_lt hu3.own _ e1, this.1, this.2.1, this.2.2⟩) (by have := hb3.hn; omega) (fun j hj => Or.inl hj) (fun hj => by have := hb3.hn; omega) (fun hj => by have := hb3.hn; omega) (fun j ad a' h1 h2 _ he hA e => by
              have e1 : (Value.slice a3 (len + 1) c3).ownBlock = some ad.block := by rw [he]; rfl
              exact hu3.dis j a' h1 h2 hA (e ▸ e1))
            have hvlt := own_lt hu3.own
            have hu9 := hu3.push hb3.hn (w' := w9.setCell ⟨bk, 1, none⟩ (.slice oa (n2 + 1) oc)) (fun k e => kall k (hvlt k e) (hu3.far k e).1 (hu3.far k e).2.1 (hu3.far k e).2.2) (fun b e => ⟨hnv b (hvlt b e) (hu3.far b e).2.1, hno b (hvlt b e) (hu3.far b e).2.2⟩)
            have hmv9 : Mv F0 (BF bk (n2 + 1) (put A2 n2 a3) (.slice ba (n2 + 1) bc) (.slice oa (n2 + 1) oc)) w (w9.setCell ⟨bk, 1, none⟩ (.slice oa (n2 + 1) oc)) := by
              refine ⟨mvf.os.trans hmv3.os, mvf.tape.trans hmv3.tape, mvf.output.trans hmv3.output, Nat.le_trans hmv3.size mvf.size, fun q hq hn => (mvf.block q (Nat.lt_of_lt_of_le hq hmv3.size) (fun hf => ?_)).trans (hmv3.block q hq hn), fun q hf => ?_⟩
              · rcases hf with hf | ⟨ad, he, e⟩
                · rcases hmv3.foot q hf with h5 | h5
                  · exact hn h5
                  · omega
                · rcases hu3.foot q (by rw [he, ← e]; rfl) with h5 | h5
                  · exact hn h5
                  · omega
              · rcases mvf.foot q hf with hf | hf
                · rcases hf with hf | ⟨ad, he, e⟩
                  · exact hmv3.foot q hf
                  · exact hu3.foot q (by rw [he, ← e]; rfl)
                · exact Or.inr (Nat.le_trans hmv3.size hf)
            have hB9 : B ≤ (w9.setCell ⟨bk, 1, none⟩ (.slice oa (n2 + 1) oc)).heap.size := Nat.le_trans hB3 mvf.size
            have hm1' : ∀ j, j < n2 + 1 → put ln2 n2 (len + 1) j ≤ 1099511627872 := fun j hj => by
              by_cases e : j = n2
              · subst e; rw [put_at]; omega
              · rw [put_ne _ _ _ e]; exact hm1 j (by omega)
            have hm2' : ∀ j, k + 1 ≤ j → j < n → put ln2 n2 (len + 1) j ≤ 1099511627776 := fun j h1 h2 => by
              have := hb3.hn
              rw [put_ne _ _ _ (by omega)]; exact hm2 j h1 h2
            have H1 := hide hr1
            have H2 := hide hr2
            obtain ⟨r, hr, hr2⟩ : ∃ r : Nat, Int.tmod (i : Int) 16 = (r : Int) ∧ r = i % 16 := ⟨i % 16, (Int.ofNat_tmod i 16).symm, rfl⟩
            have hr0 : ¬ (i < 4) → ((r : Int) == 0) = true := fun h4 => by
              have : r = 0 := by omega
              subst this; rfl
            have HK := hide hkp
            clear hr1 hr2 hb3 hu3 hmv3 hB3 hvlt kall hnv hno mvf hbt3 hm1 hm2 hcn hkp hc9
            by_cases h4 : i < 4
            all_goals
              have h4z : (i : Int) < 4 ∨ ¬ (i : Int) < 4 := by omega
              first
                | (have h4y : (i : Int) < 4 := by omega)
                | (have h4y : ¬ ((i : Int) < 4) := by omega)
              first
                | (have hr1 := hr0 h4)
                | skip
              clear hr0 h4z
              go_wp2_with (first
                | (go_at_call 45; refine hac.mono ?_; rintro e w4 ⟨rfl, rfl⟩)
                | (at_builtin; refine wpList_append_eq rfl _ _ 32 rfl _ _ _ (by rfl) (by rfl) (unhide H3) ?_)
                | (at_builtin; refine wpList_append_eq rfl _ _ 23 rfl _ _ _ (by rfl) (by rfl) (unhide H1) ?_)
                | (at_builtin; refine wpList_append_eq rfl _ _ 57 rfl _ _ _ (by rfl) (by rfl) (unhide H2) ?_))
              go_roundg (97 - (i + 1))
              case measure => go_light; omega
              case rel => go_light; exact ⟨i + 1, n2 + 1, len + 1, _, _, _, _, _, _, a3, c3, by omega, by omega, (by have := unhide HL; omega), rfl, by simp, rfl, hfin, hu9, hmv9, hB9, (by have := unhide HN; have := cnt_step i hi1; rw [if_pos (unhide HK)] at this; omega), hm1', hm2'⟩
          · rw [if_neg hkp] at hcn
            have hi4 : ¬ ((i : Int) < 4) := by omega
            obtain ⟨r, hr, hr2⟩ : ∃ r : Nat, Int.tmod (i : Int) 16 = (r : Int) ∧ r = i % 16 := ⟨i % 16, (Int.ofNat_tmod i 16).symm, rfl⟩
            have hr0 : ((r : Int) == 0) = false := by
              have : ¬ ((r : Int) = 0) := by omega
              simpa using this
            clear hr2
            go_wp2_with (first
              | (go_at_call 45; refine hac.mono ?_; rintro e w4 ⟨rfl, rfl⟩)
              | (at_builtin; refine wpList_append_eq rfl _ _ 32 rfl _ _ _ (by rfl) (by rfl) (unhide H3) ?_))
            go_roundg (97 - (i + 1))
            case measure => go_light; omega
            case rel => go_light; exact ⟨i + 1, n2, len + 1, A2, ln2, C2, M2, bv2, ov2, a3, c3, by omega, by omega, (by have := unhide HL; omega), rfl, by simp, rfl, hb3, hu3, hmv3, hB3, (by have := unhide HN; omega), hm1, hm2⟩
        · have hz6 : ¬ ((i : Int) ≤ 96) := by omega
          obtain rfl : i = 97 := by omega
          have hn2 := unhide HN
          rw [show cnt 97 = 9 from rfl] at hn2
          clear HN HL hlb2 hcn hc9
          have hfinU : n2 * 120 + (n - (k + 1)) * 1080 ≤ used := by omega
          clear hn2
          go_wp2_with fail
          go_roundg (n - (k + 1))
          case measure => go_light; omega
          case rel => go_light; exact ⟨k + 1, n2, A2, ln2, C2, M2, bv2, ov2, by omega, by omega, rfl, by simp, hb2, hfinU, hm1, hm2, hmv2, hB2⟩
    · obtain rfl : k = n := by omega
      obtain ⟨va', vc', rfl, _⟩ := owns_form hb.ob
      have d0 : wr.cell? ⟨bk, 0, none⟩ = some (.slice va' n' vc') := hb.row.cell (i := 0) (by decide)
      have d2 : wr.cell? ⟨bk, 2, none⟩ = some (.int .i64 (at' : Nat)) := hb.row.cell (i := 2) (by decide)
      have f2 := hb.row.frozen 2
      obtain ⟨h3, mv3⟩ := hb.setNum (at2 := n') (turn2 := turn) (done2 := done) (used2 := used) 2 (.int .i64 (n' : Nat)) (Nat.le_refl _) (fun i hi => by
        unfold bookCell
        by_cases e : i = 2
        · subst e; rfl
        · rw [if_neg e, if_neg e, if_neg e])
      have hz3 : (wr.setCell ⟨bk, 2, none⟩ (.int .i64 (n' : Nat))).heap.size = wr.heap.size := by simp [World.setCell]
      have hB3 : B ≤ (wr.setCell ⟨bk, 2, none⟩ (.int .i64 (n' : Nat))).heap.size := by omega
      have hmvf := hmv.trans mv3
      have hz : ¬ ((k : Int) < (k : Int)) := by omega
      clear hz3
      go_wp2_with fail
      go_end0
      exact ⟨rfl, n', A', ln', C', M', _, _, h3.grown, by omega, hl1, hF0 ▸ hmvf, hB3⟩
end Go.Proofs.YtonpmabdjngdcaaGreatDoor

/- The walks of Book.grow and Book.Look. -/
namespace Go.Proofs.YtonpmabdjngdcaaGreatDoor
open Go.RowKit
set_option maxRecDepth 100000

theorem BookIs.same {w : World} {B bk n lo hi : Nat} {A : Nat → Option Addr} {ln C M : Nat → Nat} {bv ov : Value} {at' turn done used : Nat} (h : BookIs w B bk n lo hi A ln C M bv ov at' turn done used) (c : Nat) (h3 : c % 3 = 2) (h5 : 5 ≤ c) (h35 : c ≤ 35) :
    BookIs (w.setCell ⟨bk, c, none⟩ (.int .i64 0)) B bk n lo hi A ln C M bv ov at' turn done used ∧ Mv (BF bk n A bv ov) (BF bk n A bv ov) w (w.setCell ⟨bk, c, none⟩ (.int .i64 0)) :=
  h.setNum c (.int .i64 0) (Nat.le_refl _) (fun i _ => by
    by_cases e : i = c
    · subst e
      rw [if_pos rfl]
      unfold bookCell
      rw [if_neg (by omega), if_neg (by omega), if_neg (by omega), if_neg (by omega), if_neg (by omega), if_neg (by omega), if_pos h3]
    · rw [if_neg e])
/-- What grow leaves. -/
structure Grown (w w' : World) (B bk n : Nat) (A : Nat → Option Addr) (ln C M : Nat → Nat) (bv ov : Value) (turn done used : Nat) (F : Nat → Prop) : Prop where
  is : BookIs w' B bk n n n A ln C M bv ov n turn done used
  mv : Mv F (BF bk n A bv ov) w w'
theorem Grown.step {w w' : World} {B bk n : Nat} {A : Nat → Option Addr} {ln C M : Nat → Nat} {bv ov : Value} {turn done used : Nat} {F : Nat → Prop} (h : Grown w w' B bk n A ln C M bv ov turn done used F) (c : Nat) (h3 : c % 3 = 2) (h5 : 5 ≤ c) (h35 : c ≤ 35) : Grown w (w'.setCell ⟨bk, c, none⟩ (.int .i64 0)) B bk n A ln C M bv ov turn done used F := by
  obtain ⟨a, b⟩ := h.is.same c h3 h5 h35
  exact ⟨a, h.mv.trans b⟩

set_option maxHeartbeats 3200000 in
set_option maxRecDepth 100000 in
theorem book_grow {w : World} {B bk n : Nat} {A : Nat → Option Addr} {ln C M : Nat → Nat} {bv ov : Value} {at' turn done used : Nat} (h : BookIs w B bk n at' n A ln C M bv ov at' turn done used) (hB : B ≤ w.heap.size) (ht : turn ≤ 10000000000000000) (hat : at' ≤ n) (hU : n * 120 + (n - at') * 1080 ≤ used) (hu : used ≤ 16777216)
    (hln : ∀ i, i < n → ln i ≤ 1099511627872) (hln2 : ∀ i, at' ≤ i → i < n → ln i ≤ 1099511627776) :
    Calls Tryz.prog 48 #[.pointer (some ⟨bk, 0, none⟩)] w fun e w' => e = .returned (.tuple #[]) ∧ ∃ n' A' ln' C' M' bv' ov', BookIs w' B bk n' n' n' A' ln' C' M' bv' ov' n' turn turn used ∧ n' * 120 ≤ used ∧ (∀ i, i < n' → ln' i ≤ 1099511627872) ∧ Mv (BF bk n A bv ov) (BF bk n' A' bv' ov') w w' := by
  have hg := book_growBytes h hB ht hat hU hu hln hln2
  generalize BF bk n A bv ov = F0 at *
  clear h hB hln hln2
  go_enter Tryz.func48, Tryz.ntmps48
  go_wp2_with fail
  refine hg.mono ?_
  rintro e w1 ⟨rfl, n', A', ln', C', M', bv', ov', h1, hU1, hl1, mv1, _⟩
  have g1 : Grown w w1 B bk n' A' ln' C' M' bv' ov' turn done used F0 := ⟨h1, mv1⟩
  clear hg h1 mv1
  have q0 := book_growRows bk _ _ g1.is.row rfl rfl
  have g2 := g1.step 5 (by decide) (by decide) (by decide)
  generalize hw2 : World.setCell _ ⟨bk, 5, none⟩ (.int .i64 0) = w2 at q0 g2
  go_wp2_with fail
  refine q0.mono ?_
  rintro e w2' ⟨rfl, rfl⟩
  clear q0 hw2 g1
  have q1 := book_growTexts bk _ _ g2.is.row rfl rfl
  have g3 := g2.step 8 (by decide) (by decide) (by decide)
  generalize hw3 : World.setCell _ ⟨bk, 8, none⟩ (.int .i64 0) = w3 at q1 g3
  go_wp2_with fail
  refine q1.mono ?_
  rintro e w3' ⟨rfl, rfl⟩
  clear q1 hw3 g2
  have q2 := book_growInts bk _ _ g3.is.row rfl rfl
  have g4 := g3.step 11 (by decide) (by decide) (by decide)
  generalize hw4 : World.setCell _ ⟨bk, 11, none⟩ (.int .i64 0) = w4 at q2 g4
  go_wp2_with fail
  refine q2.mono ?_
  rintro e w4' ⟨rfl, rfl⟩
  clear q2 hw4 g3
  have q3 := book_growWords bk _ _ g4.is.row rfl rfl
  have g5 := g4.step 14 (by decide) (by decide) (by decide)
  generalize hw5 : World.setCell _ ⟨bk, 14, none⟩ (.int .i64 0) = w5 at q3 g5
  go_wp2_with fail
  refine q3.mono ?_
  rintro e w5' ⟨rfl, rfl⟩
  clear q3 hw5 g4
  have q4 := book_growDones bk _ _ g5.is.row rfl rfl
  have g6 := g5.step 17 (by decide) (by decide) (by decide)
  generalize hw6 : World.setCell _ ⟨bk, 17, none⟩ (.int .i64 0) = w6 at q4 g6
  go_wp2_with fail
  refine q4.mono ?_
  rintro e w6' ⟨rfl, rfl⟩
  clear q4 hw6 g5
  have q5 := book_growAccts bk _ _ g6.is.row rfl rfl
  have g7 := g6.step 20 (by decide) (by decide) (by decide)
  generalize hw7 : World.setCell _ ⟨bk, 20, none⟩ (.int .i64 0) = w7 at q5 g7
  go_wp2_with fail
  refine q5.mono ?_
  rintro e w7' ⟨rfl, rfl⟩
  clear q5 hw7 g6
  have q6 := book_growQueue bk _ _ g7.is.row rfl rfl
  have g8 := g7.step 23 (by decide) (by decide) (by decide)
  generalize hw8 : World.setCell _ ⟨bk, 23, none⟩ (.int .i64 0) = w8 at q6 g8
  go_wp2_with fail
  refine q6.mono ?_
  rintro e w8' ⟨rfl, rfl⟩
  clear q6 hw8 g7
  have q7 := book_growSlots bk _ _ g8.is.row rfl rfl
  have g9 := g8.step 26 (by decide) (by decide) (by decide)
  generalize hw9 : World.setCell _ ⟨bk, 26, none⟩ (.int .i64 0) = w9 at q7 g9
  go_wp2_with fail
  refine q7.mono ?_
  rintro e w9' ⟨rfl, rfl⟩
  clear q7 hw9 g8
  have q8 := book_growMsgs bk _ _ g9.is.row rfl rfl
  have g10 := g9.step 29 (by decide) (by decide) (by decide)
  generalize hw10 : World.setCell _ ⟨bk, 29, none⟩ (.int .i64 0) = w10 at q8 g10
  go_wp2_with fail
  refine q8.mono ?_
  rintro e w10' ⟨rfl, rfl⟩
  clear q8 hw10 g9
  have q9 := book_growFlights bk _ _ g10.is.row rfl rfl
  have g11 := g10.step 32 (by decide) (by decide) (by decide)
  generalize hw11 : World.setCell _ ⟨bk, 32, none⟩ (.int .i64 0) = w11 at q9 g11
  go_wp2_with fail
  refine q9.mono ?_
  rintro e w11' ⟨rfl, rfl⟩
  clear q9 hw11 g10
  have q10 := book_growFiles bk _ _ g11.is.row rfl rfl
  have g12 := g11.step 35 (by decide) (by decide) (by decide)
  generalize hw12 : World.setCell _ ⟨bk, 35, none⟩ (.int .i64 0) = w12 at q10 g12
  go_wp2_with fail
  refine q10.mono ?_
  rintro e w12' ⟨rfl, rfl⟩
  clear q10 hw12 g11
  have d36 := g12.is.row.cell (i := 36) (by decide)
  have d37 := g12.is.row.cell (i := 37) (by decide)
  have f37 := g12.is.row.frozen 37
  obtain ⟨h3, mv3⟩ := g12.is.setNum (at2 := n') (turn2 := turn) (done2 := turn) (used2 := used) 37 (.int .i64 (turn : Nat)) (Nat.le_refl _) (fun i hi => by
    unfold bookCell
    by_cases e : i = 37
    · subst e; rfl
    · rw [if_neg e, if_neg e, if_neg e])
  have mvf := g12.mv.trans mv3
  clear g12
  have e36 : bookCell bv' ov' n' turn done used 36 = .int .i64 (turn : Nat) := rfl
  have e37 : bookCell bv' ov' n' turn done used 37 = .int .i64 (done : Nat) := rfl
  rw [e36] at d36
  rw [e37] at d37
  clear e36 e37
  go_wp2_with fail
  go_end0
  exact ⟨rfl, n', A', ln', C', M', bv', ov', h3, hU1, hl1, mvf⟩

/-- A Book as it is between two calls. -/
structure BookOk (w : World) (B bk n : Nat) (A : Nat → Option Addr) (ln C M : Nat → Nat) (bv ov : Value) (at' turn done used : Nat) : Prop where
  is : BookIs w B bk n at' n A ln C M bv ov at' turn done used
  hat : at' ≤ n
  hU : n * 120 + (n - at') * 1080 ≤ used
  hu : used ≤ 16777216
  hl : ∀ i, i < n → ln i ≤ 1099511627872
  hl2 : ∀ i, at' ≤ i → i < n → ln i ≤ 1099511627776

set_option maxHeartbeats 3200000 in
set_option maxRecDepth 100000 in
theorem book_look {w : World} {B bk n : Nat} {A : Nat → Option Addr} {ln C M : Nat → Nat} {bv ov : Value} {at' turn done used : Nat} (h : BookOk w B bk n A ln C M bv ov at' turn done used) (hB : B ≤ w.heap.size) (ht : turn ≤ 10000000000000000) :
    Calls Tryz.prog 21 #[.pointer (some ⟨bk, 0, none⟩)] w fun e w' => e = .returned (.bool true) ∧ ∃ n' A' ln' C' M' bv' ov' at2 done2, BookOk w' B bk n' A' ln' C' M' bv' ov' at2 turn done2 used ∧ Mv (BF bk n A bv ov) (BF bk n' A' bv' ov') w w' := by
  have hnb : n ≤ 1000000 := by have := h.hU; have := h.hu; omega
  have hh := book_holds h.is ht hnb (fun i hi => by have := h.hl i hi; omega)
  have hd : ∀ m, w.Since w.heap.size (w.drewN m) := fun m => since_drewN' (World.Since.refl _ _) m
  have d36 : ∀ m, (w.drewN m).cell? ⟨bk, 36, none⟩ = some (.int .i64 (turn : Nat)) := fun m => h.is.row.cell (i := 36) (by decide)
  have d37 : ∀ m, (w.drewN m).cell? ⟨bk, 37, none⟩ = some (.int .i64 (done : Nat)) := fun m => h.is.row.cell (i := 37) (by decide)
  have hok : ∀ m, BookOk (w.drewN m) B bk n A ln C M bv ov at' turn done used := fun m => ⟨h.is.since (hd m), h.hat, h.hU, h.hu, h.hl, h.hl2⟩
  have hgr : ∀ m, _ := fun m => book_grow (hok m).is hB ht h.hat h.hU h.hu h.hl h.hl2
  have hmv : ∀ m, Mv (BF bk n A bv ov) (BF bk n A bv ov) w (w.drewN m) := fun m => Mv.of_since (hd m)
  have hu := h.hu
  clear h
  go_enter Tryz.func21, Tryz.ntmps21
  go_wp2_with fail
  refine hh.mono ?_
  rintro e w1 ⟨rfl, m, rfl⟩
  have c36 := d36 m
  have c37 := d37 m
  by_cases hdt : done = turn
  · subst hdt
    have HD : Hid (∀ n, (w.drewN m).drewN n = w.drewN (m + n)) := fun n => World.drewN_drewN _ _ _
    generalize w.drewN m = wd at *
    clear hh hgr
    go_wp2_with fail
    go_quiet (fail)
    go_wp2_with fail
    go_ret
    refine ⟨rfl, n, A, ln, C, M, bv, ov, at', done, ?_, ?_⟩
    · rw [unhide HD]; exact hok _
    · rw [unhide HD]; exact hmv _
  · have hdb : ((done : Int) == (turn : Int)) = false := by
      have : ¬ ((done : Int) = (turn : Int)) := by omega
      simpa using this
    have HG := hide hgr
    have HV := hide hmv
    have HD : Hid (∀ n, (w.drewN m).drewN n = w.drewN (m + n)) := fun n => World.drewN_drewN _ _ _
    clear hh hgr hmv hok d36 d37 hd
    generalize w.drewN m = wd at *
    go_wp2_with fail
    go_quiet (fail)
    go_wp2_with fail
    rw [unhide HD]
    refine ((unhide HG) _).mono ?_
    rintro e w2 ⟨rfl, n', A', ln', C', M', bv', ov', h2, hU2, hl2, mv2⟩
    have hh2 := book_holds h2 ht (by omega) (fun i hi => by have := hl2 i hi; omega)
    have mvf := ((unhide HV) _).trans mv2
    clear HG HV HD mv2
    go_wp2_with fail
    refine hh2.mono ?_
    rintro e w3 ⟨rfl, m3, rfl⟩
    clear hh2
    go_wp2_with fail
    go_ret
    refine ⟨rfl, n', A', ln', C', M', bv', ov', n', turn, ⟨h2.since (since_drewN' (World.Since.refl _ _) m3), Nat.le_refl _, by omega, hu, hl2, fun i h1 h2 => by omega⟩, mvf.trans (Mv.of_since (since_drewN' (World.Since.refl _ _) m3))⟩
end Go.Proofs.YtonpmabdjngdcaaGreatDoor

/- A message's bytes with one bit turned: plain mathematics. -/
namespace Go.Proofs.YtonpmabdjngdcaaGreatDoor
open Go.RowKit

/-- The greatest number of bytes of a part. -/
def Fd.room : Fd → Nat
  | .var _ _ => 10
  | .small _ _ => 1
  | .text _ most => most + 10
theorem put_room {m : Mg} {f : Fd} (h : f.fits m) : (f.put m).length ≤ f.room := by
  cases f with
  | var c most => have := vl_len 9 (m.n c).toNat; exact this
  | small c most => show (fl 1 _).length ≤ 1; rw [fl_len]; exact Nat.le_refl _
  | text c most =>
    have h1 : (m.s c).length ≤ most := h.1
    show (vl 9 (m.s c).length ++ m.s c).length ≤ most + 10
    rw [List.length_append]
    have := vl_len 9 (m.s c).length
    omega
theorem putL_room {m : Mg} : ∀ fs : List Fd, (∀ f ∈ fs, f.fits m) → (putL m fs).length ≤ (fs.map Fd.room).sum
  | [], _ => Nat.le_refl _
  | f :: fs, h => by
    show (f.put m ++ putL m fs).length ≤ _
    rw [List.length_append, List.map_cons, List.sum_cons]
    have := put_room (h f (List.mem_cons_self ..))
    have := putL_room fs (fun g hg => h g (List.mem_cons_of_mem _ hg))
    omega
theorem fdsK_room : ∀ k : Fin 12, ((fdsK k.val).map Fd.room).sum ≤ 16900 := by decide +kernel
/-- Bytes that Encode answers: their number. -/
theorem enc_size {m : Mg} {l : List Nat} (he : encM m = (0, l)) : 8 ≤ l.length ∧ l.length ≤ 17000 := by
  unfold encM at he
  by_cases hk : kindB m = false
  · rw [if_pos hk] at he; exact absurd (congrArg Prod.fst he) (by simp)
  · rw [if_neg hk] at he
    by_cases hm : mayM m = false
    · rw [if_pos hm] at he; exact absurd (congrArg Prod.fst he) (by simp)
    · rw [if_neg hm] at he
      have e : sealG (bodyG m) = l := congrArg Prod.snd he
      have hk := Bool.of_not_eq_false hk
      have hm := Bool.of_not_eq_false hm
      have h1 := putL_room (fdsK (m.n 0).toNat) (fdsK_fits (Bool.and_eq_true_iff.1 hm).2)
      have h2 := fdsK_room ⟨_, kind_lt hk⟩
      have h3 : (bodyG m).length = 4 + (putL m (fdsK (m.n 0).toNat)).length := by unfold bodyG; rw [List.length_append, hds_len]
      have h2 : ((fdsK (m.n 0).toNat).map Fd.room).sum ≤ 16900 := h2
      rw [← e, seal_len]
      omega
theorem bitAt_ne {i j : Nat} (h : j ≠ i / 8) : Crc.bitAt i j = 0 := by unfold Crc.bitAt; rw [if_neg h]
theorem bitAt_lt8 (i j : Nat) : Crc.bitAt i j < 256 := by
  unfold Crc.bitAt
  split
  · exact Nat.lt_of_lt_of_le (Nat.pow_lt_pow_right (by decide) (Nat.mod_lt i (by decide))) (by decide)
  · decide
theorem xor_lt8 {a b : Nat} (ha : a < 256) (hb : b < 256) : a ^^^ b < 256 := Nat.xor_lt_two_pow (n := 8) ha hb
theorem bit_told (n i : Nat) (h : i < 8 * n) : Crc.fold 0 ((List.range n).map (Crc.bitAt i)) ≠ 0 := fun e => by
  rw [(Crc.fold_bit n i).2 h] at e
  exact absurd (Crc.it_eq_zero _ 1 (by decide) e) (by decide)
theorem xor_same (S D : Nat) (h : S ^^^ D = S) : D = 0 := by
  have : S ^^^ (S ^^^ D) = S ^^^ S := by rw [h]
  rw [← Nat.xor_assoc, Nat.xor_self, Nat.zero_xor] at this
  exact this
theorem cut_congr {x y : Nat → Nat} {a k : Nat} (h : ∀ j, j < k → x (a + j) = y (a + j)) : cutZ x a k = cutZ y a k := by
  unfold cutZ
  exact List.map_congr_left (fun j hj => h j (List.mem_range.1 hj))
theorem be_congr {x y : Nat → Nat} : ∀ k, (∀ j, j < k → x j = y j) → be x k = be y k
  | 0, _ => rfl
  | k + 1, h => by
    show be x k * 256 + x k = be y k * 256 + y k
    rw [be_congr k (fun j hj => h j (by omega)), h k (by omega)]
/-- One bit turned: another sum. -/
theorem dec_turned {m : Mg} {l : List Nat} (he : encM m = (0, l)) (hb : ∀ v ∈ l, v < 256) {i : Nat} (hi : i < 8 * l.length) : decM (fun j => l.getD j 0 ^^^ Crc.bitAt i j) l.length = (82, mg0) := by
  obtain ⟨h8, h17⟩ := enc_size he
  have hx : ∀ j, l.getD j 0 < 256 := fun j => by
    by_cases h : j < l.length
    · rw [List.getD_eq_getElem?_getD, List.getElem?_eq_getElem h]; exact hb _ (List.getElem_mem h)
    · rw [List.getD_eq_getElem?_getD, List.getElem?_eq_none (by omega)]; decide
  obtain ⟨N, hN⟩ : ∃ N, l.length = N + 4 := ⟨l.length - 4, by omega⟩
  have hcut : cutZ (fun j => l.getD j 0) 0 (N + 4) = l := by
    rw [← hN]
    unfold cutZ
    simp only [Nat.zero_add]
    exact range_getD l
  have hseal : be (fun j => (fun j => l.getD j 0) (N + j)) 4 = Crc.sum (cutZ (fun j => l.getD j 0) 0 N) := by
    refine (seal_iff (fun j => l.getD j 0) hx N).1 ?_
    unfold encM at he
    by_cases hk : kindB m = false
    · rw [if_pos hk] at he; exact absurd (congrArg Prod.fst he) (by simp)
    · rw [if_neg hk] at he
      by_cases hm : mayM m = false
      · rw [if_pos hm] at he; exact absurd (congrArg Prod.fst he) (by simp)
      · rw [if_neg hm] at he
        have e : sealG (bodyG m) = l := congrArg Prod.snd he
        have hl : (bodyG m).length = N := by have := congrArg List.length e; rw [seal_len, hN] at this; omega
        have hc := cutZ_cat (fun j => l.getD j 0) 0 N 4
        rw [Nat.zero_add, hcut, ← e] at hc
        have hbd : cutZ (fun j => l.getD j 0) 0 N = bodyG m := by rw [← e]; exact (List.append_inj hc (by rw [cutZ_len, hl])).1
        rw [hbd, hcut, e]
  unfold decM
  rw [hN] at hi ⊢
  rw [if_neg (by omega), Nat.add_sub_cancel, if_pos ?_]
  intro hq
  by_cases hin : i < 8 * N
  · have e1 : be (fun j => l.getD (N + j) 0 ^^^ Crc.bitAt i (N + j)) 4 = be (fun j => l.getD (N + j) 0) 4 := be_congr 4 (fun j hj => by rw [bitAt_ne (by omega), Nat.xor_zero])
    have hq : be (fun j => l.getD (N + j) 0 ^^^ Crc.bitAt i (N + j)) 4 = Crc.sum (cutZ (fun j => l.getD j 0 ^^^ Crc.bitAt i j) 0 N) := hq
    have hs := Crc.sum_turned N (fun j => l.getD j 0) (Crc.bitAt i)
    have e2 : cutZ (fun j => l.getD j 0 ^^^ Crc.bitAt i j) 0 N = (List.range N).map (fun j => l.getD j 0 ^^^ Crc.bitAt i j) := by unfold cutZ; simp only [Nat.zero_add]
    have e3 : cutZ (fun j => l.getD j 0) 0 N = (List.range N).map (fun j => l.getD j 0) := by unfold cutZ; simp only [Nat.zero_add]
    rw [e1, e2, hs, ← e3] at hq
    have hq2 := hseal.symm.trans hq
    exact bit_told N i hin (xor_same _ _ hq2.symm)
  · have e2 : cutZ (fun j => l.getD j 0 ^^^ Crc.bitAt i j) 0 N = cutZ (fun j => l.getD j 0) 0 N := cut_congr (fun j hj => by
      show l.getD (0 + j) 0 ^^^ Crc.bitAt i (0 + j) = l.getD (0 + j) 0
      rw [bitAt_ne (by omega), Nat.xor_zero])
    have hq : be (fun j => l.getD (N + j) 0 ^^^ Crc.bitAt i (N + j)) 4 = Crc.sum (cutZ (fun j => l.getD j 0 ^^^ Crc.bitAt i j) 0 N) := hq
    rw [e2, ← hseal] at hq
    have f1 := fl_be (fun j => l.getD (N + j) 0 ^^^ Crc.bitAt i (N + j)) (fun j => xor_lt8 (hx _) (bitAt_lt8 _ _)) 4
    have f2 := fl_be (fun j => l.getD (N + j) 0) (fun j => hx _) 4
    have hq3 : be (fun j => l.getD (N + j) 0 ^^^ Crc.bitAt i (N + j)) 4 = be (fun j => l.getD (N + j) 0) 4 := hq
    rw [hq3, f2] at f1
    have hj : i / 8 - N < 4 := by omega
    have : List.getD _ (i / 8 - N) 0 = List.getD _ (i / 8 - N) 0 := congrArg (fun l => l.getD (i / 8 - N) 0) f1
    rw [getD_range_map _ 4 _ hj, getD_range_map _ 4 _ hj, show N + (i / 8 - N) = i / 8 by omega] at this
    have h0 := xor_same _ _ this.symm
    unfold Crc.bitAt at h0
    rw [if_pos rfl] at h0
    exact absurd h0 (Nat.ne_of_gt (Nat.pow_pos (by decide)))
end Go.Proofs.YtonpmabdjngdcaaGreatDoor

/- Lists side by side, of elements of one cell: what an append of one leaves of all others. -/
namespace Go.Proofs.YtonpmabdjngdcaaGreatDoor
open Go.RowKit

/-- Cell j of block b, a row of elements of type e, holds x. -/
def Cel (e : TypeId) (w : World) (b j : Nat) (x : Value) : Prop := ∃ cur, w.heap[b]? = some (.cells cur e (0, 0)) ∧ cur[j]? = some x
theorem Cel.cell {e : TypeId} {w : World} {b j : Nat} {x : Value} (h : Cel e w b j x) : w.cell? ⟨b, j, none⟩ = some x := by
  obtain ⟨cur, h1, h2⟩ := h
  simp [World.cell?, h1, h2]
theorem Cel.lt {e : TypeId} {w : World} {b j : Nat} {x : Value} (h : Cel e w b j x) : b < w.heap.size := by
  obtain ⟨cur, h1, _⟩ := h
  exact (Array.getElem?_eq_some_iff.1 h1).1
theorem Cel.of_block {e : TypeId} {w w' : World} {b j : Nat} {x : Value} (h : Cel e w b j x) (hb : w'.heap[b]? = w.heap[b]?) : Cel e w' b j x := by
  obtain ⟨cur, h1, h2⟩ := h
  exact ⟨cur, hb.trans h1, h2⟩
theorem Cel.apart {e e' : TypeId} {w : World} {b b' j j' : Nat} {x x' : Value} (h : Cel e w b j x) (h' : Cel e' w b' j' x') (hne : e ≠ e') : b ≠ b' := by
  rintro rfl
  obtain ⟨cur, h1, _⟩ := h
  obtain ⟨cur', h1', _⟩ := h'
  rw [h1] at h1'
  simp only [Option.some.injEq, Obj.cells.injEq] at h1'
  exact hne h1'.2.1
theorem fown_cel {w : World} {K : Nat} {e : TypeId} {v : Value} {n : Nat} {xs : List Value} (h : w.ownsRow K e 1 v n xs) {b j : Nat} {x : Value} (hb : v.ownBlock = some b) (hx : xs[j]? = some x) : Cel e w b j x := by
  rcases h.2 with ⟨rfl, _⟩ | ⟨g, cap, cur, rfl, _, hq, _, _, _, htake⟩
  · cases hb
  · obtain rfl : g = b := by simpa [Value.ownBlock] using hb
    refine ⟨cur, hq, ?_⟩
    have hj : j < xs.length := (List.getElem?_eq_some_iff.1 hx).1
    rw [← htake] at hx
    rw [List.getElem?_take] at hx
    split at hx
    · simpa using hx
    · cases hx
/-- The block of a row that is not empty. -/
theorem fown_some {w : World} {K : Nat} {e : TypeId} {v : Value} {n : Nat} {xs : List Value} (h : w.ownsRow K e 1 v n xs) (hn : 0 < n) : ∃ b c, v = .slice (some ⟨b, 0, none⟩) n c ∧ v.ownBlock = some b ∧ K ≤ b ∧ b < w.heap.size ∧ n ≤ c := by
  rcases h.2 with ⟨_, rfl⟩ | ⟨g, cap, cur, rfl, hk, hq, hc, _⟩
  · omega
  · exact ⟨g, cap, rfl, rfl, hk, (Array.getElem?_eq_some_iff.1 hq).1, hc⟩
theorem fown_slice {w : World} {K : Nat} {e : TypeId} {v : Value} {n : Nat} {xs : List Value} (h : w.ownsRow K e 1 v n xs) : ∃ a c, v = .slice a n c ∧ n ≤ c ∧ (∀ b, v.ownBlock = some b → a = some ⟨b, 0, none⟩) := by
  rcases h.2 with ⟨rfl, rfl⟩ | ⟨g, cap, cur, rfl, _, _, hc, _⟩
  · exact ⟨none, 0, rfl, Nat.le_refl _, fun b h => by cases h⟩
  · exact ⟨_, cap, rfl, hc, fun b h => by simp [Value.ownBlock] at h; rw [h]⟩
theorem fown_apart {w : World} {K K' : Nat} {e e' : TypeId} {v v' : Value} {n n' : Nat} {xs xs' : List Value} (h : w.ownsRow K e 1 v n xs) (h' : w.ownsRow K' e' 1 v' n' xs') (hne : e ≠ e') : ∀ b, v.ownBlock = some b → v'.ownBlock ≠ some b := by
  intro b hb hb'
  rcases h.2 with ⟨rfl, _⟩ | ⟨g, cap, cur, rfl, _, hq, _⟩
  · cases hb
  · rcases h'.2 with ⟨rfl, _⟩ | ⟨g', cap', cur', rfl, _, hq', _⟩
    · cases hb'
    · obtain rfl : g = b := by simpa [Value.ownBlock] using hb
      obtain rfl : g' = g := by simpa [Value.ownBlock] using hb'
      rw [hq] at hq'
      simp only [Option.some.injEq, Obj.cells.injEq] at hq'
      exact hne hq'.2.1
theorem fown_block {w w' : World} {K : Nat} {e : TypeId} {v : Value} {n : Nat} {xs : List Value} (h : w.ownsRow K e 1 v n xs) (hb : ∀ b, v.ownBlock = some b → w'.heap[b]? = w.heap[b]?) : w'.ownsRow K e 1 v n xs := by
  refine ⟨h.1, ?_⟩
  rcases h.2 with ⟨rfl, h0⟩ | ⟨g, cap, cur, rfl, hk, hq, hr⟩
  · exact .inl ⟨rfl, h0⟩
  · exact .inr ⟨g, cap, cur, rfl, hk, (hb g rfl).trans hq, hr⟩

/-- From w to w' only the block g has been written, from its cell n on, and the block f; all else that was there is as it was. -/
structure Grew (e : TypeId) (w w' : World) (g : Option Nat) (n : Nat) (f : Option Nat) : Prop where
  os : w'.os = w.os
  tape : w'.tape = w.tape
  output : w'.output = w.output
  size : w.heap.size ≤ w'.heap.size
  block : ∀ b, b < w.heap.size → g ≠ some b → f ≠ some b → w'.heap[b]? = w.heap[b]?
  cell : ∀ b j x, g = some b → f ≠ some b → j < n → Cel e w b j x → Cel e w' b j x

theorem Grew.refl (e : TypeId) (w : World) (g : Option Nat) (n : Nat) (f : Option Nat) : Grew e w w g n f := ⟨rfl, rfl, rfl, Nat.le_refl _, fun _ _ _ _ => rfl, fun _ _ _ _ _ _ h => h⟩

theorem Grew.of_below {w w' : World} (h : Below w.heap.size w w') (e : TypeId) (g : Option Nat) (n : Nat) (f : Option Nat) : Grew e w w' g n f :=
  ⟨h.os, h.tape, h.output, h.size, fun b hb _ _ => h.block b hb, fun b _ _ _ _ _ hc => hc.of_block (h.block b hc.lt)⟩

theorem Grew.below {e : TypeId} {w w' : World} {g : Option Nat} {n : Nat} {f : Option Nat} (h : Grew e w w' g n f) (K : Nat) (hK : K ≤ w.heap.size) (hg : ∀ b, g = some b → K ≤ b) (hf : ∀ b, f = some b → K ≤ b) : Below K w w' :=
  ⟨h.os, h.tape, h.output, h.size, fun b hb => h.block b (by omega) (fun e => by have := hg b e; omega) (fun e => by have := hf b e; omega)⟩

/-- A row elsewhere is as it was. -/
theorem Grew.own {e : TypeId} {w w' : World} {g f : Option Nat} {m : Nat} (k : Grew e w w' g m f) {K : Nat} {e' : TypeId} {v : Value} {n : Nat} {xs : List Value} (h : w.ownsRow K e' 1 v n xs) (hg : ∀ b, v.ownBlock = some b → g ≠ some b) (hf : ∀ b, v.ownBlock = some b → f ≠ some b) : w'.ownsRow K e' 1 v n xs :=
  fown_block h (fun b hb => k.block b (h.lt b hb).2 (hg b hb) (hf b hb))

/-- One more step: the list under way lies where it began, or in new memory; so does the other row. -/
theorem Grew.trans {e : TypeId} {w w1 w2 : World} {g g1 f f1 : Option Nat} {n n1 : Nat} (h : Grew e w w1 g n f) (k : Grew e w1 w2 g1 n1 f1) (hg : g1 = g ∧ n ≤ n1 ∨ ∀ b, g1 = some b → w.heap.size ≤ b) (hf : f1 = f ∨ ∀ b, f1 = some b → w.heap.size ≤ b) : Grew e w w2 g n f := by
  have ne1 : ∀ b, b < w.heap.size → g ≠ some b → g1 ≠ some b := fun b hb hn e => by
    rcases hg with ⟨rfl, _⟩ | hg
    · exact hn e
    · have := hg b e; omega
  have nf1 : ∀ b, b < w.heap.size → f ≠ some b → f1 ≠ some b := fun b hb hn e => by
    rcases hf with rfl | hf
    · exact hn e
    · have := hf b e; omega
  refine ⟨k.os.trans h.os, k.tape.trans h.tape, k.output.trans h.output, Nat.le_trans h.size k.size, fun b hb h1 h2 => ?_, fun b j x eg hfb hj hc => ?_⟩
  · rw [k.block b (Nat.lt_of_lt_of_le hb h.size) (ne1 b hb h1) (nf1 b hb h2)]
    exact h.block b hb h1 h2
  · have hb := hc.lt
    have hc1 := h.cell b j x eg hfb hj hc
    by_cases e1 : g1 = some b
    · rcases hg with ⟨_, hn⟩ | hg
      · exact k.cell b j x e1 (nf1 b hb hfb) (by omega) hc1
      · have := hg b e1; omega
    · exact hc1.of_block (k.block b (Nat.lt_of_lt_of_le hb h.size) e1 (nf1 b hb hfb))

/-- append of one, whatever the element's type. -/
theorem fapp_one {P : Program} {w : World} {K n bytes : Nat} {v z y : Value} {xs : List Value} {t ty e : TypeId} (ht : P.underlying t = some (.slice e)) (hinfo : (P.info? e).map (fun i => (i.zero, i.size, i.bytes)) = some (some z, 1, bytes)) (hzc : z.cells.size = 1)
    (h : w.ownsRow K e 1 v n xs) (hy : y.oneCell' = true) (hb : ((n + 1) + (n + 1) / 4 + 192) * bytes ≤ 281474976710656) (hn : n + 1 ≤ 140737488355328) (hK : K ≤ w.heap.size) :
    ∃ v' w', (Builtin.append_ #[t, t] ty #[v, .slice (some ⟨w.heap.size, 0, none⟩) 1 1]).run P (w.alloc (.cells #[y] e)) = .ok v' w' ∧ w'.ownsRow K e 1 v' (n + 1) (xs ++ [y]) ∧ Grew e w w' v.ownBlock n none ∧ (v'.ownBlock = v.ownBlock ∨ ∃ b, v'.ownBlock = some b ∧ w.heap.size ≤ b) := by
  obtain ⟨i0, hi, hz0, hz1, hz2⟩ : ∃ i, P.info? e = some i ∧ i.zero = some z ∧ i.size = 1 ∧ i.bytes = bytes := by
    obtain ⟨i, hi, hh⟩ := Option.map_eq_some_iff.1 hinfo
    simp only [Prod.mk.injEq] at hh
    exact ⟨i, hi, hh.1, hh.2.1, hh.2.2⟩
  have hnews : ∀ j u, [y][j]? = some u → (w.alloc (.cells #[y] e)).cell? ((⟨w.heap.size, 0, none⟩ : Addr).add j) = some u := fun j u hj => by
    obtain ⟨hj1, hj2⟩ := List.getElem?_eq_some_iff.1 hj
    have : j = 0 := by simpa using hj1
    subst this
    rw [← hj2]
    simp [Addr.add]
  have hwf : ∀ u, u ∈ [y] → u.oneCell' = true := fun u hu => by rw [show u = y by simpa using hu]; exact hy
  have hml : maxLen = 9223372036854775807 := rfl
  have ho := h.alloc (.cells #[y] e)
  have hz : (w.alloc (.cells #[y] e)).heap.size = w.heap.size + 1 := by simp
  obtain ⟨v', w', h1, h2, h3, _⟩ := run_append_own_wide (P := P) (w.alloc (.cells #[y] e)) K t ty e i0 z 1 bytes ht hi hz0 hz1 hz2 hzc (by decide) v n xs ho ⟨w.heap.size, 0, none⟩ 1 1 [y] rfl hnews hwf (by omega) hb (by omega)
  have hlt := h.lt
  refine ⟨v', w', h1, h2, ⟨h3.os, h3.tape, h3.output, by have := h3.size; omega, fun b hb hg _ => ?_, fun b j x hg _ hj hc => ?_⟩, ?_⟩
  · rw [h3.block b (by omega) (fun e => hg e.symm)]
    exact Below.heap_alloc _ _ _ hb
  · rcases ho.2 with ⟨rfl, hn0⟩ | ⟨q, cap, cur, rfl, hbg, hq, hnc, hcm, hcs, htake⟩
    · omega
    · obtain rfl : q = b := by simpa [Value.ownBlock] using hg
      have hqb := (hlt q rfl).2
      have hxs : xs[j]? = some x := by
        rw [← h.cellAt j (by omega)]
        exact hc.cell
      by_cases hroom : n + 1 ≤ cap
      · have hr2 := run_append_room (P := P) (w.alloc (.cells #[y] e)) t ty e i0 ht hi q n cap cur hq ⟨w.heap.size, 0, none⟩ 1 1 [y] (by rw [hz1]; rfl) hnews hwf hroom (by rw [hz1, hcs]; show n * 1 + 1 ≤ cap * 1; omega)
        rw [hr2] at h1
        injection h1 with e1 e2
        subst e1
        exact fown_cel h2 rfl (by rw [List.getElem?_append_left (by rw [h.1]; omega)]; exact hxs)
      · have hr2 := run_append_grow (P := P) (w.alloc (.cells #[y] e)) t ty e i0 z ht hi hz0 ⟨q, 0, none⟩ n cap xs (by rw [hz1]; exact ho.1) (ho.cells (g := q) rfl) ⟨w.heap.size, 0, none⟩ 1 1 [y] (by rw [hz1]; rfl) hnews (by omega) (by omega) (by rw [hz2]; exact growslice_fits_wide (by omega) hb)
        rw [hr2] at h1
        injection h1 with e1 e2
        subst e2
        refine (hc.of_block (Below.heap_alloc _ (.cells #[y] e) _ hqb)).of_block ?_
        exact heap_alloc_old (w.alloc (.cells #[y] e)).drew _ (by simp; omega)
  · rcases ho.2 with ⟨rfl, hn0⟩ | ⟨q, cap, cur, rfl, hbg, hq, hnc, hcm, hcs, htake⟩
    · subst hn0
      have hr2 := run_append_nil (P := P) (w.alloc (.cells #[y] e)) t ty e i0 z ht hi hz0 ⟨w.heap.size, 0, none⟩ 1 1 [y] (by rw [hz1]; rfl) hnews (by omega) (by omega) (by rw [hz2]; omega)
      rw [hr2] at h1
      injection h1 with e1 e2
      subst e1
      exact .inr ⟨_, rfl, by show w.heap.size ≤ (w.alloc (.cells #[y] e)).heap.size; omega⟩
    · by_cases hroom : n + 1 ≤ cap
      · have hr2 := run_append_room (P := P) (w.alloc (.cells #[y] e)) t ty e i0 ht hi q n cap cur hq ⟨w.heap.size, 0, none⟩ 1 1 [y] (by rw [hz1]; rfl) hnews hwf hroom (by rw [hz1, hcs]; show n * 1 + 1 ≤ cap * 1; omega)
        rw [hr2] at h1
        injection h1 with e1 e2
        subst e1
        exact .inl rfl
      · have hr2 := run_append_grow (P := P) (w.alloc (.cells #[y] e)) t ty e i0 z ht hi hz0 ⟨q, 0, none⟩ n cap xs (by rw [hz1]; exact ho.1) (ho.cells (g := q) rfl) ⟨w.heap.size, 0, none⟩ 1 1 [y] (by rw [hz1]; rfl) hnews (by omega) (by omega) (by rw [hz2]; exact growslice_fits_wide (by omega) hb)
        rw [hr2] at h1
        injection h1 with e1 e2
        subst e1
        exact .inr ⟨_, rfl, by show w.heap.size ≤ (w.alloc (.cells #[y] e)).heap.size; omega⟩
end Go.Proofs.YtonpmabdjngdcaaGreatDoor

/- MessageBack: plain mathematics, and the list of what has been written. -/
namespace Go.Proofs.YtonpmabdjngdcaaGreatDoor
open Go.RowKit
set_option maxRecDepth 100000

theorem mg_eq {a b : Mg} (wa : a.wf) (wb : b.wf) (h : eqG a b = true) : a = b := by
  have h := (eqG_iff a b).1 h
  refine Mg.ext' (fun c => ?_) (fun c => ?_)
  · by_cases hc : c < 22
    · exact (h c hc).1
    · rw [wa.n c (by omega), wb.n c (by omega)]
  · by_cases hc : c < 22
    · exact (h c hc).2
    · rw [wa.s c (by omega) (by omega) (by omega), wb.s c (by omega) (by omega) (by omega)]
theorem enc_inj {a b : Mg} (wa : a.wf) (wb : b.wf) {x y : List Nat} (ha : encM a = (0, x)) (hb : encM b = (0, y)) (hx : ∀ v ∈ x, v < 256) : decide (x = y) = eqG a b := by
  by_cases h : eqG a b = true
  · obtain rfl := mg_eq wa wb h
    rw [ha] at hb
    rw [h, decide_eq_true (congrArg Prod.snd hb)]
  · have hf : eqG a b = false := Bool.eq_false_iff.2 h
    rw [hf]
    refine decide_eq_false fun e => h ?_
    subst e
    have hl := (enc_size ha).2
    have h1 := dec_enc (z := fun j => x.getD j 0) (fun j => getD_byte hx j) wa ha hl (by rw [← cut_all, range_getD])
    have h2 := dec_enc (z := fun j => x.getD j 0) (fun j => getD_byte hx j) wb hb hl (by rw [← cut_all, range_getD])
    rw [h1] at h2
    have : a = b := congrArg Prod.snd h2
    rw [this]
    exact eqG_refl b
theorem enc_byte {m : Mg} (hb : ∀ c, ∀ v ∈ m.s c, v < 256) : ∀ v ∈ (encM m).2, v < 256 := by
  unfold encM
  split
  · exact fun v hv => absurd hv (List.not_mem_nil)
  · split
    · exact fun v hv => absurd hv (List.not_mem_nil)
    · exact seal_byte (body_byte hb)
theorem enc_none {m : Mg} (h : (encM m).1 ≠ 0) : (encM m).2 = [] := by
  unfold encM at h ⊢
  split
  · rfl
  · rename_i h1
    rw [if_neg h1] at h
    split
    · rfl
    · rename_i h2
      rw [if_neg h2] at h
      exact absurd rfl h
/-- The list of what has been written so far. -/
structure BkAll (W0 wr : World) (v : Value) (i : Nat) (EA : Nat → Option Addr) (M : Nat → Mg) : Prop where
  own : wr.ownsRow W0.heap.size 32 1 v i ((List.range i).map fun k => .slice (EA k) (encM (M k)).2.length (encM (M k)).2.length)
  txt : ∀ k, k < i → Txt W0.heap.size wr (EA k) (encM (M k)).2.length (fun j => (encM (M k)).2.getD j 0)
  sin : W0.Since W0.heap.size wr
theorem BkAll.later {W0 wr wr' : World} {v : Value} {i : Nat} {EA : Nat → Option Addr} {M : Nat → Mg} (h : BkAll W0 wr v i EA M) (hs : wr.Since wr.heap.size wr') : BkAll W0 wr' v i EA M :=
  ⟨fown_block h.own (fun b hb => hs.block b (h.own.lt b hb).2), fun k hk => (h.txt k hk).since hs, h.sin.trans (since_mono hs h.sin.size)⟩
theorem infoBs : (Tryz.prog.info? 32).map (fun i => (i.zero, i.size, i.bytes)) = some (some (.slice none 0 0), 1, 24) := by kernel_rfl
/-- One more. -/
theorem BkAll.push {W0 wr : World} {v : Value} {i : Nat} {EA : Nat → Option Addr} {M : Nat → Mg} (h : BkAll W0 wr v i EA M) (hi : i ≤ 1000000000000) (ta : Option Addr) (ht : Txt W0.heap.size wr ta (encM (M i)).2.length (fun j => (encM (M i)).2.getD j 0)) :
    ∃ (a' : Option Addr) (c' : Nat) (w' : World), Hid ((Builtin.append_ #[23, 23] 23 #[v, .slice (some ⟨wr.heap.size, 0, none⟩) 1 1]).run Tryz.prog (wr.alloc (.cells #[.slice ta (encM (M i)).2.length (encM (M i)).2.length] 32)) = .ok (.slice a' (i + 1) c') w') ∧ Hid (BkAll W0 w' (.slice a' (i + 1) c') (i + 1) (fun k => if k = i then ta else EA k) M) := by
  obtain ⟨v', w', hr, ho, hg, hv⟩ := fapp_one (P := Tryz.prog) (ty := 23) (y := .slice ta (encM (M i)).2.length (encM (M i)).2.length) Tryz.underlying23 infoBs rfl h.own rfl (by omega) (by omega) h.sin.size
  obtain ⟨a', c', hv', hc', _⟩ := fown_slice ho
  subst hv'
  refine ⟨a', c', w', hr, ?_, fun k hk => ?_, ?_⟩
  · have e : ((List.range (i + 1)).map fun k => Value.slice (if k = i then ta else EA k) (encM (M k)).2.length (encM (M k)).2.length) = ((List.range i).map fun k => Value.slice (EA k) (encM (M k)).2.length (encM (M k)).2.length) ++ [.slice ta (encM (M i)).2.length (encM (M i)).2.length] := by
      rw [List.range_succ, List.map_append]
      congr 1
      · exact List.map_congr_left (fun k hk => by have := List.mem_range.1 hk; rw [if_neg (by omega)])
      · simp
    rw [e]
    exact ho
  · have keep : ∀ (t L : Nat) (f : Nat → Value), wr.rowIs t 5 L f → w'.rowIs t 5 L f := fun t L f hr => hr.of_block (hg.block t hr.lt (fun e => by
      rcases h.own.2 with ⟨rfl, _⟩ | ⟨g, cap, cur, rfl, _, hq, _⟩
      · cases e
      · obtain rfl : g = t := by simpa [Value.ownBlock] using e
        obtain ⟨c, h1, _⟩ := hr
        rw [hq] at h1
        simp only [Option.some.injEq, Obj.cells.injEq] at h1
        exact absurd h1.2.1 (by decide)) (fun e => by cases e))
    by_cases e : k = i
    · subst e
      rw [if_pos rfl]
      rcases ht with h1 | ⟨t, h1, h2, h3⟩
      · exact .inl h1
      · exact .inr ⟨t, h1, h2, keep _ _ _ h3⟩
    · rw [if_neg e]
      rcases h.txt k (by omega) with h1 | ⟨t, h1, h2, h3⟩
      · exact .inl h1
      · exact .inr ⟨t, h1, h2, keep _ _ _ h3⟩
  · have := hg.below W0.heap.size h.sin.size (fun b e => (h.own.lt b e).1) (fun b e => by cases e)
    exact h.sin.trans ⟨this.os, this.tape, this.output, this.size, this.block⟩
theorem BkAll.at {W0 wr : World} {v : Value} {i : Nat} {EA : Nat → Option Addr} {M : Nat → Mg} (h : BkAll W0 wr v i EA M) {k : Nat} (hk : k < i) : ∃ b c, v = .slice (some ⟨b, 0, none⟩) i c ∧ i ≤ c ∧ wr.cell? ⟨b, k, none⟩ = some (.slice (EA k) (encM (M k)).2.length (encM (M k)).2.length) ∧ b < wr.heap.size := by
  obtain ⟨b, c, hv, hb, _, hlt, hc⟩ := fown_some h.own (by omega)
  refine ⟨b, c, hv, hc, ?_, hlt⟩
  have := fown_cel h.own hb (j := k) (x := .slice (EA k) (encM (M k)).2.length (encM (M k)).2.length) (by rw [List.getElem?_map, List.getElem?_range hk]; rfl)
  exact this.cell
end Go.Proofs.YtonpmabdjngdcaaGreatDoor

/- MessageExact: the Book, what is lent, what is scrawled over. -/
namespace Go.Proofs.YtonpmabdjngdcaaGreatDoor
open Go.RowKit
set_option maxRecDepth 100000

/-- A Book in memory, F the blocks that are its, T how often it was told something. -/
def Bk (B : Nat) (w : World) (bk : Nat) (F : Nat → Prop) (T : Nat) : Prop := ∃ n A ln C M bv ov at' done used, BookOk w B bk n A ln C M bv ov at' T done used ∧ F = BF bk n A bv ov
theorem Bk.ge {B : Nat} {w : World} {bk : Nat} {F : Nat → Prop} {T : Nat} (h : Bk B w bk F T) {k : Nat} (hk : F k) : B ≤ k ∧ k < w.heap.size := by
  obtain ⟨n, A, ln, C, M, bv, ov, at', done, used, hb, rfl⟩ := h
  exact hb.is.ge k hk
theorem Bk.later {B : Nat} {w w' : World} {bk : Nat} {F : Nat → Prop} {T : Nat} (h : Bk B w bk F T) (hz : w.heap.size ≤ w'.heap.size) (hk : ∀ k, F k → w'.heap[k]? = w.heap[k]?) : Bk B w' bk F T := by
  obtain ⟨n, A, ln, C, M, bv, ov, at', done, used, hb, rfl⟩ := h
  exact ⟨n, A, ln, C, M, bv, ov, at', done, used, ⟨hb.is.later hz hk, hb.hat, hb.hU, hb.hu, hb.hl, hb.hl2⟩, rfl⟩
theorem Bk.since {B : Nat} {w w' : World} {bk : Nat} {F : Nat → Prop} {T : Nat} (h : Bk B w bk F T) (hs : w.Since w.heap.size w') : Bk B w' bk F T := h.later hs.size (fun _ hk => hs.block _ (h.ge hk).2)
theorem bk_bytes {B : Nat} {w : World} {bk : Nat} {F : Nat → Prop} {T : Nat} (h : Bk B w bk F T) (hB : B ≤ w.heap.size) (hT : T ≤ 9000000000000000) (a : Option Addr) (len cap : Nat) (x : Nat → Nat) (hl : Own w B (.slice a len cap) len x) (hfree : ∀ ad, a = some ad → ¬ F ad.block) (hlen : len ≤ 1099511627776) :
    Calls Tryz.prog 20 #[.pointer (some ⟨bk, 0, none⟩), .slice a len cap] w fun e w' => e = .returned (.tuple #[]) ∧ ∃ F', Bk B w' bk F' (T + 1) ∧ ∀ w0 : World, w0.Since B w → w0.heap.size = B → w0.Since B w' := by
  obtain ⟨n, A, ln, C, M, bv, ov, at', done, used, hb, rfl⟩ := h
  refine (bookBytes hb.is hB a len cap x hl hfree hb.hat hT hlen hb.hU hb.hu hb.hl hb.hl2).mono fun e w' ⟨he, n', A', ln', C', M', bv', ov', used', h1, h2, h3, h4, h5, h6, hm⟩ => ⟨he, _, ⟨n', A', ln', C', M', bv', ov', at', done, used', ⟨h1, h2, h3, h4, h5, h6⟩, rfl⟩, fun w0 h0 hz => ?_⟩
  refine Mv.since h0 hB (fun k hk => ?_) hm
  rcases hk with hk | ⟨ad, e1, rfl⟩
  · exact (hb.is.ge k hk).1
  · rcases hl.2 with ⟨e2, _⟩ | ⟨g, c, cur, e2, hg, _⟩
    · rw [e1] at e2; cases e2
    · rw [e1] at e2; cases e2; exact hg
theorem bk_look {B : Nat} {w : World} {bk : Nat} {F : Nat → Prop} {T : Nat} (h : Bk B w bk F T) (hB : B ≤ w.heap.size) (hT : T ≤ 10000000000000000) :
    Calls Tryz.prog 21 #[.pointer (some ⟨bk, 0, none⟩)] w fun e w' => e = .returned (.bool true) ∧ ∀ w0 : World, w0.Since B w → w0.heap.size = B → w0.Since B w' := by
  obtain ⟨n, A, ln, C, M, bv, ov, at', done, used, hb, rfl⟩ := h
  refine (book_look hb hB hT).mono fun e w' ⟨he, n', A', ln', C', M', bv', ov', at2, done2, h1, hm⟩ => ⟨he, fun w0 h0 _ => ?_⟩
  exact Mv.since h0 hB (fun k hk => (hb.is.ge k hk).1) hm
def bookZ8 : Array Value := #[.slice none 0 0, .slice none 0 0, .int .i64 0, .slice none 0 0, .slice none 0 0, .int .i64 0, .slice none 0 0, .slice none 0 0, .int .i64 0, .slice none 0 0, .slice none 0 0, .int .i64 0, .slice none 0 0, .slice none 0 0, .int .i64 0, .slice none 0 0, .slice none 0 0, .int .i64 0, .slice none 0 0, .slice none 0 0, .int .i64 0, .slice none 0 0, .slice none 0 0, .int .i64 0, .slice none 0 0, .slice none 0 0, .int .i64 0, .slice none 0 0, .slice none 0 0, .int .i64 0, .slice none 0 0, .slice none 0 0, .int .i64 0, .slice none 0 0, .slice none 0 0, .int .i64 0, .int .i64 0, .int .i64 0, .int .i64 0]
theorem bookZ8_at : ∀ i, i < 39 → bookZ8[i]? = some (bookCell (.slice none 0 0) (.slice none 0 0) 0 0 0 0 i)
  | 0, _ => rfl | 1, _ => rfl | 2, _ => rfl | 3, _ => rfl | 4, _ => rfl | 5, _ => rfl | 6, _ => rfl | 7, _ => rfl | 8, _ => rfl | 9, _ => rfl
  | 10, _ => rfl | 11, _ => rfl | 12, _ => rfl | 13, _ => rfl | 14, _ => rfl | 15, _ => rfl | 16, _ => rfl | 17, _ => rfl | 18, _ => rfl | 19, _ => rfl
  | 20, _ => rfl | 21, _ => rfl | 22, _ => rfl | 23, _ => rfl | 24, _ => rfl | 25, _ => rfl | 26, _ => rfl | 27, _ => rfl | 28, _ => rfl | 29, _ => rfl
  | 30, _ => rfl | 31, _ => rfl | 32, _ => rfl | 33, _ => rfl | 34, _ => rfl | 35, _ => rfl | 36, _ => rfl | 37, _ => rfl | 38, _ => rfl
  | n + 39, h => by omega
/-- A new Book. -/
theorem bk_new (w : World) {B : Nat} (hB : B ≤ w.heap.size) : Bk B (w.alloc (.cells bookZ8 70)) w.heap.size (fun k => k = w.heap.size ∨ False) 0 := by
  refine ⟨0, fun _ => none, fun _ => 0, fun _ => 0, fun _ => 0, .slice none 0 0, .slice none 0 0, 0, 0, 0, ⟨⟨World.rowIs_alloc w bookZ8 _ _ bookZ8_at, ⟨rfl, .inl ⟨rfl, rfl⟩⟩, ⟨rfl, .inl ⟨rfl, rfl⟩⟩, fun i hi => absurd hi (Nat.not_lt_zero i), fun i _ hi => absurd hi (Nat.not_lt_zero i), fun i a hi => absurd hi (Nat.not_lt_zero i), fun i j a a' _ hi => absurd hi (Nat.not_lt_zero i), ⟨(fun e => by cases e), (fun e => by cases e)⟩, (fun k e => by cases e), Nat.le_refl _, hB, fun i hi => absurd hi (Nat.not_lt_zero i)⟩, Nat.le_refl _, by omega, by omega, fun i hi => absurd hi (Nat.not_lt_zero i), fun i _ hi => absurd hi (Nat.not_lt_zero i)⟩, ?_⟩
  funext k
  unfold BF
  refine propext ⟨fun h => .inl (h.elim id False.elim), fun h => ?_⟩
  rcases h with h | h | h | ⟨i, a, hi, _⟩
  · exact .inl h
  · cases h
  · cases h
  · exact absurd hi (Nat.not_lt_zero i)
theorem txt_own {B : Nat} {w : World} {ta : Option Addr} {l : Nat} {x : Nat → Nat} (h : Txt B w ta l x) (hl : l ≤ 9223372036854775807) : Own w B (.slice ta l l) l x := by
  rcases h with ⟨rfl, rfl⟩ | ⟨t, rfl, ht, hr⟩
  · exact own_nil w B x
  · exact own_of_row hr ht (Nat.le_refl _) hl (fun j _ => rfl)
set_option maxHeartbeats 800000 in
/-- scrawl: nothing but the block that is handed in turns. -/
theorem scrawl_any (g len cap : Nat) (w : World) (f : Nat → Value) (hr : w.rowIs g 5 cap f) (hu : ∀ j, j < len → ∃ q : Int, f j = .int .u8 q) (hl : len ≤ cap) (hm : len ≤ 140737488351232) :
    Calls Tryz.prog 19 #[.slice (some ⟨g, 0, none⟩) len cap] w fun e w' => e = .returned (.tuple #[]) ∧ But g w w' := by
  go_enter Tryz.func19, Tryz.ntmps19
  go_wp2_with fail
  go_loopg [2] len (fun q s2 wx => ∃ (i : Nat) (f : Nat → Value), i ≤ len ∧ q = len - i ∧ s2 = .int .i64 i ∧ Hid (wx.rowIs g 5 cap f ∧ (∀ j, j < len → ∃ q : Int, f j = .int .u8 q) ∧ But g w wx))
  case atStart => exact ⟨0, f, Nat.zero_le _, rfl, rfl, hr, hu, But.of_since (World.Since.refl _ _)⟩
  case round =>
    obtain ⟨i, f, hi, rfl, rfl, HR⟩ := hrel
    by_cases hlt : i < len
    · have hlt2 : (i : Int) < (len : Int) := by omega
      obtain ⟨q, hq⟩ := HR.out.2.1 i hlt
      have c := HR.out.1.cell (i := i) (by omega)
      rw [hq] at c
      have fz := HR.out.1.frozen i
      have HE : Hid ((wr.setCell ⟨g, i, none⟩ (.int .u8 238)).rowIs g 5 cap (fun j => if j = i then .int .u8 238 else f j) ∧ (∀ j, j < len → ∃ q : Int, (fun j => if j = i then Value.int .u8 238 else f j) j = .int .u8 q) ∧ But g w (wr.setCell ⟨g, i, none⟩ (.int .u8 238))) := ⟨HR.out.1.set i _, fun j hj => by
        by_cases e : j = i
        · exact ⟨238, by simp [e]⟩
        · obtain ⟨q, hq⟩ := HR.out.2.1 j hj
          exact ⟨q, by simp [e, hq]⟩, HR.out.2.2.setCell i _⟩
      clear hr hu hq
      go_wp2_with fail
      go_roundg (len - (i + 1))
      case measure => go_light; omega
      case rel => go_light; exact ⟨i + 1, _, by omega, rfl, by simp, HE⟩
    · have hge : ¬ ((i : Int) < (len : Int)) := by omega
      clear hr hu
      go_wp2_with fail
      go_end0
      exact ⟨rfl, HR.out.2.2⟩
/-- A message with its Value lent anew. -/
theorem row_lend {W : World} {kb : Nat} {m : Mg} {va : Option Addr} {vc : Nat} (h : W.rowIs kb 37 22 (mgCell m va vc)) (ta : Option Addr) (k : Nat) : (W.setCell ⟨kb, 10, none⟩ (.slice ta (m.s 10).length k)).rowIs kb 37 22 (mgCell m ta k) :=
  (h.set 10 _).congr (fun i _ => by
    by_cases e : i = 10
    · subst e
      rw [if_pos rfl]
      rfl
    · rw [if_neg e]
      unfold mgCell
      rw [if_neg e, if_neg e])
end Go.Proofs.YtonpmabdjngdcaaGreatDoor
