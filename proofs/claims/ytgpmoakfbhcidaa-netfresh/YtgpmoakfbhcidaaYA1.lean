/- Lists of bytes side by side, each its caller's own: written full, looked at. -/
import Derived.Test.YtgpmoakfbhcidaaBZ9
namespace Go.Proofs.Ytgpmoakfbhcidaa
open Go.RowKit
set_option maxRecDepth 100000
set_option maxRecDepth 100000

theorem sign_any (n k : Nat) (w : World) (hn : n ≤ 1000000000) : Calls Try.prog 75 #[.int .i64 n, .int .i64 k] w fun e w' => e = .returned (.int .u8 (mrk n k : Nat)) ∧ w' = w := by
  by_cases h2 : k % 2 = 0
  · have e : mrk n k = 1 + n % 251 := if_pos h2
    rw [e]
    have h1 : Int.tmod (k : Int) 2 = 0 := by
      have := Int.ofNat_tmod k 2
      rw [h2] at this
      exact this.symm
    obtain ⟨r, hr, hr2⟩ : ∃ r : Nat, Int.tmod (n : Int) 251 = (r : Int) ∧ r = n % 251 := ⟨n % 251, (Int.ofNat_tmod n 251).symm, rfl⟩
    obtain ⟨q, hq, hq2⟩ : ∃ q : Nat, (1 : Int) + (r : Int) = (q : Int) ∧ q = 1 + r := ⟨1 + r, by omega, rfl⟩
    have hw : IntKind.i64.wrap (q : Int) = (q : Int) := by rw [IntKind.wrap_i64]; omega
    have hw8 : IntKind.u8.wrap (q : Int) = (q : Int) := by rw [IntKind.wrap_u8']; omega
    have hfin : q = 1 + n % 251 := by omega
    clear hq2 hr2
    rw [← hfin]
    clear hfin
    go_enter Try.func75, Try.ntmps75
    go_wp2_with fail
    go_ret
    exact ⟨rfl, rfl⟩
  · have e : mrk n k = 1 + (7 * n + n / 251) % 251 := if_neg h2
    rw [e]
    have h1 : Int.tmod (k : Int) 2 = 1 := by
      have := Int.ofNat_tmod k 2
      rw [show k % 2 = 1 by omega] at this
      exact this.symm
    obtain ⟨s, hs, hs2⟩ : ∃ s : Nat, (7 : Int) * (n : Int) = (s : Int) ∧ s = 7 * n := ⟨7 * n, by omega, rfl⟩
    have hws : IntKind.i64.wrap (s : Int) = (s : Int) := by rw [IntKind.wrap_i64]; omega
    obtain ⟨d, hd, hd2⟩ : ∃ d : Nat, Int.tdiv (n : Int) 251 = (d : Int) ∧ d = n / 251 := ⟨n / 251, (Int.ofNat_tdiv n 251).symm, rfl⟩
    obtain ⟨c, hc, hc2⟩ : ∃ c : Nat, (s : Int) + (d : Int) = (c : Int) ∧ c = s + d := ⟨s + d, by omega, rfl⟩
    have hwd : IntKind.i64.wrap (d : Int) = (d : Int) := by rw [IntKind.wrap_i64]; omega
    have hwc : IntKind.i64.wrap (c : Int) = (c : Int) := by rw [IntKind.wrap_i64]; omega
    obtain ⟨r, hr, hr2⟩ : ∃ r : Nat, Int.tmod (c : Int) 251 = (r : Int) ∧ r = c % 251 := ⟨c % 251, (Int.ofNat_tmod c 251).symm, rfl⟩
    obtain ⟨q, hq, hq2⟩ : ∃ q : Nat, (1 : Int) + (r : Int) = (q : Int) ∧ q = 1 + r := ⟨1 + r, by omega, rfl⟩
    have hw : IntKind.i64.wrap (q : Int) = (q : Int) := by rw [IntKind.wrap_i64]; omega
    have hw8 : IntKind.u8.wrap (q : Int) = (q : Int) := by rw [IntKind.wrap_u8']; omega
    have hfin : q = 1 + (7 * n + n / 251) % 251 := by omega
    clear hq2 hr2 hc2 hd2 hs2
    rw [← hfin]
    clear hfin
    go_enter Try.func75, Try.ntmps75
    go_wp2_with fail
    go_ret
    exact ⟨rfl, rfl⟩

/-- A spread of lists of bytes alone. -/
def sprB (v : Value) (i : Nat) : Value := if i = 1 then v else .slice none 0 0
set_option maxHeartbeats 1600000 in
set_option maxRecDepth 100000 in
theorem spr_others (yb : Nat) (v : Value) (w : World) (h : w.rowIs yb 101 8 (sprB v)) :
    Calls Try.prog 78 #[.pointer (some ⟨yb, 0, none⟩)] w fun e w' => e = .returned (.bool true) ∧ w' = w := by
  have c4 : w.cell? ⟨yb, 4, none⟩ = some (.slice none 0 0) := h.cell (i := 4) (by decide)
  have c5 : w.cell? ⟨yb, 5, none⟩ = some (.slice none 0 0) := h.cell (i := 5) (by decide)
  have c6 : w.cell? ⟨yb, 6, none⟩ = some (.slice none 0 0) := h.cell (i := 6) (by decide)
  have c7 : w.cell? ⟨yb, 7, none⟩ = some (.slice none 0 0) := h.cell (i := 7) (by decide)
  clear h
  go_enter Try.func78, Try.ntmps78
  go_wp2_with fail
  go_loopg [3] 0 (fun q s3 wx => q = 0 ∧ s3 = .int .i64 0 ∧ w = wx)
  case atStart => exact ⟨rfl, rfl, rfl⟩
  case round =>
    obtain ⟨rfl, rfl, rfl⟩ := hrel
    go_wp2_with fail
    go_loopg [5] 0 (fun q s5 wx => q = 0 ∧ s5 = .int .i64 0 ∧ w = wx)
    case atStart => exact ⟨rfl, rfl, rfl⟩
    case round =>
      obtain ⟨rfl, rfl, rfl⟩ := hrel
      go_wp2_with fail
      go_loopg [7] 0 (fun q s7 wx => q = 0 ∧ s7 = .int .i64 0 ∧ w = wx)
      case atStart => exact ⟨rfl, rfl, rfl⟩
      case round =>
        obtain ⟨rfl, rfl, rfl⟩ := hrel
        go_wp2_with fail
        go_loopg [9] 0 (fun q s9 wx => q = 0 ∧ s9 = .int .i64 0 ∧ w = wx)
        case atStart => exact ⟨rfl, rfl, rfl⟩
        case round =>
          obtain ⟨rfl, rfl, rfl⟩ := hrel
          go_wp2_with fail
          go_ret
          exact ⟨rfl, rfl⟩
set_option maxHeartbeats 1600000 in
set_option maxRecDepth 100000 in
theorem spr_rest (yb : Nat) (z v : Value) (w : World) (h : w.rowIs yb 101 8 (sprB v)) :
    Calls Try.prog 76 #[.pointer (some ⟨yb, 0, none⟩), z] w fun e w' => e = .returned (.tuple #[]) ∧ w' = w := by
  have c4 : w.cell? ⟨yb, 4, none⟩ = some (.slice none 0 0) := h.cell (i := 4) (by decide)
  have c5 : w.cell? ⟨yb, 5, none⟩ = some (.slice none 0 0) := h.cell (i := 5) (by decide)
  have c6 : w.cell? ⟨yb, 6, none⟩ = some (.slice none 0 0) := h.cell (i := 6) (by decide)
  have c7 : w.cell? ⟨yb, 7, none⟩ = some (.slice none 0 0) := h.cell (i := 7) (by decide)
  clear h
  go_enter Try.func76, Try.ntmps76
  go_wp2_with fail
  go_loopg [4] 0 (fun q s4 wx => q = 0 ∧ s4 = .int .i64 0 ∧ w = wx)
  case atStart => exact ⟨rfl, rfl, rfl⟩
  case round =>
    obtain ⟨rfl, rfl, rfl⟩ := hrel
    go_wp2_with fail
    go_loopg [7] 0 (fun q s7 wx => q = 0 ∧ s7 = .int .i64 0 ∧ w = wx)
    case atStart => exact ⟨rfl, rfl, rfl⟩
    case round =>
      obtain ⟨rfl, rfl, rfl⟩ := hrel
      go_wp2_with fail
      go_loopg [10] 0 (fun q s10 wx => q = 0 ∧ s10 = .int .i64 0 ∧ w = wx)
      case atStart => exact ⟨rfl, rfl, rfl⟩
      case round =>
        obtain ⟨rfl, rfl, rfl⟩ := hrel
        go_wp2_with fail
        go_loopg [13] 0 (fun q s13 wx => q = 0 ∧ s13 = .int .i64 0 ∧ w = wx)
        case atStart => exact ⟨rfl, rfl, rfl⟩
        case round =>
          obtain ⟨rfl, rfl, rfl⟩ := hrel
          go_wp2_with fail
          go_end0
          exact ⟨rfl, rfl⟩

theorem ownZ_type {w : World} {B n : Nat} {v : Value} {x : Nat → Nat} (h : OwnZ w B v n x) {g : Nat} (e : v.ownBlock = some g) : ∃ cur fz, w.heap[g]? = some (.cells cur 5 fz) := by
  rcases h.2 with ⟨rfl, _⟩ | ⟨g', cap, cur, rfl, _, ⟨fz, hh, _⟩, _⟩
  · simp [Value.ownBlock] at e
  · obtain rfl : g' = g := by simpa [Value.ownBlock] using e
    exact ⟨cur, fz, hh⟩
theorem ownZ_row_ne {w : World} {B n b m t : Nat} {v : Value} {x : Nat → Nat} {f : Nat → Value} (h : OwnZ w B v n x) (hr : w.rowIs b t m f) (ht : t ≠ 5) : v.ownBlock ≠ some b := fun e => by
  obtain ⟨cur, fz, hh⟩ := ownZ_type h e
  obtain ⟨c, hc, _⟩ := hr
  rw [hh] at hc
  simp only [Option.some.injEq, Obj.cells.injEq] at hc
  exact ht hc.2.1.symm
theorem ownZ_rows_ne {w : World} {B n K m s : Nat} {e : TypeId} {v u : Value} {x : Nat → Nat} {xs : List Value} (h : OwnZ w B v n x) (hr : w.ownsRow K e s u m xs) (ht : e ≠ 5) : ∀ g, v.ownBlock = some g → u.ownBlock ≠ some g := fun g eg eu => by
  obtain ⟨cur, fz, hh⟩ := ownZ_type h eg
  rcases hr.2 with ⟨rfl, _⟩ | ⟨g', cap, cur', rfl, _, hq, _⟩
  · simp [Value.ownBlock] at eu
  · obtain rfl : g' = g := by simpa [Value.ownBlock] using eu
    rw [hh] at hq
    simp only [Option.some.injEq, Obj.cells.injEq] at hq
    exact ht hq.2.1.symm
/-- The slice of list i. -/
def sl (A : Nat → Option Addr) (ln C : Nat → Nat) (i : Nat) : Value := .slice (A i) (ln i) (C i)
theorem sl_block (A : Nat → Option Addr) (ln C : Nat → Nat) (i g : Nat) : (sl A ln C i).ownBlock = some g ↔ ∃ a, A i = some a ∧ a.block = g := by
  unfold sl
  cases hA : A i with
  | none => simp [Value.ownBlock]
  | some a => simp [Value.ownBlock]
/-- N lists of bytes, no two in one block. -/
structure FZ (w : World) (B N : Nat) (A : Nat → Option Addr) (ln C : Nat → Nat) (X : Nat → Nat → Nat) : Prop where
  own : ∀ i, i < N → OwnZ w B (sl A ln C i) (ln i) (X i)
  dis : ∀ i j a a', i < N → j < N → i ≠ j → A i = some a → A j = some a' → a.block ≠ a'.block
section
variable {w w' : World} {B N : Nat} {A : Nat → Option Addr} {ln C : Nat → Nat} {X Y : Nat → Nat → Nat}
theorem FZ.keep (h : FZ w B N A ln C X) (hb : ∀ i g, i < N → (sl A ln C i).ownBlock = some g → w'.heap[g]? = w.heap[g]?) : FZ w' B N A ln C X :=
  ⟨fun i hi => ownZ_keep (h.own i hi) (fun g e => hb i g hi e), h.dis⟩
theorem FZ.on (h : FZ w B N A ln C X) (hb : Below w.heap.size w w') : FZ w' B N A ln C X := h.keep (fun i g hi e => hb.block g (ownZ_lt (h.own i hi) g e))
theorem FZ.congr (h : FZ w B N A ln C X) (e : ∀ i k, i < N → k < ln i → X i k = Y i k) : FZ w B N A ln C Y := ⟨fun i hi => ownZ_congr (h.own i hi) (fun k hk => e i k hi hk), h.dis⟩
theorem FZ.set (h : FZ w B N A ln C X) {i k g : Nat} (hi : i < N) (hA : A i = some ⟨g, 0, none⟩) (c : Nat) : FZ (w.setCell ⟨g, k, none⟩ (.int .u8 (c : Nat))) B N A ln C (fun j t => if j = i ∧ t = k then c else X j t) := by
  refine ⟨fun j hj => ?_, h.dis⟩
  by_cases e : j = i
  · subst e
    have ho := h.own j hj
    have es : sl A ln C j = .slice (some ⟨g, 0, none⟩) (ln j) (C j) := by unfold sl; rw [hA]
    rw [es] at ho ⊢
    exact ownZ_congr (ownZ_set ho k c) (fun t _ => by simp)
  · refine ownZ_congr (ownZ_keep (h.own j hj) (fun q eq => Below.heap_setCell _ _ _ _ (fun e2 => ?_))) (fun t _ => by simp [e])
    obtain ⟨a, ha, hb⟩ := (sl_block A ln C j q).1 eq
    exact h.dis j i a _ hj hi e ha hA (by rw [hb]; exact e2)
end
/-- What the lists hold where all ahead of place k of list i is marked. -/
def mkX (i k : Nat) (X : Nat → Nat → Nat) (j t : Nat) : Nat := if j < i ∨ (j = i ∧ t < k) then mrk j t else X j t
/-- What is kept but for the blocks of S. -/
structure Kp (S : Nat → Prop) (w w' : World) : Prop where
  os : w'.os = w.os
  tape : w'.tape = w.tape
  output : w'.output = w.output
  size : w.heap.size ≤ w'.heap.size
  block : ∀ q, q < w.heap.size → ¬ S q → w'.heap[q]? = w.heap[q]?
theorem Kp.refl (S : Nat → Prop) (w : World) : Kp S w w := ⟨rfl, rfl, rfl, Nat.le_refl _, fun _ _ _ => rfl⟩
theorem Kp.drew {S : Nat → Prop} {w w' : World} (h : Kp S w w') : Kp S w w'.drew := ⟨h.os, h.tape, h.output, h.size, h.block⟩
theorem Kp.setCell {S : Nat → Prop} {w w' : World} (h : Kp S w w') {g : Nat} (hg : S g ∨ w.heap.size ≤ g) (k : Nat) (v : Value) : Kp S w (w'.setCell ⟨g, k, none⟩ v) :=
  ⟨h.os, h.tape, h.output, by have := h.size; simp [World.setCell]; omega, fun q hq hn => (Below.heap_setCell _ _ _ _ (fun e => by
    have e : q = g := e
    rcases hg with e2 | e2
    · exact hn (e ▸ e2)
    · omega)).trans (h.block q hq hn)⟩
theorem Kp.on {S : Nat → Prop} {w w1 w2 : World} (h : Kp S w w1) (hb : Below w1.heap.size w1 w2) : Kp S w w2 :=
  ⟨hb.os.trans h.os, hb.tape.trans h.tape, hb.output.trans h.output, Nat.le_trans h.size hb.size, fun q hq hn => (hb.block q (Nat.lt_of_lt_of_le hq h.size)).trans (h.block q hq hn)⟩
/-- A spread that is being marked. -/
structure SpM (S : Nat → Prop) (w0 w : World) (B yb N : Nat) (kv : Value) (A : Nat → Option Addr) (ln C : Nat → Nat) (X : Nat → Nat → Nat) : Prop where
  row : w.rowIs yb 101 8 (sprB kv)
  lst : w.ownsRow B 53 1 kv N ((List.range N).map (sl A ln C))
  fam : FZ w B N A ln C X
  kp : Kp S w0 w
  hS : ∀ i a, i < N → A i = some a → S a.block ∨ w0.heap.size ≤ a.block
theorem SpM.set {S : Nat → Prop} {w0 w : World} {B yb N : Nat} {kv : Value} {A : Nat → Option Addr} {ln C : Nat → Nat} {X : Nat → Nat → Nat} (h : SpM S w0 w B yb N kv A ln C X) {i k g : Nat} (hi : i < N) (hA : A i = some ⟨g, 0, none⟩) (c : Nat) : SpM S w0 (w.setCell ⟨g, k, none⟩ (.int .u8 (c : Nat))) B yb N kv A ln C (fun j t => if j = i ∧ t = k then c else X j t) := by
  have ho := h.fam.own i hi
  have eb : (sl A ln C i).ownBlock = some g := (sl_block A ln C i g).2 ⟨_, hA, rfl⟩
  exact ⟨h.row.of_block (Below.heap_setCell _ _ _ _ (fun e => ownZ_row_ne ho h.row (by decide) (by rw [e]; exact eb))), owns_keep h.lst (fun q e => Below.heap_setCell _ _ _ _ (fun e2 => ownZ_rows_ne ho h.lst (by decide) g eb (by have e3 : q = g := e2; rw [← e3]; exact e))), h.fam.set hi hA c, h.kp.setCell (h.hS i _ hi hA) _ _, h.hS⟩
theorem SpM.drew {S : Nat → Prop} {w0 w : World} {B yb N : Nat} {kv : Value} {A : Nat → Option Addr} {ln C : Nat → Nat} {X : Nat → Nat → Nat} (h : SpM S w0 w B yb N kv A ln C X) : SpM S w0 w.drew B yb N kv A ln C X := ⟨h.row, h.lst, h.fam.keep (fun _ _ _ _ => rfl), h.kp.drew, h.hS⟩
theorem SpM.at {S : Nat → Prop} {w0 w : World} {B yb N : Nat} {kv : Value} {A : Nat → Option Addr} {ln C : Nat → Nat} {X : Nat → Nat → Nat} (h : SpM S w0 w B yb N kv A ln C X) {i k : Nat} (hi : i < N) (hk : k < ln i) : ∃ g, A i = some ⟨g, 0, none⟩ ∧ k < C i ∧ w.cell? ⟨g, k, none⟩ = some (.int .u8 (X i k : Nat)) ∧ w.frozen? ⟨g, k, none⟩ = false := by
  have ho := h.fam.own i hi
  obtain ⟨g, cap, _, e, _, hc, _⟩ := ownZ_row ho (by omega)
  unfold sl at e
  have e1 : A i = some ⟨g, 0, none⟩ := by injection e
  have e3 : C i = cap := by injection e
  have es : sl A ln C i = .slice (some ⟨g, 0, none⟩) (ln i) (C i) := by unfold sl; rw [e1]
  rw [es] at ho
  exact ⟨g, e1, by omega, ownZ_at ho k hk, ownZ_frozen ho k (by omega)⟩
set_option maxHeartbeats 6400000 in
theorem sprB_mark {S : Nat → Prop} {w0 w : World} {B yb N : Nat} {kv : Value} {A : Nat → Option Addr} {ln C : Nat → Nat} {X : Nat → Nat → Nat} (hN : N ≤ 100000) (hln : ∀ i, i < N → ln i ≤ 9223372036854775000) (h : SpM S w0 w B yb N kv A ln C X) :
    Calls Try.prog 48 #[.pointer (some ⟨yb, 0, none⟩)] w fun e w' => e = .returned (.tuple #[]) ∧ SpM S w0 w' B yb N kv A ln C (fun i k => mrk i k) := by
  obtain ⟨ka, kc, rfl, hka⟩ := owns_form h.lst
  have c0 : w.cell? ⟨yb, 0, none⟩ = some (.slice none 0 0) := h.row.cell (i := 0) (by decide)
  go_enter Try.func48, Try.ntmps48
  go_wp2_with fail
  go_loopg [2] 0 (fun q sx wx => q = 0 ∧ sx = .int .i64 0 ∧ w = wx)
  case atStart => exact ⟨rfl, rfl, rfl⟩
  case round =>
    obtain ⟨rfl, rfl, rfl⟩ := hrel
    go_wp2_with fail
    go_loopg [4, 5] N (fun q s4 _ wx => ∃ (p : Nat), p ≤ N ∧ q = N - p ∧ s4 = .int .i64 (p : Nat) ∧ SpM S w0 wx B yb N (.slice ka N kc) A ln C (mkX p 0 X))
    case atStart => exact ⟨0, Nat.zero_le _, rfl, rfl, ⟨h.row, h.lst, h.fam.congr (fun i k _ _ => by unfold mkX; rw [if_neg (by omega)]), h.kp, h.hS⟩⟩
    case round =>
      clear h hka
      obtain ⟨p, hp, rfl, rfl, hS⟩ := hrel
      have c1 : wr.cell? ⟨yb, 1, none⟩ = some (.slice ka N kc) := hS.row.cell (i := 1) (by decide)
      by_cases hlt : p < N
      · have hpz : (p : Int) < (N : Int) := by omega
        obtain ⟨_, _, e0, hka⟩ := owns_form hS.lst
        cases e0
        obtain ⟨kg, rfl, hkc⟩ := hka p hlt
        have hlp := hln p hlt
        obtain ⟨n, Hn⟩ : ∃ n, Hid (ln p = n) := ⟨_, rfl⟩
        obtain ⟨cp, Hcp⟩ : ∃ n, Hid (C p = n) := ⟨_, rfl⟩
        obtain ⟨ap, Hap⟩ : ∃ n, Hid (A p = n) := ⟨_, rfl⟩
        have ekc : wr.cell? ⟨kg, p, none⟩ = some (.slice ap n cp) := by rw [hkc]; unfold sl; rw [Hn.out, Hcp.out, Hap.out]
        rw [Hn.out] at hlp
        clear hkc
        go_wp2_with fail
        go_loopg [5] n (fun q s5 wx => ∃ (k : Nat), k ≤ n ∧ q = n - k ∧ s5 = .int .i64 (k : Nat) ∧ SpM S w0 wx B yb N (.slice (some ⟨kg, 0, none⟩) N kc) A ln C (mkX p k X))
        case atStart => exact ⟨0, Nat.zero_le _, rfl, rfl, hS⟩
        case round =>
          clear hS c1 ekc
          obtain ⟨k, hk, rfl, rfl, hS⟩ := hrel
          have c1 : wr.cell? ⟨yb, 1, none⟩ = some (.slice (some ⟨kg, 0, none⟩) N kc) := hS.row.cell (i := 1) (by decide)
          have ekc : wr.cell? ⟨kg, p, none⟩ = some (.slice ap n cp) := by
            obtain ⟨_, _, e0, hka⟩ := owns_form hS.lst
            cases e0
            obtain ⟨kg', e1, hkc⟩ := hka p hlt
            cases e1
            rw [hkc]; unfold sl; rw [Hn.out, Hcp.out, Hap.out]
          by_cases hkn : k < n
          · have hkz : (k : Int) < (n : Int) := by omega
            have hwk : IntKind.i64.wrap ((k : Int) + 1) = (k : Int) + 1 := by rw [IntKind.wrap_i64]; omega
            obtain ⟨g, eA, hkC, hgk, hgf⟩ := hS.at hlt (k := k) (by rw [Hn.out]; exact hkn)
            have eap : ap = some ⟨g, 0, none⟩ := by rw [← Hap.out]; exact eA
            subst eap
            have HSG : Hid (∀ W, Calls Try.prog 75 #[.int .i64 (p : Nat), .int .i64 (k : Nat)] W fun e w' => e = .returned (.int .u8 (mrk p k : Nat)) ∧ w' = W) := fun W => sign_any p k W (by omega)
            have HE : Hid (SpM S w0 (wr.setCell ⟨g, k, none⟩ (.int .u8 (mrk p k : Nat))).drew B yb N (.slice (some ⟨kg, 0, none⟩) N kc) A ln C (mkX p (k + 1) X)) := by
              have q := hS.set hlt eA (k := k) (mrk p k)
              exact SpM.drew ⟨q.row, q.lst, q.fam.congr (fun j t _ _ => by
                unfold mkX
                by_cases e : j = p ∧ t = k
                · obtain ⟨rfl, rfl⟩ := e
                  rw [if_pos ⟨rfl, rfl⟩, if_pos (by omega)]
                · rw [if_neg e]
                  by_cases e2 : j < p ∨ (j = p ∧ t < k)
                  · rw [if_pos e2, if_pos (by omega)]
                  · rw [if_neg e2, if_neg (by omega)]), q.kp, q.hS⟩
            generalize mrk p k = mi at *
            generalize mkX p k X p k = vi at hgk
            have c1d : wr.drew.cell? ⟨yb, 1, none⟩ = some (.slice (some ⟨kg, 0, none⟩) N kc) := c1
            have ekd : wr.drew.cell? ⟨kg, p, none⟩ = some (.slice (some ⟨g, 0, none⟩) n cp) := ekc
            have hgd : wr.drew.cell? ⟨g, k, none⟩ = some (.int .u8 (vi : Nat)) := hgk
            have hfd : wr.drew.frozen? ⟨g, k, none⟩ = false := hgf
            clear hS hkC
            go_upto_region 13 with fail
            go_region_law (first
              | (go_simp; go_at_call 75; refine (HSG.out _).mono ?_; rintro e w4 ⟨rfl, rfl⟩))
            all_goals
              go_wp2_with fail
              go_roundg (n - (k + 1))
              case measure => go_light; omega
              case rel => go_light; exact ⟨k + 1, by omega, rfl, by simp, HE.out⟩
          · have hkz : ¬ (k : Int) < (n : Int) := by omega
            obtain rfl : k = n := by omega
            have hwp : IntKind.i64.wrap ((p : Int) + 1) = (p : Int) + 1 := by rw [IntKind.wrap_i64]; omega
            have HE : Hid (SpM S w0 wr B yb N (.slice (some ⟨kg, 0, none⟩) N kc) A ln C (mkX (p + 1) 0 X)) := ⟨hS.row, hS.lst, hS.fam.congr (fun j t hj ht => by
              unfold mkX
              by_cases e2 : j < p ∨ (j = p ∧ t < k)
              · rw [if_pos e2, if_pos (by omega)]
              · rw [if_neg e2, if_neg (fun h => e2 (by
                  rcases h with h | h
                  · rcases Nat.lt_or_ge j p with q | q
                    · exact .inl q
                    · have : j = p := by omega
                      subst this
                      exact .inr ⟨rfl, by rw [Hn.out] at ht; exact ht⟩
                  · omega))]), hS.kp, hS.hS⟩
            clear hS
            go_wp2_with fail
            go_roundg (N - (p + 1))
            case measure => go_light; omega
            case rel => go_light; exact ⟨p + 1, by omega, rfl, by simp, HE.out⟩
      · obtain rfl : p = N := by omega
        have hpz : ¬ (p : Int) < (p : Int) := by omega
        have c2 : wr.cell? ⟨yb, 2, none⟩ = some (.slice none 0 0) := hS.row.cell (i := 2) (by decide)
        have c3 : wr.cell? ⟨yb, 3, none⟩ = some (.slice none 0 0) := hS.row.cell (i := 3) (by decide)
        have c4 : wr.cell? ⟨yb, 4, none⟩ = some (.slice none 0 0) := hS.row.cell (i := 4) (by decide)
        have c5 : wr.cell? ⟨yb, 5, none⟩ = some (.slice none 0 0) := hS.row.cell (i := 5) (by decide)
        have c6 : wr.cell? ⟨yb, 6, none⟩ = some (.slice none 0 0) := hS.row.cell (i := 6) (by decide)
        have c7 : wr.cell? ⟨yb, 7, none⟩ = some (.slice none 0 0) := hS.row.cell (i := 7) (by decide)
        have HE : Hid (SpM S w0 wr B yb p (.slice ka p kc) A ln C (fun i k => mrk i k)) := ⟨hS.row, hS.lst, hS.fam.congr (fun j t hj _ => by unfold mkX; rw [if_pos (.inl hj)]), hS.kp, hS.hS⟩
        clear hS
        go_wp2_with fail
        go_loopg [6] 0 (fun q sx wx => q = 0 ∧ sx = .int .i64 0 ∧ wr = wx)
        case atStart => exact ⟨rfl, rfl, rfl⟩
        case round =>
          obtain ⟨rfl, rfl, rfl⟩ := hrel
          go_wp2_with fail
          go_loopg [8] 0 (fun q sx wx => q = 0 ∧ sx = .int .i64 0 ∧ wr = wx)
          case atStart => exact ⟨rfl, rfl, rfl⟩
          case round =>
            obtain ⟨rfl, rfl, rfl⟩ := hrel
            go_wp2_with fail
            go_loopg [10] 0 (fun q sx wx => q = 0 ∧ sx = .int .i64 0 ∧ wr = wx)
            case atStart => exact ⟨rfl, rfl, rfl⟩
            case round =>
              obtain ⟨rfl, rfl, rfl⟩ := hrel
              go_wp2_with fail
              go_loopg [12] 0 (fun q sx wx => q = 0 ∧ sx = .int .i64 0 ∧ wr = wx)
              case atStart => exact ⟨rfl, rfl, rfl⟩
              case round =>
                obtain ⟨rfl, rfl, rfl⟩ := hrel
                go_wp2_with fail
                go_loopg [14] 0 (fun q sx wx => q = 0 ∧ sx = .int .i64 0 ∧ wr = wx)
                case atStart => exact ⟨rfl, rfl, rfl⟩
                case round =>
                  obtain ⟨rfl, rfl, rfl⟩ := hrel
                  go_wp2_with fail
                  go_loopg [16] 0 (fun q sx wx => q = 0 ∧ sx = .int .i64 0 ∧ wr = wx)
                  case atStart => exact ⟨rfl, rfl, rfl⟩
                  case round =>
                    obtain ⟨rfl, rfl, rfl⟩ := hrel
                    go_wp2_with fail
                    go_end0
                    exact ⟨rfl, HE.out⟩
/-- Each list of a spread holds its mark alone. -/
structure Full (w : World) (yb N : Nat) (kv : Value) (A : Nat → Option Addr) (ln C : Nat → Nat) : Prop where
  row : w.rowIs yb 101 8 (sprB kv)
  lst : ∃ ka kc, kv = .slice ka N kc ∧ ∀ i, i < N → ∃ g, ka = some ⟨g, 0, none⟩ ∧ w.cell? ⟨g, i, none⟩ = some (sl A ln C i)
  byt : ∀ i, i < N → Byt w (A i) (ln i) (mrk i)
set_option maxHeartbeats 6400000 in
theorem sprB_marked {w : World} {yb N : Nat} {kv : Value} {A : Nat → Option Addr} {ln C : Nat → Nat} (hN : N ≤ 100000) (hln : ∀ i, i < N → ln i ≤ 9223372036854775000) (h : Full w yb N kv A ln C) :
    Calls Try.prog 50 #[.pointer (some ⟨yb, 0, none⟩)] w fun e w' => e = .returned (.bool true) ∧ ∃ m, w' = w.drewN m := by
  obtain ⟨ka, kc, rfl, hka⟩ := h.lst
  have hby := h.byt
  have HC : Hid (∀ m, (w.drewN m).cell? ⟨yb, 0, none⟩ = some (.slice none 0 0) ∧ (w.drewN m).cell? ⟨yb, 1, none⟩ = some (.slice ka N kc) ∧ (w.drewN m).cell? ⟨yb, 2, none⟩ = some (.slice none 0 0) ∧ (w.drewN m).cell? ⟨yb, 3, none⟩ = some (.slice none 0 0)) := fun m => ⟨h.row.cell (i := 0) (by decide), h.row.cell (i := 1) (by decide), h.row.cell (i := 2) (by decide), h.row.cell (i := 3) (by decide)⟩
  have HO : Hid (∀ m, Calls Try.prog 78 #[.pointer (some ⟨yb, 0, none⟩)] (w.drewN m) fun e w' => e = .returned (.bool true) ∧ w' = w.drewN m) := fun m => spr_others yb _ (w.drewN m) h.row
  have HK : Hid (∀ i, i < N → ∃ g, ka = some ⟨g, 0, none⟩ ∧ w.cell? ⟨g, i, none⟩ = some (.slice (A i) (ln i) (C i)) ∧ Byt w (A i) (ln i) (mrk i) ∧ ln i ≤ 9223372036854775000) := fun i hi => by
    obtain ⟨g, e, hc⟩ := hka i hi
    exact ⟨g, e, hc, hby i hi, hln i hi⟩
  obtain ⟨c0, _, _, _⟩ := HC.out 0
  have c0 : w.cell? ⟨yb, 0, none⟩ = some (.slice none 0 0) := c0
  clear h hka hby hln
  go_enter Try.func50, Try.ntmps50
  go_wp2_with fail
  go_loopg [3] 0 (fun q sx wx => q = 0 ∧ sx = .int .i64 0 ∧ w = wx)
  case atStart => exact ⟨rfl, rfl, rfl⟩
  case round =>
    obtain ⟨rfl, rfl, rfl⟩ := hrel
    go_wp2_with fail
    go_loopg [5, 6] N (fun q s5 _ wx => ∃ (p m : Nat), p ≤ N ∧ q = N - p ∧ s5 = .int .i64 (p : Nat) ∧ wx = w.drewN m)
    case atStart => exact ⟨0, 0, Nat.zero_le _, rfl, rfl, rfl⟩
    case round =>
      clear c0
      obtain ⟨p, m, hp, rfl, rfl, rfl⟩ := hrel
      obtain ⟨_, c1, c2, c3⟩ := HC.out m
      by_cases hlt : p < N
      · have hpz : (p : Int) < (N : Int) := by omega
        obtain ⟨kg, rfl, ekc, hB, hlp⟩ := HK.out p hlt
        generalize A p = ap at *
        generalize ln p = n at *
        generalize C p = cp at *
        have ekm : (w.drewN m).cell? ⟨kg, p, none⟩ = some (.slice ap n cp) := ekc
        clear c2 c3
        go_wp2_with fail
        go_loopg [6] n (fun q s6 wx => ∃ (k m : Nat), k ≤ n ∧ q = n - k ∧ s6 = .int .i64 (k : Nat) ∧ wx = w.drewN m)
        case atStart => exact ⟨0, m, Nat.zero_le _, rfl, rfl, rfl⟩
        case round =>
          clear c1 ekm
          obtain ⟨k, m2, hk, rfl, rfl, rfl⟩ := hrel
          obtain ⟨_, c1, _, _⟩ := HC.out m2
          have ekm : (w.drewN m2).cell? ⟨kg, p, none⟩ = some (.slice ap n cp) := ekc
          by_cases hkn : k < n
          · have hkz : (k : Int) < (n : Int) := by omega
            have hwk : IntKind.i64.wrap ((k : Int) + 1) = (k : Int) + 1 := by rw [IntKind.wrap_i64]; omega
            obtain ⟨g, off, rfl, hc⟩ := hB k hkn
            have hcm : (w.drewN m2).cell? ⟨g, off + k, none⟩ = some (.int .u8 (mrk p k : Nat)) := hc
            have HSG : Hid (∀ W, Calls Try.prog 75 #[.int .i64 (p : Nat), .int .i64 (k : Nat)] W fun e w' => e = .returned (.int .u8 (mrk p k : Nat)) ∧ w' = W) := fun W => sign_any p k W (by omega)
            have HD : Hid ((w.drewN m2).drew = w.drewN (m2 + 1)) := rfl
            have c1d : (w.drewN m2).drew.cell? ⟨yb, 1, none⟩ = some (.slice (some ⟨kg, 0, none⟩) N kc) := c1
            have ekd : (w.drewN m2).drew.cell? ⟨kg, p, none⟩ = some (.slice (some ⟨g, off, none⟩) n cp) := ekc
            have hcd : (w.drewN m2).drew.cell? ⟨g, off + k, none⟩ = some (.int .u8 (mrk p k : Nat)) := hc
            generalize mrk p k = mi at *
            generalize w.drewN m2 = wd at *
            clear hc ekc
            go_upto_region 15 with fail
            go_region_law (first
              | (go_simp; go_at_call 75; refine (HSG.out _).mono ?_; rintro e w4 ⟨rfl, rfl⟩))
            all_goals
              go_wp2_with fail
              go_roundg (n - (k + 1))
              case measure => go_light; omega
              case rel => go_light; exact ⟨k + 1, m2 + 1, by omega, rfl, by simp, HD.out⟩
          · have hkz : ¬ (k : Int) < (n : Int) := by omega
            have hwp : IntKind.i64.wrap ((p : Int) + 1) = (p : Int) + 1 := by rw [IntKind.wrap_i64]; omega
            go_wp2_with fail
            go_roundg (N - (p + 1))
            case measure => go_light; omega
            case rel => go_light; exact ⟨p + 1, m2, by omega, rfl, by simp, rfl⟩
      · have hpz : ¬ (p : Int) < (N : Int) := by omega
        have ho := HO.out m
        generalize hwd : w.drewN m = wr at *
        have HWD := hide hwd
        clear hwd
        go_wp2_with fail
        go_loopg [7] 0 (fun q sx wx => q = 0 ∧ sx = .int .i64 0 ∧ wr = wx)
        case atStart => exact ⟨rfl, rfl, rfl⟩
        case round =>
          obtain ⟨rfl, rfl, rfl⟩ := hrel
          go_wp2_with fail
          go_loopg [9] 0 (fun q sx wx => q = 0 ∧ sx = .int .i64 0 ∧ wr = wx)
          case atStart => exact ⟨rfl, rfl, rfl⟩
          case round =>
            obtain ⟨rfl, rfl, rfl⟩ := hrel
            go_wp2_with fail
            refine ho.mono ?_
            rintro e w2 ⟨rfl, e2⟩
            go_wp2_with fail
            go_ret
            exact ⟨rfl, m, HWD.out.symm⟩
end Go.Proofs.Ytgpmoakfbhcidaa
