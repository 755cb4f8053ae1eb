/- Own texts, joined: ST19, ST21, ST22, SE4, SE5, SE6, SE7, SE8. -/
import Derived.Test.YtdhhjdacidhmjaaGreatM6
import Derived.BigQuiet
import Derived.Deep.RegionHeld3

/- Package settle: what the law of what is sent keeps in memory, step by step. -/
namespace Go.Proofs.YtdhhjdacidhmjaaGreat
open Go.RowKit
set_option maxRecDepth 100000
set_option maxRecDepth 100000
/-- .. with when each peer was sent something, and which of its copies. -/
structure SX (w0 : World) (nodes n own m c : Nat) (CF : Array Value) (vb sb lb tb : Nat) (sr : Nat → Nat) (O : Nat → Nat) (w : World) (p : Sp) (d : Sd) (qv : Value) (l : List Ent) (la : Nat → Nat) (se : Nat → Nat → Bool) : Prop where
  b : SB w0 nodes n own m c CF vb sb O w p d qv l
  lar : RowC O 43 w lb 3 n (fun i => .int .i64 (la i : Nat))
  ser : RowC O 44 w tb 151 n (fun i => .slice (some ⟨sr i, 0, none⟩) c c)
  ses : ∀ i, i < n → RowC O (45 + i) w (sr i) 4 c (fun k => .bool (se i k))
/-- While the rows are made. -/
structure SY (w0 : World) (nodes n own m c : Nat) (CF : Array Value) (vb sb lb tb : Nat) (sr : Nat → Nat) (i : Nat) (O : Nat → Nat) (w : World) (p : Sp) (d : Sd) (qv : Value) (l : List Ent) : Prop where
  b : SB w0 nodes n own m c CF vb sb O w p d qv l
  lar : RowC O 43 w lb 3 n (fun _ => .int .i64 0)
  ser : RowC O 44 w tb 151 n (fun j => if j < i then .slice (some ⟨sr j, 0, none⟩) c c else .slice none 0 0)
  ses : ∀ j, j < i → RowC O (45 + j) w (sr j) 4 c (fun _ => .bool false)
theorem infoI1 : (Tryz.prog.info? 3).map (fun i => (i.zero, i.size, i.bytes)) = some (some (.int .i64 0), 1, 8) := by kernel_rfl
theorem infoB1 : (Tryz.prog.info? 4).map (fun i => (i.zero, i.size, i.bytes)) = some (some (.bool false), 1, 1) := by kernel_rfl
theorem infoBS : (Tryz.prog.info? 151).map (fun i => (i.zero, i.size, i.bytes)) = some (some (.slice none 0 0), 1, 24) := by kernel_rfl
section
variable {w0 : World} {nodes n own m c : Nat} {CF : Array Value} {vb sb lb tb : Nat} {sr : Nat → Nat} {O O' : Nat → Nat} {w w' : World} {p : Sp} {d : Sd} {qv : Value} {l : List Ent} {la : Nat → Nat} {se : Nat → Nat → Bool}
/-- A new row. -/
theorem new_row (O : Nat → Nat) (x : Nat) (w : World) (z : Value) (k t : Nat) : Ch x O (fun b => if b < w.heap.size then O b else x) w (w.alloc (.cells (madeCells #[z] k) t)) ∧ RowC (fun b => if b < w.heap.size then O b else x) x (w.alloc (.cells (madeCells #[z] k) t)) w.heap.size t k (fun _ => z) := by
  have s : w.Since w.heap.size (w.alloc (.cells (madeCells #[z] k) t)) := (World.Since.refl _ _).alloc (Nat.le_refl _) _
  exact ⟨⟨s.os, s.tape, s.output, s.size, fun b hb => if_pos hb, fun b hb _ => s.block b hb⟩, World.rowIs_made w _ k _, if_neg (Nat.lt_irrefl _)⟩
theorem SY.start {W5 W6 : World} {lb tb : Nat} (h : SB w0 nodes n own m c CF vb sb O w p d qv l) (h5 : w.alloc (.cells (madeCells #[.int .i64 0] n) 3) = W5) (hl : w.heap.size = lb) (h6 : W5.alloc (.cells (madeCells #[.slice none 0 0] n) 151) = W6) (ht : W5.heap.size = tb) : ∃ O, SY w0 nodes n own m c CF vb sb lb tb (fun _ => 0) 0 O W6 p d qv l := by
  obtain ⟨k1, r1⟩ := new_row O 43 w (.int .i64 0) n 3
  rw [h5, hl] at r1
  rw [h5] at k1
  obtain ⟨k2, r2⟩ := new_row (fun b => if b < w.heap.size then O b else 43) 44 W5 (.slice none 0 0) n 151
  rw [h6, ht] at r2
  rw [h6, ht] at k2
  rw [hl] at k1 k2 r2
  exact ⟨_, (h.keep k1 (by decide) (by decide)).keep k2 (by decide) (by decide), r1.keep k2 (by decide), ⟨r2.1.congr fun j hj => (if_neg (Nat.not_lt_zero _)).symm, r2.2⟩, fun j hj => absurd hj (Nat.not_lt_zero _)⟩
theorem SY.step {i : Nat} {W7 : World} {rb : Nat} (h : SY w0 nodes n own m c CF vb sb lb tb sr i O w p d qv l) (hi : i < n) (hn : n ≤ 8) (h7 : w.alloc (.cells (madeCells #[.bool false] c) 4) = W7) (hr : w.heap.size = rb) : (W7.cell? ⟨tb, i, none⟩ = some (.slice none 0 0) ∧ W7.frozen? ⟨tb, i, none⟩ = false) ∧ ∃ O, SY w0 nodes n own m c CF vb sb lb tb (up sr i rb) (i + 1) O (W7.setCell ⟨tb, i, none⟩ (.slice (some ⟨rb, 0, none⟩) c c)) p d qv l := by
  obtain ⟨k1, r1⟩ := new_row O (45 + i) w (.bool false) c 4
  rw [h7, hr] at r1
  rw [h7, hr] at k1
  generalize (fun b => if b < rb then O b else 45 + i) = O2 at k1 r1
  have t1 := h.ser.keep k1 (by omega)
  have k2 : Ch 44 O2 O2 W7 (W7.setCell ⟨tb, i, none⟩ (.slice (some ⟨rb, 0, none⟩) c c)) := Ch.set t1.2 _ _
  refine ⟨⟨by rw [t1.1.cell hi, if_neg (Nat.lt_irrefl _)], t1.1.frozen i⟩, _, (h.b.keep k1 (by omega) (by omega)).keep k2 (by decide) (by decide), (h.lar.keep k1 (by omega)).keep k2 (by decide), ?_, fun j hj => ?_⟩
  · have t2 := t1.set i (.slice (some ⟨rb, 0, none⟩) c c)
    refine ⟨t2.1.congr fun j hj => ?_, t2.2⟩
    show (if j = i then Value.slice (some ⟨rb, 0, none⟩) c c else if j < i then .slice (some ⟨sr j, 0, none⟩) c c else .slice none 0 0) = if j < i + 1 then .slice (some ⟨up sr i rb j, 0, none⟩) c c else .slice none 0 0
    by_cases e : j = i
    · subst e
      rw [if_pos rfl, if_pos (Nat.lt_succ_self _), up_same]
    · rw [if_neg e, up_ne _ _ _ e]
      by_cases e2 : j < i
      · rw [if_pos e2, if_pos (by omega)]
      · rw [if_neg e2, if_neg (by omega)]
  · by_cases e : j = i
    · subst e
      rw [up_same]
      exact r1.keep k2 (by omega)
    · rw [up_ne _ _ _ e]
      exact ((h.ses j (by omega)).keep k1 (by omega)).keep k2 (by omega)
theorem SY.done (h : SY w0 nodes n own m c CF vb sb lb tb sr n O w p d qv l) : SX w0 nodes n own m c CF vb sb lb tb sr O w p d qv l (fun _ => 0) (fun _ _ => false) :=
  ⟨h.b, h.lar, ⟨h.ser.1.congr fun _ hj => if_pos hj, h.ser.2⟩, h.ses⟩
theorem SX.keep {x : Nat} (h : SX w0 nodes n own m c CF vb sb lb tb sr O w p d qv l la se) (k : Ch x O O' w w') (h1 : 60 ≤ x) (h2 : x < 1000) (hn : n ≤ 8) : SX w0 nodes n own m c CF vb sb lb tb sr O' w' p d qv l la se :=
  ⟨h.b.keep k (by omega) h2, h.lar.keep k (by omega), h.ser.keep k (by omega), fun i hi => (h.ses i hi).keep k (by omega)⟩
theorem SX.later (h : SX w0 nodes n own m c CF vb sb lb tb sr O w p d qv l la se) (k : w.Since w.heap.size w') (hn : n ≤ 8) : SX w0 nodes n own m c CF vb sb lb tb sr O w' p d qv l la se := h.keep (x := 60) (Ch.since k) (by decide) (by decide) hn
theorem SX.turn {p' : Sp} {d' : Sd} (h : SX w0 nodes n own m c CF vb sb lb tb sr O w p d qv l la se) (k : ChR 0 41 O O' w w') (hb : SB w0 nodes n own m c CF vb sb O' w' p' d' qv l) : SX w0 nodes n own m c CF vb sb lb tb sr O' w' p' d' qv l la se :=
  ⟨hb, h.lar.keepR k (by omega), h.ser.keepR k (by omega), fun i hi => (h.ses i hi).keepR k (by omega)⟩
/-- A peer was sent something at a tick. -/
theorem SX.last (h : SX w0 nodes n own m c CF vb sb lb tb sr O w p d qv l la se) (i T : Nat) : SX w0 nodes n own m c CF vb sb lb tb sr O (w.setCell ⟨lb, i, none⟩ (.int .i64 (T : Nat))) p d qv l (up la i T) se ∧ Ch 43 O O w (w.setCell ⟨lb, i, none⟩ (.int .i64 (T : Nat))) := by
  have k : Ch 43 O O w (w.setCell ⟨lb, i, none⟩ (.int .i64 (T : Nat))) := Ch.set h.lar.2 _ _
  have r := h.lar.set i (.int .i64 (T : Nat))
  refine ⟨⟨h.b.keep k (by decide) (by decide), ⟨r.1.congr fun j hj => ?_, r.2⟩, h.ser.keep k (by decide), fun j hj => (h.ses j hj).keep k (by omega)⟩, k⟩
  show (if j = i then Value.int .i64 (T : Nat) else .int .i64 (la j : Nat)) = .int .i64 ((if j = i then T else la j : Nat) : Nat)
  split <;> rfl
/-- .. at one of its copies. -/
theorem SX.sent (h : SX w0 nodes n own m c CF vb sb lb tb sr O w p d qv l la se) (i k : Nat) (hi : i < n) (hn : n ≤ 8) : SX w0 nodes n own m c CF vb sb lb tb sr O (w.setCell ⟨sr i, k, none⟩ (.bool true)) p d qv l la (up se i (up (se i) k true)) ∧ Ch (45 + i) O O w (w.setCell ⟨sr i, k, none⟩ (.bool true)) := by
  have q : Ch (45 + i) O O w (w.setCell ⟨sr i, k, none⟩ (.bool true)) := Ch.set (h.ses i hi).2 _ _
  refine ⟨⟨h.b.keep q (by omega) (by omega), h.lar.keep q (by omega), h.ser.keep q (by omega), fun j hj => ?_⟩, q⟩
  by_cases e : j = i
  · subst e
    have r := (h.ses j hj).set k (.bool true)
    refine ⟨r.1.congr fun x hx => ?_, r.2⟩
    rw [up_same]
    show (if x = k then Value.bool true else .bool (se j x)) = .bool (if x = k then true else se j x)
    split <;> rfl
  · rw [up_ne _ _ _ e]
    exact (h.ses j hj).keep q (by omega)
end
end Go.Proofs.YtdhhjdacidhmjaaGreat

/- Package settle: the law of what is sent: one message. -/
namespace Go.Proofs.YtdhhjdacidhmjaaGreat
open Go.RowKit
set_option maxRecDepth 100000
set_option maxRecDepth 100000
theorem place_turn {i nodes c t : Nat} (hg : goodM i nodes c) (ht : t < c) : placeM (cT i nodes) c ((copN i nodes t : Nat) : Int) = some t := by
  obtain ⟨g1, g2, g3, g4, g5, g6, g7, g8⟩ := hg
  rw [cop_tab (by omega) (by omega) (by omega) (by omega)]
  refine placeM_hit _ _ _ t ht ?_ rfl
  unfold placeM
  rw [List.find?_eq_none]
  intro j hj
  have hjt : j < t := by simpa using hj
  have := cop_ne i (by omega) nodes (by omega) t (by omega) j hjt
  simp; omega
/-- What is due, by the queue. -/
def fS (own : Nat) (l : List Ent) (i : Nat) : Option Du := if i = own then none else dueM l (i : Nat)
theorem fS_sh {d : Sd} {own : Nat} (h : d.own = own) (l : List Ent) : shF d l = fS own l := by funext i; unfold shF fS; rw [h]
theorem fS_first {own i : Nat} {l : List Ent} {u : Du} (h : fS own l i = some u) : i ≠ own ∧ firstM l (i : Nat) = some u.e ∧ u.e.p = (i : Nat) := by
  have ho : i ≠ own := fun e => by unfold fS at h; rw [if_pos e] at h; cases h
  have h1 : firstM l (i : Nat) = some u.e := by
    have := due_first l (i : Nat)
    unfold fS at h
    rw [if_neg ho] at h
    rw [h] at this
    exact this.symm
  refine ⟨ho, h1, ?_⟩
  have := List.find?_some h1
  simpa using this
theorem fS_none {own i : Nat} {l : List Ent} (ho : i ≠ own) (h : fS own l i = none) : firstM l (i : Nat) = none := by
  have := due_first l (i : Nat)
  unfold fS at h
  rw [if_neg ho] at h
  rw [h] at this
  exact this.symm
def wasP (pe : List Nat) (j : Nat) : Int := if j = 0 then -1 else ((pe.getD (j - 1) 0 : Nat) : Int)
theorem wasP_lt {pe : List Nat} (hp : pe.Pairwise (· < ·)) {j i : Nat} (h : pe[j]? = some i) : wasP pe j < (i : Int) := by
  unfold wasP
  by_cases h0 : j = 0
  · rw [if_pos h0]; omega
  · rw [if_neg h0]
    obtain ⟨hj, he⟩ := List.getElem?_eq_some_iff.1 h
    have := List.pairwise_iff_getElem.1 hp (j - 1) j (by omega) hj (by omega)
    rw [List.getD_eq_getElem?_getD, List.getElem?_eq_getElem (show j - 1 < pe.length by omega)]
    rw [he] at this
    show ((pe[j - 1] : Nat) : Int) < _
    omega
theorem wasP_succ {pe : List Nat} {j i : Nat} (h : pe[j]? = some i) : wasP pe (j + 1) = (i : Int) := by
  unfold wasP
  rw [if_neg (by omega), Nat.add_sub_cancel, List.getD_eq_getElem?_getD, h]
  rfl
/-- Where the loop over a tick's messages stands. -/
def MX (w0 : World) (nodes n own m c : Nat) (CF : Array Value) (vb sb lb tb : Nat) (sr : Nat → Nat) (qv : Value) (l : List Ent) (T j : Nat) (was : Int) (a : Option Addr) (cc K : Nat) (W : World) : Prop := ∃ O p d la se, K = (peersM d (fS own l) n).length ∧ was = wasP (peersM d (fS own l) n) j ∧ SX w0 nodes n own m c CF vb sb lb tb sr O W p (tkD d (fS own l) n) qv l (laJ (peersM d (fS own l) n) (T + 1) la j) (seJ (peersM d (fS own l) n) d.t se j) ∧ Li O 40 W 108 22 (.slice a K cc) K (msF ((peersM d (fS own l) n).map (sendM d (fS own l)))) ∧ SV n own m c (fS own l) d T la se ∧ Fx nodes n own m c d ∧ d.du = some (fS own l) ∧ (∀ i, i < n → d.t i < c)
/-- Where the loop over the ticks stands. -/
def TX (w0 : World) (nodes n own m c : Nat) (CF : Array Value) (vb sb lb tb : Nat) (sr : Nat → Nat) (qv : Value) (l : List Ent) (T : Nat) (W : World) : Prop := ∃ O p d la se, SX w0 nodes n own m c CF vb sb lb tb sr O W p d qv l la se ∧ SV n own m c (fS own l) d T la se ∧ d.du = some (fS own l) ∧ (∀ i, i < n → d.t i < c)
section
variable {w0 : World} {nodes n own m c : Nat} {CF : Array Value} {vb sb lb tb : Nat} {sr : Nat → Nat} {W : World} {qa a : Option Addr} {K qc cc : Nat} {l : List Ent} {T j M : Nat} {was : Int}
theorem TX.tick (h : TX w0 nodes n own m c CF vb sb lb tb sr (.slice qa K qc) l T W) :
    Calls Tryz.prog 26 #[.pointer (some ⟨sb, 0, none⟩)] W fun e w' => ∃ a cc M, e = .returned (.slice a M cc) ∧ Hid (MX w0 nodes n own m c CF vb sb lb tb sr (.slice qa K qc) l T 0 (-1) a cc M w') := by
  obtain ⟨O, p, d, la, se, h1, h2, h3, h4⟩ := h
  refine (h1.b.tick h3).mono fun e w' ⟨a, cc, M, he, hh⟩ => ⟨a, cc, M, he, ?_⟩
  obtain ⟨O', hK, h5, h6, h7⟩ := hh.out
  refine ⟨O', p, d, la, se, hK, rfl, ?_, h6, h2, h1.b.fx, h3, h4⟩
  rw [laJ_zero, seJ_zero]
  exact h1.turn h7 h5
/-- The same queue, shown again. -/
theorem MX.look (h : MX w0 nodes n own m c CF vb sb lb tb sr (.slice qa K qc) l T j was a cc M W) (hK : K = l.length) (h16 : K ≤ 16) (x0 x1 x3 x4 x5 : Value) :
    Calls Tryz.prog 17 #[.pointer (some ⟨sb, 0, none⟩), .agg #[x0, x1, .slice qa K qc, x3, x4, x5]] W fun e w' => e = .returned (.tuple #[]) ∧ Hid (MX w0 nodes n own m c CF vb sb lb tb sr (.slice qa K qc) l T j was a cc M w') := by
  subst hK
  obtain ⟨O, p, d, la, se, hK, hw, h1, h2, h3, h4, h5, h6⟩ := h
  refine (h1.b.look h1.b.qu.q (by omega) x0 x1 x3 x4 x5).mono fun e w' ⟨he, hh⟩ => ⟨he, ?_⟩
  obtain ⟨O', p', hb, hk⟩ := hh.out
  rw [look_same _ _ (show (tkD d (fS own l) n).du = some (shF (tkD d (fS own l) n) l) by rw [fS_sh (show (tkD d (fS own l) n).own = own from h4.hown)]; exact h5)] at hb
  exact ⟨O', p', d, la, se, hK, hw, h1.turn (hk.wide (Nat.le_refl _) (by omega)) hb, h2.keepR hk (by omega), h3, h4, h5, h6⟩
end
end Go.Proofs.YtdhhjdacidhmjaaGreat

/- Package settle: messages and entries kept in variables of the law's own. -/
namespace Go.Proofs.YtdhhjdacidhmjaaGreat
open Go.RowKit
set_option maxRecDepth 100000
set_option maxRecDepth 100000
theorem infoM22 : (Tryz.prog.info? 108).map (·.size) = some 22 := by kernel_rfl
/-- A message in a variable. -/
theorem msg_box (W : World) (MA : Array Value) (h22 : MA.size = 22) (h1 : MA.all (·.oneCell') = true) : ∃ W1 W2 gb, Hid (W.heap.size = gb) ∧ Hid (W.alloc (.cells #[.int .i64 0, .int .i64 0, .int .i64 0, .int .i64 0, .int .u64 0, .int .u64 0, .int .u64 0, .int .u64 0, .int .i64 0, .int .u64 0, .slice none 0 0, .int .i64 0, .int .u64 0, .string ⟨#[]⟩, .string ⟨#[]⟩, .int .u64 0, .int .u64 0, .int .u64 0, .int .i64 0, .int .i64 0, .int .i64 0, .int .i64 0] 108) = W1) ∧ Hid (W1.there gb 0 MA.size) ∧ Hid ((Tryz.prog.info? 108).map (·.size) = some MA.size) ∧ Hid (MA.all (·.oneCell') = true) ∧ Hid (W1.setCells gb 0 MA.toList = W2) ∧ Hid (W.Since W.heap.size W2) ∧ Hid (W2.rangeAt gb 0 MA.toList ∧ gb < W2.heap.size) := by
  have s1 : W.Since W.heap.size (W.alloc (.cells #[.int .i64 0, .int .i64 0, .int .i64 0, .int .i64 0, .int .u64 0, .int .u64 0, .int .u64 0, .int .u64 0, .int .i64 0, .int .u64 0, .slice none 0 0, .int .i64 0, .int .u64 0, .string ⟨#[]⟩, .string ⟨#[]⟩, .int .u64 0, .int .u64 0, .int .u64 0, .int .i64 0, .int .i64 0, .int .i64 0, .int .i64 0] 108)) := (World.Since.refl _ _).alloc (Nat.le_refl _) _
  have r : (W.alloc (.cells #[.int .i64 0, .int .i64 0, .int .i64 0, .int .i64 0, .int .u64 0, .int .u64 0, .int .u64 0, .int .u64 0, .int .i64 0, .int .u64 0, .slice none 0 0, .int .i64 0, .int .u64 0, .string ⟨#[]⟩, .string ⟨#[]⟩, .int .u64 0, .int .u64 0, .int .u64 0, .int .i64 0, .int .i64 0, .int .i64 0, .int .i64 0] 108)).rowIs W.heap.size 108 22 (fun i => (#[.int .i64 0, .int .i64 0, .int .i64 0, .int .i64 0, .int .u64 0, .int .u64 0, .int .u64 0, .int .u64 0, .int .i64 0, .int .u64 0, .slice none 0 0, .int .i64 0, .int .u64 0, .string ⟨#[]⟩, .string ⟨#[]⟩, .int .u64 0, .int .u64 0, .int .u64 0, .int .i64 0, .int .i64 0, .int .i64 0, .int .i64 0] : Array Value).toList.getD i undef) := World.rowIs_alloc W _ _ _ (fun i hi => by
    rw [List.getD_eq_getElem?_getD, Array.getElem?_toList, Array.getElem?_eq_getElem hi]
    rfl)
  refine ⟨_, _, _, rfl, rfl, by show World.there _ _ _ _; rw [h22]; exact row_there r, by show _ = _; rw [h22]; exact infoM22, h1, rfl, since_setCells (Nat.le_refl _) _ _ _ s1, ?_⟩
  have h7 := rowIs_setCells MA.toList 0 _ _ r
  refine ⟨fun j v hv => ?_, h7.lt⟩
  have hj : j < 22 := by have := (List.getElem?_eq_some_iff.1 hv).1; rw [Array.length_toList, h22] at this; exact this
  rw [Nat.zero_add, h7.cell hj, if_pos ⟨Nat.zero_le _, by rw [Array.length_toList, h22]; omega⟩, Nat.sub_zero, List.getD_eq_getElem?_getD, hv]
  rfl
/-- An entry in a variable. -/
theorem ent_box (W : World) (e : Ent) : ∃ W1 W2 eb, Hid (W.heap.size = eb) ∧ Hid (W.alloc (.cells #[.int .i64 0, .int .u64 0, .string ⟨#[]⟩, .int .u64 0] 82) = W1) ∧ Hid (W1.there eb 0 (entA e).size) ∧ Hid ((Tryz.prog.info? 82).map (·.size) = some (entA e).size) ∧ Hid ((entA e).all (·.oneCell') = true) ∧ Hid (W1.setCells eb 0 (entA e).toList = W2) ∧ Hid (W.Since W.heap.size W2) ∧ Hid (W2.rangeAt eb 0 (entA e).toList ∧ eb < W2.heap.size) := by
  obtain ⟨W1, HW1, s1, r1⟩ := ent0_alloc W
  have h := ent_row r1 e
  refine ⟨W1, _, _, rfl, HW1, row_there r1, infoE4, (by show _ = _; kernel_rfl), rfl, since_setCells (Nat.le_refl _) _ _ _ s1, fun j v hv => ?_, (Array.getElem?_eq_some_iff.1 h).1⟩
  rw [Nat.zero_add]
  unfold World.cell?
  rw [h]
  show (entA e)[j]? = some v
  rw [← Array.getElem?_toList]
  exact hv
end Go.Proofs.YtdhhjdacidhmjaaGreat

/- Package settle, the document's: Look, as plain data; entries appended. -/
namespace Go.Proofs.YtdhhjdacidhmjaaGreat
open Go.RowKit
set_option maxRecDepth 100000
set_option maxRecDepth 100000
def enL (l : List Ent) : List Value := (List.range (l.length * 4)).map (enF l)
theorem enL_len (l : List Ent) : (enL l).length = l.length * 4 := by simp [enL]
theorem enL_get (l : List Ent) (j : Nat) (hj : j < l.length * 4) : (enL l)[j]? = some (enF l j) := by unfold enL; rw [List.getElem?_map, List.getElem?_range hj]; rfl
theorem enL_app (l l2 : List Ent) : enL l ++ enL l2 = enL (l ++ l2) := by
  apply List.ext_getElem?
  intro j
  by_cases h : j < l.length * 4
  · rw [List.getElem?_append_left (by rw [enL_len]; exact h), enL_get _ _ h, enL_get _ _ (by rw [List.length_append]; omega)]
    unfold enF
    have : j / 4 < l.length := by omega
    rw [List.getD_eq_getElem?_getD, List.getD_eq_getElem?_getD, List.getElem?_append_left this]
  · rw [List.getElem?_append_right (by rw [enL_len]; omega), enL_len]
    by_cases h2 : j < (l.length + l2.length) * 4
    · rw [enL_get _ _ (by omega), enL_get _ _ (by rw [List.length_append]; exact h2)]
      unfold enF
      have e1 : (j - l.length * 4) / 4 = j / 4 - l.length := by omega
      have e2 : (j - l.length * 4) % 4 = j % 4 := by omega
      rw [e1, e2, List.getD_eq_getElem?_getD, List.getD_eq_getElem?_getD, List.getElem?_append_right (show l.length ≤ j / 4 by omega)]
    · rw [List.getElem?_eq_none (by rw [enL_len]; omega), List.getElem?_eq_none (by rw [enL_len, List.length_append]; omega)]
theorem enF_one (l : List Ent) (j : Nat) : (enF l j).oneCell' = true := by
  unfold enF entCell
  split
  · rfl
  · split
    · rfl
    · split <;> rfl
/-- Entries that are shown are appended to a list of one's own. -/
theorem Qu.appQ {O : Nat → Nat} {c : Nat} {w : World} {a : Option Addr} {cap : Nat} {l : List Ent} (h : Qu O c w (.slice a l.length cap) l) {qa : Option Addr} (qc : Nat) {l2 : List Ent} (hq : QIn w qa l2) (hl : l.length + l2.length ≤ 3518437208883) :
    ∃ a' c' w', (Builtin.append_ #[58, 58] 58 #[.slice a l.length cap, .slice qa l2.length qc]).run Tryz.prog w = .ok (.slice a' (l.length + l2.length) c') w' ∧ ∃ O', Qu O' c w' (.slice a' (l.length + l2.length) c') (l ++ l2) ∧ Ch c O O' w w' ∧ ∀ k, w.heap.size ≤ k → O' k = c := by
  obtain ⟨i0, hi, hz0, hz1, hz2⟩ : ∃ i, Tryz.prog.info? 82 = some i ∧ i.zero = some (.agg #[.int .i64 0, .int .u64 0, .string ⟨#[]⟩, .int .u64 0]) ∧ i.size = 4 ∧ i.bytes = 40 := by
    obtain ⟨i, hi, hh⟩ := Option.map_eq_some_iff.1 infoEN
    simp only [Prod.mk.injEq] at hh
    exact ⟨i, hi, hh.1, hh.2.1, hh.2.2⟩
  have hok : ∀ e ∈ l ++ l2, e.nu < 18446744073709551616 ∧ e.am < 18446744073709551616 := fun e he => (List.mem_append.1 he).elim (h.2 e) (hq.ok e)
  cases qa with
  | none =>
    have h0 : l2 = [] := by
      cases l2 with
      | nil => rfl
      | cons x xs => obtain ⟨_, _, e, _⟩ := hq.at' 0 x rfl; cases e
    subst h0
    refine ⟨a, cap, w, run_append_owned_none w 0 58 58 82 i0 4 Tryz.underlying58 hi (.slice a l.length cap) l.length _ h.1.1, fun k => if k < w.heap.size then O k else c, ?_, ⟨rfl, rfl, rfl, Nat.le_refl _, fun k hk => if_pos hk, fun _ _ _ => rfl⟩, fun k hk => if_neg (by omega)⟩
    rw [List.append_nil]
    have k : Ch (c + 1) O (fun k => if k < w.heap.size then O k else c) w w := ⟨rfl, rfl, rfl, Nat.le_refl _, fun k hk => if_pos hk, fun _ _ _ => rfl⟩
    exact h.keep k (by omega)
  | some ad =>
    have hml : maxLen = 9223372036854775807 := rfl
    obtain ⟨v', w', e1, e2, e3, _, e5⟩ := run_append_own_at (P := Tryz.prog) w 0 58 58 82 i0 _ 4 40 Tryz.underlying58 hi hz0 hz1 hz2 rfl (by decide) (.slice a l.length cap) l.length _ h.1.1 ad l2.length qc (enL l2) (enL_len l2)
      (fun j u hu => by
        have hj : j < l2.length * 4 := by have := (List.getElem?_eq_some_iff.1 hu).1; rwa [enL_len] at this
        rw [enL_get _ _ hj] at hu
        obtain ⟨e, he⟩ : ∃ e, l2[j / 4]? = some e := ⟨_, List.getElem?_eq_getElem (by omega)⟩
        obtain ⟨b, o, ha, hr, _⟩ := hq.at' (j / 4) e he
        obtain rfl : ad = ⟨b, o, none⟩ := Option.some.inj ha
        have hr2 := hr (j % 4) (enF l2 j) (by
          unfold enF
          rw [List.getD_eq_getElem?_getD, he]
          have h4 : j % 4 < 4 := Nat.mod_lt _ (by decide)
          generalize j % 4 = i at *
          match i, h4 with
          | 0, _ => rfl
          | 1, _ => rfl
          | 2, _ => rfl
          | 3, _ => rfl)
        rw [Addr.add_mid, ← hu, ← hr2]
        congr 2
        omega)
      (fun u hu => by
        unfold enL at hu
        obtain ⟨j, _, rfl⟩ := List.mem_map.1 hu
        exact enF_one l2 j) (by omega) (by omega) (Nat.zero_le _)
    have hcol : ∀ k, (Value.slice a l.length cap).ownBlock = some k → k < w.heap.size := fun k hk => by
      rcases h.1.1.2 with ⟨hv, _⟩ | ⟨b, cp, cur, hv, _, h5, _⟩
      · rw [hv] at hk; cases hk
      · rw [hv] at hk
        obtain rfl : b = k := Option.some.inj hk
        exact (Array.getElem?_eq_some_iff.1 h5).1
    have e2' : w'.ownsRow 0 82 4 v' (l ++ l2).length (enL (l ++ l2)) := by
      rw [List.length_append, ← enL_app]; exact e2
    have hli : Li (fun k => if k < w.heap.size then O k else c) c w' 82 4 v' (l ++ l2).length (enF (l ++ l2)) := ⟨e2', fun k hk => by
      show (if k < w.heap.size then O k else c) = c
      rcases e5 with e5 | e5
      · rw [e5] at hk
        rw [if_pos (hcol k hk)]
        exact h.1.2 k hk
      · rw [e5] at hk
        have := Option.some.inj hk
        rw [if_neg (by omega)]⟩
    obtain ⟨a', c', hv'⟩ := hli.form
    rw [List.length_append] at hv'
    rw [hv'] at e1 hli
    refine ⟨a', c', w', e1, _, ⟨hli, hok⟩, ⟨e3.os, e3.tape, e3.output, e3.size, fun k hk => if_pos hk, fun k hk hne => e3.block k hk (fun e => hne (h.1.2 k e.symm))⟩, fun k hk => if_neg (by omega)⟩
/-- An empty list, made new. -/
theorem Qu.new (O : Nat → Nat) (c : Nat) (w : World) : Qu (fun k => if k < w.heap.size then O k else c) c (w.alloc (.cells #[] 82)) (.slice (some ⟨w.heap.size, 0, none⟩) 0 0) [] ∧ Ch c O (fun k => if k < w.heap.size then O k else c) w (w.alloc (.cells #[] 82)) := by
  have s : w.Since w.heap.size (w.alloc (.cells #[] 82)) := (World.Since.refl _ _).alloc (Nat.le_refl _) _
  refine ⟨⟨Li.of_row (F := fun _ => undef) ⟨World.rowIs_alloc w _ _ _ (fun i hi => absurd hi (Nat.not_lt_zero _)), if_neg (Nat.lt_irrefl _)⟩ (Nat.le_refl _) (by decide) (fun j hj => by simp at hj), fun e he => by cases he⟩, s.os, s.tape, s.output, s.size, fun k hk => if_pos hk, fun k hk _ => s.block k hk⟩
/-- What the document's Look makes of the first k peers. -/
def thR (l : List Ent) (own j : Nat) : Bool := (firstM l (j : Nat)).isSome && decide (j ≠ own)
def begR (r : Rd) (l : List Ent) (j : Nat) : Bool := thR l r.own j && (!r.th j || decide ((r.fi j).nu ≠ (firstE l (j : Nat)).nu))
def Rd.look (r : Rd) (l : List Ent) (k : Nat) : Rd := { r with q := l, tk := fun j => if j < k ∧ begR r l j = true then 0 else r.tk j, fi := fun j => if j < k ∧ True then firstE l (j : Nat) else r.fi j, th := fun j => if j < k ∧ True then thR l r.own j else r.th j }
theorem Rd.look0 (r : Rd) (l : List Ent) : r.look l 0 = { r with q := l } := by unfold Rd.look; simp
theorem Rd.look_succ (r : Rd) (l : List Ent) (k : Nat) : r.look l (k + 1) = { r.look l k with tk := if begR r l k = true then up (r.look l k).tk k 0 else (r.look l k).tk, fi := up (r.look l k).fi k (firstE l (k : Nat)), th := up (r.look l k).th k (thR l r.own k) } := by
  have e2 := up_if r.fi (fun j => firstE l (j : Nat)) k (fun _ => True)
  have e3 := up_if r.th (fun j => thR l r.own j) k (fun _ => True)
  rw [if_pos trivial] at e2 e3
  unfold Rd.look
  simp only [e2, e3]
  by_cases h : begR r l k = true
  · have e1 := up_if r.tk (fun _ => 0) k (fun j => begR r l j = true)
    rw [if_pos h] at e1
    rw [if_pos h, e1]
  · rw [if_neg h, no_if r.tk (fun _ => 0) k (fun j => begR r l j = true) h]
end Go.Proofs.YtdhhjdacidhmjaaGreat

/- Package settle, the document's: Look (se5_gen.py). -/
namespace Go.Proofs.YtdhhjdacidhmjaaGreat
open Go.RowKit
set_option maxRecDepth 100000
set_option maxRecDepth 100000
/-- A peer's part of Look, from behind the test on. -/
theorem RIs.looked {O : Nat → Nat} {q : Nat} {w : World} {p : Rp2} {r : Rd} {l : List Ent} {k : Nat} (h : RIs O q w p (r.look l k)) (hk : k < r.n) :
    (begR r l k = true → RpAt w p.eb (k * 8) r.m (r.tk k) ∧ RIs O q (((w.setCell ⟨p.eb, k * 8 + 1, none⟩ (.int .i64 0)).setCells p.eb (k * 8 + 3) (entL (firstE l (k : Nat)))).setCell ⟨p.eb, k * 8 + 7, none⟩ (.bool (thR l r.own k))) p (r.look l (k + 1)) ∧ ChR (q + 50) (q + 53) O O w (((w.setCell ⟨p.eb, k * 8 + 1, none⟩ (.int .i64 0)).setCells p.eb (k * 8 + 3) (entL (firstE l (k : Nat)))).setCell ⟨p.eb, k * 8 + 7, none⟩ (.bool (thR l r.own k)))) ∧
    (begR r l k = false → RIs O q ((w.setCells p.eb (k * 8 + 3) (entL (firstE l (k : Nat)))).setCell ⟨p.eb, k * 8 + 7, none⟩ (.bool (thR l r.own k))) p (r.look l (k + 1)) ∧ ChR (q + 50) (q + 53) O O w ((w.setCells p.eb (k * 8 + 3) (entL (firstE l (k : Nat)))).setCell ⟨p.eb, k * 8 + 7, none⟩ (.bool (thR l r.own k)))) := by
  rw [Rd.look_succ]
  refine ⟨fun hb => ?_, fun hb => ?_⟩
  · rw [if_pos hb]
    obtain ⟨a0, _⟩ := h.pcell k 0 hk (by decide)
    obtain ⟨a1, f1⟩ := h.pcell k 1 hk (by decide)
    rw [rpF_at _ _ _ (by decide)] at a0 a1
    have e : (r.look l k).tk k = r.tk k := if_neg (fun h => Nat.lt_irrefl _ h.1)
    have a1' : w.cell? ⟨p.eb, k * 8 + 1, none⟩ = some (.int .i64 ((r.look l k).tk k : Nat)) := a1
    rw [e] at a1'
    obtain ⟨_, _, _, _, m1, m2, _⟩ := h.lim
    have h1 := h.setTk k hk 0
    have h2 := h1.1.setFi k hk (firstE l (k : Nat))
    have h3 := h2.1.setTh k hk (thR l r.own k)
    exact ⟨⟨a0, a1', f1, m1, m2⟩, h3.1, ((ChR.of h1.2 (by omega) (by omega)).trans (ChR.of h2.2 (by omega) (by omega))).trans (ChR.of h3.2 (by omega) (by omega))⟩
  · rw [if_neg (by rw [hb]; simp)]
    have h2 := h.setFi k hk (firstE l (k : Nat))
    have h3 := h2.1.setTh k hk (thR l r.own k)
    exact ⟨h3.1, (ChR.of h2.2 (by omega) (by omega)).trans (ChR.of h3.2 (by omega) (by omega))⟩
theorem RIs.fiThere {O : Nat → Nat} {q : Nat} {w : World} {p : Rp2} {r : Rd} (h : RIs O q w p r) (k : Nat) (hk : k < r.n) : w.there p.eb (k * 8 + 3) 4 := fun j hj => by
  obtain ⟨a, f⟩ := h.pcell k (3 + j) hk (by omega)
  rw [← Nat.add_assoc] at a f
  exact ⟨by rw [a]; rfl, f⟩
/-- What the document's Look leaves. -/
def RLk (O : Nat → Nat) (q : Nat) (w : World) (p : Rp2) (r : Rd) (l : List Ent) (w' : World) : Prop := ∃ O' qb qd, RIs O' q w' { p with qv := .slice qb l.length qd } (r.look l r.n) ∧ ChR (q + 50) (q + 53) O O' w w'
set_option maxHeartbeats 8000000 in
theorem rlook_any {O : Nat → Nat} {q : Nat} {w : World} {p : Rp2} {r : Rd} (h : RIs O q w p r) {qa : Option Addr} {qc : Nat} {l : List Ent} (hq : QIn w qa l) (hl : l.length ≤ 3518437208881) (x0 x1 x3 x4 x5 : Value) :
    Calls Tryz.prog 18 #[.pointer (some ⟨p.rb, 0, none⟩), .agg #[x0, x1, .slice qa l.length qc, x3, x4, x5]] w fun e w' => e = .returned (.tuple #[]) ∧ Hid (RLk O q w p r l w') := by
  obtain ⟨L, hL⟩ : ∃ L, l.length = L := ⟨_, rfl⟩
  obtain ⟨rb, eb, ec, qv0⟩ := p
  obtain ⟨W1, HW1⟩ : ∃ W, Hid (w.alloc (.cells #[x0, x1, .slice qa L qc, x3, x4, x5] 89) = W) := ⟨_, rfl⟩
  obtain ⟨bb, HBB⟩ : ∃ x, Hid (w.heap.size = x) := ⟨_, rfl⟩
  have s1 : w.Since w.heap.size W1 := by rw [← HW1.out]; exact (World.Since.refl _ _).alloc (Nat.le_refl _) _
  have b2 : W1.cell? ⟨bb, 2, none⟩ = some (.slice qa L qc) := by rw [← HW1.out, ← HBB.out]; exact World.cell?_alloc_at (w := w) _ _ _ 2 rfl
  obtain ⟨W2, HW2⟩ : ∃ W, Hid (W1.alloc (.cells #[] 82) = W) := ⟨_, rfl⟩
  obtain ⟨nb, HNB⟩ : ∃ x, Hid (W1.heap.size = x) := ⟨_, rfl⟩
  have s2 : W1.Since W1.heap.size W2 := by rw [← HW2.out]; exact (World.Since.refl _ _).alloc (Nat.le_refl _) _
  have c2 : W2.cell? ⟨bb, 2, none⟩ = some (.slice qa L qc) := cell_later s2 b2
  obtain ⟨hqn, kn⟩ := Qu.new O (q + 52) W1
  rw [HW2.out, HNB.out] at hqn
  rw [HW2.out, HNB.out] at kn
  have hq2 : QIn W2 qa l := hq.since (s1.trans (since_mono s2 s1.size))
  obtain ⟨qb, qd, W3, ea, O3, hq3, k3, _⟩ := hqn.appQ qc hq2 (by simp only [List.length_nil]; omega)
  rw [List.nil_append] at hq3
  have ez : ([] : List Ent).length + l.length = L := by simp [hL]
  rw [ez] at ea hq3
  rw [hL] at ea
  have HAP := hide ea
  have h1 : RIs O q W1 ⟨rb, eb, ec, qv0⟩ r := h.since s1
  -- the old queue is no longer looked at
  have hr3 : ∃ v8, RowC O3 (q + 50) W3 rb 78 13 (rsCell r ⟨rb, eb, ec, qv0⟩ (fun i => if i = 8 then v8 else cfgF r.nodes r.n r.c r.m i)) := h1.row.imp fun _ h => (h.keep kn (by omega)).keep k3 (by omega)
  have hp3 := (h1.peers.keep kn (by omega)).keep k3 (by omega)
  obtain ⟨v8, hr3⟩ := hr3
  have hf3 : W3.frozen? ⟨rb, 12, none⟩ = false := hr3.1.frozen 12
  have hc3 : W3.cell? ⟨rb, 12, none⟩ = some qv0 := hr3.1.cell (i := 12) (by decide)
  have hz3 : RIs O3 q W3 ⟨rb, eb, ec, .slice none 0 0⟩ { r with q := [] } → False ∨ True := fun _ => .inr trivial
  clear hz3
  obtain ⟨W4, HW4⟩ : ∃ W, Hid (W3.setCell ⟨rb, 12, none⟩ (.slice qb L qd) = W) := ⟨_, rfl⟩
  have k4 : Ch (q + 50) O3 O3 W3 W4 := by rw [← HW4.out]; exact Ch.set hr3.2 _ _
  have hs4 : RIs O3 q W4 ⟨rb, eb, ec, .slice qb L qd⟩ (r.look l 0) := by
    rw [Rd.look0]
    have hr4 := hr3.set 12 (.slice qb L qd)
    rw [HW4.out] at hr4
    refine ⟨⟨v8, hr4.1.congr fun z hz => ?_, hr4.2⟩, hp3.keep k4 (by omega), hq3.keep k4 (by omega), h.lim, h.tl⟩
    show (if z = 12 then Value.slice qb L qd else rsCell r ⟨rb, eb, ec, qv0⟩ _ z) = rsCell { r with q := l } ⟨rb, eb, ec, .slice qb L qd⟩ _ z
    unfold rsCell
    by_cases e : z = 12
    · subst e; rfl
    · rw [if_neg e]
      by_cases e1 : z < 9
      · rw [if_pos e1, if_pos e1]
      · rw [if_neg e1, if_neg e1]
        by_cases e2 : z = 9
        · rw [if_pos e2, if_pos e2]
        · rw [if_neg e2, if_neg e2]
          by_cases e3 : z = 10
          · rw [if_pos e3, if_pos e3]
          · rw [if_neg e3, if_neg e3, if_pos (show z = 11 by omega), if_pos (show z = 11 by omega)]
  have hk4 : ChR (q + 50) (q + 53) O O3 w W4 := (((ChR.since s1).trans (ChR.of kn (by omega) (by omega))).trans (ChR.of k3 (by omega) (by omega))).trans (ChR.of k4 (by omega) (by omega))
  obtain ⟨n, hn⟩ : ∃ n, r.n = n := ⟨_, rfl⟩
  obtain ⟨own, hown⟩ : ∃ n, r.own = n := ⟨_, rfl⟩
  have HN : Hid (r.n = n ∧ n ≤ 8) := ⟨hn, by have := h.lim; omega⟩
  have HLL := hide hL
  have HLB : Hid (L ≤ 3518437208881) := by rw [← hL]; exact hl
  have HX0 : Hid (∃ O', RIs O' q W4 ⟨rb, eb, ec, .slice qb L qd⟩ (r.look l 0) ∧ ChR (q + 50) (q + 53) O O' w W4) := ⟨O3, hs4, hk4⟩
  have HCC : Hid (∀ W k O', RIs O' q W ⟨rb, eb, ec, .slice qb L qd⟩ (r.look l k) → W.cell? ⟨rb, 10, none⟩ = some (.int .i64 (own : Nat)) ∧ W.cell? ⟨rb, 11, none⟩ = some (.slice (some ⟨eb, 0, none⟩) n ec) ∧ W.cell? ⟨rb, 12, none⟩ = some (.slice qb L qd)) := fun W k O' h => by
    obtain ⟨_, _, _, d1, d2, d3⟩ := h.c
    rw [← hn, ← hown]
    exact ⟨d1, d2, d3⟩
  have HOWN := hide hown
  rw [hL]
  clear h h1 hq hl hL s1 s2 hqn kn hq2 ea hq3 k3 ez hr3 hp3 k4 hs4 hk4 hn hown b2
  go_enter Tryz.func18, Tryz.ntmps18
  go_upto_region 1 with fail
  rw [HW1.out, HBB.out]
  clear HW1 HBB
  go_upto_region 2 with (first
    | (rw [HW2.out, HNB.out]; clear HW2)
    | (at_builtin; refine wpList_append_eq rfl _ _ 58 rfl _ _ _ (by rfl) (by rfl) HAP.out ?_))
  rw [HW4.out]
  clear HW4 HAP c2 hf3 hc3
  go_wp2_with fail
  go_loopg [4, 5, 6, 7] n (fun g s4 s5 s6 s7 wx => ∃ i : Nat, i ≤ n ∧ g = n - i ∧ s4 = .int .i64 (i : Nat) ∧ Hid (∃ O', RIs O' q wx ⟨rb, eb, ec, .slice qb L qd⟩ (r.look l i) ∧ ChR (q + 50) (q + 53) O O' w wx))
  case atStart => exact ⟨0, Nat.zero_le _, rfl, rfl, HX0.out⟩
  case round =>
    clear HX0
    obtain ⟨i, hi, rfl, rfl, HX⟩ := hrel
    obtain ⟨d10, d11, d12⟩ : wr.cell? ⟨rb, 10, none⟩ = some (.int .i64 (own : Nat)) ∧ wr.cell? ⟨rb, 11, none⟩ = some (.slice (some ⟨eb, 0, none⟩) n ec) ∧ wr.cell? ⟨rb, 12, none⟩ = some (.slice qb L qd) := by
      obtain ⟨O', h, _⟩ := HX.out
      exact HCC.out _ _ _ h
    by_cases hlt : i < n
    · have z1 : (i : Int) < (n : Int) := by omega
      have z0 : (0 : Int) ≤ (i : Int) := by omega
      have hwi : IntKind.i64.wrap ((i : Int) + 1) = (i : Int) + 1 := by have := HN.out; rw [IntKind.wrap_i64]; omega
      have hme : n - (i + 1) < n - i := by omega
      have HJ := hide hlt
      obtain ⟨EE, HEE⟩ : ∃ e, Hid (firstE l (i : Nat) = e) := ⟨_, rfl⟩
      obtain ⟨TT, HTT⟩ : ∃ b, Hid ((firstM l (i : Nat)).isSome = b) := ⟨_, rfl⟩
      have HFI : Hid (Calls Tryz.prog 43 #[.slice qb L qd, .int .i64 (i : Nat)] wr fun e' w3 => e' = .returned (.tuple #[.agg (entA EE), .bool TT]) ∧
          ∃ W5 W6 gb, Hid (w3.heap.size = gb) ∧ Hid (w3.alloc (.cells #[.int .i64 0, .int .u64 0, .string ⟨#[]⟩, .int .u64 0] 82) = W5) ∧ Hid (W5.there gb 0 (entA EE).size) ∧ Hid ((Tryz.prog.info? 82).map (·.size) = some (entA EE).size) ∧ Hid ((entA EE).all (·.oneCell') = true) ∧ Hid (W5.setCells gb 0 (entA EE).toList = W6) ∧ W6.cell? ⟨gb, 1, none⟩ = some (.int .u64 (EE.nu : Nat)) ∧ Hid (W6.rangeAt gb 0 (entA EE).toList) ∧ Hid (gb ≠ eb) ∧
            W6.cell? ⟨rb, 10, none⟩ = some (.int .i64 (own : Nat)) ∧ W6.cell? ⟨rb, 11, none⟩ = some (.slice (some ⟨eb, 0, none⟩) n ec) ∧ W6.cell? ⟨eb, i * 8 + 7, none⟩ = some (.bool (r.th i)) ∧ W6.cell? ⟨eb, i * 8 + 3 + 1, none⟩ = some (.int .u64 ((r.fi i).nu : Nat)) ∧ Hid (∃ O', RIs O' q W6 ⟨rb, eb, ec, .slice qb L qd⟩ (r.look l i) ∧ ChR (q + 50) (q + 53) O O' w W6)) := by
        obtain ⟨O', h, hk⟩ := HX.out
        have hqq := h.que
        have e1 : l.length = L := HLL.out
        have hqi : QIn wr qb l := by
          have hq1 : Qu O' (q + 52) wr (.slice qb l.length qd) l := by rw [e1]; exact hqq
          exact hq1.q
        have hf := rfirst_any (qc := qd) hqi (by have := HLB.out; omega) (i : Nat)
        rw [e1, HEE.out, HTT.out] at hf
        refine hf.mono fun e' w3 ⟨he, s3⟩ => ⟨he, ?_⟩
        obtain ⟨W5, W6, gb, g1, g2, g3, g4, g5, g6, g7, g8⟩ := ent_box w3 EE
        have s6 := s3.trans (since_mono g7.out s3.size)
        have h6 := h.since s6
        obtain ⟨u1, u2, _⟩ := HCC.out _ _ _ h6
        have hin : i < r.n := by have := HN.out.1; omega
        obtain ⟨p7, _⟩ := h6.pcell i 7 hin (by decide)
        obtain ⟨p4, _⟩ := h6.pcell i 4 hin (by decide)
        rw [rpF_at _ _ _ (by decide)] at p7 p4
        have e7 : (r.look l i).th i = r.th i := if_neg (fun h => Nat.lt_irrefl _ h.1)
        have e4 : (r.look l i).fi i = r.fi i := if_neg (fun h => Nat.lt_irrefl _ h.1)
        have p7' : W6.cell? ⟨eb, i * 8 + 7, none⟩ = some (.bool ((r.look l i).th i)) := p7
        have p4' : W6.cell? ⟨eb, i * 8 + 4, none⟩ = some (.int .u64 (((r.look l i).fi i).nu : Nat)) := p4
        rw [e7] at p7'
        rw [e4] at p4'
        have hgne : gb ≠ eb := fun e => by
          obtain ⟨b9, _, _, hv9, _, _, hr9, _⟩ := h.peers.at' (by have := h.lim; omega)
          injection hv9 with ha9 _ _
          obtain rfl : eb = b9 := congrArg Addr.block (Option.some.inj ha9)
          have := hr9.1.lt
          have := g1.out
          have := s3.size
          omega
        have gr := g8.out.1 1 (.int .u64 (EE.nu : Nat)) rfl
        rw [Nat.zero_add] at gr
        exact ⟨W5, W6, gb, g1, g2, g3, g4, g5, g6, gr, g8.out.1, hgne, u1, u2, p7', p4', O', h6, hk.trans (ChR.since s6)⟩
      clear HX hi hlt
      go_upto_region 7 with (first
        | (go_at_call 43; refine HFI.out.mono ?_; rintro e w3 ⟨rfl, W5, W6, gb, HGB, HW5, HT, HI, HO, HW6, f1, HGR, HGNE, f10, f11, f7, f4, HX6⟩)
        | (rw [HW5.out, HGB.out]; clear HW5)
        | (refine wpList_store_mid rfl 82 _ _ rfl gb 0 (entA EE) rfl rfl HT.out HI.out HO.out ?_; rw [HW6.out]))
      clear HFI d10 d11 d12 HT HO HW6
      have HBG : Hid (begR r l i = (thR l own i && (!r.th i || decide ((r.fi i).nu ≠ EE.nu)))) := by show _ = _; unfold begR; rw [HEE.out, HOWN.out]
      have HTH : Hid (thR l own i = (TT && decide (i ≠ own))) := by show _ = _; unfold thR; rw [HTT.out]
      obtain ⟨TH, hth⟩ : ∃ x, r.th i = x := ⟨_, rfl⟩
      obtain ⟨FN, hfn⟩ : ∃ x, (r.fi i).nu = x := ⟨_, rfl⟩
      rw [hth, hfn] at HBG
      rw [hth] at f7
      rw [hfn] at f4
      clear hth hfn
      by_cases hio : i = own
      · subst hio
        have q0 : ((i : Int) == (i : Int)) = true := by simp
        have HTHV : Hid (thR l i i = false) := by show _ = _; rw [HTH.out]; simp
        have HBEG : Hid (begR r l i = false) := by show _ = _; rw [HBG.out, HTHV.out]; simp [*]
        go_upto_region 9 with fail
        go_quiet (fail)
        have HXQ : Hid (∃ O', RIs O' q (W6.drewN nq) ⟨rb, eb, ec, .slice qb L qd⟩ (r.look l i) ∧ ChR (q + 50) (q + 53) O O' w (W6.drewN nq)) := by
          obtain ⟨O', h, hk⟩ := HX6.out
          have s : W6.Since W6.heap.size (W6.drewN nq) := ⟨rfl, rfl, rfl, Nat.le_refl _, fun _ _ => rfl⟩
          exact ⟨O', h.since s, hk.trans (ChR.since s)⟩
        have HGQ : Hid ((W6.drewN nq).rangeAt gb 0 (entA EE).toList) := HGR.out
        clear HX6 HGR f1 f4 f7 f10 f11
        generalize W6.drewN nq = wq at *
        obtain ⟨HGR, HT8, W9, HW9, r9, fr9, W10, HW10, HXN⟩ : Hid (wq.rangeAt gb 0 (entA EE).toList) ∧ Hid (wq.there eb (i * 8 + 3) (entA EE).size) ∧ ∃ W9, Hid (wq.setCells eb (i * 8 + 3) (entA EE).toList = W9) ∧ (∃ v, W9.cell? ⟨eb, i * 8 + 7, none⟩ = some (.bool v)) ∧ W9.frozen? ⟨eb, i * 8 + 7, none⟩ = false ∧ ∃ W10, Hid (W9.setCell ⟨eb, i * 8 + 7, none⟩ (.bool false) = W10) ∧ Hid (∃ O', RIs O' q W10 ⟨rb, eb, ec, .slice qb L qd⟩ (r.look l (i + 1)) ∧ ChR (q + 50) (q + 53) O O' w W10) := by
          obtain ⟨O', h, hk⟩ := HXQ.out
          have hin : i < r.n := by have := HN.out.1; have := HJ.out; omega
          obtain ⟨ha, hb⟩ := h.looked hin
          obtain ⟨a2, a3⟩ := hb HBEG.out
          rw [HOWN.out, HTHV.out, HEE.out] at a2 a3
          have t2 := h.setFi i hin EE
          obtain ⟨p7, fp7⟩ := t2.1.pcell i 7 hin (by decide)
          rw [rpF_at _ _ _ (by decide)] at p7
          exact ⟨HGQ, h.fiThere i hin, _, rfl, ⟨_, p7⟩, fp7, _, rfl, O', a2, hk.trans a3⟩
        go_upto_region 11 with fail
        obtain ⟨v9, r9⟩ := r9
        have HIL : Hid ((Tryz.prog.info? 82).map (·.size) = some (entA EE).toList.length) := infoE4
        have HOE : Hid ((entA EE).all (·.oneCell') = true) := by show _ = _; kernel_rfl
        clear HXQ HGQ HBEG HTHV
        go_upto_region 12 with (first
          | (refine wpList_load_mid rfl 82 _ rfl gb 0 rfl _ _ HGR.out Tryz.underlying82 rfl HIL.out ?_)
          | (refine wpList_store_mid rfl 82 _ _ rfl eb (i * 8 + 3) (entA EE) rfl rfl HT8.out HI.out HOE.out ?_; rw [HW9.out]))
        clear HGR HT8 HW9 HIL HOE
        go_wp2_with (rw [HW10.out]; clear HW10)
        go_roundg (n - (i + 1))
        case measure => go_light; exact hme
        case rel => go_light; exact ⟨i + 1, HJ.out, rfl, by simp, HXN.out⟩
      · have q0 : ((i : Int) == (own : Int)) = false := by simp; omega
        cases TT
        · have HTHV : Hid (thR l own i = false) := by show _ = _; rw [HTH.out]; rfl
          have HBEG : Hid (begR r l i = false) := by show _ = _; rw [HBG.out, HTHV.out]; simp [*]
          go_upto_region 9 with fail
          go_quiet (fail)
          have HXQ : Hid (∃ O', RIs O' q (W6.drewN nq) ⟨rb, eb, ec, .slice qb L qd⟩ (r.look l i) ∧ ChR (q + 50) (q + 53) O O' w (W6.drewN nq)) := by
            obtain ⟨O', h, hk⟩ := HX6.out
            have s : W6.Since W6.heap.size (W6.drewN nq) := ⟨rfl, rfl, rfl, Nat.le_refl _, fun _ _ => rfl⟩
            exact ⟨O', h.since s, hk.trans (ChR.since s)⟩
          have HGQ : Hid ((W6.drewN nq).rangeAt gb 0 (entA EE).toList) := HGR.out
          clear HX6 HGR f1 f4 f7 f10 f11
          generalize W6.drewN nq = wq at *
          obtain ⟨HGR, HT8, W9, HW9, r9, fr9, W10, HW10, HXN⟩ : Hid (wq.rangeAt gb 0 (entA EE).toList) ∧ Hid (wq.there eb (i * 8 + 3) (entA EE).size) ∧ ∃ W9, Hid (wq.setCells eb (i * 8 + 3) (entA EE).toList = W9) ∧ (∃ v, W9.cell? ⟨eb, i * 8 + 7, none⟩ = some (.bool v)) ∧ W9.frozen? ⟨eb, i * 8 + 7, none⟩ = false ∧ ∃ W10, Hid (W9.setCell ⟨eb, i * 8 + 7, none⟩ (.bool false) = W10) ∧ Hid (∃ O', RIs O' q W10 ⟨rb, eb, ec, .slice qb L qd⟩ (r.look l (i + 1)) ∧ ChR (q + 50) (q + 53) O O' w W10) := by
            obtain ⟨O', h, hk⟩ := HXQ.out
            have hin : i < r.n := by have := HN.out.1; have := HJ.out; omega
            obtain ⟨ha, hb⟩ := h.looked hin
            obtain ⟨a2, a3⟩ := hb HBEG.out
            rw [HOWN.out, HTHV.out, HEE.out] at a2 a3
            have t2 := h.setFi i hin EE
            obtain ⟨p7, fp7⟩ := t2.1.pcell i 7 hin (by decide)
            rw [rpF_at _ _ _ (by decide)] at p7
            exact ⟨HGQ, h.fiThere i hin, _, rfl, ⟨_, p7⟩, fp7, _, rfl, O', a2, hk.trans a3⟩
          go_upto_region 11 with fail
          obtain ⟨v9, r9⟩ := r9
          have HIL : Hid ((Tryz.prog.info? 82).map (·.size) = some (entA EE).toList.length) := infoE4
          have HOE : Hid ((entA EE).all (·.oneCell') = true) := by show _ = _; kernel_rfl
          clear HXQ HGQ HBEG HTHV
          go_upto_region 12 with (first
            | (refine wpList_load_mid rfl 82 _ rfl gb 0 rfl _ _ HGR.out Tryz.underlying82 rfl HIL.out ?_)
            | (refine wpList_store_mid rfl 82 _ _ rfl eb (i * 8 + 3) (entA EE) rfl rfl HT8.out HI.out HOE.out ?_; rw [HW9.out]))
          clear HGR HT8 HW9 HIL HOE
          go_wp2_with (rw [HW10.out]; clear HW10)
          go_roundg (n - (i + 1))
          case measure => go_light; exact hme
          case rel => go_light; exact ⟨i + 1, HJ.out, rfl, by simp, HXN.out⟩
        · cases TH
          · have HTHV : Hid (thR l own i = true) := by show _ = _; rw [HTH.out]; simp [hio]
            have HBEG : Hid (begR r l i = true) := by show _ = _; rw [HBG.out, HTHV.out]; simp [*]
            go_upto_region 9 with fail
            go_quiet (fail)
            have HXQ : Hid (∃ O', RIs O' q (W6.drewN nq) ⟨rb, eb, ec, .slice qb L qd⟩ (r.look l i) ∧ ChR (q + 50) (q + 53) O O' w (W6.drewN nq)) := by
              obtain ⟨O', h, hk⟩ := HX6.out
              have s : W6.Since W6.heap.size (W6.drewN nq) := ⟨rfl, rfl, rfl, Nat.le_refl _, fun _ _ => rfl⟩
              exact ⟨O', h.since s, hk.trans (ChR.since s)⟩
            have HGQ : Hid ((W6.drewN nq).rangeAt gb 0 (entA EE).toList) := HGR.out
            clear HX6 HGR f1 f4 f7 f10 f11
            generalize W6.drewN nq = wq at *
            obtain ⟨HRS, W8, HW8, g8, HGR, HT8, W9, HW9, r9, fr9, W10, HW10, HXN⟩ : Hid (Calls Tryz.prog 44 #[.pointer (some ⟨eb, i * 8, none⟩)] wq fun e w' => e = .returned (.tuple #[]) ∧ w' = wq.setCell ⟨eb, i * 8 + 1, none⟩ (.int .i64 0)) ∧ ∃ W8, Hid (wq.setCell ⟨eb, i * 8 + 1, none⟩ (.int .i64 0) = W8) ∧ True ∧ Hid (W8.rangeAt gb 0 (entA EE).toList) ∧ Hid (W8.there eb (i * 8 + 3) (entA EE).size) ∧ ∃ W9, Hid (W8.setCells eb (i * 8 + 3) (entA EE).toList = W9) ∧ (∃ v, W9.cell? ⟨eb, i * 8 + 7, none⟩ = some (.bool v)) ∧ W9.frozen? ⟨eb, i * 8 + 7, none⟩ = false ∧ ∃ W10, Hid (W9.setCell ⟨eb, i * 8 + 7, none⟩ (.bool true) = W10) ∧ Hid (∃ O', RIs O' q W10 ⟨rb, eb, ec, .slice qb L qd⟩ (r.look l (i + 1)) ∧ ChR (q + 50) (q + 53) O O' w W10) := by
              obtain ⟨O', h, hk⟩ := HXQ.out
              have hin : i < r.n := by have := HN.out.1; have := HJ.out; omega
              obtain ⟨ha, hb⟩ := h.looked hin
              obtain ⟨a1, a2, a3⟩ := ha HBEG.out
              rw [HOWN.out, HTHV.out, HEE.out] at a2 a3
              have t1 := h.setTk i hin 0
              have t2 := t1.1.setFi i hin EE
              have nb : gb ≠ eb := HGNE.out
              obtain ⟨p7, fp7⟩ := t2.1.pcell i 7 hin (by decide)
              rw [rpF_at _ _ _ (by decide)] at p7
              exact ⟨rreset_at a1, _, rfl, trivial, rangeAt_on HGQ.out (Below.heap_setCell _ _ _ _ nb), t1.1.fiThere i hin, _, rfl, ⟨_, p7⟩, fp7, _, rfl, O', a2, hk.trans a3⟩
            go_upto_region 11 with (go_at_call 44; refine HRS.out.mono ?_; rintro e w8 ⟨rfl, rfl⟩)
            rw [HW8.out]
            clear HRS HW8 g8
            obtain ⟨v9, r9⟩ := r9
            have HIL : Hid ((Tryz.prog.info? 82).map (·.size) = some (entA EE).toList.length) := infoE4
            have HOE : Hid ((entA EE).all (·.oneCell') = true) := by show _ = _; kernel_rfl
            clear HXQ HGQ HBEG HTHV
            go_upto_region 12 with (first
              | (refine wpList_load_mid rfl 82 _ rfl gb 0 rfl _ _ HGR.out Tryz.underlying82 rfl HIL.out ?_)
              | (refine wpList_store_mid rfl 82 _ _ rfl eb (i * 8 + 3) (entA EE) rfl rfl HT8.out HI.out HOE.out ?_; rw [HW9.out]))
            clear HGR HT8 HW9 HIL HOE
            go_wp2_with (rw [HW10.out]; clear HW10)
            go_roundg (n - (i + 1))
            case measure => go_light; exact hme
            case rel => go_light; exact ⟨i + 1, HJ.out, rfl, by simp, HXN.out⟩
          · by_cases hne : FN = EE.nu
            · have q2 : ((FN : Int) != (EE.nu : Int)) = false := by simp [hne]
              have HTHV : Hid (thR l own i = true) := by show _ = _; rw [HTH.out]; simp [hio]
              have HBEG : Hid (begR r l i = false) := by show _ = _; rw [HBG.out, HTHV.out]; simp [*]
              go_upto_region 9 with fail
              go_quiet (fail)
              have HXQ : Hid (∃ O', RIs O' q (W6.drewN nq) ⟨rb, eb, ec, .slice qb L qd⟩ (r.look l i) ∧ ChR (q + 50) (q + 53) O O' w (W6.drewN nq)) := by
                obtain ⟨O', h, hk⟩ := HX6.out
                have s : W6.Since W6.heap.size (W6.drewN nq) := ⟨rfl, rfl, rfl, Nat.le_refl _, fun _ _ => rfl⟩
                exact ⟨O', h.since s, hk.trans (ChR.since s)⟩
              have HGQ : Hid ((W6.drewN nq).rangeAt gb 0 (entA EE).toList) := HGR.out
              clear HX6 HGR f1 f4 f7 f10 f11
              generalize W6.drewN nq = wq at *
              obtain ⟨HGR, HT8, W9, HW9, r9, fr9, W10, HW10, HXN⟩ : Hid (wq.rangeAt gb 0 (entA EE).toList) ∧ Hid (wq.there eb (i * 8 + 3) (entA EE).size) ∧ ∃ W9, Hid (wq.setCells eb (i * 8 + 3) (entA EE).toList = W9) ∧ (∃ v, W9.cell? ⟨eb, i * 8 + 7, none⟩ = some (.bool v)) ∧ W9.frozen? ⟨eb, i * 8 + 7, none⟩ = false ∧ ∃ W10, Hid (W9.setCell ⟨eb, i * 8 + 7, none⟩ (.bool true) = W10) ∧ Hid (∃ O', RIs O' q W10 ⟨rb, eb, ec, .slice qb L qd⟩ (r.look l (i + 1)) ∧ ChR (q + 50) (q + 53) O O' w W10) := by
                obtain ⟨O', h, hk⟩ := HXQ.out
                have hin : i < r.n := by have := HN.out.1; have := HJ.out; omega
                obtain ⟨ha, hb⟩ := h.looked hin
                obtain ⟨a2, a3⟩ := hb HBEG.out
                rw [HOWN.out, HTHV.out, HEE.out] at a2 a3
                have t2 := h.setFi i hin EE
                obtain ⟨p7, fp7⟩ := t2.1.pcell i 7 hin (by decide)
                rw [rpF_at _ _ _ (by decide)] at p7
                exact ⟨HGQ, h.fiThere i hin, _, rfl, ⟨_, p7⟩, fp7, _, rfl, O', a2, hk.trans a3⟩
              go_upto_region 11 with fail
              obtain ⟨v9, r9⟩ := r9
              have HIL : Hid ((Tryz.prog.info? 82).map (·.size) = some (entA EE).toList.length) := infoE4
              have HOE : Hid ((entA EE).all (·.oneCell') = true) := by show _ = _; kernel_rfl
              clear HXQ HGQ HBEG HTHV
              go_upto_region 12 with (first
                | (refine wpList_load_mid rfl 82 _ rfl gb 0 rfl _ _ HGR.out Tryz.underlying82 rfl HIL.out ?_)
                | (refine wpList_store_mid rfl 82 _ _ rfl eb (i * 8 + 3) (entA EE) rfl rfl HT8.out HI.out HOE.out ?_; rw [HW9.out]))
              clear HGR HT8 HW9 HIL HOE
              go_wp2_with (rw [HW10.out]; clear HW10)
              go_roundg (n - (i + 1))
              case measure => go_light; exact hme
              case rel => go_light; exact ⟨i + 1, HJ.out, rfl, by simp, HXN.out⟩
            · have q2 : ((FN : Int) != (EE.nu : Int)) = true := by simp; omega
              have HTHV : Hid (thR l own i = true) := by show _ = _; rw [HTH.out]; simp [hio]
              have HBEG : Hid (begR r l i = true) := by show _ = _; rw [HBG.out, HTHV.out]; simp [*]
              go_upto_region 9 with fail
              go_quiet (fail)
              have HXQ : Hid (∃ O', RIs O' q (W6.drewN nq) ⟨rb, eb, ec, .slice qb L qd⟩ (r.look l i) ∧ ChR (q + 50) (q + 53) O O' w (W6.drewN nq)) := by
                obtain ⟨O', h, hk⟩ := HX6.out
                have s : W6.Since W6.heap.size (W6.drewN nq) := ⟨rfl, rfl, rfl, Nat.le_refl _, fun _ _ => rfl⟩
                exact ⟨O', h.since s, hk.trans (ChR.since s)⟩
              have HGQ : Hid ((W6.drewN nq).rangeAt gb 0 (entA EE).toList) := HGR.out
              clear HX6 HGR f1 f4 f7 f10 f11
              generalize W6.drewN nq = wq at *
              obtain ⟨HRS, W8, HW8, g8, HGR, HT8, W9, HW9, r9, fr9, W10, HW10, HXN⟩ : Hid (Calls Tryz.prog 44 #[.pointer (some ⟨eb, i * 8, none⟩)] wq fun e w' => e = .returned (.tuple #[]) ∧ w' = wq.setCell ⟨eb, i * 8 + 1, none⟩ (.int .i64 0)) ∧ ∃ W8, Hid (wq.setCell ⟨eb, i * 8 + 1, none⟩ (.int .i64 0) = W8) ∧ True ∧ Hid (W8.rangeAt gb 0 (entA EE).toList) ∧ Hid (W8.there eb (i * 8 + 3) (entA EE).size) ∧ ∃ W9, Hid (W8.setCells eb (i * 8 + 3) (entA EE).toList = W9) ∧ (∃ v, W9.cell? ⟨eb, i * 8 + 7, none⟩ = some (.bool v)) ∧ W9.frozen? ⟨eb, i * 8 + 7, none⟩ = false ∧ ∃ W10, Hid (W9.setCell ⟨eb, i * 8 + 7, none⟩ (.bool true) = W10) ∧ Hid (∃ O', RIs O' q W10 ⟨rb, eb, ec, .slice qb L qd⟩ (r.look l (i + 1)) ∧ ChR (q + 50) (q + 53) O O' w W10) := by
                obtain ⟨O', h, hk⟩ := HXQ.out
                have hin : i < r.n := by have := HN.out.1; have := HJ.out; omega
                obtain ⟨ha, hb⟩ := h.looked hin
                obtain ⟨a1, a2, a3⟩ := ha HBEG.out
                rw [HOWN.out, HTHV.out, HEE.out] at a2 a3
                have t1 := h.setTk i hin 0
                have t2 := t1.1.setFi i hin EE
                have nb : gb ≠ eb := HGNE.out
                obtain ⟨p7, fp7⟩ := t2.1.pcell i 7 hin (by decide)
                rw [rpF_at _ _ _ (by decide)] at p7
                exact ⟨rreset_at a1, _, rfl, trivial, rangeAt_on HGQ.out (Below.heap_setCell _ _ _ _ nb), t1.1.fiThere i hin, _, rfl, ⟨_, p7⟩, fp7, _, rfl, O', a2, hk.trans a3⟩
              go_upto_region 11 with (go_at_call 44; refine HRS.out.mono ?_; rintro e w8 ⟨rfl, rfl⟩)
              rw [HW8.out]
              clear HRS HW8 g8
              obtain ⟨v9, r9⟩ := r9
              have HIL : Hid ((Tryz.prog.info? 82).map (·.size) = some (entA EE).toList.length) := infoE4
              have HOE : Hid ((entA EE).all (·.oneCell') = true) := by show _ = _; kernel_rfl
              clear HXQ HGQ HBEG HTHV
              go_upto_region 12 with (first
                | (refine wpList_load_mid rfl 82 _ rfl gb 0 rfl _ _ HGR.out Tryz.underlying82 rfl HIL.out ?_)
                | (refine wpList_store_mid rfl 82 _ _ rfl eb (i * 8 + 3) (entA EE) rfl rfl HT8.out HI.out HOE.out ?_; rw [HW9.out]))
              clear HGR HT8 HW9 HIL HOE
              go_wp2_with (rw [HW10.out]; clear HW10)
              go_roundg (n - (i + 1))
              case measure => go_light; exact hme
              case rel => go_light; exact ⟨i + 1, HJ.out, rfl, by simp, HXN.out⟩
    · obtain rfl : i = n := by omega
      have z1 : ¬ (i : Int) < (i : Int) := by omega
      clear hi hlt d10 d12
      go_wp2_with fail
      go_end0
      refine ⟨rfl, ?_⟩
      obtain ⟨O', h, hk⟩ := HX.out
      refine ⟨O', qb, qd, ?_, hk⟩
      rw [HN.out.1, HLL.out]
      exact h
end Go.Proofs.YtdhhjdacidhmjaaGreat

/- Package settle, the document's: Tick (se6_gen.py). -/
namespace Go.Proofs.YtdhhjdacidhmjaaGreat
open Go.RowKit
set_option maxRecDepth 100000
set_option maxRecDepth 100000
/-- Whose time it is. -/
def fireR (r : Rd) (i : Nat) : Bool := r.th i && decide (¬ r.tk i + 1 < (tmS r.m (r.tk i)).2.1)
def sendR (r : Rd) (i : Nat) : Mg := telG r.node (r.own : Nat) ⟨(i : Int), (r.fi i).nu, (r.fi i).na, (r.fi i).am⟩ (copN i r.nodes (r.tu i) : Nat)
/-- Behind a tick of the first k peers. -/
def Rd.tick (r : Rd) (k : Nat) : Rd := { r with tk := fun j => if j < k ∧ r.th j = true then r.tk j + 1 else r.tk j, tu := fun j => if j < k ∧ fireR r j = true then (r.tu j + 1) % r.c else r.tu j }
def msR (r : Rd) (k : Nat) : List Mg := ((List.range k).filter (fireR r)).map (sendR r)
theorem msR_succ (r : Rd) (k : Nat) : msR r (k + 1) = if fireR r k = true then msR r k ++ [sendR r k] else msR r k := by
  unfold msR
  rw [List.range_succ, List.filter_append, List.map_append]
  by_cases h : fireR r k = true
  · simp [h]
  · simp [h]
theorem msR_len (r : Rd) (k : Nat) : (msR r k).length ≤ k := by
  unfold msR
  rw [List.length_map]
  have := List.length_filter_le (fireR r) (List.range k)
  rw [List.length_range] at this
  exact this
theorem Rd.tick0 (r : Rd) : r.tick 0 = r := by unfold Rd.tick; simp
theorem Rd.tick_no (r : Rd) (k : Nat) (h : r.th k = false) : r.tick (k + 1) = r.tick k := by
  have h1 : fireR r k = false := by unfold fireR; rw [h]; rfl
  unfold Rd.tick
  rw [← no_if r.tk (fun j => r.tk j + 1) k (fun j => r.th j = true) (by rw [h]; simp), ← no_if r.tu (fun j => (r.tu j + 1) % r.c) k (fun j => fireR r j = true) (by rw [h1]; simp)]
theorem Rd.tick_wait (r : Rd) (k : Nat) (h : r.th k = true) (hf : fireR r k = false) : r.tick (k + 1) = { r.tick k with tk := up (r.tick k).tk k (r.tk k + 1) } := by
  have e1 := up_if r.tk (fun j => r.tk j + 1) k (fun j => r.th j = true)
  rw [if_pos h] at e1
  unfold Rd.tick
  rw [← e1, ← no_if r.tu (fun j => (r.tu j + 1) % r.c) k (fun j => fireR r j = true) (by rw [hf]; simp)]
theorem Rd.tick_fire (r : Rd) (k : Nat) (h : r.th k = true) (hf : fireR r k = true) : r.tick (k + 1) = { r.tick k with tk := up (r.tick k).tk k (r.tk k + 1), tu := up (r.tick k).tu k ((r.tu k + 1) % r.c) } := by
  have e1 := up_if r.tk (fun j => r.tk j + 1) k (fun j => r.th j = true)
  have e2 := up_if r.tu (fun j => (r.tu j + 1) % r.c) k (fun j => fireR r j = true)
  rw [if_pos h] at e1
  rw [if_pos hf] at e2
  unfold Rd.tick
  rw [← e1, ← e2]
/-- Where the loop of the document's Tick stands. -/
def RTk (O : Nat → Nat) (q : Nat) (w : World) (p : Rp2) (r : Rd) (i : Nat) (v : Value) (K : Nat) (W : World) : Prop := ∃ O', K = (msR r i).length ∧ RIs O' q W p (r.tick i) ∧ Li O' (q + 53) W 108 22 v K (msF (msR r i)) ∧ ChR (q + 50) (q + 54) O O' w W
theorem cell_lt2 {W : World} {b o : Nat} {v : Value} (hc : W.cell? ⟨b, o, none⟩ = some v) : b < W.heap.size := by
  by_cases h : b < W.heap.size
  · exact h
  · have : W.heap[b]? = none := by simp; omega
    simp [World.cell?, this] at hc
set_option maxHeartbeats 16000000 in
theorem rtick_all {O : Nat → Nat} {q : Nat} {w : World} {p : Rp2} {r : Rd} (h : RIs O q w p r) (ht : ∀ i, r.tk i < 5000) (hg : ∀ i : Nat, i < r.n → goodM i r.nodes r.c) :
    Calls Tryz.prog 28 #[.pointer (some ⟨p.rb, 0, none⟩)] w fun e w' => ∃ a cc K, e = .returned (.slice a K cc) ∧ Hid (RTk O q w p r r.n (.slice a K cc) K w') := by
  obtain ⟨rb, eb, ec, qv⟩ := p
  obtain ⟨n, hn⟩ : ∃ n, r.n = n := ⟨_, rfl⟩
  obtain ⟨own, hown⟩ : ∃ x, r.own = x := ⟨_, rfl⟩
  obtain ⟨node, hnode⟩ : ∃ x, r.node = x := ⟨_, rfl⟩
  obtain ⟨nodes, hnodes⟩ : ∃ x, r.nodes = x := ⟨_, rfl⟩
  obtain ⟨c, hc⟩ : ∃ x, r.c = x := ⟨_, rfl⟩
  have HN : Hid (r.n = n ∧ n ≤ 8 ∧ r.own = own ∧ r.node = node ∧ r.nodes = nodes ∧ r.c = c ∧ 1 ≤ c ∧ c ≤ 7) := ⟨hn, by have := h.lim; omega, hown, hnode, hnodes, hc, by have := h.lim; omega, by have := h.lim; omega⟩
  have HTK := hide ht
  have HG := hide hg
  have HX0 : Hid (RTk O q w ⟨rb, eb, ec, qv⟩ r 0 (.slice none 0 0) 0 w) := ⟨O, rfl, by rw [Rd.tick0]; exact h, Li.nil _ _ _ _ _ _, ChR.refl⟩
  have HCC : Hid (∀ W k O', RIs O' q W ⟨rb, eb, ec, qv⟩ (r.tick k) → W.cell? ⟨rb, 11, none⟩ = some (.slice (some ⟨eb, 0, none⟩) n ec) ∧ W.cell? ⟨rb, 0, none⟩ = some (.int .i64 (nodes : Nat)) ∧ W.cell? ⟨rb, 2, none⟩ = some (.int .i64 (c : Nat)) ∧ W.cell? ⟨rb, 9, none⟩ = some (.int .i64 node) ∧ W.cell? ⟨rb, 10, none⟩ = some (.int .i64 (own : Nat))) := fun W k O' h => by
    obtain ⟨d1, d2, d3, d4, d5, d6⟩ := h.c
    rw [← hn, ← hown, ← hnode, ← hnodes, ← hc]
    exact ⟨d5, d1, d2, d3, d4⟩
  clear h ht hg hn hown hnode hnodes hc
  go_enter Tryz.func28, Tryz.ntmps28
  go_wp2_with fail
  go_loopg [3, 4, 5, 6, 7] n (fun g s3 s4 s5 s6 s7 wx => ∃ (i K : Nat) (a : Option Addr) (cc : Nat), i ≤ n ∧ g = n - i ∧ s3 = .slice a K cc ∧ s4 = .int .i64 (i : Nat) ∧ Hid (RTk O q w ⟨rb, eb, ec, qv⟩ r i (.slice a K cc) K wx))
  case atStart => exact ⟨0, 0, none, 0, Nat.zero_le _, rfl, rfl, rfl, HX0.out⟩
  case round =>
    clear HX0
    obtain ⟨i, K, a, cc, hi, rfl, rfl, rfl, HX⟩ := hrel
    obtain ⟨d11, d0, d2, d9, d10⟩ : wr.cell? ⟨rb, 11, none⟩ = some (.slice (some ⟨eb, 0, none⟩) n ec) ∧ wr.cell? ⟨rb, 0, none⟩ = some (.int .i64 (nodes : Nat)) ∧ wr.cell? ⟨rb, 2, none⟩ = some (.int .i64 (c : Nat)) ∧ wr.cell? ⟨rb, 9, none⟩ = some (.int .i64 node) ∧ wr.cell? ⟨rb, 10, none⟩ = some (.int .i64 (own : Nat)) := by
      obtain ⟨O', _, h, _⟩ := HX.out
      exact HCC.out _ _ _ h
    by_cases hlt : i < n
    · have z1 : (i : Int) < (n : Int) := by omega
      have z0 : (0 : Int) ≤ (i : Int) := by omega
      have hwi : IntKind.i64.wrap ((i : Int) + 1) = (i : Int) + 1 := by have := HN.out; rw [IntKind.wrap_i64]; omega
      have hme : n - (i + 1) < n - i := by omega
      have HJ := hide hlt
      have f7 : wr.cell? ⟨eb, i * 8 + 7, none⟩ = some (.bool (r.th i)) := by
        obtain ⟨O', _, h, _⟩ := HX.out
        obtain ⟨p7, _⟩ := h.pcell i 7 (by have := HN.out.1; show i < r.n; omega) (by decide)
        rw [rpF_at _ _ _ (by decide)] at p7
        exact p7
      obtain ⟨TH, hth⟩ : ∃ b, r.th i = b := ⟨_, rfl⟩
      rw [hth] at f7
      have HTH := hide hth
      clear hth hi hlt
      cases TH
      · have HXN : Hid (RTk O q w ⟨rb, eb, ec, qv⟩ r (i + 1) (.slice a K cc) K wr) := by
          obtain ⟨O', h1, h2, h3, h4⟩ := HX.out
          have hf : fireR r i = false := by unfold fireR; rw [HTH.out]; rfl
          refine ⟨O', ?_, ?_, ?_, h4⟩
          · rw [msR_succ, hf]; exact h1
          · rw [Rd.tick_no r i HTH.out]; exact h2
          · rw [msR_succ, hf]; exact h3
        clear HX
        go_wp2_with fail
        go_roundg (n - (i + 1))
        case measure => go_light; exact hme
        case rel => go_light; exact ⟨i + 1, K, a, cc, HJ.out, rfl, rfl, by simp, HXN.out⟩
      · obtain ⟨F, hF⟩ : ∃ b, fireR r i = b := ⟨_, rfl⟩
        have HPT : Hid (Calls Tryz.prog 49 #[.pointer (some ⟨eb, i * 8, none⟩)] wr fun e w' => e = .returned (.bool F) ∧ Hid (∃ O', K = (msR r i).length ∧ RIs O' q w' ⟨rb, eb, ec, qv⟩ { r.tick i with tk := up (r.tick i).tk i (r.tk i + 1) } ∧ Li O' (q + 53) w' 108 22 (.slice a K cc) K (msF (msR r i)) ∧ ChR (q + 50) (q + 54) O O' w w')) := by
          obtain ⟨O', h1, h2, h3, h4⟩ := HX.out
          have hin : i < r.n := by have := HN.out.1; have := HJ.out; omega
          have hin2 : i < (r.tick i).n := hin
          obtain ⟨a0, _⟩ := h2.pcell i 0 hin2 (by decide)
          obtain ⟨a1, f1⟩ := h2.pcell i 1 hin2 (by decide)
          rw [rpF_at _ _ _ (by decide)] at a0 a1
          have e : (r.tick i).tk i = r.tk i := if_neg (fun h => Nat.lt_irrefl _ h.1)
          have a1' : wr.cell? ⟨eb, i * 8 + 1, none⟩ = some (.int .i64 ((r.tick i).tk i : Nat)) := a1
          rw [e] at a1'
          obtain ⟨_, _, _, _, m1, m2, _⟩ := h2.lim
          refine (rtick_at (m := r.m) ⟨a0, a1', f1, m1, m2⟩ (HTK.out i)).mono fun e' w' ⟨he, x1, x2, hw⟩ => ?_
          have hfe : decide (¬ r.tk i + 1 < (tmS r.m (r.tk i)).2.1) = F := by rw [← hF]; unfold fireR; rw [HTH.out, Bool.true_and]
          rw [hfe] at he
          refine ⟨he, ?_⟩
          have s1 : wr.Since wr.heap.size (wr.drewN x1) := ⟨rfl, rfl, rfl, Nat.le_refl _, fun _ _ => rfl⟩
          obtain ⟨h5, k5⟩ := (h2.since s1).setTk i hin2 (r.tk i + 1)
          have s2 : ((wr.drewN x1).setCell ⟨eb, i * 8 + 1, none⟩ (.int .i64 ((r.tk i + 1 : Nat) : Int))).Since ((wr.drewN x1).setCell ⟨eb, i * 8 + 1, none⟩ (.int .i64 ((r.tk i + 1 : Nat) : Int))).heap.size (((wr.drewN x1).setCell ⟨eb, i * 8 + 1, none⟩ (.int .i64 ((r.tk i + 1 : Nat) : Int))).drewN x2) := ⟨rfl, rfl, rfl, Nat.le_refl _, fun _ _ => rfl⟩
          rw [hw]
          exact ⟨O', h1, h5.since s2, ((h3.keep (x := q + 60) (Ch.since s1) (by omega)).keep k5 (by omega)).keep (x := q + 60) (Ch.since s2) (by omega), ((h4.trans (ChR.since s1)).trans (ChR.of k5 (by omega) (by omega))).trans (ChR.since s2)⟩
        have HF := hide hF
        clear HX hF
        cases F
        · go_wp2_with (go_at_call 49; refine HPT.out.mono ?_; rintro e w5 ⟨rfl, HX5⟩)
          have HXN : Hid (RTk O q w ⟨rb, eb, ec, qv⟩ r (i + 1) (.slice a K cc) K w5) := by
            obtain ⟨O', h1, h2, h3, h4⟩ := HX5.out
            refine ⟨O', ?_, ?_, ?_, h4⟩
            · rw [msR_succ, HF.out]; exact h1
            · rw [Rd.tick_wait r i HTH.out HF.out]; exact h2
            · rw [msR_succ, HF.out]; exact h3
          go_roundg (n - (i + 1))
          case measure => go_light; exact hme
          case rel => go_light; exact ⟨i + 1, K, a, cc, HJ.out, rfl, rfl, by simp, HXN.out⟩
        · go_upto_region 7 with (go_at_call 49; refine HPT.out.mono ?_; rintro e w5 ⟨rfl, HX5⟩)
          clear HPT d0 d2 d9 d10 d11 f7
          have HS7 : Hid ((fun W : World => W.cell? ⟨rb, 0, none⟩ = some (.int .i64 (nodes : Nat)) ∧ W.cell? ⟨rb, 2, none⟩ = some (.int .i64 (c : Nat))) w5.drew) := by
            obtain ⟨O', h1, h2, h3, h4⟩ := HX5.out
            obtain ⟨e1, e2, _⟩ := h2.c
            rw [← HN.out.2.2.2.2.1, ← HN.out.2.2.2.2.2.1]
            exact ⟨e1, e2⟩
          have HCO : Hid (Calls Tryz.prog 50 #[.int .i64 (i : Nat), .int .i64 (nodes : Nat), .int .i64 (c : Nat)] w5.drew fun e w' => ∃ tb tof tcap, e = .returned (.tuple #[.slice (some ⟨tb, tof, none⟩) c tcap, .int .i64 0]) ∧ Hid ((fun W : World => W.cell? ⟨rb, 0, none⟩ = some (.int .i64 (nodes : Nat)) ∧ W.cell? ⟨rb, 2, none⟩ = some (.int .i64 (c : Nat))) w') ∧ Hid (w5.drew.Since w5.drew.heap.size w' ∧ w5.heap.size ≤ tb ∧ ∀ j, j < c → w'.cell? ⟨tb, tof + j, none⟩ = some (.int .i64 (copN i nodes j : Nat)))) := by
            have hg := HG.out i (by have := HN.out.1; have := HJ.out; omega)
            rw [HN.out.2.2.2.2.1, HN.out.2.2.2.2.2.1] at hg
            refine (refCopies_any i nodes c hg w5.drew).mono fun e w' ⟨v, he, ho, hb⟩ => ?_
            obtain ⟨ta, tcap, rfl, hia⟩ := IntsAt.of_own (f := fun j => ((cT i nodes j : Nat) : Int)) ho
            obtain ⟨tb, tof, rfl, _⟩ := hia 0 (by have := HN.out; omega)
            have s := since_of hb
            have htb : w5.heap.size ≤ tb := by
              rcases ho.2 with ⟨hv, _⟩ | ⟨b3, cap3, cur3, hv, h4, _⟩
              · cases hv
              · injection hv with e3 _ _
                obtain rfl : tb = b3 := congrArg Addr.block (Option.some.inj e3)
                exact h4
            refine ⟨tb, tof, tcap, he, ⟨cell_later s HS7.out.1, cell_later s HS7.out.2⟩, s, htb, fun j hj => ?_⟩
            obtain ⟨b2, o2, e2, hc2⟩ := hia j hj
            cases e2
            obtain ⟨g1, g2, g3, g4, g5, g6, g7, g8⟩ := hg
            rw [cop_tab (by omega) (by omega) (by omega) (by omega)]
            exact hc2
          refine wp_region_held_drew (S := (fun W : World => W.cell? ⟨rb, 0, none⟩ = some (.int .i64 (nodes : Nat)) ∧ W.cell? ⟨rb, 2, none⟩ = some (.int .i64 (c : Nat)))) (by kernel_rfl) HS7.out fun _ => ?_
          refine wpAnyH_take (i := 0) (v := .int .i64 (i : Nat)) rfl (by kernel_rfl) (by kernel_rfl) (by kernel_rfl) (fun _ _ _ h => h) (.inl ⟨rfl, fun W hW => by first | kernel_rfl | go_simp⟩) HS7.out ?_
          simp only [List.getElem_toArray, List.getElem_cons_zero, Act.put, List.setIfInBounds_toArray, List.set_cons_zero, List.set_cons_succ]
          refine wpAnyH_take (i := 1) (v := .pointer (some ⟨rb, 0, none⟩)) rfl (by kernel_rfl) (by kernel_rfl) (by kernel_rfl) (fun _ _ _ h => h) (.inl ⟨rfl, fun W hW => by first | kernel_rfl | go_simp⟩) HS7.out ?_
          simp only [List.getElem_toArray, List.getElem_cons_zero, List.getElem_cons_succ, Act.put, List.setIfInBounds_toArray, List.set_cons_zero, List.set_cons_succ]
          refine wpAnyH_take (i := 2) (v := .pointer (some ⟨rb, 0, none⟩)) rfl (by kernel_rfl) (by kernel_rfl) (by kernel_rfl) (fun _ _ _ h => h) (.inl ⟨rfl, fun W hW => by first | kernel_rfl | go_simp⟩) HS7.out ?_
          simp only [List.getElem_toArray, List.getElem_cons_zero, List.getElem_cons_succ, Act.put, List.setIfInBounds_toArray, List.set_cons_zero, List.set_cons_succ]
          refine wpAnyH_take (i := 3) (v := .pointer (some ⟨rb, 0, none⟩)) rfl (by kernel_rfl) (by kernel_rfl) (by kernel_rfl) (fun _ _ _ h => h) (.inl ⟨rfl, fun W hW => by first | kernel_rfl | go_simp⟩) HS7.out ?_
          simp only [List.getElem_toArray, List.getElem_cons_zero, List.getElem_cons_succ, Act.put, List.setIfInBounds_toArray, List.set_cons_zero, List.set_cons_succ]
          refine wpAnyH_take (i := 4) (v := .pointer (some ⟨rb, 0, none⟩)) rfl (by kernel_rfl) (by kernel_rfl) (by kernel_rfl) (fun _ _ _ h => h) (.inl ⟨rfl, fun W hW => by first | kernel_rfl | go_simp⟩) HS7.out ?_
          simp only [List.getElem_toArray, List.getElem_cons_zero, List.getElem_cons_succ, Act.put, List.setIfInBounds_toArray, List.set_cons_zero, List.set_cons_succ]
          refine wpAnyH_take (i := 5) (v := .int .i64 (nodes : Nat)) rfl (by kernel_rfl) (by kernel_rfl) (by kernel_rfl) (fun _ _ _ h => h) (.inl ⟨rfl, fun W hW => by obtain ⟨v1, v2⟩ := hW; go_simp⟩) HS7.out ?_
          simp only [List.getElem_toArray, List.getElem_cons_zero, List.getElem_cons_succ, Act.put, List.setIfInBounds_toArray, List.set_cons_zero, List.set_cons_succ]
          refine wpAnyH_take (i := 6) (v := .pointer (some ⟨rb, 0, none⟩)) rfl (by kernel_rfl) (by kernel_rfl) (by kernel_rfl) (fun _ _ _ h => h) (.inl ⟨rfl, fun W hW => by first | kernel_rfl | go_simp⟩) HS7.out ?_
          simp only [List.getElem_toArray, List.getElem_cons_zero, List.getElem_cons_succ, Act.put, List.setIfInBounds_toArray, List.set_cons_zero, List.set_cons_succ]
          refine wpAnyH_take (i := 7) (v := .pointer (some ⟨rb, 0, none⟩)) rfl (by kernel_rfl) (by kernel_rfl) (by kernel_rfl) (fun _ _ _ h => h) (.inl ⟨rfl, fun W hW => by first | kernel_rfl | go_simp⟩) HS7.out ?_
          simp only [List.getElem_toArray, List.getElem_cons_zero, List.getElem_cons_succ, Act.put, List.setIfInBounds_toArray, List.set_cons_zero, List.set_cons_succ]
          refine wpAnyH_take (i := 8) (v := .pointer (some ⟨rb, 0, none⟩)) rfl (by kernel_rfl) (by kernel_rfl) (by kernel_rfl) (fun _ _ _ h => h) (.inl ⟨rfl, fun W hW => by first | kernel_rfl | go_simp⟩) HS7.out ?_
          simp only [List.getElem_toArray, List.getElem_cons_zero, List.getElem_cons_succ, Act.put, List.setIfInBounds_toArray, List.set_cons_zero, List.set_cons_succ]
          refine wpAnyH_take (i := 9) (v := .pointer (some ⟨rb, 2, none⟩)) rfl (by kernel_rfl) (by kernel_rfl) (by kernel_rfl) (fun _ _ _ h => h) (.inl ⟨rfl, fun W hW => by first | kernel_rfl | go_simp⟩) HS7.out ?_
          simp only [List.getElem_toArray, List.getElem_cons_zero, List.getElem_cons_succ, Act.put, List.setIfInBounds_toArray, List.set_cons_zero, List.set_cons_succ]
          refine wpAnyH_take (i := 10) (v := .int .i64 (c : Nat)) rfl (by kernel_rfl) (by kernel_rfl) (by kernel_rfl) (fun _ _ _ h => h) (.inl ⟨rfl, fun W hW => by obtain ⟨v1, v2⟩ := hW; go_simp⟩) HS7.out ?_
          simp only [List.getElem_toArray, List.getElem_cons_zero, List.getElem_cons_succ, Act.put, List.setIfInBounds_toArray, List.set_cons_zero, List.set_cons_succ]
          refine wpAnyH_ready (rs := [11]) (by kernel_rfl) (by simp) ?_
          refine AllReadyH.cons rfl (fun KC hKC => ?_) AllReadyH.nil
          refine step_callW rfl 50 #[.int .i64 (i : Nat), .int .i64 (nodes : Nat), .int .i64 (c : Nat)] (by kernel_rfl) HCO.out ?_
          rintro e' w7 ⟨tb, tof, tcap, rfl, HS7b, HT7⟩
          refine ⟨_, rfl, hKC.out _ _ HS7b.out fun _ => ?_⟩
          clear hKC HCO
          simp only [List.getElem_toArray, List.getElem_cons_zero, List.getElem_cons_succ, Act.put, List.setIfInBounds_toArray, List.set_cons_zero, List.set_cons_succ]
          refine wpAnyH_take (i := 12) (v := .tuple #[.slice (some ⟨tb, tof, none⟩) c tcap, .int .i64 0]) rfl (by kernel_rfl) (by kernel_rfl) (by kernel_rfl) (fun _ _ _ h => h) (.inl ⟨rfl, fun W hW => by first | kernel_rfl | go_simp⟩) HS7b.out ?_
          simp only [List.getElem_toArray, List.getElem_cons_zero, List.getElem_cons_succ, Act.put, List.setIfInBounds_toArray, List.set_cons_zero, List.set_cons_succ]
          refine wpAnyH_take (i := 13) (v := .slice (some ⟨tb, tof, none⟩) c tcap) rfl (by kernel_rfl) (by kernel_rfl) (by kernel_rfl) (fun _ _ _ h => h) (.inl ⟨rfl, fun W hW => by first | kernel_rfl | go_simp⟩) HS7b.out ?_
          simp only [List.getElem_toArray, List.getElem_cons_zero, List.getElem_cons_succ, Act.put, List.setIfInBounds_toArray, List.set_cons_zero, List.set_cons_succ]
          refine wpAnyH_take (i := 14) (v := .int .i64 0) rfl (by kernel_rfl) (by kernel_rfl) (by kernel_rfl) (fun _ _ _ h => h) (.inl ⟨rfl, fun W hW => by first | kernel_rfl | go_simp⟩) HS7b.out ?_
          simp only [List.getElem_toArray, List.getElem_cons_zero, List.getElem_cons_succ, Act.put, List.setIfInBounds_toArray, List.set_cons_zero, List.set_cons_succ]
          refine wpAnyH_take (i := 15) (v := .slice (some ⟨tb, tof, none⟩) c tcap) rfl (by kernel_rfl) (by kernel_rfl) (by kernel_rfl) (fun _ _ _ h => h) (.inl ⟨rfl, fun W hW => by first | kernel_rfl | go_simp⟩) HS7b.out ?_
          simp only [List.getElem_toArray, List.getElem_cons_zero, List.getElem_cons_succ, Act.put, List.setIfInBounds_toArray, List.set_cons_zero, List.set_cons_succ]
          refine wpAnyH_take (i := 16) (v := .int .i64 0) rfl (by kernel_rfl) (by kernel_rfl) (by kernel_rfl) (fun _ _ _ h => h) (.inl ⟨rfl, fun W hW => by first | kernel_rfl | go_simp⟩) HS7b.out ?_
          simp only [List.getElem_toArray, List.getElem_cons_zero, List.getElem_cons_succ, Act.put, List.setIfInBounds_toArray, List.set_cons_zero, List.set_cons_succ]
          refine wpAnyH_done (by kernel_rfl) ?_ _
          clear HS7 HS7b
          have HX7 : Hid (∃ O', K = (msR r i).length ∧ RIs O' q w7 ⟨rb, eb, ec, qv⟩ { r.tick i with tk := up (r.tick i).tk i (r.tk i + 1) } ∧ Li O' (q + 53) w7 108 22 (.slice a K cc) K (msF (msR r i)) ∧ ChR (q + 50) (q + 54) O O' w w7 ∧ O' tb = q + 60) := by
            obtain ⟨O', h1, h2, h3, h4⟩ := HX5.out
            have s : w5.Since w5.heap.size w7 := ((World.Since.refl _ _).drew).trans (since_mono HT7.out.1 (Nat.le_refl _))
            have k : Ch (q + 60) O' (fun z => if z < w5.heap.size then O' z else q + 60) w5 w7 := ⟨s.os, s.tape, s.output, s.size, fun z hz => if_pos hz, fun z hz _ => s.block z hz⟩
            have k2 : ChR (q + 50) (q + 54) O' (fun z => if z < w5.heap.size then O' z else q + 60) w5 w7 := ⟨s.os, s.tape, s.output, s.size, fun z hz => if_pos hz, fun z hz _ => s.block z hz⟩
            exact ⟨_, h1, h2.keep k (by omega), h3.keep k (by omega), h4.trans k2, if_neg (by have := HT7.out.2.1; omega)⟩
          have zc0 : (0 : Int) < (c : Int) := by have := HN.out; omega
          have zc : ¬ (c : Int) = 0 := by omega
          have zc' : ((c : Int) == 0) = false := by simp; omega
          have zcn : ¬ c = 0 := by omega
          go_upto_region 9 with fail
          obtain ⟨tu, htu⟩ : ∃ x, r.tu i = x := ⟨_, rfl⟩
          obtain ⟨nu, hnu⟩ : ∃ x, (r.fi i).nu = x := ⟨_, rfl⟩
          obtain ⟨na, hna⟩ : ∃ x, strL (r.fi i).na = x := ⟨_, rfl⟩
          obtain ⟨am, ham⟩ : ∃ x, (r.fi i).am = x := ⟨_, rfl⟩
          obtain ⟨x, hx⟩ : ∃ x : Int, ((copN i nodes tu : Nat) : Int) = x := ⟨_, rfl⟩
          generalize w7 = w8 at *
          have htc : tu < c := by
            obtain ⟨O', h1, h2, h3, h4⟩ := HX7.out
            have := h2.tl i (by have := HN.out.1; have := HJ.out; show i < r.n; omega)
            have e : (r.tick i).tu i = r.tu i := if_neg (fun h => Nat.lt_irrefl _ h.1)
            have h5 : (r.tick i).tu i < r.c := this
            rw [e, htu, HN.out.2.2.2.2.2.1] at h5
            exact h5
          have hcell : ∀ W O', RIs O' q W ⟨rb, eb, ec, qv⟩ { r.tick i with tk := up (r.tick i).tk i (r.tk i + 1) } → W.cell? ⟨rb, 9, none⟩ = some (.int .i64 node) ∧ W.cell? ⟨rb, 10, none⟩ = some (.int .i64 (own : Nat)) ∧ W.cell? ⟨eb, i * 8 + 2, none⟩ = some (.int .i64 (tu : Nat)) ∧ W.cell? ⟨eb, i * 8 + 3 + 1, none⟩ = some (.int .u64 (nu : Nat)) ∧ W.cell? ⟨eb, i * 8 + 3 + 2, none⟩ = some (.string na) ∧ W.cell? ⟨eb, i * 8 + 3 + 3, none⟩ = some (.int .u64 (am : Nat)) := fun W O' h => by
            obtain ⟨_, _, e9, e10, _, _⟩ := h.c
            have hin : i < r.n := by have := HN.out.1; have := HJ.out; omega
            obtain ⟨p2, _⟩ := h.pcell i 2 hin (by decide)
            obtain ⟨p4, _⟩ := h.pcell i 4 hin (by decide)
            obtain ⟨p5, _⟩ := h.pcell i 5 hin (by decide)
            obtain ⟨p6, _⟩ := h.pcell i 6 hin (by decide)
            rw [rpF_at _ _ _ (by decide)] at p2 p4 p5 p6
            have e : (r.tick i).tu i = r.tu i := if_neg (fun h => Nat.lt_irrefl _ h.1)
            have p2' : W.cell? ⟨eb, i * 8 + 2, none⟩ = some (.int .i64 ((r.tick i).tu i : Nat)) := p2
            rw [e, htu] at p2'
            rw [← HN.out.2.2.1, ← HN.out.2.2.2.1, ← hnu, ← hna, ← ham]
            exact ⟨e9, e10, p2', p4, p5, p6⟩
          have HS9 : Hid ((fun W : World => W.cell? ⟨rb, 9, none⟩ = some (.int .i64 node) ∧ W.cell? ⟨rb, 10, none⟩ = some (.int .i64 (own : Nat)) ∧ W.cell? ⟨eb, i * 8 + 2, none⟩ = some (.int .i64 (tu : Nat)) ∧ W.cell? ⟨eb, i * 8 + 3 + 1, none⟩ = some (.int .u64 (nu : Nat)) ∧ W.cell? ⟨eb, i * 8 + 3 + 2, none⟩ = some (.string na) ∧ W.cell? ⟨eb, i * 8 + 3 + 3, none⟩ = some (.int .u64 (am : Nat)) ∧ W.cell? ⟨tb, tof + tu, none⟩ = some (.int .i64 x)) w8.drew) := by
            obtain ⟨O', h1, h2, h3, h4⟩ := HX7.out
            obtain ⟨e1, e2, e3, e4, e5, e6⟩ := hcell w8 O' h2
            exact ⟨e1, e2, e3, e4, e5, e6, by rw [← hx]; exact HT7.out.2.2 tu htc⟩
          obtain ⟨W9, HW9, HS9b, a', c', W10, HAP, HS9c, HX10⟩ : ∃ W9, Hid (w8.drew.alloc (.cells #[.int .i64 8, .int .i64 node, .int .i64 x, .int .i64 (own : Nat), .int .u64 0, .int .u64 0, .int .u64 0, .int .u64 0, .int .i64 0, .int .u64 0, .slice none 0 0, .int .i64 (i : Nat), .int .u64 (nu : Nat), .string na, .string ⟨#[]⟩, .int .u64 (am : Nat), .int .u64 0, .int .u64 0, .int .i64 0, .int .i64 0, .int .i64 0, .int .i64 0] 108) = W9) ∧ Hid ((fun W : World => W.cell? ⟨rb, 9, none⟩ = some (.int .i64 node) ∧ W.cell? ⟨rb, 10, none⟩ = some (.int .i64 (own : Nat)) ∧ W.cell? ⟨eb, i * 8 + 2, none⟩ = some (.int .i64 (tu : Nat)) ∧ W.cell? ⟨eb, i * 8 + 3 + 1, none⟩ = some (.int .u64 (nu : Nat)) ∧ W.cell? ⟨eb, i * 8 + 3 + 2, none⟩ = some (.string na) ∧ W.cell? ⟨eb, i * 8 + 3 + 3, none⟩ = some (.int .u64 (am : Nat)) ∧ W.cell? ⟨tb, tof + tu, none⟩ = some (.int .i64 x)) W9) ∧ ∃ a' c' W10, Hid ((Builtin.append_ #[94, 94] 94 #[.slice a K cc, .slice (some ⟨w8.drew.heap.size, 0, none⟩) 1 1]).run Tryz.prog W9 = .ok (.slice a' (K + 1) c') W10) ∧ Hid ((fun W : World => W.cell? ⟨rb, 9, none⟩ = some (.int .i64 node) ∧ W.cell? ⟨rb, 10, none⟩ = some (.int .i64 (own : Nat)) ∧ W.cell? ⟨eb, i * 8 + 2, none⟩ = some (.int .i64 (tu : Nat)) ∧ W.cell? ⟨eb, i * 8 + 3 + 1, none⟩ = some (.int .u64 (nu : Nat)) ∧ W.cell? ⟨eb, i * 8 + 3 + 2, none⟩ = some (.string na) ∧ W.cell? ⟨eb, i * 8 + 3 + 3, none⟩ = some (.int .u64 (am : Nat)) ∧ W.cell? ⟨tb, tof + tu, none⟩ = some (.int .i64 x)) W10) ∧ Hid (∃ O', K = (msR r i).length ∧ RIs O' q W10 ⟨rb, eb, ec, qv⟩ { r.tick i with tk := up (r.tick i).tk i (r.tk i + 1) } ∧ Li O' (q + 53) W10 108 22 (.slice a' (K + 1) c') (K + 1) (msF (msR r i ++ [sendR r i])) ∧ ChR (q + 50) (q + 54) O O' w W10) := by
            obtain ⟨O', h1, h2, h3, h4, h5⟩ := HX7.out
            have sd : w8.Since w8.heap.size w8.drew := (World.Since.refl _ _).drew
            have h3d := h3.keep (x := q + 60) (Ch.since sd) (by omega)
            have h2d := h2.since sd
            have hm : sendR r i = telG node (own : Nat) ⟨(i : Int), nu, (r.fi i).na, am⟩ x := by unfold sendR; rw [HN.out.2.2.1, HN.out.2.2.2.1, HN.out.2.2.2.2.1, htu, hnu, ham, hx]
            have hml : (mgL (sendR r i) none 0) = [.int .i64 8, .int .i64 node, .int .i64 x, .int .i64 (own : Nat), .int .u64 0, .int .u64 0, .int .u64 0, .int .u64 0, .int .i64 0, .int .u64 0, .slice none 0 0, .int .i64 (i : Nat), .int .u64 (nu : Nat), .string na, .string ⟨#[]⟩, .int .u64 (am : Nat), .int .u64 0, .int .u64 0, .int .i64 0, .int .i64 0, .int .i64 0, .int .i64 0] := by rw [hm, ← hna]; rfl
            have hlen := msR_len r i
            have hi8 : i < 8 := by have := HN.out; have := HJ.out; omega
            obtain ⟨v', W10, e10, k10, hl10⟩ := h3d.app (P := Tryz.prog) Tryz.underlying94 infoMM rfl (by decide) (mgL (sendR r i) none 0) (mgL_len _ _ _) (mgL_one _ _ _) (by omega) (by omega)
            obtain ⟨a', c', rfl⟩ := hl10.form
            rw [hml] at e10
            have s9 : w8.drew.Since w8.drew.heap.size (w8.drew.alloc (.cells #[.int .i64 8, .int .i64 node, .int .i64 x, .int .i64 (own : Nat), .int .u64 0, .int .u64 0, .int .u64 0, .int .u64 0, .int .i64 0, .int .u64 0, .slice none 0 0, .int .i64 (i : Nat), .int .u64 (nu : Nat), .string na, .string ⟨#[]⟩, .int .u64 (am : Nat), .int .u64 0, .int .u64 0, .int .i64 0, .int .i64 0, .int .i64 0, .int .i64 0] 108)) := (World.Since.refl _ _).alloc (Nat.le_refl _) _
            have hS9 := HS9.out
            have hout : ∀ W, (∀ b j v, w8.drew.cell? ⟨b, j, none⟩ = some v → (b = rb ∨ b = eb ∨ b = tb) → W.cell? ⟨b, j, none⟩ = some v) → (fun W : World => W.cell? ⟨rb, 9, none⟩ = some (.int .i64 node) ∧ W.cell? ⟨rb, 10, none⟩ = some (.int .i64 (own : Nat)) ∧ W.cell? ⟨eb, i * 8 + 2, none⟩ = some (.int .i64 (tu : Nat)) ∧ W.cell? ⟨eb, i * 8 + 3 + 1, none⟩ = some (.int .u64 (nu : Nat)) ∧ W.cell? ⟨eb, i * 8 + 3 + 2, none⟩ = some (.string na) ∧ W.cell? ⟨eb, i * 8 + 3 + 3, none⟩ = some (.int .u64 (am : Nat)) ∧ W.cell? ⟨tb, tof + tu, none⟩ = some (.int .i64 x)) W := fun W hW => by
              obtain ⟨v1, v2, v3, v4, v5, v6, v7⟩ := hS9
              exact ⟨hW _ _ _ v1 (.inl rfl), hW _ _ _ v2 (.inl rfl), hW _ _ _ v3 (.inr (.inl rfl)), hW _ _ _ v4 (.inr (.inl rfl)), hW _ _ _ v5 (.inr (.inl rfl)), hW _ _ _ v6 (.inr (.inl rfl)), hW _ _ _ v7 (.inr (.inr rfl))⟩
            refine ⟨_, rfl, hout _ fun b j v hv _ => cell_later s9 hv, a', c', W10, e10, hout _ fun b j v hv hb => ?_, _, h1, h2d.keep k10 (by omega), ?_, (h4.trans (ChR.since sd)).trans (ChR.of k10 (by omega) (by omega))⟩
            · have hlt : b < w8.drew.heap.size := cell_lt2 hv
              rw [World.cell?_of_block (a := ⟨b, j, none⟩) (k10.block b hlt ?_)]
              · exact hv
              · rcases hb with hb | hb | hb
                · obtain ⟨v8, hr⟩ := h2d.row
                  rw [hb, hr.2]; omega
                · rw [hb, h2d.peers.2 eb rfl]; omega
                · rw [hb, h5]; omega
            · exact hl10.congr (fun z hz => by
                rw [h1] at hz ⊢
                exact msF_app (msR r i) (sendR r i) z hz)
          have hqt : Int.tmod (tu : Int) (c : Int) = (tu : Int) := by rw [Int.tmod_eq_emod_of_nonneg (by omega)]; exact Int.emod_eq_of_lt (by omega) (by omega)
          have hqe : (tu : Int) % (c : Int) = (tu : Int) := Int.emod_eq_of_lt (by omega) (by omega)
          have hqw : IntKind.i64.wrap (tu : Int) = (tu : Int) := wi (by have := HN.out; omega)
          have ztu : (tu : Int) < (c : Int) := by omega
          have ztu0 : (0 : Int) ≤ (tu : Int) := by omega
          have HTU : Hid (r.tu i = tu ∧ tu < c) := ⟨htu, htc⟩
          have HCELL := hide hcell
          clear htu hnu hna ham hx htc hcell HX7 HT7
          refine wp_region_held_drew (S := (fun W : World => W.cell? ⟨rb, 9, none⟩ = some (.int .i64 node) ∧ W.cell? ⟨rb, 10, none⟩ = some (.int .i64 (own : Nat)) ∧ W.cell? ⟨eb, i * 8 + 2, none⟩ = some (.int .i64 (tu : Nat)) ∧ W.cell? ⟨eb, i * 8 + 3 + 1, none⟩ = some (.int .u64 (nu : Nat)) ∧ W.cell? ⟨eb, i * 8 + 3 + 2, none⟩ = some (.string na) ∧ W.cell? ⟨eb, i * 8 + 3 + 3, none⟩ = some (.int .u64 (am : Nat)) ∧ W.cell? ⟨tb, tof + tu, none⟩ = some (.int .i64 x))) (by kernel_rfl) HS9.out fun _ => ?_
          refine wpAnyH_take (i := 0) (v := .slice a K cc) rfl (by kernel_rfl) (by kernel_rfl) (by kernel_rfl) (fun _ _ _ h => h) (.inl ⟨rfl, fun W hW => by first | kernel_rfl | go_simp⟩) HS9.out ?_
          simp only [List.getElem_toArray, List.getElem_cons_zero, Act.put, List.setIfInBounds_toArray, List.set_cons_zero, List.set_cons_succ]
          refine wpAnyH_take (i := 1) (v := .pointer (some ⟨rb, 0, none⟩)) rfl (by kernel_rfl) (by kernel_rfl) (by kernel_rfl) (fun _ _ _ h => h) (.inl ⟨rfl, fun W hW => by first | kernel_rfl | go_simp⟩) HS9.out ?_
          simp only [List.getElem_toArray, List.getElem_cons_zero, List.getElem_cons_succ, Act.put, List.setIfInBounds_toArray, List.set_cons_zero, List.set_cons_succ]
          refine wpAnyH_take (i := 2) (v := .pointer (some ⟨rb, 0, none⟩)) rfl (by kernel_rfl) (by kernel_rfl) (by kernel_rfl) (fun _ _ _ h => h) (.inl ⟨rfl, fun W hW => by first | kernel_rfl | go_simp⟩) HS9.out ?_
          simp only [List.getElem_toArray, List.getElem_cons_zero, List.getElem_cons_succ, Act.put, List.setIfInBounds_toArray, List.set_cons_zero, List.set_cons_succ]
          refine wpAnyH_take (i := 3) (v := .pointer (some ⟨rb, 9, none⟩)) rfl (by kernel_rfl) (by kernel_rfl) (by kernel_rfl) (fun _ _ _ h => h) (.inl ⟨rfl, fun W hW => by first | kernel_rfl | go_simp⟩) HS9.out ?_
          simp only [List.getElem_toArray, List.getElem_cons_zero, List.getElem_cons_succ, Act.put, List.setIfInBounds_toArray, List.set_cons_zero, List.set_cons_succ]
          refine wpAnyH_take (i := 4) (v := .int .i64 node) rfl (by kernel_rfl) (by kernel_rfl) (by kernel_rfl) (fun _ _ _ h => h) (.inl ⟨rfl, fun W hW => by obtain ⟨v1, v2, v3, v4, v5, v6, v7⟩ := hW; go_simp⟩) HS9.out ?_
          simp only [List.getElem_toArray, List.getElem_cons_zero, List.getElem_cons_succ, Act.put, List.setIfInBounds_toArray, List.set_cons_zero, List.set_cons_succ]
          refine wpAnyH_take (i := 5) (v := .slice (some ⟨tb, tof, none⟩) c tcap) rfl (by kernel_rfl) (by kernel_rfl) (by kernel_rfl) (fun _ _ _ h => h) (.inl ⟨rfl, fun W hW => by first | kernel_rfl | go_simp⟩) HS9.out ?_
          simp only [List.getElem_toArray, List.getElem_cons_zero, List.getElem_cons_succ, Act.put, List.setIfInBounds_toArray, List.set_cons_zero, List.set_cons_succ]
          refine wpAnyH_take (i := 6) (v := .pointer (some ⟨eb, i * 8, none⟩)) rfl (by kernel_rfl) (by kernel_rfl) (by kernel_rfl) (fun _ _ _ h => h) (.inl ⟨rfl, fun W hW => by first | kernel_rfl | go_simp⟩) HS9.out ?_
          simp only [List.getElem_toArray, List.getElem_cons_zero, List.getElem_cons_succ, Act.put, List.setIfInBounds_toArray, List.set_cons_zero, List.set_cons_succ]
          refine wpAnyH_take (i := 7) (v := .pointer (some ⟨eb, i * 8, none⟩)) rfl (by kernel_rfl) (by kernel_rfl) (by kernel_rfl) (fun _ _ _ h => h) (.inl ⟨rfl, fun W hW => by first | kernel_rfl | go_simp⟩) HS9.out ?_
          simp only [List.getElem_toArray, List.getElem_cons_zero, List.getElem_cons_succ, Act.put, List.setIfInBounds_toArray, List.set_cons_zero, List.set_cons_succ]
          refine wpAnyH_take (i := 8) (v := .pointer (some ⟨eb, i * 8 + 2, none⟩)) rfl (by kernel_rfl) (by kernel_rfl) (by kernel_rfl) (fun _ _ _ h => h) (.inl ⟨rfl, fun W hW => by first | kernel_rfl | go_simp⟩) HS9.out ?_
          simp only [List.getElem_toArray, List.getElem_cons_zero, List.getElem_cons_succ, Act.put, List.setIfInBounds_toArray, List.set_cons_zero, List.set_cons_succ]
          refine wpAnyH_take (i := 9) (v := .int .i64 (tu : Nat)) rfl (by kernel_rfl) (by kernel_rfl) (by kernel_rfl) (fun _ _ _ h => h) (.inl ⟨rfl, fun W hW => by obtain ⟨v1, v2, v3, v4, v5, v6, v7⟩ := hW; go_simp⟩) HS9.out ?_
          simp only [List.getElem_toArray, List.getElem_cons_zero, List.getElem_cons_succ, Act.put, List.setIfInBounds_toArray, List.set_cons_zero, List.set_cons_succ]
          refine wpAnyH_take (i := 10) (v := .slice (some ⟨tb, tof, none⟩) c tcap) rfl (by kernel_rfl) (by kernel_rfl) (by kernel_rfl) (fun _ _ _ h => h) (.inl ⟨rfl, fun W hW => by first | kernel_rfl | go_simp⟩) HS9.out ?_
          simp only [List.getElem_toArray, List.getElem_cons_zero, List.getElem_cons_succ, Act.put, List.setIfInBounds_toArray, List.set_cons_zero, List.set_cons_succ]
          refine wpAnyH_take (i := 11) (v := .int .i64 (c : Nat)) rfl (by kernel_rfl) (by kernel_rfl) (by kernel_rfl) (fun _ _ _ h => h) (.inl ⟨rfl, fun W hW => by first | kernel_rfl | go_simp⟩) HS9.out ?_
          simp only [List.getElem_toArray, List.getElem_cons_zero, List.getElem_cons_succ, Act.put, List.setIfInBounds_toArray, List.set_cons_zero, List.set_cons_succ]
          refine wpAnyH_take (i := 12) (v := .int .i64 (tu : Nat)) rfl (by kernel_rfl) (by kernel_rfl) (by kernel_rfl) (fun _ _ _ h => h) (.inl ⟨rfl, fun W hW => by go_simp⟩) HS9.out ?_
          simp only [List.getElem_toArray, List.getElem_cons_zero, List.getElem_cons_succ, Act.put, List.setIfInBounds_toArray, List.set_cons_zero, List.set_cons_succ]
          refine wpAnyH_take (i := 13) (v := .pointer (some ⟨tb, tof + tu, none⟩)) rfl (by kernel_rfl) (by kernel_rfl) (by kernel_rfl) (fun _ _ _ h => h) (.inl ⟨rfl, fun W hW => by go_simp⟩) HS9.out ?_
          simp only [List.getElem_toArray, List.getElem_cons_zero, List.getElem_cons_succ, Act.put, List.setIfInBounds_toArray, List.set_cons_zero, List.set_cons_succ]
          refine wpAnyH_take (i := 14) (v := .int .i64 x) rfl (by kernel_rfl) (by kernel_rfl) (by kernel_rfl) (fun _ _ _ h => h) (.inl ⟨rfl, fun W hW => by obtain ⟨v1, v2, v3, v4, v5, v6, v7⟩ := hW; go_simp⟩) HS9.out ?_
          simp only [List.getElem_toArray, List.getElem_cons_zero, List.getElem_cons_succ, Act.put, List.setIfInBounds_toArray, List.set_cons_zero, List.set_cons_succ]
          refine wpAnyH_take (i := 15) (v := .pointer (some ⟨rb, 0, none⟩)) rfl (by kernel_rfl) (by kernel_rfl) (by kernel_rfl) (fun _ _ _ h => h) (.inl ⟨rfl, fun W hW => by first | kernel_rfl | go_simp⟩) HS9.out ?_
          simp only [List.getElem_toArray, List.getElem_cons_zero, List.getElem_cons_succ, Act.put, List.setIfInBounds_toArray, List.set_cons_zero, List.set_cons_succ]
          refine wpAnyH_take (i := 16) (v := .pointer (some ⟨rb, 0, none⟩)) rfl (by kernel_rfl) (by kernel_rfl) (by kernel_rfl) (fun _ _ _ h => h) (.inl ⟨rfl, fun W hW => by first | kernel_rfl | go_simp⟩) HS9.out ?_
          simp only [List.getElem_toArray, List.getElem_cons_zero, List.getElem_cons_succ, Act.put, List.setIfInBounds_toArray, List.set_cons_zero, List.set_cons_succ]
          refine wpAnyH_take (i := 17) (v := .pointer (some ⟨rb, 10, none⟩)) rfl (by kernel_rfl) (by kernel_rfl) (by kernel_rfl) (fun _ _ _ h => h) (.inl ⟨rfl, fun W hW => by first | kernel_rfl | go_simp⟩) HS9.out ?_
          simp only [List.getElem_toArray, List.getElem_cons_zero, List.getElem_cons_succ, Act.put, List.setIfInBounds_toArray, List.set_cons_zero, List.set_cons_succ]
          refine wpAnyH_take (i := 18) (v := .int .i64 (own : Nat)) rfl (by kernel_rfl) (by kernel_rfl) (by kernel_rfl) (fun _ _ _ h => h) (.inl ⟨rfl, fun W hW => by obtain ⟨v1, v2, v3, v4, v5, v6, v7⟩ := hW; go_simp⟩) HS9.out ?_
          simp only [List.getElem_toArray, List.getElem_cons_zero, List.getElem_cons_succ, Act.put, List.setIfInBounds_toArray, List.set_cons_zero, List.set_cons_succ]
          refine wpAnyH_take (i := 19) (v := .agg #[.int .i64 8, .int .i64 node, .int .i64 x, .int .i64 (own : Nat)]) rfl (by kernel_rfl) (by kernel_rfl) (by kernel_rfl) (fun _ _ _ h => h) (.inl ⟨rfl, fun W hW => by first | kernel_rfl | go_simp⟩) HS9.out ?_
          simp only [List.getElem_toArray, List.getElem_cons_zero, List.getElem_cons_succ, Act.put, List.setIfInBounds_toArray, List.set_cons_zero, List.set_cons_succ]
          refine wpAnyH_take (i := 20) (v := .int .i64 (i : Nat)) rfl (by kernel_rfl) (by kernel_rfl) (by kernel_rfl) (fun _ _ _ h => h) (.inl ⟨rfl, fun W hW => by first | kernel_rfl | go_simp⟩) HS9.out ?_
          simp only [List.getElem_toArray, List.getElem_cons_zero, List.getElem_cons_succ, Act.put, List.setIfInBounds_toArray, List.set_cons_zero, List.set_cons_succ]
          refine wpAnyH_take (i := 21) (v := .pointer (some ⟨eb, i * 8, none⟩)) rfl (by kernel_rfl) (by kernel_rfl) (by kernel_rfl) (fun _ _ _ h => h) (.inl ⟨rfl, fun W hW => by first | kernel_rfl | go_simp⟩) HS9.out ?_
          simp only [List.getElem_toArray, List.getElem_cons_zero, List.getElem_cons_succ, Act.put, List.setIfInBounds_toArray, List.set_cons_zero, List.set_cons_succ]
          refine wpAnyH_take (i := 22) (v := .pointer (some ⟨eb, i * 8, none⟩)) rfl (by kernel_rfl) (by kernel_rfl) (by kernel_rfl) (fun _ _ _ h => h) (.inl ⟨rfl, fun W hW => by first | kernel_rfl | go_simp⟩) HS9.out ?_
          simp only [List.getElem_toArray, List.getElem_cons_zero, List.getElem_cons_succ, Act.put, List.setIfInBounds_toArray, List.set_cons_zero, List.set_cons_succ]
          refine wpAnyH_take (i := 23) (v := .pointer (some ⟨eb, i * 8 + 3, none⟩)) rfl (by kernel_rfl) (by kernel_rfl) (by kernel_rfl) (fun _ _ _ h => h) (.inl ⟨rfl, fun W hW => by first | kernel_rfl | go_simp⟩) HS9.out ?_
          simp only [List.getElem_toArray, List.getElem_cons_zero, List.getElem_cons_succ, Act.put, List.setIfInBounds_toArray, List.set_cons_zero, List.set_cons_succ]
          refine wpAnyH_take (i := 24) (v := .pointer (some ⟨eb, i * 8 + 3 + 1, none⟩)) rfl (by kernel_rfl) (by kernel_rfl) (by kernel_rfl) (fun _ _ _ h => h) (.inl ⟨rfl, fun W hW => by first | kernel_rfl | go_simp⟩) HS9.out ?_
          simp only [List.getElem_toArray, List.getElem_cons_zero, List.getElem_cons_succ, Act.put, List.setIfInBounds_toArray, List.set_cons_zero, List.set_cons_succ]
          refine wpAnyH_take (i := 25) (v := .int .u64 (nu : Nat)) rfl (by kernel_rfl) (by kernel_rfl) (by kernel_rfl) (fun _ _ _ h => h) (.inl ⟨rfl, fun W hW => by obtain ⟨v1, v2, v3, v4, v5, v6, v7⟩ := hW; go_simp⟩) HS9.out ?_
          simp only [List.getElem_toArray, List.getElem_cons_zero, List.getElem_cons_succ, Act.put, List.setIfInBounds_toArray, List.set_cons_zero, List.set_cons_succ]
          refine wpAnyH_take (i := 26) (v := .pointer (some ⟨eb, i * 8, none⟩)) rfl (by kernel_rfl) (by kernel_rfl) (by kernel_rfl) (fun _ _ _ h => h) (.inl ⟨rfl, fun W hW => by first | kernel_rfl | go_simp⟩) HS9.out ?_
          simp only [List.getElem_toArray, List.getElem_cons_zero, List.getElem_cons_succ, Act.put, List.setIfInBounds_toArray, List.set_cons_zero, List.set_cons_succ]
          refine wpAnyH_take (i := 27) (v := .pointer (some ⟨eb, i * 8, none⟩)) rfl (by kernel_rfl) (by kernel_rfl) (by kernel_rfl) (fun _ _ _ h => h) (.inl ⟨rfl, fun W hW => by first | kernel_rfl | go_simp⟩) HS9.out ?_
          simp only [List.getElem_toArray, List.getElem_cons_zero, List.getElem_cons_succ, Act.put, List.setIfInBounds_toArray, List.set_cons_zero, List.set_cons_succ]
          refine wpAnyH_take (i := 28) (v := .pointer (some ⟨eb, i * 8 + 3, none⟩)) rfl (by kernel_rfl) (by kernel_rfl) (by kernel_rfl) (fun _ _ _ h => h) (.inl ⟨rfl, fun W hW => by first | kernel_rfl | go_simp⟩) HS9.out ?_
          simp only [List.getElem_toArray, List.getElem_cons_zero, List.getElem_cons_succ, Act.put, List.setIfInBounds_toArray, List.set_cons_zero, List.set_cons_succ]
          refine wpAnyH_take (i := 29) (v := .pointer (some ⟨eb, i * 8 + 3 + 2, none⟩)) rfl (by kernel_rfl) (by kernel_rfl) (by kernel_rfl) (fun _ _ _ h => h) (.inl ⟨rfl, fun W hW => by first | kernel_rfl | go_simp⟩) HS9.out ?_
          simp only [List.getElem_toArray, List.getElem_cons_zero, List.getElem_cons_succ, Act.put, List.setIfInBounds_toArray, List.set_cons_zero, List.set_cons_succ]
          refine wpAnyH_take (i := 30) (v := .string na) rfl (by kernel_rfl) (by kernel_rfl) (by kernel_rfl) (fun _ _ _ h => h) (.inl ⟨rfl, fun W hW => by obtain ⟨v1, v2, v3, v4, v5, v6, v7⟩ := hW; go_simp⟩) HS9.out ?_
          simp only [List.getElem_toArray, List.getElem_cons_zero, List.getElem_cons_succ, Act.put, List.setIfInBounds_toArray, List.set_cons_zero, List.set_cons_succ]
          refine wpAnyH_take (i := 31) (v := .pointer (some ⟨eb, i * 8, none⟩)) rfl (by kernel_rfl) (by kernel_rfl) (by kernel_rfl) (fun _ _ _ h => h) (.inl ⟨rfl, fun W hW => by first | kernel_rfl | go_simp⟩) HS9.out ?_
          simp only [List.getElem_toArray, List.getElem_cons_zero, List.getElem_cons_succ, Act.put, List.setIfInBounds_toArray, List.set_cons_zero, List.set_cons_succ]
          refine wpAnyH_take (i := 32) (v := .pointer (some ⟨eb, i * 8, none⟩)) rfl (by kernel_rfl) (by kernel_rfl) (by kernel_rfl) (fun _ _ _ h => h) (.inl ⟨rfl, fun W hW => by first | kernel_rfl | go_simp⟩) HS9.out ?_
          simp only [List.getElem_toArray, List.getElem_cons_zero, List.getElem_cons_succ, Act.put, List.setIfInBounds_toArray, List.set_cons_zero, List.set_cons_succ]
          refine wpAnyH_take (i := 33) (v := .pointer (some ⟨eb, i * 8 + 3, none⟩)) rfl (by kernel_rfl) (by kernel_rfl) (by kernel_rfl) (fun _ _ _ h => h) (.inl ⟨rfl, fun W hW => by first | kernel_rfl | go_simp⟩) HS9.out ?_
          simp only [List.getElem_toArray, List.getElem_cons_zero, List.getElem_cons_succ, Act.put, List.setIfInBounds_toArray, List.set_cons_zero, List.set_cons_succ]
          refine wpAnyH_take (i := 34) (v := .pointer (some ⟨eb, i * 8 + 3 + 3, none⟩)) rfl (by kernel_rfl) (by kernel_rfl) (by kernel_rfl) (fun _ _ _ h => h) (.inl ⟨rfl, fun W hW => by first | kernel_rfl | go_simp⟩) HS9.out ?_
          simp only [List.getElem_toArray, List.getElem_cons_zero, List.getElem_cons_succ, Act.put, List.setIfInBounds_toArray, List.set_cons_zero, List.set_cons_succ]
          refine wpAnyH_take (i := 35) (v := .int .u64 (am : Nat)) rfl (by kernel_rfl) (by kernel_rfl) (by kernel_rfl) (fun _ _ _ h => h) (.inl ⟨rfl, fun W hW => by obtain ⟨v1, v2, v3, v4, v5, v6, v7⟩ := hW; go_simp⟩) HS9.out ?_
          simp only [List.getElem_toArray, List.getElem_cons_zero, List.getElem_cons_succ, Act.put, List.setIfInBounds_toArray, List.set_cons_zero, List.set_cons_succ]
          refine wpAnyH_take (i := 36) (v := .agg #[.int .i64 8, .int .i64 node, .int .i64 x, .int .i64 (own : Nat), .int .u64 0, .int .u64 0, .int .u64 0, .int .u64 0, .int .i64 0, .int .u64 0, .slice none 0 0, .int .i64 (i : Nat), .int .u64 (nu : Nat), .string na, .string ⟨#[]⟩, .int .u64 (am : Nat), .int .u64 0, .int .u64 0, .int .i64 0, .int .i64 0, .int .i64 0, .int .i64 0]) rfl (by kernel_rfl) (by kernel_rfl) (by kernel_rfl) (fun _ _ _ h => h) (.inl ⟨rfl, fun W hW => by first | kernel_rfl | go_simp⟩) HS9.out ?_
          simp only [List.getElem_toArray, List.getElem_cons_zero, List.getElem_cons_succ, Act.put, List.setIfInBounds_toArray, List.set_cons_zero, List.set_cons_succ]
          refine wpAnyH_ready (rs := [37]) (by kernel_rfl) (by simp) ?_
          refine AllReadyH.cons rfl (fun KC hKC => ?_) AllReadyH.nil
          refine step_storeM rfl (op_runW (w' := W9) (.slice (some ⟨w8.drew.heap.size, 0, none⟩) 1 1) ?_ ?_)
          · rw [← HW9.out]
            kernel_rfl
          refine hKC.out _ _ HS9b.out fun _ => ?_
          clear hKC
          simp only [List.getElem_toArray, List.getElem_cons_zero, List.getElem_cons_succ, Act.put, List.setIfInBounds_toArray, List.set_cons_zero, List.set_cons_succ]
          refine wpAnyH_ready (rs := [38]) (by kernel_rfl) (by simp) ?_
          refine AllReadyH.cons rfl (fun KC hKC => ?_) AllReadyH.nil
          refine step_apps2 rfl (.tmp 57) (.tmp 94) 94 rfl _ _ _ (by kernel_rfl) (by kernel_rfl) HAP.out ?_
          refine hKC.out _ _ HS9c.out fun _ => ?_
          clear hKC
          simp only [List.getElem_toArray, List.getElem_cons_zero, List.getElem_cons_succ, Act.put, List.setIfInBounds_toArray, List.set_cons_zero, List.set_cons_succ]
          refine wpAnyH_take (i := 39) (v := .slice a' (K + 1) c') rfl (by kernel_rfl) (by kernel_rfl) (by kernel_rfl) (fun _ _ _ h => h) (.inl ⟨rfl, fun W hW => by first | kernel_rfl | go_simp⟩) HS9c.out ?_
          simp only [List.getElem_toArray, List.getElem_cons_zero, List.getElem_cons_succ, Act.put, List.setIfInBounds_toArray, List.set_cons_zero, List.set_cons_succ]
          refine wpAnyH_done (by kernel_rfl) ?_ _
          clear HS9 HS9b HS9c HW9 HAP
          obtain ⟨s, hs, hs2⟩ : ∃ s : Nat, (tu : Int) + 1 = (s : Int) ∧ s = tu + 1 := ⟨tu + 1, by omega, rfl⟩
          obtain ⟨t2, ht2, ht22⟩ : ∃ t2 : Nat, (s : Int).tmod (c : Int) = (t2 : Int) ∧ t2 = (tu + 1) % c := ⟨(tu + 1) % c, by rw [hs2]; exact (Int.ofNat_tmod _ _).symm, rfl⟩
          have ht2l : t2 < c := by rw [ht22]; exact Nat.mod_lt _ (by omega)
          have hws : IntKind.i64.wrap (s : Int) = (s : Int) := wi (by have := HN.out; omega)
          have hwt : IntKind.i64.wrap (t2 : Int) = (t2 : Int) := wi (by have := HN.out; omega)
          obtain ⟨c2, fz2, W11, HW11, HXN⟩ : W10.cell? ⟨eb, i * 8 + 2, none⟩ = some (.int .i64 (tu : Nat)) ∧ W10.frozen? ⟨eb, i * 8 + 2, none⟩ = false ∧ ∃ W11, Hid (W10.setCell ⟨eb, i * 8 + 2, none⟩ (.int .i64 (t2 : Nat)) = W11) ∧ Hid (RTk O q w ⟨rb, eb, ec, qv⟩ r (i + 1) (.slice a' (K + 1) c') (K + 1) W11) := by
            obtain ⟨O', h1, h2, h3, h4⟩ := HX10.out
            obtain ⟨_, _, c2, _⟩ := HCELL.out W10 O' h2
            have hin : i < r.n := by have := HN.out.1; have := HJ.out; omega
            obtain ⟨_, fz⟩ := h2.pcell i 2 hin (by decide)
            have h5 := h2.setTu i hin t2 (by show t2 < r.c; rw [HN.out.2.2.2.2.2.1]; exact ht2l)
            refine ⟨c2, fz, _, rfl, O', ?_, ?_, ?_, h4.trans (ChR.of h5.2 (by omega) (by omega))⟩
            · rw [msR_succ, if_pos HF.out, List.length_append, ← h1]; rfl
            · rw [Rd.tick_fire r i HTH.out HF.out, HTU.out.1, HN.out.2.2.2.2.2.1, ← ht22]
              exact h5.1
            · rw [msR_succ, if_pos HF.out]
              exact h3.keep h5.2 (by omega)
          clear HX10 hs2 ht22 ht2l hqt hqe hqw
          go_wp2_with (rw [HW11.out]; clear HW11)
          go_roundg (n - (i + 1))
          case measure => go_light; exact hme
          case rel => go_light; exact ⟨i + 1, K + 1, a', c', HJ.out, rfl, rfl, by simp, HXN.out⟩
    · obtain rfl : i = n := by omega
      have z1 : ¬ (i : Int) < (i : Int) := by omega
      clear hi hlt d0 d2 d9 d10
      go_wp2_with fail
      go_ret
      rw [HN.out.1]
      exact ⟨a, cc, K, rfl, HX.out⟩
end Go.Proofs.YtdhhjdacidhmjaaGreat

/- Package settle, the document's: New (se7_gen.py). -/
namespace Go.Proofs.YtdhhjdacidhmjaaGreat
open Go.RowKit
set_option maxRecDepth 100000
set_option maxRecDepth 100000
/-- A Settle of the document's that is new. -/
def newR (node : Int) (own nodes n c m : Nat) : Rd := ⟨node, own, n, m, c, nodes, fun _ => 0, fun _ => 0, fun _ => ent0, fun _ => false, []⟩
theorem infoPE : (Tryz.prog.info? 84).map (fun i => (i.zero, i.size, i.bytes)) = some (some (.agg #[.int .i64 0, .int .i64 0, .int .i64 0, .int .i64 0, .int .u64 0, .string ⟨#[]⟩, .int .u64 0, .bool false]), 8, 72) := by kernel_rfl
theorem infoPS : (Tryz.prog.info? 76).map (·.size) = some 1 := by kernel_rfl
def peL (m : Nat) : List Value := [.int .i64 (m : Nat), .int .i64 0, .int .i64 0, .int .i64 0, .int .u64 0, .string ⟨#[]⟩, .int .u64 0, .bool false]
/-- The cells of the Settle while its peers are made. -/
def rnCell (vC : Nat → Value) (node : Int) (own : Nat) (v : Value) (i : Nat) : Value := if i < 9 then vC i else if i = 9 then .int .i64 node else if i = 10 then .int .i64 (own : Nat) else if i = 11 then v else .slice none 0 0
/-- Where the loop of the document's New stands. -/
def RNw (w : World) (q cb rb : Nat) (vC : Nat → Value) (node : Int) (own nodes n c m i : Nat) (O0 : Nat → Nat) (W : World) : Prop := ∃ O a cc, W.cell? ⟨cb, 5, none⟩ = some (.int .i64 (m : Nat)) ∧ W.cell? ⟨cb, 1, none⟩ = some (.int .i64 (n : Nat)) ∧ O cb = q + 60 ∧ RowC O (q + 50) W rb 78 13 (rnCell vC node own (.slice a i cc)) ∧ Li O (q + 51) W 84 8 (.slice a i cc) i (rpF (newR node own nodes n c m)) ∧ (∀ k, k < w.heap.size → O k = O0 k) ∧ w.Since w.heap.size W
theorem rpF_new (node : Int) (own nodes n c m i j : Nat) (hj : j < (i + 1) * 8) : (if j < i * 8 then rpF (newR node own nodes n c m) j else (peL m).getD (j - i * 8) undef) = rpF (newR node own nodes n c m) j := by
  by_cases h : j < i * 8
  · rw [if_pos h]
  · rw [if_neg h]
    have e : j = i * 8 + (j - i * 8) := by omega
    generalize hk : j - i * 8 = k at *
    have hk8 : k < 8 := by omega
    rw [e, rpF_at _ _ _ hk8]
    match k, hk8 with
    | 0, _ => rfl
    | 1, _ => rfl
    | 2, _ => rfl
    | 3, _ => rfl
    | 4, _ => rfl
    | 5, _ => rfl
    | 6, _ => rfl
    | 7, _ => rfl
theorem RNw.step {w W : World} {q cb rb : Nat} {vC : Nat → Value} {node : Int} {own nodes n c m i : Nat} {O0 : Nat → Nat} (h : RNw w q cb rb vC node own nodes n c m i O0 W) (hi : i < n) (h8 : n ≤ 8) (hF : ∀ k, k < w.heap.size → O0 k < q + 50 ∨ q + 60 < O0 k) : ∃ a cc, W.drew.cell? ⟨rb, 11, none⟩ = some (.slice a i cc) ∧ Hid (W.drew.cell? ⟨cb, 5, none⟩ = some (.int .i64 (m : Nat))) ∧ ∃ W2, Hid (W.drew.alloc (.cells #[.int .i64 (m : Nat), .int .i64 0, .int .i64 0, .int .i64 0, .int .u64 0, .string ⟨#[]⟩, .int .u64 0, .bool false] 84) = W2) ∧ W2.cell? ⟨rb, 11, none⟩ = some (.slice a i cc) ∧ Hid (W2.cell? ⟨cb, 5, none⟩ = some (.int .i64 (m : Nat))) ∧ ∃ a' c' W3, Hid ((Builtin.append_ #[76, 76] 76 #[.slice a i cc, .slice (some ⟨W.drew.heap.size, 0, none⟩) 1 1]).run Tryz.prog W2 = .ok (.slice a' (i + 1) c') W3) ∧ Hid (W3.cell? ⟨cb, 5, none⟩ = some (.int .i64 (m : Nat))) ∧ W3.cell? ⟨rb, 11, none⟩ = some (.slice a i cc) ∧ W3.frozen? ⟨rb, 11, none⟩ = false ∧ ∃ W4, Hid (W3.setCell ⟨rb, 11, none⟩ (.slice a' (i + 1) c') = W4) ∧ Hid (W4.cell? ⟨cb, 5, none⟩ = some (.int .i64 (m : Nat))) ∧ Hid (RNw w q cb rb vC node own nodes n c m (i + 1) O0 W4) := by
  obtain ⟨O, a, cc, h5, h1, hcb, hr, hl, hO, hs⟩ := h
  have sd : W.Since W.heap.size W.drew := (World.Since.refl _ _).drew
  have s2 : W.drew.Since W.drew.heap.size (W.drew.alloc (.cells #[.int .i64 (m : Nat), .int .i64 0, .int .i64 0, .int .i64 0, .int .u64 0, .string ⟨#[]⟩, .int .u64 0, .bool false] 84)) := (World.Since.refl _ _).alloc (Nat.le_refl _) _
  have hcl : cb < W.heap.size := cell_lt2 h5
  have hld := hl.keep (x := q + 70) (Ch.since sd) (by omega)
  have hrd := hr.keep (x := q + 70) (Ch.since sd) (by omega)
  obtain ⟨v', W3, e3, k3, hl3⟩ := hld.app (P := Tryz.prog) Tryz.underlying76 infoPE rfl (by decide) (peL m) rfl (fun u hu => by
    unfold peL at hu
    simp only [List.mem_cons, List.not_mem_nil, or_false] at hu
    rcases hu with rfl | rfl | rfl | rfl | rfl | rfl | rfl | rfl <;> rfl) (by omega) (by omega)
  obtain ⟨a', c', rfl⟩ := hl3.form
  obtain ⟨O3, hO3⟩ : ∃ O3, (fun k => if k < W.drew.heap.size then O k else q + 51) = O3 := ⟨_, rfl⟩
  rw [hO3] at k3 hl3
  have hr3 := hrd.keep k3 (by omega)
  have hc3 : ∀ j v, W.cell? ⟨cb, j, none⟩ = some v → W3.cell? ⟨cb, j, none⟩ = some v := fun j v hv => by
    rw [World.cell?_of_block (a := ⟨cb, j, none⟩) (k3.block cb hcl (by rw [hcb]; omega))]
    exact hv
  have k4 : Ch (q + 50) O3 O3 W3 (W3.setCell ⟨rb, 11, none⟩ (.slice a' (i + 1) c')) := Ch.set hr3.2 11 _
  have hne : cb ≠ rb := fun e => by have := hr.2; rw [← e, hcb] at this; omega
  have hc4 : ∀ j v, W.cell? ⟨cb, j, none⟩ = some v → (W3.setCell ⟨rb, 11, none⟩ (.slice a' (i + 1) c')).cell? ⟨cb, j, none⟩ = some v := fun j v hv => by
    rw [World.cell?_of_block (a := ⟨cb, j, none⟩) (Below.heap_setCell _ _ _ _ hne)]
    exact hc3 j v hv
  refine ⟨a, cc, hrd.1.cell (i := 11) (by decide), h5, _, rfl, cell_later s2 (hrd.1.cell (i := 11) (by decide)), cell_later s2 h5, a', c', W3, e3, hc3 5 _ h5, hr3.1.cell (i := 11) (by decide), hr3.1.frozen 11, _, rfl, hc4 5 _ h5, _, a', c', hc4 5 _ h5, hc4 1 _ h1, (k3.col cb hcl).trans hcb, ?_, (hl3.congr fun j hj => rpF_new node own nodes n c m i j hj).keep k4 (by omega), fun k hk => ?_, ?_⟩
  · have r4 := hr3.set 11 (.slice a' (i + 1) c')
    refine ⟨r4.1.congr fun z hz => ?_, r4.2⟩
    show (if z = 11 then Value.slice a' (i + 1) c' else rnCell vC node own (.slice a i cc) z) = rnCell vC node own (.slice a' (i + 1) c') z
    unfold rnCell
    by_cases e : z = 11
    · subst e; rfl
    · rw [if_neg e, if_neg e, if_neg e]
  · have := hs.size
    exact (k3.col k (by show k < W.heap.size; omega)).trans (hO k hk)
  · have hz := hs.size
    refine ⟨k4.os.trans (k3.os.trans hs.os), k4.tape.trans (k3.tape.trans hs.tape), k4.output.trans (k3.output.trans hs.output), Nat.le_trans hz (Nat.le_trans k3.size k4.size), fun k hk => ?_⟩
    have hkW : k < W.heap.size := by omega
    have e1 := hO k hk
    have e2 := hF k hk
    have e3 := k3.col k (by show k < W.heap.size; exact hkW)
    exact ((k4.block k (Nat.lt_of_lt_of_le hkW k3.size) (by rw [e3, e1]; omega)).trans (k3.block k (by show k < W.heap.size; exact hkW) (by rw [e1]; omega))).trans (hs.block k hk)
set_option maxHeartbeats 8000000 in
theorem rnew_any {w : World} {nodes n c m own q : Nat} (h1 : 1 ≤ m) (h2 : m ≤ 64) (hn1 : 1 ≤ n) (hn : n ≤ 8) (ho : own < n) (hc : 1 ≤ c ∧ c ≤ 7 ∧ c ≤ nodes ∧ nodes ≤ 9) (node : Int) (O0 : Nat → Nat) (hF : ∀ k, k < w.heap.size → O0 k < q + 50 ∨ q + 60 < O0 k) (v8 : Value) :
    Calls Tryz.prog 9 #[.agg (cfL nodes n c m (.int .i64 1) (.int .i64 16) (.int .i64 64) (.int .i64 100) v8), .int .i64 node, .int .i64 (own : Nat)] w fun e w' => ∃ rb, e = .returned (.pointer (some ⟨rb, 0, none⟩)) ∧ Hid ((∃ O p, RIs O q w' p (newR node own nodes n c m) ∧ p.rb = rb ∧ p.qv = .slice none 0 0 ∧ (∀ k, k < w.heap.size → O k = O0 k)) ∧ w.Since w.heap.size w') := by
  obtain ⟨W1, HW1, s1, d0, d1, d2, d5, hrg⟩ := cf_alloc w nodes n c m (.int .i64 1) (.int .i64 16) (.int .i64 64) (.int .i64 100) v8
  obtain ⟨cb, HCB⟩ : ∃ x, Hid (w.heap.size = x) := ⟨_, rfl⟩
  obtain ⟨rb, HRB⟩ : ∃ x, Hid (W1.heap.size = x) := ⟨_, rfl⟩
  obtain ⟨W2, HW2⟩ : ∃ W, Hid (W1.alloc (.cells #[.int .i64 (nodes : Nat), .int .i64 (n : Nat), .int .i64 (c : Nat), .int .i64 1, .int .i64 16, .int .i64 (m : Nat), .int .i64 64, .int .i64 100, v8, .int .i64 node, .int .i64 (own : Nat), .slice none 0 0, .slice none 0 0] 78) = W) := ⟨_, rfl⟩
  have s2 : W1.Since W1.heap.size W2 := by rw [← HW2.out]; exact (World.Since.refl _ _).alloc (Nat.le_refl _) _
  have hz1 : W1.heap.size = w.heap.size + 1 := by rw [← HW1.out]; simp
  have HW1' : Hid (w.alloc (.cells (cfL nodes n c m (.int .i64 1) (.int .i64 16) (.int .i64 64) (.int .i64 100) v8) 48) = W1) := HW1
  have HRG : Hid (W1.rangeAt cb 0 (cfL nodes n c m (.int .i64 1) (.int .i64 16) (.int .i64 64) (.int .i64 100) v8).toList) := by rw [← HCB.out]; exact hrg
  have HCI := hide (infoCf nodes n c m (.int .i64 1) (.int .i64 16) (.int .i64 64) (.int .i64 100) v8)
  have hrow : W2.rowIs rb 78 13 (rnCell (fun i => if i = 8 then v8 else cfgF nodes n c m i) node own (.slice none 0 0)) := by
    rw [← HW2.out, ← HRB.out]
    refine World.rowIs_alloc W1 _ _ _ (fun i hi => ?_)
    have hi' : i < 13 := hi
    match i, hi' with
    | 0, _ => rfl
    | 1, _ => rfl
    | 2, _ => rfl
    | 3, _ => rfl
    | 4, _ => rfl
    | 5, _ => rfl
    | 6, _ => rfl
    | 7, _ => rfl
    | 8, _ => rfl
    | 9, _ => rfl
    | 10, _ => rfl
    | 11, _ => rfl
    | 12, _ => rfl
  have HX0 : Hid (RNw w q cb rb (fun i => if i = 8 then v8 else cfgF nodes n c m i) node own nodes n c m 0 O0 W2) := by
    refine ⟨fun k => if k < w.heap.size then O0 k else if k = cb then q + 60 else q + 50, none, 0, ?_, ?_, ?_, ⟨hrow, ?_⟩, Li.nil _ _ _ _ _ _, fun k hk => if_pos hk, s1.trans (since_mono s2 s1.size)⟩
    · rw [← HCB.out]; exact cell_later s2 d5
    · rw [← HCB.out]; exact cell_later s2 d1
    · show (if cb < w.heap.size then O0 cb else if cb = cb then q + 60 else q + 50) = q + 60
      rw [if_neg (by have := HCB.out; omega), if_pos rfl]
    · show (if rb < w.heap.size then O0 rb else if rb = cb then q + 60 else q + 50) = q + 50
      rw [if_neg (by have := HRB.out; omega), if_neg (by have := HRB.out; have := HCB.out; omega)]
  have HN : Hid (1 ≤ n ∧ n ≤ 8) := ⟨hn1, hn⟩
  have HL : Hid (1 ≤ m ∧ m ≤ 64 ∧ own < n ∧ 1 ≤ c ∧ c ≤ 7 ∧ c ≤ nodes ∧ nodes ≤ 9) := ⟨h1, h2, ho, hc⟩
  have HFF := hide hF
  clear h1 h2 hn1 hn ho hc hF s1 d0 d1 d2 d5 hrg s2 hz1 hrow
  go_enter Tryz.func9, Tryz.ntmps9
  go_upto_region 1 with fail
  rw [HW1'.out, HCB.out]
  clear HW1 HW1'
  refine wp_region_lit ?_
  refine wpList_load_mid rfl 48 (.tmp 3) rfl cb 0 rfl _ _ HRG.out Tryz.underlying48 rfl HCI.out ?_
  simp only [Act.put, List.setIfInBounds_toArray, List.set_cons_zero, List.set_cons_succ]
  refine wpList_plain rfl fun _ hK => op_run (.int .i64 node) (by kernel_rfl) (hK _ _ ?_)
  simp only [Act.put, List.setIfInBounds_toArray, List.set_cons_zero, List.set_cons_succ]
  refine wpList_plain rfl fun _ hK => op_run (.int .i64 (own : Nat)) (by kernel_rfl) (hK _ _ ?_)
  simp only [Act.put, List.setIfInBounds_toArray, List.set_cons_zero, List.set_cons_succ]
  refine wpList_plain rfl fun _ hK => op_run (.agg #[.int .i64 (nodes : Nat), .int .i64 (n : Nat), .int .i64 (c : Nat), .int .i64 1, .int .i64 16, .int .i64 (m : Nat), .int .i64 64, .int .i64 100, v8, .int .i64 node, .int .i64 (own : Nat), .slice none 0 0, .slice none 0 0]) (by kernel_rfl) (hK _ _ ?_)
  simp only [Act.put, List.setIfInBounds_toArray, List.set_cons_zero, List.set_cons_succ]
  refine wpList_plain rfl fun _ hK => op_runW9 (w' := W1.alloc (.cells #[.int .i64 (nodes : Nat), .int .i64 (n : Nat), .int .i64 (c : Nat), .int .i64 1, .int .i64 16, .int .i64 (m : Nat), .int .i64 64, .int .i64 100, v8, .int .i64 node, .int .i64 (own : Nat), .slice none 0 0, .slice none 0 0] 78)) (.pointer (some ⟨W1.heap.size, 0, none⟩)) (by kernel_rfl) ?_
  rw [HW2.out, HRB.out]
  refine hK _ _ ?_
  clear hK HW2
  simp only [Act.put, List.setIfInBounds_toArray, List.set_cons_zero, List.set_cons_succ]
  go_wp2_with fail
  go_loopg [8] n (fun g s8 wx => ∃ i : Nat, i ≤ n ∧ g = n - i ∧ s8 = .int .i64 (i : Nat) ∧ Hid (RNw w q cb rb (fun i => if i = 8 then v8 else cfgF nodes n c m i) node own nodes n c m i O0 wx))
  case atStart => exact ⟨0, Nat.zero_le _, rfl, rfl, HX0.out⟩
  case round =>
    clear HX0
    obtain ⟨i, hi, rfl, rfl, HX⟩ := hrel
    have e1 : wr.cell? ⟨cb, 1, none⟩ = some (.int .i64 (n : Nat)) := by obtain ⟨_, _, _, _, h, _⟩ := HX.out; exact h
    by_cases hlt : i < n
    · have z1 : (i : Int) < (n : Int) := by omega
      have z0 : (0 : Int) ≤ (i : Int) := by omega
      have hwi : IntKind.i64.wrap ((i : Int) + 1) = (i : Int) + 1 := by have := HN.out; rw [IntKind.wrap_i64]; omega
      have hme : n - (i + 1) < n - i := by omega
      have HJ := hide hlt
      obtain ⟨a, cc, c11, HS0, W2, HW2, c11b, HS2, a', c', W3, HAP, HS3, c11c, f11c, W4, HW4, HS4, HXN⟩ := HX.out.step hlt HN.out.2 HFF.out
      clear HX hi hlt
      go_upto_region 5 with fail
      clear e1
      refine wp_region_held_drew (S := (fun W : World => W.cell? ⟨cb, 5, none⟩ = some (.int .i64 (m : Nat)))) (by kernel_rfl) HS0.out fun _ => ?_
      refine wpAnyH_take (i := 0) (v := .pointer (some ⟨rb, 0, none⟩)) rfl (by kernel_rfl) (by kernel_rfl) (by kernel_rfl) (fun _ _ _ h => h) (.inl ⟨rfl, fun W hW => by first | kernel_rfl | go_simp⟩) HS0.out ?_
      simp only [List.getElem_toArray, List.getElem_cons_zero, Act.put, List.setIfInBounds_toArray, List.set_cons_zero, List.set_cons_succ]
      refine wpAnyH_take (i := 1) (v := .pointer (some ⟨rb, 0, none⟩)) rfl (by kernel_rfl) (by kernel_rfl) (by kernel_rfl) (fun _ _ _ h => h) (.inl ⟨rfl, fun W hW => by first | kernel_rfl | go_simp⟩) HS0.out ?_
      simp only [List.getElem_toArray, List.getElem_cons_zero, List.getElem_cons_succ, Act.put, List.setIfInBounds_toArray, List.set_cons_zero, List.set_cons_succ]
      refine wpAnyH_take (i := 2) (v := .pointer (some ⟨rb, 0, none⟩)) rfl (by kernel_rfl) (by kernel_rfl) (by kernel_rfl) (fun _ _ _ h => h) (.inl ⟨rfl, fun W hW => by first | kernel_rfl | go_simp⟩) HS0.out ?_
      simp only [List.getElem_toArray, List.getElem_cons_zero, List.getElem_cons_succ, Act.put, List.setIfInBounds_toArray, List.set_cons_zero, List.set_cons_succ]
      refine wpAnyH_take (i := 3) (v := .pointer (some ⟨rb, 11, none⟩)) rfl (by kernel_rfl) (by kernel_rfl) (by kernel_rfl) (fun _ _ _ h => h) (.inl ⟨rfl, fun W hW => by first | kernel_rfl | go_simp⟩) HS0.out ?_
      simp only [List.getElem_toArray, List.getElem_cons_zero, List.getElem_cons_succ, Act.put, List.setIfInBounds_toArray, List.set_cons_zero, List.set_cons_succ]
      refine wpAnyH_take (i := 5) (v := .pointer (some ⟨cb, 5, none⟩)) rfl (by kernel_rfl) (by kernel_rfl) (by kernel_rfl) (fun _ _ _ h => h) (.inl ⟨rfl, fun W hW => by first | kernel_rfl | go_simp⟩) HS0.out ?_
      simp only [List.getElem_toArray, List.getElem_cons_zero, List.getElem_cons_succ, Act.put, List.setIfInBounds_toArray, List.set_cons_zero, List.set_cons_succ]
      refine wpAnyH_take (i := 6) (v := .int .i64 (m : Nat)) rfl (by kernel_rfl) (by kernel_rfl) (by kernel_rfl) (fun _ _ _ h => h) (.inl ⟨rfl, fun W hW => by go_simp⟩) HS0.out ?_
      simp only [List.getElem_toArray, List.getElem_cons_zero, List.getElem_cons_succ, Act.put, List.setIfInBounds_toArray, List.set_cons_zero, List.set_cons_succ]
      refine wpAnyH_take (i := 7) (v := .agg #[.int .i64 (m : Nat), .int .i64 0]) rfl (by kernel_rfl) (by kernel_rfl) (by kernel_rfl) (fun _ _ _ h => h) (.inl ⟨rfl, fun W hW => by first | kernel_rfl | go_simp⟩) HS0.out ?_
      simp only [List.getElem_toArray, List.getElem_cons_zero, List.getElem_cons_succ, Act.put, List.setIfInBounds_toArray, List.set_cons_zero, List.set_cons_succ]
      refine wpAnyH_take (i := 8) (v := .agg #[.int .i64 (m : Nat), .int .i64 0, .int .i64 0, .int .i64 0, .int .u64 0, .string ⟨#[]⟩, .int .u64 0, .bool false]) rfl (by kernel_rfl) (by kernel_rfl) (by kernel_rfl) (fun _ _ _ h => h) (.inl ⟨rfl, fun W hW => by first | kernel_rfl | go_simp⟩) HS0.out ?_
      simp only [List.getElem_toArray, List.getElem_cons_zero, List.getElem_cons_succ, Act.put, List.setIfInBounds_toArray, List.set_cons_zero, List.set_cons_succ]
      refine wpAnyH_ready (rs := [4, 9]) (by kernel_rfl) (by simp) ?_
      refine AllReadyH.cons rfl (fun KC hKC => ?_) (AllReadyH.cons rfl (fun KC hKC => ?_) AllReadyH.nil)
      · refine step_storeM rfl (op_runW (w' := wr.drew) (.slice a i cc) (by go_simp) ?_)
        refine hKC.out _ _ HS0.out fun _ => ?_
        clear hKC
        simp only [List.getElem_toArray, List.getElem_cons_zero, List.getElem_cons_succ, Act.put, List.setIfInBounds_toArray, List.set_cons_zero, List.set_cons_succ]
        refine wpAnyH_ready (rs := [9]) (by kernel_rfl) (by simp) ?_
        refine AllReadyH.cons rfl (fun KC hKC => ?_) AllReadyH.nil
        refine step_storeM rfl (op_runW (w' := W2) (.slice (some ⟨wr.drew.heap.size, 0, none⟩) 1 1) ?_ ?_)
        · rw [← HW2.out]
          kernel_rfl
        refine hKC.out _ _ HS2.out fun _ => ?_
        clear hKC
        simp only [List.getElem_toArray, List.getElem_cons_zero, List.getElem_cons_succ, Act.put, List.setIfInBounds_toArray, List.set_cons_zero, List.set_cons_succ]
        refine wpAnyH_ready (rs := [10]) (by kernel_rfl) (by simp) ?_
        refine AllReadyH.cons rfl (fun KC hKC => ?_) AllReadyH.nil
        refine step_apps2 rfl (.tmp 24) (.tmp 29) 76 rfl _ _ _ (by kernel_rfl) (by kernel_rfl) HAP.out ?_
        refine hKC.out _ _ HS3.out fun _ => ?_
        clear hKC
        simp only [List.getElem_toArray, List.getElem_cons_zero, List.getElem_cons_succ, Act.put, List.setIfInBounds_toArray, List.set_cons_zero, List.set_cons_succ]
        refine wpAnyH_take (i := 11) (v := .pointer (some ⟨rb, 0, none⟩)) rfl (by kernel_rfl) (by kernel_rfl) (by kernel_rfl) (fun _ _ _ h => h) (.inl ⟨rfl, fun W hW => by first | kernel_rfl | go_simp⟩) HS3.out ?_
        simp only [List.getElem_toArray, List.getElem_cons_zero, List.getElem_cons_succ, Act.put, List.setIfInBounds_toArray, List.set_cons_zero, List.set_cons_succ]
        refine wpAnyH_take (i := 12) (v := .pointer (some ⟨rb, 11, none⟩)) rfl (by kernel_rfl) (by kernel_rfl) (by kernel_rfl) (fun _ _ _ h => h) (.inl ⟨rfl, fun W hW => by first | kernel_rfl | go_simp⟩) HS3.out ?_
        simp only [List.getElem_toArray, List.getElem_cons_zero, List.getElem_cons_succ, Act.put, List.setIfInBounds_toArray, List.set_cons_zero, List.set_cons_succ]
        refine wpAnyH_ready (rs := [13]) (by kernel_rfl) (by simp) ?_
        refine AllReadyH.cons rfl (fun KC hKC => ?_) AllReadyH.nil
        refine step_storeM rfl (wp_store_cell 76 (.tmp 32) (.tmp 30) rfl rb 11 (.slice a' (i + 1) c') _ rfl rfl c11c f11c infoPS rfl ?_)
        rw [HW4.out]
        refine hKC.out _ _ HS4.out fun _ => ?_
        clear hKC
        simp only [Act.put]
        refine wpAnyH_done (by kernel_rfl) ?_ _
        go_wp2_with fail
        go_roundg (n - (i + 1))
        case measure => go_light; exact hme
        case rel => go_light; exact ⟨i + 1, HJ.out, rfl, by simp, HXN.out⟩
      · refine step_storeM rfl (op_runW (w' := W2) (.slice (some ⟨wr.drew.heap.size, 0, none⟩) 1 1) ?_ ?_)
        · rw [← HW2.out]
          kernel_rfl
        refine hKC.out _ _ HS2.out fun _ => ?_
        clear hKC
        simp only [List.getElem_toArray, List.getElem_cons_zero, List.getElem_cons_succ, Act.put, List.setIfInBounds_toArray, List.set_cons_zero, List.set_cons_succ]
        refine wpAnyH_ready (rs := [4]) (by kernel_rfl) (by simp) ?_
        refine AllReadyH.cons rfl (fun KC hKC => ?_) AllReadyH.nil
        refine step_storeM rfl (op_runW (w' := W2) (.slice a i cc) (by go_simp) ?_)
        refine hKC.out _ _ HS2.out fun _ => ?_
        clear hKC
        simp only [List.getElem_toArray, List.getElem_cons_zero, List.getElem_cons_succ, Act.put, List.setIfInBounds_toArray, List.set_cons_zero, List.set_cons_succ]
        refine wpAnyH_ready (rs := [10]) (by kernel_rfl) (by simp) ?_
        refine AllReadyH.cons rfl (fun KC hKC => ?_) AllReadyH.nil
        refine step_apps2 rfl (.tmp 24) (.tmp 29) 76 rfl _ _ _ (by kernel_rfl) (by kernel_rfl) HAP.out ?_
        refine hKC.out _ _ HS3.out fun _ => ?_
        clear hKC
        simp only [List.getElem_toArray, List.getElem_cons_zero, List.getElem_cons_succ, Act.put, List.setIfInBounds_toArray, List.set_cons_zero, List.set_cons_succ]
        refine wpAnyH_take (i := 11) (v := .pointer (some ⟨rb, 0, none⟩)) rfl (by kernel_rfl) (by kernel_rfl) (by kernel_rfl) (fun _ _ _ h => h) (.inl ⟨rfl, fun W hW => by first | kernel_rfl | go_simp⟩) HS3.out ?_
        simp only [List.getElem_toArray, List.getElem_cons_zero, List.getElem_cons_succ, Act.put, List.setIfInBounds_toArray, List.set_cons_zero, List.set_cons_succ]
        refine wpAnyH_take (i := 12) (v := .pointer (some ⟨rb, 11, none⟩)) rfl (by kernel_rfl) (by kernel_rfl) (by kernel_rfl) (fun _ _ _ h => h) (.inl ⟨rfl, fun W hW => by first | kernel_rfl | go_simp⟩) HS3.out ?_
        simp only [List.getElem_toArray, List.getElem_cons_zero, List.getElem_cons_succ, Act.put, List.setIfInBounds_toArray, List.set_cons_zero, List.set_cons_succ]
        refine wpAnyH_ready (rs := [13]) (by kernel_rfl) (by simp) ?_
        refine AllReadyH.cons rfl (fun KC hKC => ?_) AllReadyH.nil
        refine step_storeM rfl (wp_store_cell 76 (.tmp 32) (.tmp 30) rfl rb 11 (.slice a' (i + 1) c') _ rfl rfl c11c f11c infoPS rfl ?_)
        rw [HW4.out]
        refine hKC.out _ _ HS4.out fun _ => ?_
        clear hKC
        simp only [Act.put]
        refine wpAnyH_done (by kernel_rfl) ?_ _
        go_wp2_with fail
        go_roundg (n - (i + 1))
        case measure => go_light; exact hme
        case rel => go_light; exact ⟨i + 1, HJ.out, rfl, by simp, HXN.out⟩
    · obtain rfl : i = n := by omega
      have z1 : ¬ (i : Int) < (i : Int) := by omega
      clear hi hlt
      go_wp2_with fail
      go_ret
      refine ⟨rb, rfl, ?_⟩
      obtain ⟨O, a, cc, h5, h1, hcb, hr, hl, hO, hs⟩ := HX.out
      obtain ⟨b, cap, F, hv, g1, g2, g3, g4⟩ := hl.at' (by have := HN.out; omega)
      have hv2 := hv
      injection hv with ha _ _
      subst ha
      refine ⟨⟨O, ⟨rb, b, cc, .slice none 0 0⟩, ⟨⟨v8, hr.1.congr fun z hz => ?_, hr.2⟩, hl, Qu.nil _ _ _, ?_, fun _ _ => ?_⟩, rfl, rfl, hO⟩, hs⟩
      · show rnCell _ node own (.slice (some ⟨b, 0, none⟩) i cc) z = rsCell (newR node own nodes i c m) ⟨rb, b, cc, .slice none 0 0⟩ _ z
        unfold rnCell rsCell
        rfl
      · have := HL.out
        have := HN.out
        show 1 ≤ i ∧ i ≤ 8 ∧ i ≤ cc ∧ own < i ∧ 1 ≤ m ∧ m ≤ 64 ∧ 1 ≤ c ∧ c ≤ 7 ∧ c ≤ nodes ∧ nodes ≤ 9
        have hcc : i ≤ cc := by
          injection hv2 with _ _ e2
          omega
        omega
      · have := HL.out
        show 0 < c
        omega
end Go.Proofs.YtdhhjdacidhmjaaGreat

/- Package settle: the program's Settle and the document's stand alike, as plain data. -/
namespace Go.Proofs.YtdhhjdacidhmjaaGreat
open Go.RowKit
set_option maxRecDepth 100000
set_option maxRecDepth 100000
def lOf (m t : Nat) : Nat := if t = 0 then 0 else (tmS m t).2.1 - t
structure JT (d : Sd) (r : Rd) (T : Nat) : Prop where
  node : d.node = r.node
  shard : d.shard = (r.own : Nat)
  hn : d.n = r.n
  hown : d.own = r.own
  hm : d.m = r.m
  hc : d.c = r.c
  hcp : d.cp = fun i j => ((copN i r.nodes j : Nat) : Int)
  m1 : 1 ≤ r.m
  pc : ∀ i, i < r.n → d.l i = lOf r.m (r.tk i) ∧ d.g i = (tmS r.m (r.tk i)).2.2 ∧ d.t i = r.tu i
  tk : ∀ i, r.tk i ≤ T
  th : ∀ i, i < r.n → r.th i = (wasM d i).isSome
  fi : ∀ i, i < r.n → ∀ u, wasM d i = some u → r.fi i = u.e
  qn : d.du = none → r.q = []
  qs : ∀ f, d.du = some f → f = shF d r.q
theorem JT.new (node : Int) (own nodes n c m : Nat) (hm : 1 ≤ m) : JT (newS node own nodes n c m) (newR node own nodes n c m) 0 :=
  ⟨rfl, rfl, rfl, rfl, rfl, rfl, rfl, hm, fun _ _ => ⟨rfl, rfl, rfl⟩, fun _ => Nat.le_refl _, fun _ _ => rfl, fun _ _ _ h => (by cases h), fun _ => rfl, fun _ h => (by cases h)⟩
theorem shF_isSome (d : Sd) (l : List Ent) (i : Nat) : (shF d l i).isSome = thR l d.own i := by
  unfold shF thR
  by_cases h : i = d.own
  · rw [if_pos h, ← h]; simp
  · rw [if_neg h]
    have := due_first l (i : Nat)
    rw [← this]
    cases dueM l (i : Nat) <;> simp [h]
theorem shF_fi (d : Sd) (l : List Ent) (i : Nat) (u : Du) (h : shF d l i = some u) : firstE l (i : Nat) = u.e ∧ u.e.p = (i : Nat) := by
  unfold shF at h
  by_cases e : i = d.own
  · rw [if_pos e] at h; cases h
  · rw [if_neg e] at h
    have h1 := due_first l (i : Nat)
    rw [h] at h1
    have h2 : firstM l (i : Nat) = some u.e := h1.symm
    refine ⟨by unfold firstE; rw [h2]; rfl, ?_⟩
    have := List.find?_some h2
    simpa using this
theorem JT.beg {d : Sd} {r : Rd} {T : Nat} (h : JT d r T) (l : List Ent) (i : Nat) (hi : i < r.n) : begM (shF d l i) (wasM d i) = begR r l i := by
  unfold begR
  rw [← h.hown, ← shF_isSome d l i, h.th i hi]
  cases hs : shF d l i with
  | none => rfl
  | some u =>
    cases hw : wasM d i with
    | none => rfl
    | some v =>
      show decide (v.e.nu ≠ u.e.nu) = (true && (!true || decide ((r.fi i).nu ≠ (firstE l (i : Nat)).nu)))
      rw [h.fi i hi v hw, (shF_fi d l i u hs).1]
      rfl
theorem JT.look {d : Sd} {r : Rd} {T : Nat} (h : JT d r T) (l : List Ent) : JT (lookM d l) (r.look l r.n) T := by
  have hl := lkN_st d l d.n
  have hdu : (lookM d l).du = some (shF d l) := by show (lkN d l d.n).du = _; rw [hl]
  have hown : (lookM d l).own = d.own := by show (lkN d l d.n).own = _; rw [hl]
  have hsh : shF (lookM d l) l = shF d l := by funext i; unfold shF; rw [hown]
  have hwas : ∀ i, wasM (lookM d l) i = shF d l i := fun i => by unfold wasM; rw [hdu]
  refine ⟨?_, ?_, ?_, ?_, ?_, ?_, ?_, h.m1, fun i hi => ?_, fun i => ?_, fun i hi => ?_, fun i hi u hu => ?_, fun hn => ?_, fun f hf => ?_⟩
  · show (lkN d l d.n).node = r.node; rw [hl]; exact h.node
  · show (lkN d l d.n).shard = _; rw [hl]; exact h.shard
  · show (lkN d l d.n).n = r.n; rw [hl]; exact h.hn
  · rw [hown]; exact h.hown
  · show (lkN d l d.n).m = r.m; rw [hl]; exact h.hm
  · show (lkN d l d.n).c = r.c; rw [hl]; exact h.hc
  · show (lkN d l d.n).cp = _; rw [hl]; exact h.hcp
  · obtain ⟨a1, a2, a3⟩ := h.pc i hi
    have hb := h.beg l i hi
    have hi' : i < r.n := hi
    show (lkN d l d.n).l i = lOf r.m (if i < r.n ∧ begR r l i = true then 0 else r.tk i) ∧ (lkN d l d.n).g i = (tmS r.m (if i < r.n ∧ begR r l i = true then 0 else r.tk i)).2.2 ∧ (lkN d l d.n).t i = r.tu i
    rw [hl]
    show (if i < d.n ∧ begM (shF d l i) (wasM d i) = true then 0 else d.l i) = _ ∧ (if i < d.n ∧ begM (shF d l i) (wasM d i) = true then 1 else d.g i) = _ ∧ d.t i = _
    rw [h.hn, hb]
    by_cases hx : begR r l i = true
    · rw [if_pos ⟨hi', hx⟩, if_pos ⟨hi', hx⟩, if_pos ⟨hi', hx⟩]
      exact ⟨rfl, rfl, a3⟩
    · rw [if_neg (fun h => hx h.2), if_neg (fun h => hx h.2), if_neg (fun h => hx h.2)]
      exact ⟨a1, a2, a3⟩
  · show (if i < r.n ∧ begR r l i = true then 0 else r.tk i) ≤ T
    split
    · exact Nat.zero_le _
    · exact h.tk i
  · rw [hwas, shF_isSome, h.hown]
    show (if i < r.n ∧ True then thR l r.own i else r.th i) = _
    rw [if_pos ⟨hi, trivial⟩]
  · rw [hwas] at hu
    show (if i < r.n ∧ True then firstE l (i : Nat) else r.fi i) = u.e
    rw [if_pos ⟨hi, trivial⟩]
    exact (shF_fi d l i u hu).1
  · rw [hdu] at hn; cases hn
  · rw [hdu] at hf
    show f = shF (lookM d l) l
    rw [hsh]
    exact (Option.some.inj hf).symm
theorem JT.stop {d : Sd} {r : Rd} {T : Nat} (h : JT d r T) : JT { d with du := none } (r.stop r.n) T :=
  ⟨h.node, h.shard, h.hn, h.hown, h.hm, h.hc, h.hcp, h.m1, h.pc, h.tk, fun i hi => by show (if i < r.n then false else r.th i) = _; rw [if_pos (show i < r.n from hi)]; rfl, fun _ _ _ hu => (by cases hu), fun _ => rfl, fun _ hf => (by cases hf)⟩
theorem JT.fires {d : Sd} {r : Rd} {T : Nat} (h : JT d r T) {f : Nat → Option Du} (hf : d.du = some f) (i : Nat) (hi : i < r.n) : firesB d f i = fireR r i := by
  have hw : wasM d i = f i := by unfold wasM; rw [hf]
  unfold firesB fireR
  rw [h.th i hi, hw, (h.pc i hi).1]
  congr 1
  exact (tick_math (t := r.tk i) h.m1).1
theorem filter_same {α : Type} (p q : α → Bool) (l : List α) (h : ∀ x ∈ l, p x = q x) : l.filter p = l.filter q := List.filter_congr h
theorem JT.tick {d : Sd} {r : Rd} {T : Nat} (h : JT d r T) {f : Nat → Option Du} (hf : d.du = some f) : (peersM d f d.n).map (sendM d f) = msR r r.n ∧ JT (tkD d f d.n) (r.tick r.n) (T + 1) := by
  have hw : ∀ i, wasM d i = f i := fun i => by unfold wasM; rw [hf]
  have hfs := h.qs f hf
  refine ⟨?_, ?_⟩
  · unfold msR peersM
    rw [h.hn, filter_same (firesB d f) (fireR r) (List.range r.n) (fun i hi => h.fires hf i (by simpa using hi))]
    refine List.map_congr_left fun i hi => ?_
    obtain ⟨hi1, hi2⟩ := List.mem_filter.1 hi
    have hin : i < r.n := by simpa using hi1
    have hth : r.th i = true := by unfold fireR at hi2; exact (Bool.and_eq_true_iff.1 hi2).1
    rw [h.th i hin, hw] at hth
    obtain ⟨u, hu⟩ := Option.isSome_iff_exists.1 hth
    have hfi := h.fi i hin u (by rw [hw]; exact hu)
    have hp : u.e.p = (i : Int) := (shF_fi d r.q i u (by rw [← hfs]; exact hu)).2
    unfold sendM sendR
    rw [hu, hfi, h.node, h.shard, h.hcp, (h.pc i hin).2.2, ← hp]
    rfl
  · refine ⟨h.node, h.shard, h.hn, h.hown, h.hm, h.hc, h.hcp, h.m1, fun i hi => ?_, fun i => ?_, fun i hi => ?_, fun i hi u hu => ?_, fun hn => ?_, fun g hg => ?_⟩
    · obtain ⟨a1, a2, a3⟩ := h.pc i hi
      have hfr := h.fires hf i hi
      obtain ⟨_, e2, e3⟩ := tick_math (t := r.tk i) h.m1
      have ht := h.th i hi
      rw [hw] at ht
      show (if i < d.n ∧ (f i).isSome = true then tkL (d.l i) (d.g i) else d.l i) = lOf r.m (if i < r.n ∧ r.th i = true then r.tk i + 1 else r.tk i) ∧ (if i < d.n ∧ (f i).isSome = true then tkG (d.l i) (d.g i) d.m else d.g i) = (tmS r.m (if i < r.n ∧ r.th i = true then r.tk i + 1 else r.tk i)).2.2 ∧ (if i < d.n ∧ firesB d f i = true then (d.t i + 1) % d.c else d.t i) = if i < r.n ∧ fireR r i = true then (r.tu i + 1) % r.c else r.tu i
      rw [h.hn, ← ht, hfr, a3, h.hc]
      refine ⟨?_, ?_, rfl⟩
      · by_cases hx : r.th i = true
        · rw [if_pos ⟨hi, hx⟩, if_pos ⟨hi, hx⟩, a1, a2]
          exact e2
        · rw [if_neg (fun h => hx h.2), if_neg (fun h => hx h.2)]
          exact a1
      · by_cases hx : r.th i = true
        · rw [if_pos ⟨hi, hx⟩, if_pos ⟨hi, hx⟩, a1, a2, h.hm]
          exact e3
        · rw [if_neg (fun h => hx h.2), if_neg (fun h => hx h.2)]
          exact a2
    · have := h.tk i
      show (if i < r.n ∧ r.th i = true then r.tk i + 1 else r.tk i) ≤ T + 1
      split <;> omega
    · exact h.th i hi
    · exact h.fi i hi u hu
    · exact h.qn hn
    · exact h.qs g hg
theorem JT.idle {d : Sd} {r : Rd} {T : Nat} (h : JT d r T) (hf : d.du = none) : msR r r.n = [] ∧ JT d (r.tick r.n) (T + 1) := by
  have hw : ∀ i, i < r.n → r.th i = false := fun i hi => by rw [h.th i hi]; unfold wasM; rw [hf]; rfl
  refine ⟨?_, ⟨h.node, h.shard, h.hn, h.hown, h.hm, h.hc, h.hcp, h.m1, fun i hi => ?_, fun i => ?_, h.th, h.fi, h.qn, h.qs⟩⟩
  · unfold msR
    rw [List.filter_eq_nil_iff.2 (fun i hi => by
      unfold fireR
      rw [hw i (by simpa using hi)]
      simp)]
    rfl
  · show d.l i = lOf r.m (if i < r.n ∧ r.th i = true then r.tk i + 1 else r.tk i) ∧ d.g i = (tmS r.m (if i < r.n ∧ r.th i = true then r.tk i + 1 else r.tk i)).2.2 ∧ d.t i = if i < r.n ∧ fireR r i = true then (r.tu i + 1) % r.c else r.tu i
    have h1 : ¬ (i < r.n ∧ r.th i = true) := fun h => by rw [hw i hi] at h; exact absurd h.2 (by simp)
    have h2 : ¬ (i < r.n ∧ fireR r i = true) := fun h => by have h3 := h.2; unfold fireR at h3; rw [hw i hi] at h3; simp at h3
    rw [if_neg h1, if_neg h2]
    exact h.pc i hi
  · have := h.tk i
    show (if i < r.n ∧ r.th i = true then r.tk i + 1 else r.tk i) ≤ T + 1
    split <;> omega
theorem due_le (l : List Ent) (q : Int) (k : Nat) (o : Option Du) : (match l.foldl (stD q) o with | none => false | some u => decide (u.le ≤ k)) = ((match o with | none => false | some u => decide (u.le ≤ k)) || l.any (fun e => e.p == q && decide (e.nu ≤ k))) := by
  induction l generalizing o with
  | nil => simp
  | cons a l ih =>
    rw [List.foldl_cons, ih, List.any_cons]
    unfold stD
    by_cases h : a.p = q
    · rw [if_pos h]
      cases o with
      | none =>
        have hb : (a.p == q) = true := by simp [h]
        rw [hb]
        rfl
      | some u =>
        have hb : (a.p == q) = true := by simp [h]
        show (decide (min u.le a.nu ≤ k) || _) = (decide (u.le ≤ k) || ((a.p == q && decide (a.nu ≤ k)) || _))
        have : decide (min u.le a.nu ≤ k) = (decide (u.le ≤ k) || decide (a.nu ≤ k)) := by
          by_cases h1 : u.le ≤ k
          · rw [decide_eq_true h1, decide_eq_true (by omega)]; rfl
          · by_cases h2 : a.nu ≤ k
            · rw [decide_eq_true h2, decide_eq_true (by omega)]; simp
            · rw [decide_eq_false h1, decide_eq_false h2, decide_eq_false (by omega)]; rfl
        rw [this, hb, Bool.true_and, Bool.or_assoc]
    · have hb : (a.p == q) = false := by simp [h]
      rw [if_neg h, hb, Bool.false_and, Bool.false_or]
theorem JT.wants {d : Sd} {r : Rd} {T : Nat} (h : JT d r T) (peer : Int) (num : Nat) : wantsM d peer num = wantsR r peer num := by
  unfold wantsM wantsR
  cases hdu : d.du with
  | none =>
    rw [h.qn hdu]
    show false = _
    split <;> rfl
  | some f =>
    have hfs := h.qs f hdu
    show (if 0 ≤ peer ∧ peer < (d.n : Int) then _ else false) = _
    rw [h.hn]
    by_cases h1 : 0 ≤ peer ∧ peer < (r.n : Int)
    · rw [if_pos h1]
      obtain ⟨i, rfl⟩ : ∃ i : Nat, peer = (i : Int) := ⟨peer.toNat, by omega⟩
      rw [Int.toNat_natCast, hfs]
      unfold shF
      rw [h.hown]
      by_cases h2 : i = r.own
      · rw [if_pos h2, if_pos (.inl (by omega))]
      · rw [if_neg h2, if_neg (by omega)]
        have := due_le r.q (i : Int) num none
        rw [Bool.false_or] at this
        exact this
    · rw [if_neg h1, if_pos (by omega)]
end Go.Proofs.YtdhhjdacidhmjaaGreat
